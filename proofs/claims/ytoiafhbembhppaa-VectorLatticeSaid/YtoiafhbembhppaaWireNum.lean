/-
  wire.appendNum and wire.Num: what each call answers, and what becomes of memory.
-/
import Derived.Test.YtoiafhbembhppaaBase
import Derived.WalkKit
import Derived.WalkSpells
import Derived.WalkLawsBesides
import Derived.ScopeJumps
import Derived.Lib.Varint
import Derived.Lib.VarintMem
import Derived.Lib.Hide
namespace Go.Proofs.Ytoiafhbembhppaa
open Go.RowKit

theorem own_more {w : World} {B n a : Nat} {v : Value} {xs : List Value} {pre : List UInt8} {i : Int} (ha : a < 256) (hi : i = (a : Int))
    (h : w.ownsRow B 5 1 v (n + pre.length + 1) (xs ++ (Lib.byteCells pre ++ [Value.int .u8 i]))) : w.ownsRow B 5 1 v (n + (pre ++ [a.toUInt8]).length) (xs ++ Lib.byteCells (pre ++ [a.toUInt8])) := by
  rw [Lib.byteCells_snoc pre ha, List.length_append, List.length_singleton, ← Nat.add_assoc, ← hi]
  exact h

set_option maxHeartbeats 1000000 in
set_option maxRecDepth 100000 in
theorem appendNum_any (B n x : Nat) (hx : x < 9223372036854775808) (sv : Value) (xs : List Value) (w : World) (hown : w.ownsRow B 5 1 sv n xs) (hBw : B ≤ w.heap.size) (hlim : n + 10 ≤ 140737488355328) :
    Calls Try.prog 50 #[sv, .int .i64 x] w fun e w' => ∃ v', e = .returned v' ∧ w'.ownsRow B 5 1 v' (n + (Lib.uvarint x).length) (xs ++ Lib.byteCells (Lib.uvarint x)) ∧ Below B w w' := by
  obtain ⟨i0, hi, hz0, hz1, hz2⟩ := info_parts bytesInfo
  have hlen := Lib.uvarint_length64 (x := x) (by omega)
  go_enter Try.func50, Try.ntmps50
  go_wp2
  refine wp_scope_jumps 0 (fun a' w' => ∃ (v : Value) (y : Nat) (pre : List UInt8) (u5 u6 u7 u8 u9 u10 u11 u12 u13 u14 u15 u16 u17 u18 u19 u20 : Value), a' = { tmps := #[v, .int .i64 y, undef, undef, .slice none 0 0, u5, u6, u7, u8, u9, u10, u11, u12, u13, u14, u15, u16, u17, u18, u19, u20], defers := [] } ∧ y ≤ x ∧ Lib.uvarint x = pre ++ Lib.uvarint y ∧ w'.ownsRow B 5 1 v (n + pre.length) (xs ++ Lib.byteCells pre) ∧ Below B w w') (fun a' _ => (intOf (a'.tmps.getD 1 undef)).toNat) rfl ?_ ?_
  · have hown1 : w.ownsRow B 5 1 sv (n + ([] : List UInt8).length) (xs ++ Lib.byteCells []) := by simpa [Lib.byteCells] using hown
    have hnx : Below B w w := Below.refl _ _
    obtain ⟨pre, hpre⟩ : ∃ pre : List UInt8, pre = [] := ⟨_, rfl⟩
    rw [← hpre] at hown1
    have hsplit : Lib.uvarint x = pre ++ Lib.uvarint x := by rw [hpre]; rfl
    clear hpre hown
    have hsum : pre.length + (Lib.uvarint x).length ≤ 10 := by have h2 := congrArg List.length hsplit; rw [List.length_append] at h2; omega
    have hpos := Lib.uvarint_pos x
    have HS := Lib.hid hsplit
    clear hsplit
    by_cases h128 : 128 ≤ x
    · go_wp2
      go_step3
      go_wp2_with (at_builtin; refine wpList_append_own _ rfl _ _ 66 rfl B 5 i0 (.int .u8 0) 1 1 Try.underlying66 hi hz0 hz1 hz2 rfl (by decide) _ _ _ rfl (hown1.alloc _) ⟨w.heap.size, 0, none⟩ 1 1 [Value.int .u8 ((x : Int) % 128 + 128)] rfl rfl ?c1 ?c2 ?c3 ?c4 ?c5 ?_)
      case c1 =>
        intro j u hj
        match j, hj with
        | 0, hj => simp at hj; subst hj; simp [Addr.add]
      case c2 => intro u hu; simp at hu; subst hu; rfl
      case c3 => unfold maxLen; omega
      case c4 => omega
      case c5 => have := hnx.size; simp; omega
      intro v' w1 hown' hgrow _
      have hnx1 : Below B w w1 := (hnx.alloc (by have := hnx.size; omega) _).grown hgrow (by have := hnx.size; simp; omega) (fun k hk => (hown1.lt k hk).1)
      go_wp2
      go_step3
      refine ⟨rfl, v', x / 128, pre ++ [(x % 128 + 128).toUInt8], _, _, _, _, _, _, _, _, _, _, _, _, _, _, _, _, rfl, by omega, by rw [HS.out, Lib.uvarint_big h128]; simp, own_more (a := x % 128 + 128) (by omega) (by omega) hown', hnx1⟩

    · go_wp2
      go_step3
      go_wp2_with (at_builtin; refine wpList_append_own _ rfl _ _ 66 rfl B 5 i0 (.int .u8 0) 1 1 Try.underlying66 hi hz0 hz1 hz2 rfl (by decide) _ _ _ rfl (hown1.alloc _) ⟨w.heap.size, 0, none⟩ 1 1 [Value.int .u8 ((x : Int))] rfl rfl ?c1 ?c2 ?c3 ?c4 ?c5 ?_)
      case c1 =>
        intro j u hj
        match j, hj with
        | 0, hj => simp at hj; subst hj; simp [Addr.add]
      case c2 => intro u hu; simp at hu; subst hu; rfl
      case c3 => unfold maxLen; omega
      case c4 => omega
      case c5 => have := hnx.size; simp; omega
      intro v' w1 hown' hgrow _
      have hnx1 : Below B w w1 := (hnx.alloc (by have := hnx.size; omega) _).grown hgrow (by have := hnx.size; simp; omega) (fun k hk => (hown1.lt k hk).1)
      go_wp2
      simp only [Exit.jump]
      go_ret
      refine ⟨v', rfl, ?_, hnx1⟩
      rw [HS.out, Lib.uvarint_small (x := x) (by omega)]
      exact own_more (by omega) rfl hown'
  · rintro a' wr ⟨v, y, pre, u5, u6, u7, u8, u9, u10, u11, u12, u13, u14, u15, u16, u17, u18, u19, u20, rfl, hy, hsplit, hown1, hnx⟩
    have hsum : pre.length + (Lib.uvarint y).length ≤ 10 := by have h2 := congrArg List.length hsplit; rw [List.length_append] at h2; omega
    have hpos := Lib.uvarint_pos y
    have HS := Lib.hid hsplit
    clear hsplit
    by_cases h128 : 128 ≤ y
    · skip
      go_wp2_with (at_builtin; refine wpList_append_own _ rfl _ _ 66 rfl B 5 i0 (.int .u8 0) 1 1 Try.underlying66 hi hz0 hz1 hz2 rfl (by decide) _ _ _ rfl (hown1.alloc _) ⟨wr.heap.size, 0, none⟩ 1 1 [Value.int .u8 ((y : Int) % 128 + 128)] rfl rfl ?c1 ?c2 ?c3 ?c4 ?c5 ?_)
      case c1 =>
        intro j u hj
        match j, hj with
        | 0, hj => simp at hj; subst hj; simp [Addr.add]
      case c2 => intro u hu; simp at hu; subst hu; rfl
      case c3 => unfold maxLen; omega
      case c4 => omega
      case c5 => have := hnx.size; simp; omega
      intro v' w1 hown' hgrow _
      have hnx1 : Below B w w1 := (hnx.alloc (by have := hnx.size; omega) _).grown hgrow (by have := hnx.size; simp; omega) (fun k hk => (hown1.lt k hk).1)
      go_wp2
      go_step3
      refine ⟨rfl, ⟨v', y / 128, pre ++ [(y % 128 + 128).toUInt8], _, _, _, _, _, _, _, _, _, _, _, _, _, _, _, _, rfl, by omega, by rw [HS.out, Lib.uvarint_big h128]; simp, own_more (a := y % 128 + 128) (by omega) (by omega) hown', hnx1⟩, ?_⟩
      simp [intOf]; omega
    · skip
      go_wp2_with (at_builtin; refine wpList_append_own _ rfl _ _ 66 rfl B 5 i0 (.int .u8 0) 1 1 Try.underlying66 hi hz0 hz1 hz2 rfl (by decide) _ _ _ rfl (hown1.alloc _) ⟨wr.heap.size, 0, none⟩ 1 1 [Value.int .u8 ((y : Int))] rfl rfl ?c1 ?c2 ?c3 ?c4 ?c5 ?_)
      case c1 =>
        intro j u hj
        match j, hj with
        | 0, hj => simp at hj; subst hj; simp [Addr.add]
      case c2 => intro u hu; simp at hu; subst hu; rfl
      case c3 => unfold maxLen; omega
      case c4 => omega
      case c5 => have := hnx.size; simp; omega
      intro v' w1 hown' hgrow _
      have hnx1 : Below B w w1 := (hnx.alloc (by have := hnx.size; omega) _).grown hgrow (by have := hnx.size; simp; omega) (fun k hk => (hown1.lt k hk).1)
      go_wp2
      simp only [Exit.jump]
      go_ret
      refine ⟨v', rfl, ?_, hnx1⟩
      rw [HS.out, Lib.uvarint_small (x := y) (by omega)]
      exact own_more (by omega) rfl hown'
end Go.Proofs.Ytoiafhbembhppaa
