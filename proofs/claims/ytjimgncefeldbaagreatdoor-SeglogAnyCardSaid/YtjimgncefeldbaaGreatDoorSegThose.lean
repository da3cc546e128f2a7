/-
  seglog: those.
-/
import Derived.Test.YtjimgncefeldbaaGreatDoorSegMem
import Derived.Test.YtjimgncefeldbaaGreatDoorGSerA
namespace Go.Proofs.YtjimgncefeldbaaGreatDoor
open Go.RowKit Go.Sort

set_option maxHeartbeats 2000000 in
set_option maxRecDepth 100000 in
theorem those_any (g : FuncId) (L : Nat) (a : Option Addr) (cap : Nat) (names : List ByteArray) (p : ByteArray → Bool) (w : World) (hent : ∀ args w, (callFunc g args).run Tryz.prog w = .ok (.enter g args) w)
    (hrow : StrRow w a names) (hlen : names.length ≤ 100000)
    (ask : ∀ k, k < names.length → ∀ wr, Below w.heap.size w wr → Calls Tryz.prog g #[.pointer (some ⟨L, 0, none⟩), .string (names.getD k ByteArray.empty)] wr fun e w' => e = .returned (.bool (p (names.getD k ByteArray.empty))) ∧ Below wr.heap.size wr w') :
    Calls Tryz.prog 79 #[.slice a names.length cap, .func (.func g) #[.pointer (some ⟨L, 0, none⟩)] #[]] w fun e w' => ∃ v, e = .returned v ∧ OwnS w.heap.size v (names.filter p) w' ∧ Below w.heap.size w w' := by
  obtain ⟨i0, hi, hz0, hz1, hz2⟩ := info_parts strInfo8
  have HASK := Lib.hid ask
  have HROW := Lib.hid hrow
  clear ask hrow
  go_enter Tryz.func79, Tryz.ntmps79
  go_wp2_with fail
  go_loopw [5, 10] (fun u i wr => ∃ k : Nat, k ≤ names.length ∧ i = .int .i64 k ∧ OwnS w.heap.size u ((names.take k).filter p) wr ∧ Below w.heap.size w wr) (fun _ i _ => names.length - (intOf i).toNat)
  case atStart => exact ⟨0, Nat.zero_le _, rfl, ownS_nil _ _, Below.refl _ _⟩
  case round =>
    rename_i u i wr
    obtain ⟨k, hk, rfl, hown, hb⟩ := hrel
    have hbs := hb.size
    by_cases hlt : k < names.length
    · obtain ⟨b, off, rfl, hlt', hc⟩ : ∃ b off, a = some ⟨b, off, none⟩ ∧ b < wr.heap.size ∧ ∀ j, j < names.length → wr.cell? ⟨b, off + j, none⟩ = some (.string (names.getD j ByteArray.empty)) := by
        rcases HROW.out.below hb with h | h
        · rw [h] at hlt; simp at hlt
        · exact h
      have hck := hc k hlt
      have hcall := HASK.out k hlt
      have HN := Lib.hid (filter_take_succ (p := p) names k hlt)
      have hnl : ((names.take k).filter p).length ≤ 100000 := Nat.le_trans (List.length_filter_le _ _) (by rw [List.length_take]; omega)
      generalize (names.take k).filter p = ns at *
      clear hc
      generalize names.getD k ByteArray.empty = x at *
      have HB := Lib.hid hb
      have HC := Lib.hid (hcall _ hb)
      clear hcall hb
      cases hpx : p x
      · rw [hpx] at HN HC
        go_wp2_with fail
        refine HC.out.mono ?_
        rintro e w1 ⟨rfl, hb1⟩
        have HO := Lib.hid (hown.below hb1 (Nat.le_refl _))
        have HB1 := Lib.hid (HB.out.trans (hb1.mono hbs))
        clear hb1 hown hck hpx
        go_wp2_with fail
        go_roundw
        case rel => exact ⟨k + 1, by omega, by go_num, by have := HN.out; simp only [Bool.false_eq_true, if_false, List.append_nil] at this; rw [this]; exact HO.out, HB1.out⟩
        case measure => simp [intOf]; omega
      · rw [hpx] at HN HC
        go_wp2_with fail
        refine HC.out.mono ?_
        rintro e w1 ⟨rfl, hb1⟩
        have hown1 := hown.below hb1 (Nat.le_refl _)
        have hbs1 := hb1.size
        have HB1 := Lib.hid (HB.out.trans (hb1.mono hbs))
        clear hb1 hown hck hpx
        go_wp2_with (at_builtin; refine wpList_append_own _ rfl _ _ 40 rfl w.heap.size 9 i0 (.string ByteArray.empty) 1 16 Tryz.underlying40 hi hz0 hz1 hz2 rfl (by decide) _ _ _ rfl (World.ownsRow.alloc hown1 _) ⟨w1.heap.size, 0, none⟩ 1 1 [Value.string x] rfl rfl ?c1 ?c2 ?c3 ?c4 ?c5 ?_)
        case c1 =>
          intro j u hj
          match j, hj with
          | 0, hj => simp at hj; subst hj; simp [Addr.add]
        case c2 => intro u hu; simp at hu; subst hu; rfl
        case c3 => unfold maxLen; omega
        case c4 => omega
        case c5 => simp; omega
        intro v' w3 hown3 hg3 _
        have hrow' : OwnS w.heap.size v' ((names.take (k + 1)).filter p) w3 := by
          have := HN.out
          simp only [if_true] at this
          rw [this]; unfold OwnS; rw [List.length_append, List.map_append]; exact hown3
        have hB3 : Below w.heap.size w w3 := (HB1.out.alloc (by omega) _).grown hg3 (by simp; omega) (fun j hj => (World.ownsRow.lt hown1 j hj).1)
        have H3 := Lib.hid hrow'
        have H4 := Lib.hid hB3
        clear hown3 hown1 hrow' hB3 hg3
        go_wp2
        go_roundw
        case rel => exact ⟨k + 1, by omega, by go_num, H3.out, H4.out⟩
        case measure => simp [intOf]; omega
    · obtain rfl : k = names.length := by omega
      rw [List.take_length] at hown
      have HB := Lib.hid hb
      have HO := Lib.hid hown
      clear hb hown
      go_wp2_with fail
      go_ret
      exact ⟨_, rfl, HO.out, HB.out⟩
end Go.Proofs.YtjimgncefeldbaaGreatDoor
