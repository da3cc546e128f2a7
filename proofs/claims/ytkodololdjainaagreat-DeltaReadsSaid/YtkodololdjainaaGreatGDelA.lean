/-
  Plain facts on digits of seven bits; nothing of the program. And a law for a label at the head of what is jumped over.
  Plain facts on a number's bytes: as many as needed, and none begins as another one is. Nothing of the program.
  wire.appendNum and wire.Num: what each call answers, and what becomes of memory.
  Small laws that wire's walks share: a row of bytes that the call owns, turned into a text.
  wire.appendText, wire.Text, wire.List: what each call answers, and what becomes of memory.
  Plain facts: what is put comes back, and what is read is what would be put. Nothing of the program.
  almonryref01's Num, Text and List: what each call answers.
-/
import Derived.WalkKit
import Derived.ScopeJumps
import Derived.Lib.Varint
import Derived.Lib.VarintMem
import Derived.Lib.QuoteBits
import Derived.Test.YtkodololdjainaaGreatBase
import Derived.WalkSpells
import Derived.WalkLawsBesides
import Derived.Lib.Hide
import Derived.Lib.SlBytesRow
import Derived.Lib.BufferRead
import Derived.Lib.AppendStr
namespace Go.Proofs.YtkodololdjainaaGreat
open Go.RowKit

theorem wp_scope_head {P : Program} {a : Act} {w : World} {Q : Exit → Act → World → Prop} {c X : Code} (l : Nat) (J : Act → World → Prop) (μ : Act → World → Nat) (hf : findLabel c l = some (.seq .skip X))
    (a₁ : Act) (w₁ : World) (hJ : J a₁ w₁) (first : ∀ Q', X.wp P Q' a₁ w₁ → c.wp P Q' a w)
    (pass : ∀ a w, J a w → X.wp P (Exit.jump l (fun a' w' => J a' w' ∧ μ a' w' < μ a w) Q) a w) : (Code.scope c).wp P Q a w := by
  refine wp_scope_jumps l J μ hf (first _ (Code.wp_mono ?_ (pass a₁ w₁ hJ))) (fun a w h => wp_seq (wp_skip (pass a w h)))
  intro e a' w' h
  cases e <;> first | exact h | exact ⟨h.1, h.2.1⟩

def lev : List UInt8 → Nat
  | [] => 0
  | d :: r => d.toNat % 128 + 128 * lev r

theorem lev_snoc (l : List UInt8) (d : UInt8) : lev (l ++ [d]) = lev l + d.toNat % 128 * 128 ^ l.length := by
  induction l with
  | nil => simp [lev]
  | cons x r ih =>
    simp only [List.cons_append, lev, ih, List.length_cons, Nat.pow_succ]
    rw [Nat.mul_add, ← Nat.add_assoc]
    congr 1
    rw [Nat.mul_comm (128 ^ r.length) 128, Nat.mul_left_comm]

theorem lev_lt (l : List UInt8) : lev l < 128 ^ l.length := by
  induction l with
  | nil => simp [lev]
  | cons x r ih =>
    simp only [lev, List.length_cons, Nat.pow_succ]
    have : x.toNat % 128 < 128 := Nat.mod_lt _ (by omega)
    omega

def run : List UInt8 → Nat
  | [] => 0
  | d :: r => if 128 ≤ d.toNat then run r + 1 else 0

theorem run_le (l : List UInt8) : run l ≤ l.length := by
  induction l with
  | nil => simp [run]
  | cons d r ih => simp only [run]; split <;> simp <;> omega

theorem run_at (l : List UInt8) : ∀ k, k < run l → ∃ h : k < l.length, 128 ≤ l[k].toNat := by
  induction l with
  | nil => intro k hk; simp [run] at hk
  | cons d r ih =>
    intro k hk
    by_cases hd : 128 ≤ d.toNat
    · rw [run, if_pos hd] at hk
      cases k with
      | zero => exact ⟨by simp, hd⟩
      | succ k => obtain ⟨h1, h2⟩ := ih k (by omega); exact ⟨by simp; omega, h2⟩
    · rw [run, if_neg hd] at hk; omega

theorem run_end (l : List UInt8) (h : run l < l.length) : l[run l].toNat < 128 := by
  induction l with
  | nil => simp at h
  | cons d r ih =>
    by_cases hd : 128 ≤ d.toNat
    · have e : run (d :: r) = run r + 1 := by rw [run, if_pos hd]
      simp only [e, List.length_cons] at h ⊢
      simpa using ih (by omega)
    · have e : run (d :: r) = 0 := by rw [run, if_neg hd]
      simp only [e]
      simpa using hd

theorem run_of (l : List UInt8) (k : Nat) (hk : k < l.length) (h1 : ∀ j (h : j < l.length), j < k → 128 ≤ l[j].toNat) (h2 : l[k].toNat < 128) : run l = k := by
  rcases Nat.lt_trichotomy (run l) k with h | h | h
  · have h3 := run_end l (by omega)
    have h4 := h1 (run l) (by omega) h
    omega
  · exact h
  · obtain ⟨_, h4⟩ := run_at l k h
    omega

theorem run_all (l : List UInt8) (h1 : ∀ j (h : j < l.length), 128 ≤ l[j].toNat) : run l = l.length := by
  rcases Nat.lt_or_ge (run l) l.length with h | h
  · have h3 := run_end l h
    have h4 := h1 (run l) h
    omega
  · have := run_le l; omega

/-- what stands at the beginning, as a number: the number, its bytes' count, the error -/
def numR (l : List UInt8) : Nat × Nat × Int :=
  if run l = l.length then (0, 0, 4)
  else if 8 < run l + 1 ∨ 9007199254740992 < lev (l.take (run l + 1)) then (0, 0, 2)
  else if l.getD (run l) 0 = 0 ∧ 0 < run l then (0, 0, 5)
  else (lev (l.take (run l + 1)), run l + 1, 0)

theorem numR_ok {l : List UInt8} (h : (numR l).2.2 = 0) : (numR l).2.1 ≤ l.length ∧ 1 ≤ (numR l).2.1 ∧ (numR l).1 ≤ 9007199254740992 := by
  have h0 := run_le l
  unfold numR at h ⊢
  split at h
  · simp at h
  · split at h
    · simp at h
    · split at h
      · simp at h
      · rename_i a b c
        rw [if_neg a, if_neg b, if_neg c]
        simp only
        omega

theorem numR_err {l : List UInt8} (h : (numR l).2.2 ≠ 0) : (numR l).1 = 0 ∧ (numR l).2.1 = 0 := by
  unfold numR at h ⊢
  split
  · simp
  · split
    · simp
    · split
      · simp
      · rename_i a b c
        rw [if_neg a, if_neg b, if_neg c] at h
        simp at h

theorem pow128 (k : Nat) : 2 ^ (7 * k) = 128 ^ k := by rw [Nat.pow_mul]

/-- one digit more -/
theorem or_step (n k d : Nat) (hk : k < 8) (hn : n < 128 ^ k) (hd : d < 128) : bits .or .i64 (n : Int) (wrap64 ((d : Int) * 2 ^ (7 * k))) = ((n + d * 128 ^ k : Nat) : Int) := by
  have h8 : 128 ^ k * 128 ≤ 72057594037927936 := by
    rw [← Nat.pow_succ]
    exact Nat.le_trans (Nat.pow_le_pow_right (by omega) (show k + 1 ≤ 8 by omega)) (by decide)
  have hm : d * 128 ^ k ≤ 127 * 128 ^ k := Nat.mul_le_mul_right _ (by omega)
  have e1 : (d : Int) * 2 ^ (7 * k) = ((d * 128 ^ k : Nat) : Int) := by
    rw [← pow128]; simp
  rw [e1]
  have e2 : wrap64 ((d * 128 ^ k : Nat) : Int) = ((d * 128 ^ k : Nat) : Int) := by unfold wrap64; omega
  rw [e2]
  have e3 : n ||| d * 128 ^ k = n + d * 128 ^ k := by
    rw [Nat.or_comm, ← pow128, ← Nat.shiftLeft_eq, ← Nat.shiftLeft_add_eq_or_of_lt (by rw [pow128]; exact hn), Nat.add_comm]
  show IntKind.i64.wrap ((BitVec.ofInt 64 (n : Int) ||| BitVec.ofInt 64 ((d * 128 ^ k : Nat) : Int)).toNat : Int) = _
  rw [BitVec.toNat_or, ofInt_u64 n (by omega), ofInt_u64 (d * 128 ^ k) (by omega), e3]
  exact Lib.wrap_i64_small _ (by omega)

/-! A reader's state: what is left, and the first error. -/

def sNum (st : ByteArray × Int) : Nat × (ByteArray × Int) :=
  if st.2 ≠ 0 then (0, st)
  else if (numR st.1.data.toList).2.2 = 0 then ((numR st.1.data.toList).1, (st.1.extract (numR st.1.data.toList).2.1 st.1.size, 0))
  else (0, (st.1, (numR st.1.data.toList).2.2))

def sCount (limit : Nat) (st : ByteArray × Int) : Nat × Bool × (ByteArray × Int) :=
  if (sNum st).2.2 ≠ 0 then (0, false, (sNum st).2)
  else if limit < (sNum st).1 then (0, false, ((sNum st).2.1, 3))
  else ((sNum st).1, true, (sNum st).2)

def sText (st : ByteArray × Int) : ByteArray × (ByteArray × Int) :=
  if (sCount 65536 st).2.1 = false then (ByteArray.empty, (sCount 65536 st).2.2)
  else if (sCount 65536 st).2.2.1.size < (sCount 65536 st).1 then (ByteArray.empty, ((sCount 65536 st).2.2.1, 4))
  else ((sCount 65536 st).2.2.1.extract 0 (sCount 65536 st).1, ((sCount 65536 st).2.2.1.extract (sCount 65536 st).1 (sCount 65536 st).2.2.1.size, 0))

def sTexts : Nat → (ByteArray × Int) → List ByteArray → List ByteArray × (ByteArray × Int)
  | 0, st, acc => (acc, st)
  | k + 1, st, acc => if (sText st).2.2 ≠ 0 then ([], (sText st).2) else sTexts k (sText st).2 (acc ++ [(sText st).1])

def sList (st : ByteArray × Int) : List ByteArray × (ByteArray × Int) :=
  if (sCount 4096 st).2.1 = false then ([], (sCount 4096 st).2.2)
  else sTexts (sCount 4096 st).1 (sCount 4096 st).2.2 []

theorem extract_size_le (s : ByteArray) (a b : Nat) : (s.extract a b).size ≤ s.size := by
  rw [ByteArray.size_extract]; omega

theorem sNum_size (st : ByteArray × Int) : (sNum st).2.1.size ≤ st.1.size := by
  unfold sNum
  split
  · exact Nat.le_refl _
  · split
    · exact extract_size_le _ _ _
    · exact Nat.le_refl _
theorem sCount_size (n : Nat) (st : ByteArray × Int) : (sCount n st).2.2.1.size ≤ st.1.size := by
  have h := sNum_size st
  unfold sCount
  split
  · exact h
  · split <;> exact h
theorem sText_size (st : ByteArray × Int) : (sText st).2.1.size ≤ st.1.size := by
  have h := sCount_size 65536 st
  unfold sText
  split
  · exact h
  · split
    · exact h
    · exact Nat.le_trans (extract_size_le _ _ _) h
theorem sTexts_size (k : Nat) : ∀ (st : ByteArray × Int) (acc : List ByteArray), (sTexts k st acc).2.1.size ≤ st.1.size := by
  induction k with
  | zero => intro st acc; exact Nat.le_refl _
  | succ k ih =>
    intro st acc
    have h := sText_size st
    unfold sTexts
    split
    · exact h
    · exact Nat.le_trans (ih _ _) h
theorem sList_size (st : ByteArray × Int) : (sList st).2.1.size ≤ st.1.size := by
  have h := sCount_size 4096 st
  unfold sList
  split
  · exact h
  · exact Nat.le_trans (sTexts_size _ _ _) h
end Go.Proofs.YtkodololdjainaaGreat

namespace Go.Proofs.YtkodololdjainaaGreat

theorem uv_mono : ∀ b a, a ≤ b → (Lib.uvarint a).length ≤ (Lib.uvarint b).length := by
  intro b
  induction b using Nat.strongRecOn with
  | _ b ih =>
    intro a hab
    by_cases ha : a < 128
    · rw [Lib.uvarint_small ha]; exact Lib.uvarint_pos b
    · rw [Lib.uvarint_big (x := a) (by omega), Lib.uvarint_big (x := b) (by omega)]
      simp only [List.length_cons]
      have := ih (b / 128) (by omega) (a / 128) (Nat.div_le_div_right hab)
      omega

theorem u8_inj {a b : Nat} (ha : a < 256) (hb : b < 256) (h : a.toUInt8 = b.toUInt8) : a = b := by
  have := congrArg UInt8.toNat h
  rw [Lib.toUInt8_toNat ha, Lib.toUInt8_toNat hb] at this
  exact this

theorem uv_inj : ∀ a b (r q : List UInt8), Lib.uvarint a ++ r = Lib.uvarint b ++ q → a = b ∧ r = q := by
  intro a
  induction a using Nat.strongRecOn with
  | _ a ih =>
    intro b r q h
    by_cases ha : a < 128
    · by_cases hb : b < 128
      · rw [Lib.uvarint_small ha, Lib.uvarint_small hb] at h
        simp only [List.singleton_append, List.cons.injEq] at h
        exact ⟨u8_inj (by omega) (by omega) h.1, h.2⟩
      · rw [Lib.uvarint_small ha, Lib.uvarint_big (x := b) (by omega)] at h
        simp only [List.cons_append, List.cons.injEq] at h
        have := u8_inj (by omega) (by omega) h.1
        omega
    · by_cases hb : b < 128
      · rw [Lib.uvarint_small hb, Lib.uvarint_big (x := a) (by omega)] at h
        simp only [List.cons_append, List.cons.injEq] at h
        have := u8_inj (by omega) (by omega) h.1
        omega
      · rw [Lib.uvarint_big (x := a) (by omega), Lib.uvarint_big (x := b) (by omega)] at h
        simp only [List.cons_append, List.cons.injEq] at h
        have h1 := u8_inj (by omega) (by omega) h.1
        have h2 := ih (a / 128) (by omega) (b / 128) r q h.2
        exact ⟨by have := h2.1; omega, h2.2⟩

theorem uv_eq {a b : Nat} (h : Lib.uvarint a = Lib.uvarint b) : a = b := (uv_inj a b [] [] (by rw [h])).1

/-- no number's bytes begin as another one's -/
theorem uv_prefix {a b : Nat} (h : (Lib.uvarint b).take (Lib.uvarint a).length = Lib.uvarint a) : a = b := by
  have := List.take_append_drop (Lib.uvarint a).length (Lib.uvarint b)
  rw [h] at this
  exact (uv_inj a b _ [] (by rw [this, List.append_nil])).1
end Go.Proofs.YtkodololdjainaaGreat

namespace Go.Proofs.YtkodololdjainaaGreat
open Go.RowKit

theorem own_more {w : World} {B n a : Nat} {v : Value} {xs : List Value} {pre : List UInt8} {i : Int} (ha : a < 256) (hi : i = (a : Int))
    (h : w.ownsRow B 5 1 v (n + pre.length + 1) (xs ++ (Lib.byteCells pre ++ [Value.int .u8 i]))) : w.ownsRow B 5 1 v (n + (pre ++ [a.toUInt8]).length) (xs ++ Lib.byteCells (pre ++ [a.toUInt8])) := by
  rw [Lib.byteCells_snoc pre ha, List.length_append, List.length_singleton, ← Nat.add_assoc, ← hi]
  exact h

set_option maxHeartbeats 1000000 in
set_option maxRecDepth 100000 in
theorem appendNum_any (B n x : Nat) (hx : x < 9223372036854775808) (sv : Value) (xs : List Value) (w : World) (hown : w.ownsRow B 5 1 sv n xs) (hBw : B ≤ w.heap.size) (hlim : n + 10 ≤ 140737488355328) :
    Calls Tryz.prog 51 #[sv, .int .i64 x] w fun e w' => ∃ v', e = .returned v' ∧ w'.ownsRow B 5 1 v' (n + (Lib.uvarint x).length) (xs ++ Lib.byteCells (Lib.uvarint x)) ∧ Below B w w' := by
  obtain ⟨i0, hi, hz0, hz1, hz2⟩ := info_parts bytesInfo
  have hlen := Lib.uvarint_length64 (x := x) (by omega)
  go_enter Tryz.func51, Tryz.ntmps51
  go_wp2
  refine wp_scope_jumps 0 (fun a' w' => ∃ (v : Value) (y : Nat) (pre : List UInt8) (u5 u6 u7 u8 u9 u10 u11 u12 u13 u14 u15 u16 u17 u18 u19 u20 : Value), a' = { tmps := #[v, .int .i64 y, undef, undef, .slice none 0 0, u5, u6, u7, u8, u9, u10, u11, u12, u13, u14, u15, u16, u17, u18, u19, u20], defers := [] } ∧ y ≤ x ∧ Lib.uvarint x = pre ++ Lib.uvarint y ∧ w'.ownsRow B 5 1 v (n + pre.length) (xs ++ Lib.byteCells pre) ∧ Below B w w') (fun a' _ => (intOf (a'.tmps.getD 1 undef)).toNat) rfl ?_ ?_
  · have hown1 : w.ownsRow B 5 1 sv (n + ([] : List UInt8).length) (xs ++ Lib.byteCells []) := by simpa [Lib.byteCells] using hown
    have hnx : Below B w w := Below.refl _ _
    obtain ⟨pre, hpre⟩ : ∃ pre : List UInt8, pre = [] := ⟨_, rfl⟩
    rw [← hpre] at hown1
    have hsplit : Lib.uvarint x = pre ++ Lib.uvarint x := by rw [hpre]; rfl
    clear hpre hown
    have hsum : pre.length + (Lib.uvarint x).length ≤ 10 := by have h2 := congrArg List.length hsplit; rw [List.length_append] at h2; omega
    have hpos := Lib.uvarint_pos x
    have HS := Lib.hid hsplit
    clear hsplit
    by_cases h128 : 128 ≤ x
    · go_wp2
      go_step3
      go_wp2_with (at_builtin; refine wpList_append_own _ rfl _ _ 90 rfl B 5 i0 (.int .u8 0) 1 1 Tryz.underlying90 hi hz0 hz1 hz2 rfl (by decide) _ _ _ rfl (hown1.alloc _) ⟨w.heap.size, 0, none⟩ 1 1 [Value.int .u8 ((x : Int) % 128 + 128)] rfl rfl ?c1 ?c2 ?c3 ?c4 ?c5 ?_)
      case c1 =>
        intro j u hj
        match j, hj with
        | 0, hj => simp at hj; subst hj; simp [Addr.add]
      case c2 => intro u hu; simp at hu; subst hu; rfl
      case c3 => unfold maxLen; omega
      case c4 => omega
      case c5 => have := hnx.size; simp; omega
      intro v' w1 hown' hgrow _
      have hnx1 : Below B w w1 := (hnx.alloc (by have := hnx.size; omega) _).grown hgrow (by have := hnx.size; simp; omega) (fun k hk => (hown1.lt k hk).1)
      go_wp2
      go_step3
      refine ⟨rfl, v', x / 128, pre ++ [(x % 128 + 128).toUInt8], _, _, _, _, _, _, _, _, _, _, _, _, _, _, _, _, rfl, by omega, by rw [HS.out, Lib.uvarint_big h128]; simp, own_more (a := x % 128 + 128) (by omega) (by omega) hown', hnx1⟩

    · go_wp2
      go_step3
      go_wp2_with (at_builtin; refine wpList_append_own _ rfl _ _ 90 rfl B 5 i0 (.int .u8 0) 1 1 Tryz.underlying90 hi hz0 hz1 hz2 rfl (by decide) _ _ _ rfl (hown1.alloc _) ⟨w.heap.size, 0, none⟩ 1 1 [Value.int .u8 ((x : Int))] rfl rfl ?c1 ?c2 ?c3 ?c4 ?c5 ?_)
      case c1 =>
        intro j u hj
        match j, hj with
        | 0, hj => simp at hj; subst hj; simp [Addr.add]
      case c2 => intro u hu; simp at hu; subst hu; rfl
      case c3 => unfold maxLen; omega
      case c4 => omega
      case c5 => have := hnx.size; simp; omega
      intro v' w1 hown' hgrow _
      have hnx1 : Below B w w1 := (hnx.alloc (by have := hnx.size; omega) _).grown hgrow (by have := hnx.size; simp; omega) (fun k hk => (hown1.lt k hk).1)
      go_wp2
      simp only [Exit.jump]
      go_ret
      refine ⟨v', rfl, ?_, hnx1⟩
      rw [HS.out, Lib.uvarint_small (x := x) (by omega)]
      exact own_more (by omega) rfl hown'
  · rintro a' wr ⟨v, y, pre, u5, u6, u7, u8, u9, u10, u11, u12, u13, u14, u15, u16, u17, u18, u19, u20, rfl, hy, hsplit, hown1, hnx⟩
    have hsum : pre.length + (Lib.uvarint y).length ≤ 10 := by have h2 := congrArg List.length hsplit; rw [List.length_append] at h2; omega
    have hpos := Lib.uvarint_pos y
    have HS := Lib.hid hsplit
    clear hsplit
    by_cases h128 : 128 ≤ y
    · skip
      go_wp2_with (at_builtin; refine wpList_append_own _ rfl _ _ 90 rfl B 5 i0 (.int .u8 0) 1 1 Tryz.underlying90 hi hz0 hz1 hz2 rfl (by decide) _ _ _ rfl (hown1.alloc _) ⟨wr.heap.size, 0, none⟩ 1 1 [Value.int .u8 ((y : Int) % 128 + 128)] rfl rfl ?c1 ?c2 ?c3 ?c4 ?c5 ?_)
      case c1 =>
        intro j u hj
        match j, hj with
        | 0, hj => simp at hj; subst hj; simp [Addr.add]
      case c2 => intro u hu; simp at hu; subst hu; rfl
      case c3 => unfold maxLen; omega
      case c4 => omega
      case c5 => have := hnx.size; simp; omega
      intro v' w1 hown' hgrow _
      have hnx1 : Below B w w1 := (hnx.alloc (by have := hnx.size; omega) _).grown hgrow (by have := hnx.size; simp; omega) (fun k hk => (hown1.lt k hk).1)
      go_wp2
      go_step3
      refine ⟨rfl, ⟨v', y / 128, pre ++ [(y % 128 + 128).toUInt8], _, _, _, _, _, _, _, _, _, _, _, _, _, _, _, _, rfl, by omega, by rw [HS.out, Lib.uvarint_big h128]; simp, own_more (a := y % 128 + 128) (by omega) (by omega) hown', hnx1⟩, ?_⟩
      simp [intOf]; omega
    · skip
      go_wp2_with (at_builtin; refine wpList_append_own _ rfl _ _ 90 rfl B 5 i0 (.int .u8 0) 1 1 Tryz.underlying90 hi hz0 hz1 hz2 rfl (by decide) _ _ _ rfl (hown1.alloc _) ⟨wr.heap.size, 0, none⟩ 1 1 [Value.int .u8 ((y : Int))] rfl rfl ?c1 ?c2 ?c3 ?c4 ?c5 ?_)
      case c1 =>
        intro j u hj
        match j, hj with
        | 0, hj => simp at hj; subst hj; simp [Addr.add]
      case c2 => intro u hu; simp at hu; subst hu; rfl
      case c3 => unfold maxLen; omega
      case c4 => omega
      case c5 => have := hnx.size; simp; omega
      intro v' w1 hown' hgrow _
      have hnx1 : Below B w w1 := (hnx.alloc (by have := hnx.size; omega) _).grown hgrow (by have := hnx.size; simp; omega) (fun k hk => (hown1.lt k hk).1)
      go_wp2
      simp only [Exit.jump]
      go_ret
      refine ⟨v', rfl, ?_, hnx1⟩
      rw [HS.out, Lib.uvarint_small (x := y) (by omega)]
      exact own_more (by omega) rfl hown'
end Go.Proofs.YtkodololdjainaaGreat

namespace Go.Proofs.YtkodololdjainaaGreat
open Go.RowKit

set_option maxHeartbeats 1000000 in
set_option maxRecDepth 100000 in
/-- wire.Num of a number in range. -/
theorem num_ok (x : Nat) (hx : x ≤ 9007199254740992) (w : World) :
    Calls Tryz.prog 18 #[.int .i64 x] w fun e w' => e = .returned (.tuple #[.string ⟨(Lib.uvarint x).toArray⟩, .int .i64 0]) ∧ Below w.heap.size w w' := by
  go_enter Tryz.func18, Tryz.ntmps18
  go_wp2_with fail
  refine (appendNum_any w.heap.size 0 x (by omega) _ [] w (World.ownsRow_nil _ _ _ _) (Nat.le_refl _) (by omega)).mono ?_
  rintro e w' ⟨v', rfl, hown, hb⟩
  have hconv := own_string (P := Tryz.prog) (l := Lib.uvarint x) (dst := 9) Tryz.underlying90 Tryz.underlying5 Tryz.underlying9 (by simpa using hown)
  go_wp2
  go_ret2
  exact ⟨rfl, hb⟩

set_option maxHeartbeats 1000000 in
set_option maxRecDepth 100000 in
/-- wire.Num of a number out of range. -/
theorem num_err (x : Int) (hx : x < 0 ∨ 9007199254740992 < x) (w : World) :
    Calls Tryz.prog 18 #[.int .i64 x] w fun e w' => e = .returned (.tuple #[.string ⟨#[]⟩, .int .i64 2]) ∧ w = w' := by
  rcases hx with hx | hx
  · go_enter Tryz.func18, Tryz.ntmps18
    go_wp2
    go_ret2
    exact ⟨rfl, rfl⟩
  · have h0 : ¬ x < 0 := by omega
    go_enter Tryz.func18, Tryz.ntmps18
    go_wp2
    go_ret2
    exact ⟨rfl, rfl⟩
end Go.Proofs.YtkodololdjainaaGreat

namespace Go.Proofs.YtkodololdjainaaGreat
open Go.RowKit

theorem appendNum_own (B x : Nat) (hx : x < 9223372036854775808) (v : Value) (l : List UInt8) (w : World) (hown : OwnB B v l w) (hBw : B ≤ w.heap.size) (hlim : l.length + 10 ≤ 140737488355328) :
    Calls Tryz.prog 51 #[v, .int .i64 x] w fun e w' => ∃ v', e = .returned v' ∧ OwnB B v' (l ++ Lib.uvarint x) w' ∧ Below B w w' :=
  (appendNum_any B l.length x hx v _ w hown hBw hlim).mono fun e w' ⟨v', he, ho, hb⟩ => ⟨v', he, by unfold OwnB; rw [List.length_append, Lib.byteCells_append]; exact ho, hb⟩

set_option maxHeartbeats 1000000 in
set_option maxRecDepth 100000 in
theorem appendText_own (B : Nat) (v : Value) (l : List UInt8) (s : ByteArray) (w : World) (hown : OwnB B v l w) (hBw : B ≤ w.heap.size) (hlim : l.length + s.size + 10 ≤ 140737488355328) :
    Calls Tryz.prog 59 #[v, .string s] w fun e w' => ∃ v', e = .returned v' ∧ OwnB B v' (l ++ (Lib.uvarint s.size ++ s.data.toList)) w' ∧ Below B w w' := by
  obtain ⟨i0, hi, hz0, hz1, hz2⟩ := info_parts bytesInfo
  have hlen := Lib.uvarint_length64 (x := s.size) (by omega)
  go_enter Tryz.func59, Tryz.ntmps59
  go_wp2_with fail
  refine (appendNum_own B s.size (by omega) v l w hown hBw (by omega)).mono ?_
  rintro e w1 ⟨v1, rfl, hown1, hb1⟩
  have hs1 := hb1.size
  have hl1 : (l ++ Lib.uvarint s.size).length ≤ l.length + 10 := by rw [List.length_append]; omega
  go_wp2_with (at_builtin; refine Lib.wpList_append_own_string _ rfl _ _ 90 9 rfl B 5 i0 Tryz.underlying90 Tryz.underlying9 hi hz0 hz1 hz2 _ _ _ rfl hown1 s rfl ?c1 ?c2 ?c3 ?_)
  case c1 => unfold maxLen; omega
  case c2 => omega
  case c3 => omega
  intro v2 w2 hown2 hg2 _
  go_wp2
  go_ret
  refine ⟨v2, rfl, ?_, hb1.grown hg2 (by omega) (fun k hk => (hown1.lt k hk).1)⟩
  unfold OwnB
  rw [← List.append_assoc, List.length_append, Lib.byteCells_append, ← Lib.strCells_eq]
  have e1 : s.data.toList.length = s.size := by simp
  rw [e1, List.length_append]
  exact hown2

set_option maxHeartbeats 1000000 in
set_option maxRecDepth 100000 in
theorem text_ok (s : ByteArray) (hs : s.size ≤ 65536) (w : World) :
    Calls Tryz.prog 22 #[.string s] w fun e w' => e = .returned (.tuple #[.string ⟨(Lib.uvarint s.size ++ s.data.toList).toArray⟩, .int .i64 0]) ∧ Below w.heap.size w w' := by
  go_enter Tryz.func22, Tryz.ntmps22
  go_wp2_with fail
  refine (appendText_own w.heap.size _ [] s w (ownB_nil _ _) (Nat.le_refl _) (by simp; omega)).mono ?_
  rintro e w' ⟨v', rfl, hown, hb⟩
  rw [List.nil_append] at hown
  have hconv := own_string (P := Tryz.prog) (dst := 9) Tryz.underlying90 Tryz.underlying5 Tryz.underlying9 hown
  go_wp2
  go_ret2
  exact ⟨rfl, hb⟩

set_option maxHeartbeats 1000000 in
set_option maxRecDepth 100000 in
theorem text_err (s : ByteArray) (hs : 65536 < s.size) (w : World) :
    Calls Tryz.prog 22 #[.string s] w fun e w' => e = .returned (.tuple #[.string ⟨#[]⟩, .int .i64 3]) ∧ w = w' := by
  go_enter Tryz.func22, Tryz.ntmps22
  go_wp2
  go_ret2
  exact ⟨rfl, rfl⟩

def encTexts : List ByteArray → List UInt8
  | [] => []
  | s :: r => Lib.uvarint s.size ++ s.data.toList ++ encTexts r

theorem encTexts_append (a b : List ByteArray) : encTexts (a ++ b) = encTexts a ++ encTexts b := by
  induction a with
  | nil => rfl
  | cons s r ih => simp [encTexts, ih]

theorem encTexts_take (ss : List ByteArray) (k : Nat) (hk : k < ss.length) : encTexts (ss.take (k + 1)) = encTexts (ss.take k) ++ (Lib.uvarint (ss.getD k ByteArray.empty).size ++ (ss.getD k ByteArray.empty).data.toList) := by
  rw [List.take_add_one, List.getElem?_eq_getElem hk, encTexts_append]
  simp [encTexts, List.getD, hk]

theorem encTexts_len (ss : List ByteArray) (h : ∀ s ∈ ss, s.size ≤ 65536) : (encTexts ss).length ≤ ss.length * 65546 := by
  induction ss with
  | nil => simp [encTexts]
  | cons s r ih =>
    have h1 := h s (List.mem_cons_self ..)
    have h2 := ih (fun x hx => h x (List.mem_cons_of_mem _ hx))
    have h3 := Lib.uvarint_length64 (x := s.size) (by omega)
    have h4 : s.data.toList.length = s.size := by simp
    simp only [encTexts, List.length_append, List.length_cons, h4]
    omega

/-- what wire.List answers of texts of which there are not too many -/
def ListEnd (ss : List ByteArray) (e : Ending) : Prop :=
  ((∃ s ∈ ss, 65536 < s.size) ∧ e = .returned (.tuple #[.string ⟨#[]⟩, .int .i64 3])) ∨
  ((∀ s ∈ ss, s.size ≤ 65536) ∧ e = .returned (.tuple #[.string ⟨(Lib.uvarint ss.length ++ encTexts ss).toArray⟩, .int .i64 0]))

end Go.Proofs.YtkodololdjainaaGreat

namespace Go.Proofs.YtkodololdjainaaGreat

theorem run_big (d : UInt8) (r : List UInt8) (h : 128 ≤ d.toNat) : run (d :: r) = run r + 1 := by rw [run, if_pos h]
theorem run_small (d : UInt8) (r : List UInt8) (h : d.toNat < 128) : run (d :: r) = 0 := by rw [run, if_neg (by omega)]

theorem run_uv : ∀ n (r : List UInt8), run (Lib.uvarint n ++ r) + 1 = (Lib.uvarint n).length := by
  intro n
  induction n using Nat.strongRecOn with
  | _ n ih =>
    intro r
    by_cases h : n < 128
    · rw [Lib.uvarint_small h, List.singleton_append, run_small _ _ (by rw [Lib.toUInt8_toNat (by omega)]; exact h)]; rfl
    · rw [Lib.uvarint_big (x := n) (by omega), List.cons_append, run_big _ _ (by rw [Lib.toUInt8_toNat (by omega)]; omega), ih (n / 128) (by omega), List.length_cons]

theorem lev_uv : ∀ n, lev (Lib.uvarint n) = n := by
  intro n
  induction n using Nat.strongRecOn with
  | _ n ih =>
    by_cases h : n < 128
    · rw [Lib.uvarint_small h]; simp only [lev]; rw [Lib.toUInt8_toNat (by omega)]; omega
    · rw [Lib.uvarint_big (x := n) (by omega)]; simp only [lev]; rw [ih (n / 128) (by omega), Lib.toUInt8_toNat (by omega)]; omega

theorem last_uv : ∀ n (r : List UInt8), 1 ≤ n → (Lib.uvarint n ++ r).getD (run (Lib.uvarint n ++ r)) 0 ≠ 0 := by
  intro n
  induction n using Nat.strongRecOn with
  | _ n ih =>
    intro r hn
    by_cases h : n < 128
    · rw [Lib.uvarint_small h, List.singleton_append, run_small _ _ (by rw [Lib.toUInt8_toNat (by omega)]; exact h)]
      intro e
      have h2 : (n.toUInt8 : UInt8) = 0 := by simpa using e
      have := congrArg UInt8.toNat h2
      rw [Lib.toUInt8_toNat (by omega)] at this
      simp at this; omega
    · rw [Lib.uvarint_big (x := n) (by omega), List.cons_append, run_big _ _ (by rw [Lib.toUInt8_toNat (by omega)]; omega)]
      have := ih (n / 128) (by omega) r (by omega)
      simpa using this

theorem uv_len8 (n : Nat) (hn : n ≤ 9007199254740992) : (Lib.uvarint n).length ≤ 8 := Lib.uvarint_length 7 n (by omega)

theorem numR_uv (n : Nat) (hn : n ≤ 9007199254740992) (r : List UInt8) : numR (Lib.uvarint n ++ r) = (n, (Lib.uvarint n).length, 0) := by
  have h1 := run_uv n r
  have h2 := uv_len8 n hn
  have h3 : (Lib.uvarint n ++ r).take (run (Lib.uvarint n ++ r) + 1) = Lib.uvarint n := by rw [h1]; simp
  have h4 : lev ((Lib.uvarint n ++ r).take (run (Lib.uvarint n ++ r) + 1)) = n := by rw [h3, lev_uv]
  unfold numR
  rw [if_neg (by rw [List.length_append]; omega), h4, if_neg (by omega)]
  by_cases h5 : n < 128
  · rw [if_neg (by rw [Lib.uvarint_small h5] at h1 ⊢; simp at h1; simp [h1]), h1]
  · rw [if_neg (fun h => last_uv n r (by omega) h.1), h1]

theorem extract_list (a : List UInt8) (i : Nat) : (⟨a.toArray⟩ : ByteArray).extract i (⟨a.toArray⟩ : ByteArray).size = ⟨(a.drop i).toArray⟩ := by
  apply ByteArray.ext
  apply Array.toList_inj.1
  rw [Lib.extract_data]
  show (a.drop i).take (a.length - i) = a.drop i
  exact List.take_of_length_le (by simp)
theorem extract_list0 (a : List UInt8) (n : Nat) : (⟨a.toArray⟩ : ByteArray).extract 0 n = ⟨(a.take n).toArray⟩ := by
  apply ByteArray.ext
  apply Array.toList_inj.1
  rw [Lib.extract_data]
  simp

theorem sNum_uv (n : Nat) (hn : n ≤ 9007199254740992) (r : List UInt8) : sNum (⟨(Lib.uvarint n ++ r).toArray⟩, 0) = (n, (⟨r.toArray⟩, 0)) := by
  have h := numR_uv n hn r
  unfold sNum
  simp only [h]
  rw [extract_list]
  simp

theorem sText_enc (s : ByteArray) (hs : s.size ≤ 65536) (r : List UInt8) : sText (⟨(Lib.uvarint s.size ++ s.data.toList ++ r).toArray⟩, 0) = (s, (⟨r.toArray⟩, 0)) := by
  have h := sNum_uv s.size (by omega) (s.data.toList ++ r)
  rw [← List.append_assoc] at h
  have hc : sCount 65536 (⟨(Lib.uvarint s.size ++ s.data.toList ++ r).toArray⟩, 0) = (s.size, true, (⟨(s.data.toList ++ r).toArray⟩, 0)) := by
    unfold sCount
    rw [h]
    simp only
    rw [if_neg (by simp), if_neg (by omega)]
  have hl : s.data.toList.length = s.size := by simp
  have hz : (ByteArray.mk (s.data.toList ++ r).toArray).size = s.size + r.length := by
    show (s.data.toList ++ r).length = _
    rw [List.length_append, hl]
  unfold sText
  rw [hc]
  simp only
  rw [if_neg (by simp), if_neg (by omega), extract_list, extract_list0]
  have e1 : (s.data.toList ++ r).take s.size = s.data.toList := by rw [← hl]; exact List.take_left
  have e2 : (s.data.toList ++ r).drop s.size = r := by rw [← hl]; exact List.drop_left
  rw [e1, e2]

theorem sTexts_enc : ∀ (ss : List ByteArray) (r : List UInt8) (acc : List ByteArray), (∀ s ∈ ss, s.size ≤ 65536) → sTexts ss.length (⟨(encTexts ss ++ r).toArray⟩, 0) acc = (acc ++ ss, (⟨r.toArray⟩, 0)) := by
  intro ss
  induction ss with
  | nil => intro r acc _; simp [sTexts, encTexts]
  | cons s t ih =>
    intro r acc h
    have h1 := sText_enc s (h s (List.mem_cons_self ..)) (encTexts t ++ r)
    have e : encTexts (s :: t) ++ r = Lib.uvarint s.size ++ s.data.toList ++ (encTexts t ++ r) := by simp [encTexts]
    rw [List.length_cons, sTexts, e, h1]
    simp only
    rw [if_neg (by simp), ih r _ (fun x hx => h x (List.mem_cons_of_mem _ hx))]
    simp

theorem sList_enc (ss : List ByteArray) (hl : ss.length ≤ 4096) (h : ∀ s ∈ ss, s.size ≤ 65536) (r : List UInt8) : sList (⟨(Lib.uvarint ss.length ++ encTexts ss ++ r).toArray⟩, 0) = (ss, (⟨r.toArray⟩, 0)) := by
  have h0 := sNum_uv ss.length (by omega) (encTexts ss ++ r)
  rw [← List.append_assoc] at h0
  have hc : sCount 4096 (⟨(Lib.uvarint ss.length ++ encTexts ss ++ r).toArray⟩, 0) = (ss.length, true, (⟨(encTexts ss ++ r).toArray⟩, 0)) := by
    unfold sCount
    rw [h0]
    simp only
    rw [if_neg (by simp), if_neg (by omega)]
  unfold sList
  rw [hc]
  simp only
  rw [if_neg (by simp), sTexts_enc ss r [] h]
  simp

theorem uv_lev : ∀ (l : List UInt8), run l + 1 = l.length → (l.getD (run l) 0 ≠ 0 ∨ run l = 0) → Lib.uvarint (lev l) = l ∧ (run l ≠ 0 → 1 ≤ lev l) := by
  intro l
  induction l with
  | nil => intro h; simp [run] at h
  | cons d r ih =>
    intro h hz
    by_cases hd : 128 ≤ d.toNat
    · rw [run_big d r hd, List.length_cons] at h
      rw [run_big d r hd] at hz ⊢
      have hz' : r.getD (run r) 0 ≠ 0 ∨ run r = 0 := by
        rcases hz with hz | hz
        · exact .inl (by simpa using hz)
        · omega
      obtain ⟨h1, h2⟩ := ih (by omega) hz'
      have hpos : 1 ≤ lev r := by
        by_cases h0 : run r = 0
        · have hl : r.length = 1 := by omega
          obtain ⟨x, rfl⟩ := List.length_eq_one_iff.1 hl
          have hx : x ≠ 0 := by
            rcases hz with hz | hz
            · rw [h0] at hz; simpa using hz
            · omega
          have hx2 : x.toNat < 128 := by
            rcases Nat.lt_or_ge x.toNat 128 with h3 | h3
            · exact h3
            · rw [run_big x [] h3] at h0; omega
          have hx3 : x.toNat ≠ 0 := fun e => hx (UInt8.toNat_inj.1 (by simpa using e))
          simp only [lev]; omega
        · exact h2 h0
      have hb : d.toNat < 256 := UInt8.toNat_lt _
      refine ⟨?_, fun _ => by simp only [lev]; omega⟩
      have e1 : lev (d :: r) = d.toNat % 128 + 128 * lev r := rfl
      rw [e1, Lib.uvarint_big (by omega)]
      have e2 : (d.toNat % 128 + 128 * lev r) / 128 = lev r := by omega
      have e3 : (d.toNat % 128 + 128 * lev r) % 128 + 128 = d.toNat := by omega
      rw [e2, e3, h1]
      congr 1
      exact UInt8.toNat_inj.1 (Lib.toUInt8_toNat hb)
    · rw [run_small d r (by omega)] at h ⊢
      have hr : r = [] := List.length_eq_zero_iff.1 (by simpa using h.symm)
      subst hr
      refine ⟨?_, fun h => absurd rfl h⟩
      have e1 : lev [d] = d.toNat := by simp only [lev]; omega
      rw [e1, Lib.uvarint_small (by omega)]
      congr 1
      exact UInt8.toNat_inj.1 (Lib.toUInt8_toNat (by omega))

theorem run_take (l : List UInt8) : ∀ k, run l < k → run (l.take k) = run l := by
  induction l with
  | nil => intro k _; simp
  | cons d r ih =>
    intro k hk
    cases k with
    | zero => omega
    | succ k =>
      rw [List.take_succ_cons]
      by_cases hd : 128 ≤ d.toNat
      · rw [run_big d r hd] at hk ⊢; rw [run_big _ _ hd, ih k (by omega)]
      · rw [run_small d r (by omega), run_small _ _ (by omega)]

/-- what is read is what would be put -/
theorem numR_put {l : List UInt8} (h : (numR l).2.2 = 0) : Lib.uvarint (numR l).1 = l.take (numR l).2.1 := by
  have h0 := run_le l
  unfold numR at h ⊢
  split at h
  · simp at h
  · split at h
    · simp at h
    · split at h
      · simp at h
      · rename_i a b c
        rw [if_neg a, if_neg b, if_neg c]
        simp only
        have hr := run_take l (run l + 1) (by omega)
        refine (uv_lev (l.take (run l + 1)) (by rw [hr, List.length_take]; omega) ?_).1
        rw [hr]
        by_cases hz : run l = 0
        · exact .inr hz
        · refine .inl ?_
          rw [List.getD_eq_getElem?_getD, List.getElem?_take_of_lt (by omega), ← List.getD_eq_getElem?_getD]
          exact fun e => c ⟨e, by omega⟩
end Go.Proofs.YtkodololdjainaaGreat

namespace Go.Proofs.YtkodololdjainaaGreat
open Go.RowKit

/-- 'string([]byte{c})' of a row that has just been made. -/
theorem one_string {w : World} {c : Nat} (hc : c < 256) : (convert 90 9 (.slice (some ⟨w.heap.size, 0, none⟩) 1 1)).run Tryz.prog (w.alloc (.cells #[.int .u8 (c : Int)] 5)) = .ok (.string ⟨#[c.toUInt8]⟩) (w.alloc (.cells #[.int .u8 (c : Int)] 5)) := by
  have h : (w.alloc (.cells #[.int .u8 (c : Int)] 5)).ownsRow 0 5 1 (.slice (some ⟨w.heap.size, 0, none⟩) 1 1) [c.toUInt8].length (Lib.byteCells [c.toUInt8]) := by
    refine ⟨rfl, .inr ⟨w.heap.size, 1, #[.int .u8 (c : Int)], rfl, Nat.zero_le _, ?_, Nat.le_refl _, by simp [maxLen], rfl, ?_⟩⟩
    · simp [World.alloc, -World.alloc_eq]
    · simp [Lib.byteCells, Lib.toUInt8_toNat hc]
  exact own_string (l := [c.toUInt8]) Tryz.underlying90 Tryz.underlying5 Tryz.underlying9 h

theorem append_str (a b : List UInt8) : (⟨a.toArray⟩ : ByteArray) ++ ⟨b.toArray⟩ = ⟨(a ++ b).toArray⟩ := by
  rw [ByteArray.mk_append_mk]

set_option maxHeartbeats 1000000 in
set_option maxRecDepth 100000 in
theorem refnum_ok (x : Nat) (hx : x ≤ 9007199254740992) (w : World) :
    Calls Tryz.prog 23 #[.int .i64 x] w fun e w' => e = .returned (.tuple #[.string ⟨(Lib.uvarint x).toArray⟩, .int .i64 0]) ∧ Below w.heap.size w w' := by
  have hlen := Lib.uvarint_length64 (x := x) (by omega)
  go_enter Tryz.func23, Tryz.ntmps23
  go_wp2
  go_loopw [0, 4] (fun n s wr => ∃ (y : Nat) (pre : List UInt8), n = .int .i64 y ∧ s = .string ⟨pre.toArray⟩ ∧ y ≤ x ∧ Lib.uvarint x = pre ++ Lib.uvarint y ∧ Below w.heap.size w wr) (fun n _ _ => (intOf n).toNat)
  case atStart => exact ⟨x, [], rfl, rfl, Nat.le_refl _, rfl, Below.refl _ _⟩
  case round =>
    obtain ⟨y, pre, rfl, rfl, hy, hsplit, hb⟩ := hrel
    have hsum : pre.length + (Lib.uvarint y).length ≤ 10 := by have h2 := congrArg List.length hsplit; rw [List.length_append] at h2; omega
    have hpos := Lib.uvarint_pos y
    have hB := hb.size
    have HS := Lib.hid hsplit
    clear hsplit
    by_cases h128 : 128 ≤ y
    · have hadd := run_string_add_sum (P := Tryz.prog) (w := wr.alloc (.cells #[.int .u8 ((y : Int) % 128 + 128)] 5)) ⟨pre.toArray⟩ ⟨[(y % 128 + 128).toUInt8].toArray⟩ (by have h1 : (ByteArray.mk pre.toArray).size = pre.length := rfl; have h2 : (ByteArray.mk [(y % 128 + 128).toUInt8].toArray).size = 1 := rfl; omega)
      rw [append_str] at hadd
      have hcv := one_string (w := wr) (c := y % 128 + 128) (by omega)
      have hcast : (((y % 128 + 128 : Nat)) : Int) = (y : Int) % 128 + 128 := by omega
      rw [hcast] at hcv
      have hcl : (⟨#[(y % 128 + 128).toUInt8]⟩ : ByteArray) = ⟨[(y % 128 + 128).toUInt8].toArray⟩ := rfl
      rw [hcl] at hcv
      clear hcast hcl
      generalize (⟨[(y % 128 + 128).toUInt8].toArray⟩ : ByteArray) = piece at hadd hcv
      generalize hnx : (⟨(pre ++ [(y % 128 + 128).toUInt8]).toArray⟩ : ByteArray) = nx at hadd
      have HN := Lib.hid hnx
      clear hnx
      go_wp2
      go_roundw
      case rel => exact ⟨y / 128, pre ++ [(y % 128 + 128).toUInt8], by go_num, by rw [HN.out], by omega, by rw [HS.out, Lib.uvarint_big h128]; simp, hb.alloc hB _⟩
      case measure => simp [intOf]; omega
    · have hadd := run_string_add_sum (P := Tryz.prog) (w := wr.alloc (.cells #[.int .u8 (y : Int)] 5)) ⟨pre.toArray⟩ ⟨[y.toUInt8].toArray⟩ (by have h1 : (ByteArray.mk pre.toArray).size = pre.length := rfl; have h2 : (ByteArray.mk [y.toUInt8].toArray).size = 1 := rfl; omega)
      rw [append_str] at hadd
      have hcv := one_string (w := wr) (c := y) (by omega)
      have hcl : (⟨#[y.toUInt8]⟩ : ByteArray) = ⟨[y.toUInt8].toArray⟩ := rfl
      rw [hcl] at hcv
      clear hcl
      generalize (⟨[y.toUInt8].toArray⟩ : ByteArray) = piece at hadd hcv
      generalize hnx : (⟨(pre ++ [y.toUInt8]).toArray⟩ : ByteArray) = nx at hadd
      have HN := Lib.hid hnx
      clear hnx
      go_wp2
      go_ret2
      refine ⟨?_, hb.alloc hB _⟩
      rw [HS.out, Lib.uvarint_small (x := y) (by omega), HN.out]; rfl

set_option maxHeartbeats 1000000 in
set_option maxRecDepth 100000 in
theorem refnum_err (x : Int) (hx : x < 0 ∨ 9007199254740992 < x) (w : World) :
    Calls Tryz.prog 23 #[.int .i64 x] w fun e w' => e = .returned (.tuple #[.string ⟨#[]⟩, .int .i64 2]) ∧ w = w' := by
  rcases hx with hx | hx
  · go_enter Tryz.func23, Tryz.ntmps23
    go_wp2
    go_ret2
    exact ⟨rfl, rfl⟩
  · have h0 : ¬ x < 0 := by omega
    go_enter Tryz.func23, Tryz.ntmps23
    go_wp2
    go_ret2
    exact ⟨rfl, rfl⟩

set_option maxHeartbeats 1000000 in
set_option maxRecDepth 100000 in
theorem reftext_ok (s : ByteArray) (hs : s.size ≤ 65536) (w : World) :
    Calls Tryz.prog 26 #[.string s] w fun e w' => e = .returned (.tuple #[.string ⟨(Lib.uvarint s.size ++ s.data.toList).toArray⟩, .int .i64 0]) ∧ Below w.heap.size w w' := by
  have hlen := Lib.uvarint_length64 (x := s.size) (by omega)
  go_enter Tryz.func26, Tryz.ntmps26
  go_wp2_with fail
  refine (refnum_ok s.size (by omega) w).mono ?_
  rintro e w1 ⟨rfl, hb1⟩
  have hadd := run_string_add_sum (P := Tryz.prog) (w := w1) ⟨(Lib.uvarint s.size).toArray⟩ s (by have h1 : (ByteArray.mk (Lib.uvarint s.size).toArray).size = (Lib.uvarint s.size).length := rfl; omega)
  have hj : (⟨(Lib.uvarint s.size).toArray⟩ : ByteArray) ++ s = ⟨(Lib.uvarint s.size ++ s.data.toList).toArray⟩ := append_str _ s.data.toList
  rw [hj] at hadd
  clear hj
  go_wp2
  go_ret2
  exact ⟨rfl, hb1⟩

set_option maxHeartbeats 1000000 in
set_option maxRecDepth 100000 in
theorem reftext_err (s : ByteArray) (hs : 65536 < s.size) (w : World) :
    Calls Tryz.prog 26 #[.string s] w fun e w' => e = .returned (.tuple #[.string ⟨#[]⟩, .int .i64 3]) ∧ w = w' := by
  go_enter Tryz.func26, Tryz.ntmps26
  go_wp2
  go_ret2
  exact ⟨rfl, rfl⟩

end Go.Proofs.YtkodololdjainaaGreat
