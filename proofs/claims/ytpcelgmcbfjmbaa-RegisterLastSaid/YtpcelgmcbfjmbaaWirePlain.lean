/-
  Plain facts on digits of seven bits; nothing of the program. And a law for a label at the head of what is jumped over.
-/
import Derived.WalkKit
import Derived.ScopeJumps
import Derived.Lib.Varint
import Derived.Lib.VarintMem
import Derived.Lib.QuoteBits
namespace Go.Proofs.Ytpcelgmcbfjmbaa
open Go.RowKit

theorem wp_scope_head {P : Program} {a : Act} {w : World} {Q : Exit → Act → World → Prop} {c X : Code} (l : Nat) (J : Act → World → Prop) (μ : Act → World → Nat) (hf : findLabel c l = some (.seq .skip X))
    (a₁ : Act) (w₁ : World) (hJ : J a₁ w₁) (first : ∀ Q', X.wp P Q' a₁ w₁ → c.wp P Q' a w)
    (pass : ∀ a w, J a w → X.wp P (Exit.jump l (fun a' w' => J a' w' ∧ μ a' w' < μ a w) Q) a w) : (Code.scope c).wp P Q a w := by
  refine wp_scope_jumps l J μ hf (first _ (Code.wp_mono ?_ (pass a₁ w₁ hJ))) (fun a w h => wp_seq (wp_skip (pass a w h)))
  intro e a' w' h
  cases e <;> first | exact h | exact ⟨h.1, h.2.1⟩

def lev : List UInt8 → Nat
  | [] => 0
  | d :: r => d.toNat % 128 + 128 * lev r

theorem lev_snoc (l : List UInt8) (d : UInt8) : lev (l ++ [d]) = lev l + d.toNat % 128 * 128 ^ l.length := by
  induction l with
  | nil => simp [lev]
  | cons x r ih =>
    simp only [List.cons_append, lev, ih, List.length_cons, Nat.pow_succ]
    rw [Nat.mul_add, ← Nat.add_assoc]
    congr 1
    rw [Nat.mul_comm (128 ^ r.length) 128, Nat.mul_left_comm]

theorem lev_lt (l : List UInt8) : lev l < 128 ^ l.length := by
  induction l with
  | nil => simp [lev]
  | cons x r ih =>
    simp only [lev, List.length_cons, Nat.pow_succ]
    have : x.toNat % 128 < 128 := Nat.mod_lt _ (by omega)
    omega

def run : List UInt8 → Nat
  | [] => 0
  | d :: r => if 128 ≤ d.toNat then run r + 1 else 0

theorem run_le (l : List UInt8) : run l ≤ l.length := by
  induction l with
  | nil => simp [run]
  | cons d r ih => simp only [run]; split <;> simp <;> omega

theorem run_at (l : List UInt8) : ∀ k, k < run l → ∃ h : k < l.length, 128 ≤ l[k].toNat := by
  induction l with
  | nil => intro k hk; simp [run] at hk
  | cons d r ih =>
    intro k hk
    by_cases hd : 128 ≤ d.toNat
    · rw [run, if_pos hd] at hk
      cases k with
      | zero => exact ⟨by simp, hd⟩
      | succ k => obtain ⟨h1, h2⟩ := ih k (by omega); exact ⟨by simp; omega, h2⟩
    · rw [run, if_neg hd] at hk; omega

theorem run_end (l : List UInt8) (h : run l < l.length) : l[run l].toNat < 128 := by
  induction l with
  | nil => simp at h
  | cons d r ih =>
    by_cases hd : 128 ≤ d.toNat
    · have e : run (d :: r) = run r + 1 := by rw [run, if_pos hd]
      simp only [e, List.length_cons] at h ⊢
      simpa using ih (by omega)
    · have e : run (d :: r) = 0 := by rw [run, if_neg hd]
      simp only [e]
      simpa using hd

theorem run_of (l : List UInt8) (k : Nat) (hk : k < l.length) (h1 : ∀ j (h : j < l.length), j < k → 128 ≤ l[j].toNat) (h2 : l[k].toNat < 128) : run l = k := by
  rcases Nat.lt_trichotomy (run l) k with h | h | h
  · have h3 := run_end l (by omega)
    have h4 := h1 (run l) (by omega) h
    omega
  · exact h
  · obtain ⟨_, h4⟩ := run_at l k h
    omega

theorem run_all (l : List UInt8) (h1 : ∀ j (h : j < l.length), 128 ≤ l[j].toNat) : run l = l.length := by
  rcases Nat.lt_or_ge (run l) l.length with h | h
  · have h3 := run_end l h
    have h4 := h1 (run l) h
    omega
  · have := run_le l; omega

/-- what stands at the beginning, as a number: the number, its bytes' count, the error -/
def numR (l : List UInt8) : Nat × Nat × Int :=
  if run l = l.length then (0, 0, 4)
  else if 8 < run l + 1 ∨ 9007199254740992 < lev (l.take (run l + 1)) then (0, 0, 2)
  else if l.getD (run l) 0 = 0 ∧ 0 < run l then (0, 0, 5)
  else (lev (l.take (run l + 1)), run l + 1, 0)

theorem numR_ok {l : List UInt8} (h : (numR l).2.2 = 0) : (numR l).2.1 ≤ l.length ∧ 1 ≤ (numR l).2.1 ∧ (numR l).1 ≤ 9007199254740992 := by
  have h0 := run_le l
  unfold numR at h ⊢
  split at h
  · simp at h
  · split at h
    · simp at h
    · split at h
      · simp at h
      · rename_i a b c
        rw [if_neg a, if_neg b, if_neg c]
        simp only
        omega

theorem numR_err {l : List UInt8} (h : (numR l).2.2 ≠ 0) : (numR l).1 = 0 ∧ (numR l).2.1 = 0 := by
  unfold numR at h ⊢
  split
  · simp
  · split
    · simp
    · split
      · simp
      · rename_i a b c
        rw [if_neg a, if_neg b, if_neg c] at h
        simp at h

theorem pow128 (k : Nat) : 2 ^ (7 * k) = 128 ^ k := by rw [Nat.pow_mul]

/-- one digit more -/
theorem or_step (n k d : Nat) (hk : k < 8) (hn : n < 128 ^ k) (hd : d < 128) : bits .or .i64 (n : Int) (wrap64 ((d : Int) * 2 ^ (7 * k))) = ((n + d * 128 ^ k : Nat) : Int) := by
  have h8 : 128 ^ k * 128 ≤ 72057594037927936 := by
    rw [← Nat.pow_succ]
    exact Nat.le_trans (Nat.pow_le_pow_right (by omega) (show k + 1 ≤ 8 by omega)) (by decide)
  have hm : d * 128 ^ k ≤ 127 * 128 ^ k := Nat.mul_le_mul_right _ (by omega)
  have e1 : (d : Int) * 2 ^ (7 * k) = ((d * 128 ^ k : Nat) : Int) := by
    rw [← pow128]; simp
  rw [e1]
  have e2 : wrap64 ((d * 128 ^ k : Nat) : Int) = ((d * 128 ^ k : Nat) : Int) := by unfold wrap64; omega
  rw [e2]
  have e3 : n ||| d * 128 ^ k = n + d * 128 ^ k := by
    rw [Nat.or_comm, ← pow128, ← Nat.shiftLeft_eq, ← Nat.shiftLeft_add_eq_or_of_lt (by rw [pow128]; exact hn), Nat.add_comm]
  show IntKind.i64.wrap ((BitVec.ofInt 64 (n : Int) ||| BitVec.ofInt 64 ((d * 128 ^ k : Nat) : Int)).toNat : Int) = _
  rw [BitVec.toNat_or, ofInt_u64 n (by omega), ofInt_u64 (d * 128 ^ k) (by omega), e3]
  exact Lib.wrap_i64_small _ (by omega)

/-! A reader's state: what is left, and the first error. -/

def sNum (st : ByteArray × Int) : Nat × (ByteArray × Int) :=
  if st.2 ≠ 0 then (0, st)
  else if (numR st.1.data.toList).2.2 = 0 then ((numR st.1.data.toList).1, (st.1.extract (numR st.1.data.toList).2.1 st.1.size, 0))
  else (0, (st.1, (numR st.1.data.toList).2.2))

def sCount (limit : Nat) (st : ByteArray × Int) : Nat × Bool × (ByteArray × Int) :=
  if (sNum st).2.2 ≠ 0 then (0, false, (sNum st).2)
  else if limit < (sNum st).1 then (0, false, ((sNum st).2.1, 3))
  else ((sNum st).1, true, (sNum st).2)

def sText (st : ByteArray × Int) : ByteArray × (ByteArray × Int) :=
  if (sCount 65536 st).2.1 = false then (ByteArray.empty, (sCount 65536 st).2.2)
  else if (sCount 65536 st).2.2.1.size < (sCount 65536 st).1 then (ByteArray.empty, ((sCount 65536 st).2.2.1, 4))
  else ((sCount 65536 st).2.2.1.extract 0 (sCount 65536 st).1, ((sCount 65536 st).2.2.1.extract (sCount 65536 st).1 (sCount 65536 st).2.2.1.size, 0))

def sTexts : Nat → (ByteArray × Int) → List ByteArray → List ByteArray × (ByteArray × Int)
  | 0, st, acc => (acc, st)
  | k + 1, st, acc => if (sText st).2.2 ≠ 0 then ([], (sText st).2) else sTexts k (sText st).2 (acc ++ [(sText st).1])

def sList (st : ByteArray × Int) : List ByteArray × (ByteArray × Int) :=
  if (sCount 4096 st).2.1 = false then ([], (sCount 4096 st).2.2)
  else sTexts (sCount 4096 st).1 (sCount 4096 st).2.2 []

theorem extract_size_le (s : ByteArray) (a b : Nat) : (s.extract a b).size ≤ s.size := by
  rw [ByteArray.size_extract]; omega

theorem sNum_size (st : ByteArray × Int) : (sNum st).2.1.size ≤ st.1.size := by
  unfold sNum
  split
  · exact Nat.le_refl _
  · split
    · exact extract_size_le _ _ _
    · exact Nat.le_refl _
theorem sCount_size (n : Nat) (st : ByteArray × Int) : (sCount n st).2.2.1.size ≤ st.1.size := by
  have h := sNum_size st
  unfold sCount
  split
  · exact h
  · split <;> exact h
theorem sText_size (st : ByteArray × Int) : (sText st).2.1.size ≤ st.1.size := by
  have h := sCount_size 65536 st
  unfold sText
  split
  · exact h
  · split
    · exact h
    · exact Nat.le_trans (extract_size_le _ _ _) h
theorem sTexts_size (k : Nat) : ∀ (st : ByteArray × Int) (acc : List ByteArray), (sTexts k st acc).2.1.size ≤ st.1.size := by
  induction k with
  | zero => intro st acc; exact Nat.le_refl _
  | succ k ih =>
    intro st acc
    have h := sText_size st
    unfold sTexts
    split
    · exact h
    · exact Nat.le_trans (ih _ _) h
theorem sList_size (st : ByteArray × Int) : (sList st).2.1.size ≤ st.1.size := by
  have h := sCount_size 4096 st
  unfold sList
  split
  · exact h
  · exact Nat.le_trans (sTexts_size _ _ _) h
end Go.Proofs.Ytpcelgmcbfjmbaa
