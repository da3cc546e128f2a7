/-
  Stamps as plain values: what may be, which is less, the next one, and one behind another one that was seen.
-/
import Derived.Test.YtpcelgmcbfjmbaaBase
namespace Go.Proofs.Ytpcelgmcbfjmbaa

structure St where
  t : Int
  c : Int
  r : Int
deriving DecidableEq

def zS : St := ⟨0, 0, 0⟩
def chkS (s : St) : Int := if s.t < 0 ∨ 1099511627776 < s.t ∨ s.c < 0 ∨ 1099511627776 < s.c ∨ s.r < 0 ∨ 15 < s.r then 2 else 0
def ltS (a b : St) : Bool := if a.t ≠ b.t then decide (a.t < b.t) else if a.c ≠ b.c then decide (a.c < b.c) else decide (a.r < b.r)
def badN (now : Int) : Prop := now < 0 ∨ 1099511627776 < now
def badR (r : Int) : Prop := r < 0 ∨ 15 < r
instance (n : Int) : Decidable (badN n) := by unfold badN; infer_instance
instance (n : Int) : Decidable (badR n) := by unfold badR; infer_instance
def nextS (l : St) (now r : Int) : St × Int :=
  if chkS l ≠ 0 ∨ badN now ∨ badR r then (zS, 2) else if l.t < now then (⟨now, 0, r⟩, 0) else if l.c = 1099511627776 then (zS, 13) else (⟨l.t, l.c + 1, r⟩, 0)
/-- the greater of both, by time, then count -/
def topS (a b : St) : St := if a.t < b.t ∨ (a.t = b.t ∧ a.c < b.c) then b else a
def seenS (l o : St) (now : Int) : St × Int :=
  if chkS l ≠ 0 ∨ chkS o ≠ 0 ∨ badN now then (zS, 2) else (if (topS l o).t < now then ⟨now, 0, l.r⟩ else ⟨(topS l o).t, (topS l o).c, l.r⟩, 0)

theorem chkS_cases (s : St) : chkS s = 0 ∨ chkS s = 2 := by unfold chkS; split <;> simp
theorem chkS_ok {s : St} (h : chkS s = 0) : 0 ≤ s.t ∧ s.t ≤ 1099511627776 ∧ 0 ≤ s.c ∧ s.c ≤ 1099511627776 ∧ 0 ≤ s.r ∧ s.r ≤ 15 := by
  unfold chkS at h
  split at h
  · cases h
  · omega
theorem chkS_of {s : St} (h : 0 ≤ s.t ∧ s.t ≤ 1099511627776 ∧ 0 ≤ s.c ∧ s.c ≤ 1099511627776 ∧ 0 ≤ s.r ∧ s.r ≤ 15) : chkS s = 0 := by
  unfold chkS
  rw [if_neg]
  omega
theorem ltS_iff {a b : St} : ltS a b = true ↔ a.t < b.t ∨ (a.t = b.t ∧ (a.c < b.c ∨ (a.c = b.c ∧ a.r < b.r))) := by
  unfold ltS
  split
  · rw [decide_eq_true_eq]; omega
  · split
    · rw [decide_eq_true_eq]; omega
    · rw [decide_eq_true_eq]; omega
theorem ltS_no {a b : St} : ltS a b = false ↔ ¬ (a.t < b.t ∨ (a.t = b.t ∧ (a.c < b.c ∨ (a.c = b.c ∧ a.r < b.r)))) := by
  rw [← ltS_iff]; simp
theorem ltS_irr (a : St) : ltS a a = false := by rw [ltS_no]; omega
theorem ltS_asym {a b : St} (h : ltS a b = true) : ltS b a = false := by rw [ltS_no]; rw [ltS_iff] at h; omega
theorem ltS_trans {a b c : St} (h : ltS a b = true) (k : ltS b c = true) : ltS a c = true := by rw [ltS_iff] at *; omega
theorem ltS_tri (a b : St) : (ltS a b = true ∧ ltS b a = false ∧ decide (a = b) = false) ∨ (ltS a b = false ∧ ltS b a = true ∧ decide (a = b) = false) ∨ (ltS a b = false ∧ ltS b a = false ∧ decide (a = b) = true) := by
  by_cases e : a = b
  · subst e
    exact .inr (.inr ⟨ltS_irr a, ltS_irr a, decide_eq_true rfl⟩)
  · have hd := decide_eq_false e
    rcases hab : ltS a b with _ | _
    · rcases hba : ltS b a with _ | _
      · exfalso
        rw [ltS_no] at hab hba
        apply e
        obtain ⟨t, c, r⟩ := a
        obtain ⟨t', c', r'⟩ := b
        simp only [St.mk.injEq] at *
        omega
      · exact .inr (.inl ⟨rfl, rfl, hd⟩)
    · exact .inl ⟨rfl, ltS_asym hab, hd⟩
theorem topS_le (a b : St) : ((topS a b).t = a.t ∧ (topS a b).c = a.c ∧ (b.t < a.t ∨ (b.t = a.t ∧ b.c ≤ a.c))) ∨ ((topS a b).t = b.t ∧ (topS a b).c = b.c ∧ (a.t < b.t ∨ (a.t = b.t ∧ a.c < b.c))) := by
  unfold topS
  split
  · rename_i h; exact .inr ⟨rfl, rfl, h⟩
  · exact .inl ⟨rfl, rfl, by omega⟩
/-- what was seen may be -/
theorem seenS_ok {l o x : St} {now : Int} (h : seenS l o now = (x, 0)) : chkS x = 0 ∧ x.r = l.r ∧ ¬ badN now ∧ ¬ badR l.r ∧ (l.t < x.t ∨ (l.t = x.t ∧ l.c ≤ x.c)) ∧ (o.t < x.t ∨ (o.t = x.t ∧ o.c ≤ x.c)) ∧ now ≤ x.t := by
  unfold seenS at h
  split at h
  · exact absurd (Prod.ext_iff.1 h).2 (by simp)
  · rename_i hn
    have h1 : chkS l = 0 := Classical.byContradiction fun k => hn (.inl k)
    have h2 : chkS o = 0 := Classical.byContradiction fun k => hn (.inr (.inl k))
    have h3 : ¬ badN now := fun k => hn (.inr (.inr k))
    have k1 := chkS_ok h1
    have k2 := chkS_ok h2
    have hx := (Prod.ext_iff.1 h).1
    have ht := topS_le l o
    have hr : ¬ badR l.r := by unfold badR; omega
    refine ⟨?_, ?_, h3, hr, ?_⟩
    all_goals
      unfold badN at h3
      simp only at hx
      split at hx <;> subst hx
    · exact chkS_of (by simp only; omega)
    · exact chkS_of (by simp only; omega)
    · rfl
    · rfl
    · simp only; omega
    · simp only; omega
/-- the next one is greater than all that were made, and seen -/
theorem nextS_rise {l o x y : St} {now f : Int} (h : seenS l o now = (x, 0)) (k : nextS x now l.r = (y, f)) :
    f = 13 ∨ (f = 0 ∧ ltS l y = true ∧ (o.t < y.t ∨ (o.t = y.t ∧ o.c < y.c)) ∧ y.r = l.r ∧ chkS y = 0) := by
  obtain ⟨h1, h2, h3, h4, h5, h6, h7⟩ := seenS_ok h
  have k1 := chkS_ok h1
  unfold nextS at k
  rw [if_neg (by rintro (e | e | e); exact e h1; exact h3 e; exact h4 e)] at k
  split at k
  · omega
  · split at k
    · exact .inl (Prod.ext_iff.1 k).2.symm
    · have hy := (Prod.ext_iff.1 k).1
      have hf := (Prod.ext_iff.1 k).2
      simp only at hy hf
      subst hy
      refine .inr ⟨hf.symm, ?_, ?_, rfl, ?_⟩
      · rw [ltS_iff]; simp only; omega
      · simp only; omega
      · unfold badR at h4
        exact chkS_of (by simp only; omega)
end Go.Proofs.Ytpcelgmcbfjmbaa
