/-
  Check, Less, order, of the program; Check, Less, of the document.
-/
import Derived.Test.YtoiafhbembhppaaDotRow
import Derived.Shelf.SlSortCmp.QuietGrown
import Derived.Deep.Cut
import Derived.Deep.DeepCutAuto
import Derived.Test.YtoiafhbembhppaaDotOne
namespace Go.Proofs.Ytoiafhbembhppaa
set_option maxRecDepth 100000
open Go.RowKit Go.Sort

set_option maxHeartbeats 1000000 in
set_option maxRecDepth 100000 in
theorem lessC (a b : Dt) (w : World) : Calls Try.prog 12 #[.agg #[.int .i64 a.1, .int .i64 a.2], .agg #[.int .i64 b.1, .int .i64 b.2]] w fun e w' => e = .returned (.bool (ltD a b)) ∧ boxD (boxD w a) b = w' := by
  obtain ⟨r, n⟩ := a
  obtain ⟨s, m⟩ := b
  have hl : ltD (r, n) (s, m) = (decide (r < s) || (decide (r = s) && decide (n < m))) := rfl
  unfold boxD
  simp only at *
  by_cases h : r = s
  · subst h
    have h1 : (r != r) = false := by simp
    have h2 : ltD (r, n) (r, m) = decide (n < m) := by rw [hl]; simp
    rw [h2]; clear h2 hl
    go_enter Try.func12, Try.ntmps12
    go_wp2
    go_ret
    exact ⟨rfl, rfl⟩
  · have h1 : (r != s) = true := by simp [h]
    have h2 : ltD (r, n) (s, m) = decide (r < s) := by rw [hl]; simp [h]
    rw [h2]; clear h2 hl
    go_enter Try.func12, Try.ntmps12
    go_wp2
    go_ret
    exact ⟨rfl, rfl⟩

set_option maxHeartbeats 1000000 in
set_option maxRecDepth 100000 in
theorem lessR (a b : Dt) (w : World) : Calls Try.prog 13 #[.agg #[.int .i64 a.1, .int .i64 a.2], .agg #[.int .i64 b.1, .int .i64 b.2]] w fun e w' => e = .returned (.bool (ltD a b)) ∧ boxD (boxD w a) b = w' := by
  obtain ⟨r, n⟩ := a
  obtain ⟨s, m⟩ := b
  have hl : ltD (r, n) (s, m) = (decide (r < s) || (decide (r = s) && decide (n < m))) := rfl
  unfold boxD
  simp only at *
  by_cases h : r < s
  · have h1 : decide (r < s) = true := by simp [h]
    have h2 : ltD (r, n) (s, m) = true := by rw [hl, h1]; rfl
    rw [h2]; clear h2 hl
    go_enter Try.func13, Try.ntmps13
    go_wp2
    go_ret
    exact ⟨rfl, rfl⟩
  · have h1 : decide (r < s) = false := by simp [h]
    by_cases e : r = s
    · have e1 : (r == s) = true := by simp [e]
      have h2 : ltD (r, n) (s, m) = decide (n < m) := by rw [hl, h1]; simp [e]
      rw [h2]; clear h2 hl e
      go_enter Try.func13, Try.ntmps13
      go_wp2
      go_ret
      exact ⟨rfl, rfl⟩
    · have e1 : (r == s) = false := by simp [e]
      have h2 : ltD (r, n) (s, m) = false := by rw [hl, h1]; simp [e]
      rw [h2]; clear h2 hl e
      go_enter Try.func13, Try.ntmps13
      go_wp2
      go_ret
      exact ⟨rfl, rfl⟩

/-- what order answers -/
def cmpD (a b : Dt) : Int := if a = b then 0 else if ltD a b = true then -1 else 1

set_option maxHeartbeats 1000000 in
set_option maxRecDepth 100000 in
theorem orderC (a b : Dt) (w : World) : Calls Try.prog 35 #[.agg #[.int .i64 a.1, .int .i64 a.2], .agg #[.int .i64 b.1, .int .i64 b.2]] w fun e w' => e = .returned (.int .i64 (cmpD a b)) ∧ ∃ q os, w' = grow (w.drewN q) os := by
  have hq := eqD a b
  have hl := fun W => lessC a b W
  unfold boxD at hl
  have hc : cmpD a b = if a = b then 0 else if ltD a b = true then -1 else 1 := rfl
  generalize cmpD a b = c at hc ⊢
  generalize ltD a b = l at hl hc
  by_cases h : a = b
  · rw [if_pos h] at hc
    have hdb : decide (a = b) = true := by simp [h]
    rw [hdb] at hq
    subst hc
    clear h hdb hl
    obtain ⟨r, n⟩ := a
    obtain ⟨s, m⟩ := b
    simp only at *
    go_enter Try.func35, Try.ntmps35
    go_wp2
    go_ret
    exact ⟨rfl, 0, _, by rw [alloc_eq_grow, alloc_eq_grow, grow_grow]; rfl⟩
  · rw [if_neg h] at hc
    have hdb : decide (a = b) = false := by simp [h]
    rw [hdb] at hq
    clear h hdb
    obtain ⟨r, n⟩ := a
    obtain ⟨s, m⟩ := b
    simp only at *
    cases l with
    | true =>
      obtain rfl : c = -1 := by rw [hc]; rfl
      go_enter Try.func35, Try.ntmps35
      go_wp2_with fail
      refine (hl _).mono ?_
      rintro e w1 ⟨rfl, rfl⟩
      go_wp2
      go_ret
      exact ⟨rfl, 0, _, by rw [alloc_eq_grow, alloc_eq_grow, alloc_eq_grow, alloc_eq_grow, grow_grow, grow_grow, grow_grow]; rfl⟩
    | false =>
      obtain rfl : c = 1 := by rw [hc]; rfl
      go_enter Try.func35, Try.ntmps35
      go_wp2_with fail
      refine (hl _).mono ?_
      rintro e w1 ⟨rfl, rfl⟩
      go_wp2
      go_ret
      exact ⟨rfl, 0, _, by rw [alloc_eq_grow, alloc_eq_grow, alloc_eq_grow, alloc_eq_grow, grow_grow, grow_grow, grow_grow]; rfl⟩
end Go.Proofs.Ytoiafhbembhppaa
