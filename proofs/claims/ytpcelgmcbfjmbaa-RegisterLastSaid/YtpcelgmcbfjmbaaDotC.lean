/-
  Check, Less, order, of the program; Check, Less, of the document.
-/
import Derived.Test.YtpcelgmcbfjmbaaDotRow
import Derived.Shelf.SlSortCmp.QuietGrown
import Derived.Deep.Cut
import Derived.Deep.DeepCutAuto
import Derived.Test.YtpcelgmcbfjmbaaDotOne
namespace Go.Proofs.Ytpcelgmcbfjmbaa
set_option maxRecDepth 100000
open Go.RowKit Go.Sort

set_option maxHeartbeats 1000000 in
set_option maxRecDepth 100000 in
theorem lessC (a b : Dt) (w : World) : Calls Try.prog 70 #[.agg #[.int .i64 a.1, .int .i64 a.2], .agg #[.int .i64 b.1, .int .i64 b.2]] w fun e w' => e = .returned (.bool (ltD a b)) ∧ boxD (boxD w a) b = w' := by
  obtain ⟨r, n⟩ := a
  obtain ⟨s, m⟩ := b
  have hl : ltD (r, n) (s, m) = (decide (r < s) || (decide (r = s) && decide (n < m))) := rfl
  unfold boxD
  simp only at *
  by_cases h : r = s
  · subst h
    have h1 : (r != r) = false := by simp
    have h2 : ltD (r, n) (r, m) = decide (n < m) := by rw [hl]; simp
    rw [h2]; clear h2 hl
    go_enter Try.func70, Try.ntmps70
    go_wp2
    go_ret
    exact ⟨rfl, rfl⟩
  · have h1 : (r != s) = true := by simp [h]
    have h2 : ltD (r, n) (s, m) = decide (r < s) := by rw [hl]; simp [h]
    rw [h2]; clear h2 hl
    go_enter Try.func70, Try.ntmps70
    go_wp2
    go_ret
    exact ⟨rfl, rfl⟩

set_option maxHeartbeats 1000000 in
set_option maxRecDepth 100000 in
theorem lessR (a b : Dt) (w : World) : Calls Try.prog 41 #[.agg #[.int .i64 a.1, .int .i64 a.2], .agg #[.int .i64 b.1, .int .i64 b.2]] w fun e w' => e = .returned (.bool (ltD a b)) ∧ boxD (boxD w a) b = w' := by
  obtain ⟨r, n⟩ := a
  obtain ⟨s, m⟩ := b
  have hl : ltD (r, n) (s, m) = (decide (r < s) || (decide (r = s) && decide (n < m))) := rfl
  unfold boxD
  simp only at *
  by_cases h : r < s
  · have h1 : decide (r < s) = true := by simp [h]
    have h2 : ltD (r, n) (s, m) = true := by rw [hl, h1]; rfl
    rw [h2]; clear h2 hl
    go_enter Try.func41, Try.ntmps41
    go_wp2
    go_ret
    exact ⟨rfl, rfl⟩
  · have h1 : decide (r < s) = false := by simp [h]
    by_cases e : r = s
    · have e1 : (r == s) = true := by simp [e]
      have h2 : ltD (r, n) (s, m) = decide (n < m) := by rw [hl, h1]; simp [e]
      rw [h2]; clear h2 hl e
      go_enter Try.func41, Try.ntmps41
      go_wp2
      go_ret
      exact ⟨rfl, rfl⟩
    · have e1 : (r == s) = false := by simp [e]
      have h2 : ltD (r, n) (s, m) = false := by rw [hl, h1]; simp [e]
      rw [h2]; clear h2 hl e
      go_enter Try.func41, Try.ntmps41
      go_wp2
      go_ret
      exact ⟨rfl, rfl⟩

/-- what order answers -/
def cmpD (a b : Dt) : Int := if a = b then 0 else if ltD a b = true then -1 else 1

theorem lessCb (a b : Dt) (w : World) : Calls Try.prog 70 #[.agg #[.int .i64 a.1, .int .i64 a.2], .agg #[.int .i64 b.1, .int .i64 b.2]] w fun e w' => e = .returned (.bool (ltD a b)) ∧ Go.RowKit.Below w.heap.size w w' :=
  (lessC a b w).mono fun _ _ ⟨he, hw⟩ => ⟨he, by rw [← hw]; exact boxD2_below w a b⟩
theorem lessRb (a b : Dt) (w : World) : Calls Try.prog 41 #[.agg #[.int .i64 a.1, .int .i64 a.2], .agg #[.int .i64 b.1, .int .i64 b.2]] w fun e w' => e = .returned (.bool (ltD a b)) ∧ Go.RowKit.Below w.heap.size w w' :=
  (lessR a b w).mono fun _ _ ⟨he, hw⟩ => ⟨he, by rw [← hw]; exact boxD2_below w a b⟩
end Go.Proofs.Ytpcelgmcbfjmbaa
