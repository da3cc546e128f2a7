/-
  A name by value: Check, of the program and of the document.
-/
import Derived.Test.YtoiafhbembhppaaDotPlain
import Derived.Test.YtoiafhbembhppaaBase
namespace Go.Proofs.Ytoiafhbembhppaa
open Go.RowKit

def dcs (d : Dt) : List Value := [.int .i64 d.1, .int .i64 d.2]
def dv (d : Dt) : Value := .agg #[.int .i64 d.1, .int .i64 d.2]

def boxD (w : World) (d : Dt) : World := w.alloc (.cells #[.int .i64 d.1, .int .i64 d.2] 31)
theorem boxD_below (w : World) (d : Dt) : Below w.heap.size w (boxD w d) := (Below.refl _ _).alloc (Nat.le_refl _) _
theorem boxD_size (w : World) (d : Dt) : (boxD w d).heap.size = w.heap.size + 1 := by simp [boxD]
theorem boxD2_below (w : World) (a b : Dt) : Below w.heap.size w (boxD (boxD w a) b) := (boxD_below w a).trans ((boxD_below _ b).mono (by rw [boxD_size]; omega))

set_option maxHeartbeats 1000000 in
set_option maxRecDepth 100000 in
theorem checkC (d : Dt) (w : World) : Calls Try.prog 10 #[.agg #[.int .i64 d.1, .int .i64 d.2]] w fun e w' => e = .returned (.int .i64 (chkD d)) ∧ boxD w d = w' := by
  obtain ⟨r, n⟩ := d
  have hd : chkD (r, n) = if r < 0 ∨ 15 < r ∨ n < 1 ∨ 1099511627776 < n then 2 else 0 := rfl
  unfold boxD
  simp only at *
  by_cases h0 : r < 0
  · rw [if_pos (.inl h0)] at hd
    rw [hd]; clear hd
    go_enter Try.func10, Try.ntmps10
    go_wp2
    go_ret
    exact ⟨rfl, rfl⟩
  · have g0 : decide (r < 0) = false := by simp; omega
    by_cases h1 : 15 < r
    · rw [if_pos (.inr (.inl h1))] at hd
      rw [hd]; clear hd
      have g1 : decide ((16 : Int) ≤ r) = true := by simp; omega
      go_enter Try.func10, Try.ntmps10
      go_wp2
      go_ret
      exact ⟨rfl, rfl⟩
    · have g1 : decide ((16 : Int) ≤ r) = false := by simp; omega
      by_cases h2 : n < 1
      · rw [if_pos (.inr (.inr (.inl h2)))] at hd
        rw [hd]; clear hd
        have g2 : decide (n < 1) = true := by simp; omega
        go_enter Try.func10, Try.ntmps10
        go_wp2
        go_ret
        exact ⟨rfl, rfl⟩
      · have g2 : decide (n < 1) = false := by simp; omega
        by_cases h3 : 1099511627776 < n
        · rw [if_pos (.inr (.inr (.inr h3)))] at hd
          rw [hd]; clear hd
          have g3 : decide ((1099511627776 : Int) < n) = true := by simp; omega
          go_enter Try.func10, Try.ntmps10
          go_wp2
          go_ret
          exact ⟨rfl, rfl⟩
        · rw [if_neg (by omega)] at hd
          rw [hd]; clear hd
          have g3 : decide ((1099511627776 : Int) < n) = false := by simp; omega
          go_enter Try.func10, Try.ntmps10
          go_wp2
          go_ret
          exact ⟨rfl, rfl⟩

set_option maxHeartbeats 1000000 in
set_option maxRecDepth 100000 in
theorem checkR (d : Dt) (w : World) : Calls Try.prog 11 #[.agg #[.int .i64 d.1, .int .i64 d.2]] w fun e w' => e = .returned (.int .i64 (chkD d)) ∧ boxD w d = w' := by
  obtain ⟨r, n⟩ := d
  have hd : chkD (r, n) = if r < 0 ∨ 15 < r ∨ n < 1 ∨ 1099511627776 < n then 2 else 0 := rfl
  unfold boxD
  simp only at *
  by_cases h0 : r < 0
  · rw [if_pos (.inl h0)] at hd
    rw [hd]; clear hd
    go_enter Try.func11, Try.ntmps11
    go_wp2
    go_ret
    exact ⟨rfl, rfl⟩
  · have g0 : decide (r < 0) = false := by simp; omega
    by_cases h1 : 15 < r
    · rw [if_pos (.inr (.inl h1))] at hd
      rw [hd]; clear hd
      have g1 : decide ((15 : Int) < r) = true := by simp; omega
      go_enter Try.func11, Try.ntmps11
      go_wp2
      go_ret
      exact ⟨rfl, rfl⟩
    · have g1 : decide ((15 : Int) < r) = false := by simp; omega
      by_cases h2 : n < 1
      · rw [if_pos (.inr (.inr (.inl h2)))] at hd
        rw [hd]; clear hd
        have g2 : decide (n < 1) = true := by simp; omega
        go_enter Try.func11, Try.ntmps11
        go_wp2
        go_ret
        exact ⟨rfl, rfl⟩
      · have g2 : decide (n < 1) = false := by simp; omega
        by_cases h3 : 1099511627776 < n
        · rw [if_pos (.inr (.inr (.inr h3)))] at hd
          rw [hd]; clear hd
          have g3 : decide ((1099511627776 : Int) < n) = true := by simp; omega
          go_enter Try.func11, Try.ntmps11
          go_wp2
          go_ret
          exact ⟨rfl, rfl⟩
        · rw [if_neg (by omega)] at hd
          rw [hd]; clear hd
          have g3 : decide ((1099511627776 : Int) < n) = false := by simp; omega
          go_enter Try.func11, Try.ntmps11
          go_wp2
          go_ret
          exact ⟨rfl, rfl⟩
end Go.Proofs.Ytoiafhbembhppaa
