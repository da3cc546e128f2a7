/-
  list.Compare of names by dot.Less.
-/
import Derived.Test.YtpcelgmcbfjmbaaDotC
namespace Go.Proofs.Ytpcelgmcbfjmbaa
set_option maxRecDepth 100000
open Go.RowKit Go.Sort

theorem cmpD_lt {a b : Dt} (h : ltD a b = true) : cmpD a b = -1 := by
  unfold cmpD
  rw [if_neg (fun e => by rw [e, ltD_irr] at h; cases h), if_pos h]
theorem cmpD_gt {a b : Dt} (h : ltD b a = true) : cmpD a b = 1 := by
  unfold cmpD
  rw [if_neg (fun e => by rw [e, ltD_irr] at h; cases h), if_neg (by rw [ltD_asym h]; simp)]
theorem cmpD_eq {a b : Dt} (h1 : ltD a b = false) (h2 : ltD b a = false) : cmpD a b = 0 := by
  rcases ltD_tri a b with h | h | h
  · rw [h1] at h; cases h
  · unfold cmpD; rw [if_pos h]
  · rw [h2] at h; cases h

/-- what Compare leaves: the parameters' boxes, and those of the calls -/
def cmpW (w : World) (a b : Dt) : World := if ltD a b = true then boxD (boxD (boxD (boxD w a) b) a) b else boxD (boxD (boxD (boxD (boxD (boxD w a) b) a) b) b) a
set_option maxHeartbeats 1000000 in
theorem compareD (a b : Dt) (w : World) : Calls Try.prog 69 #[.func (.func 70) #[] #[], .agg #[.int .i64 a.1, .int .i64 a.2], .agg #[.int .i64 b.1, .int .i64 b.2]] w fun e w' => e = .returned (.int .i64 (cmpD a b)) ∧ w' = cmpW w a b := by
  have hl := fun W => lessC a b W
  have hm := fun W => lessC b a W
  unfold boxD at hl hm
  unfold cmpW boxD
  by_cases e1 : ltD a b = true
  · rw [cmpD_lt e1, if_pos e1]
    rw [e1] at hl
    clear e1 hm
    obtain ⟨r, n⟩ := a
    obtain ⟨s, m⟩ := b
    simp only at *
    go_enter Try.func69, Try.ntmps69
    go_wp2_with fail
    refine (hl _).mono ?_
    rintro e w1 ⟨rfl, rfl⟩
    go_wp2
    go_ret
    exact ⟨rfl, rfl⟩
  · have e1' : ltD a b = false := by simpa using e1
    rw [if_neg e1]
    by_cases e2 : ltD b a = true
    · rw [cmpD_gt e2]
      rw [e1'] at hl
      rw [e2] at hm
      clear e1 e2 e1'
      obtain ⟨r, n⟩ := a
      obtain ⟨s, m⟩ := b
      simp only at *
      go_enter Try.func69, Try.ntmps69
      go_wp2_with fail
      refine (hl _).mono ?_
      rintro e w1 ⟨rfl, rfl⟩
      go_wp2_with fail
      refine (hm _).mono ?_
      rintro e w1 ⟨rfl, rfl⟩
      go_wp2
      go_ret
      exact ⟨rfl, rfl⟩
    · have e2' : ltD b a = false := by simpa using e2
      rw [cmpD_eq e1' e2']
      rw [e1'] at hl
      rw [e2'] at hm
      clear e1 e2 e1' e2'
      obtain ⟨r, n⟩ := a
      obtain ⟨s, m⟩ := b
      simp only at *
      go_enter Try.func69, Try.ntmps69
      go_wp2_with fail
      refine (hl _).mono ?_
      rintro e w1 ⟨rfl, rfl⟩
      go_wp2_with fail
      refine (hm _).mono ?_
      rintro e w1 ⟨rfl, rfl⟩
      go_wp2
      go_ret
      exact ⟨rfl, rfl⟩
theorem cmpW_below (w : World) (a b : Dt) : Below w.heap.size w (cmpW w a b) := by
  have h1 := boxD2_below w a b
  have h2 := h1.trans ((boxD2_below (boxD (boxD w a) b) a b).mono (by simp [boxD_size]; omega))
  have h3 := h2.trans ((boxD2_below (boxD (boxD (boxD (boxD w a) b) a) b) b a).mono (by simp [boxD_size]; omega))
  unfold cmpW
  split
  · exact h2
  · exact h3
theorem cmpW_grow (w : World) (a b : Dt) : ∃ os, cmpW w a b = grow w os := by
  unfold cmpW boxD
  split
  · exact ⟨_, by rw [alloc_eq_grow, alloc_eq_grow, alloc_eq_grow, alloc_eq_grow, grow_grow, grow_grow, grow_grow]⟩
  · exact ⟨_, by rw [alloc_eq_grow, alloc_eq_grow, alloc_eq_grow, alloc_eq_grow, alloc_eq_grow, alloc_eq_grow, grow_grow, grow_grow, grow_grow, grow_grow, grow_grow]⟩
end Go.Proofs.Ytpcelgmcbfjmbaa
