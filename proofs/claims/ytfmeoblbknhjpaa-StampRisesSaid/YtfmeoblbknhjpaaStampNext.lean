/-
  stamp: Next, of the program and of the document.
-/
import Derived.Test.YtfmeoblbknhjpaaStampCmp
namespace Go.Proofs.Ytfmeoblbknhjpaa
open Go.RowKit
set_option maxRecDepth 100000

theorem nextC_plain (l : St) (now r : Int) : nextS l now r = if chkS l ≠ 0 then (zS, 2) else if chkS ⟨now, 0, r⟩ ≠ 0 then (zS, 2) else if l.t < now then (⟨now, 0, r⟩, 0) else if l.c = 1099511627776 then (zS, 13) else (⟨l.t, l.c + 1, r⟩, 0) := by
  unfold nextS
  by_cases h : chkS l ≠ 0
  · rw [if_pos (.inl h), if_pos h]
  · rw [if_neg h]
    by_cases k : chkS ⟨now, 0, r⟩ ≠ 0
    · rw [if_pos k, if_pos]
      rcases Decidable.em (badN now ∨ badR r) with q | q
      · exact .inr q
      · exfalso
        apply k
        unfold badN badR at q
        exact chkS_of (by simp only; omega)
    · rw [if_neg k, if_neg]
      have k1 := chkS_ok (Classical.not_not.1 k)
      simp only at k1
      rintro (q | q | q)
      · exact h q
      · unfold badN at q; omega
      · unfold badR at q; omega

set_option maxHeartbeats 2000000 in
theorem nextC (l : St) (now r : Int) (w : World) : Calls Try.prog 6 #[.agg #[.int .i64 l.t, .int .i64 l.c, .int .i64 l.r], .int .i64 now, .int .i64 r] w fun e w' => e = .returned (two (nextS l now r)) ∧ Below w.heap.size w w' := by
  have hn := nextC_plain l now r
  have hc := fun W => checkC l W
  have hc2 := fun W => checkC ⟨now, 0, r⟩ W
  have k1 := chkS_cases l
  have k2 := chkS_cases ⟨now, 0, r⟩
  have k3 := fun h => chkS_ok (s := l) h
  generalize nextS l now r = X at hn ⊢
  generalize chkS l = E1 at *
  generalize chkS ⟨now, 0, r⟩ = E2 at *
  obtain ⟨lt, lc, lr⟩ := l
  unfold boxS at hc hc2
  simp only at *
  rcases k1 with rfl | rfl
  rotate_left
  · rw [if_pos (by decide)] at hn
    subst hn
    clear k2 k3 hc2
    go_enter Try.func6, Try.ntmps6
    go_wp2_with fail
    refine (hc _).mono ?_
    rintro e w1 ⟨rfl, rfl⟩
    go_wp2
    exact bodyPost_ret (retS rfl _ _ (w.heap.size + 1) zS _ rfl rfl ((SRow.second w _ zS).alloc _)) rfl ⟨rfl, belowMore (belowMore (below1 w _) _) _⟩
  rw [if_neg (by decide)] at hn
  rcases k2 with rfl | rfl
  rotate_left
  · rw [if_pos (by decide)] at hn
    subst hn
    clear k3
    go_enter Try.func6, Try.ntmps6
    go_wp2_with fail
    refine (hc _).mono ?_
    rintro e w1 ⟨rfl, rfl⟩
    go_wp2_with fail
    refine (hc2 _).mono ?_
    rintro e w1 ⟨rfl, rfl⟩
    go_wp2
    exact bodyPost_ret (retS rfl _ _ (w.heap.size + 1) zS _ rfl rfl ((((SRow.second w _ zS).alloc _).alloc _).alloc _)) rfl ⟨rfl, belowMore (belowMore (belowMore (belowMore (below1 w _) _) _) _) _⟩
  rw [if_neg (by decide)] at hn
  have k4 := k3 rfl
  clear k3
  by_cases h1 : lt < now
  · rw [if_pos h1] at hn
    subst hn
    have g1 : decide (lt < now) = true := by simp [h1]
    clear k4 h1
    go_enter Try.func6, Try.ntmps6
    go_wp2_with fail
    refine (hc _).mono ?_
    rintro e w1 ⟨rfl, rfl⟩
    go_wp2_with fail
    refine (hc2 _).mono ?_
    rintro e w1 ⟨rfl, rfl⟩
    go_wp2
    exact bodyPost_ret (retS rfl _ _ (w.heap.size + 1) ⟨now, 0, r⟩ _ rfl rfl ((((SRow.second w _ ⟨now, 0, r⟩).alloc _).alloc _).alloc _)) rfl ⟨rfl, belowMore (belowMore (belowMore (belowMore (below1 w _) _) _) _) _⟩
  rw [if_neg h1] at hn
  have g1 : decide (lt < now) = false := by simp; omega
  by_cases h2 : lc = 1099511627776
  · rw [if_pos h2] at hn
    subst hn
    have g2 : (lc == 1099511627776) = true := by simp [h2]
    clear k4 h1 h2
    go_enter Try.func6, Try.ntmps6
    go_wp2_with fail
    refine (hc _).mono ?_
    rintro e w1 ⟨rfl, rfl⟩
    go_wp2_with fail
    refine (hc2 _).mono ?_
    rintro e w1 ⟨rfl, rfl⟩
    go_wp2
    exact bodyPost_ret (retS rfl _ _ (w.heap.size + 1) zS _ rfl rfl ((((SRow.second w _ zS).alloc _).alloc _).alloc _)) rfl ⟨rfl, belowMore (belowMore (belowMore (belowMore (below1 w _) _) _) _) _⟩
  rw [if_neg h2] at hn
  have g2 : (lc == 1099511627776) = false := by simp [h2]
  have h3 : 0 ≤ lc ∧ lc ≤ 1099511627776 := ⟨k4.2.2.1, k4.2.2.2.1⟩
  clear k4
  subst hn
  clear h1 h2
  go_enter Try.func6, Try.ntmps6
  go_wp2_with fail
  refine (hc _).mono ?_
  rintro e w1 ⟨rfl, rfl⟩
  go_wp2_with fail
  refine (hc2 _).mono ?_
  rintro e w1 ⟨rfl, rfl⟩
  go_wp2
  go_region
  go_wp2
  exact bodyPost_ret (retS rfl _ _ (w.heap.size + 1) ⟨lt, lc + 1, r⟩ _ rfl rfl ((((SRow.second w _ ⟨lt, lc + 1, r⟩).alloc _).alloc _).alloc _)) rfl ⟨rfl, belowDrew (belowMore (belowMore (belowMore (belowMore (below1 w _) _) _) _) _)⟩

set_option maxHeartbeats 4000000 in
theorem nextR (l : St) (now r : Int) (w : World) : Calls Try.prog 7 #[.agg #[.int .i64 l.t, .int .i64 l.c, .int .i64 l.r], .int .i64 now, .int .i64 r] w fun e w' => e = .returned (two (nextS l now r)) ∧ Below w.heap.size w w' := by
  have hc := fun W => checkR l W
  have k3 := fun h => chkS_ok (s := l) h
  have hb : ∃ b0 b1 b2 b3 b4 : Bool, (chkS l != 0) = b0 ∧ decide (now < 0) = b1 ∧ decide ((1099511627776 : Int) < now) = b2 ∧ decide (r < 0) = b3 ∧ decide ((15 : Int) < r) = b4 ∧
      nextS l now r = if (b0 || b1 || b2 || b3 || b4) = true then (zS, 2) else if l.t < now then (⟨now, 0, r⟩, 0) else if l.c = 1099511627776 then (zS, 13) else (⟨l.t, l.c + 1, r⟩, 0) := by
    refine ⟨_, _, _, _, _, rfl, rfl, rfl, rfl, rfl, ?_⟩
    unfold nextS badN badR
    congr 1
    simp only [Bool.or_eq_true, decide_eq_true_eq, bne_iff_ne, ne_eq]
    exact propext ⟨by omega, by omega⟩
  obtain ⟨b0, b1, b2, b3, b4, e0, e1, e2, e3, e4, hn⟩ := hb
  have k4 : b0 = false → 0 ≤ l.c ∧ l.c ≤ 1099511627776 := fun h => by
    subst h
    have := k3 (by simpa using e0)
    exact ⟨this.2.2.1, this.2.2.2.1⟩
  clear k3
  generalize nextS l now r = X at hn ⊢
  generalize chkS l = E1 at *
  obtain ⟨lt, lc, lr⟩ := l
  unfold boxS at hc
  simp only at *
  have fin : X = (zS, 2) → (b0 || b1 || b2 || b3 || b4) = true → Calls Try.prog 7 #[.agg #[.int .i64 lt, .int .i64 lc, .int .i64 lr], .int .i64 now, .int .i64 r] w fun e w' => e = .returned (two X) ∧ Below w.heap.size w w' := by
    rintro rfl hz
    clear hn k4
    cases b0
    rotate_left
    · clear hz
      go_enter Try.func7, Try.ntmps7
      go_wp2_with fail
      refine (hc _).mono ?_
      rintro e w1 ⟨rfl, rfl⟩
      go_wp2
      exact bodyPost_ret (retS rfl _ _ (w.heap.size + 1) zS _ rfl rfl ((SRow.second w _ zS).alloc _)) rfl ⟨rfl, belowMore (belowMore (below1 w _) _) _⟩
    cases b1
    rotate_left
    · clear hz
      go_enter Try.func7, Try.ntmps7
      go_wp2_with fail
      refine (hc _).mono ?_
      rintro e w1 ⟨rfl, rfl⟩
      go_wp2
      exact bodyPost_ret (retS rfl _ _ (w.heap.size + 1) zS _ rfl rfl ((SRow.second w _ zS).alloc _)) rfl ⟨rfl, belowMore (belowMore (below1 w _) _) _⟩
    cases b2
    rotate_left
    · clear hz
      go_enter Try.func7, Try.ntmps7
      go_wp2_with fail
      refine (hc _).mono ?_
      rintro e w1 ⟨rfl, rfl⟩
      go_wp2
      exact bodyPost_ret (retS rfl _ _ (w.heap.size + 1) zS _ rfl rfl ((SRow.second w _ zS).alloc _)) rfl ⟨rfl, belowMore (belowMore (below1 w _) _) _⟩
    cases b3
    rotate_left
    · clear hz
      go_enter Try.func7, Try.ntmps7
      go_wp2_with fail
      refine (hc _).mono ?_
      rintro e w1 ⟨rfl, rfl⟩
      go_wp2
      exact bodyPost_ret (retS rfl _ _ (w.heap.size + 1) zS _ rfl rfl ((SRow.second w _ zS).alloc _)) rfl ⟨rfl, belowMore (belowMore (below1 w _) _) _⟩
    cases b4
    · cases hz
    · clear hz
      go_enter Try.func7, Try.ntmps7
      go_wp2_with fail
      refine (hc _).mono ?_
      rintro e w1 ⟨rfl, rfl⟩
      go_wp2
      exact bodyPost_ret (retS rfl _ _ (w.heap.size + 1) zS _ rfl rfl ((SRow.second w _ zS).alloc _)) rfl ⟨rfl, belowMore (belowMore (below1 w _) _) _⟩
  by_cases hz : (b0 || b1 || b2 || b3 || b4) = true
  · exact fin (by rw [hn, if_pos hz]) hz
  rw [if_neg hz] at hn
  clear fin
  obtain ⟨rfl, rfl, rfl, rfl, rfl⟩ : b0 = false ∧ b1 = false ∧ b2 = false ∧ b3 = false ∧ b4 = false := by
    revert hz; cases b0 <;> cases b1 <;> cases b2 <;> cases b3 <;> cases b4 <;> simp
  have h3 := k4 rfl
  clear hz k4
  by_cases h1 : lt < now
  · rw [if_pos h1] at hn
    subst hn
    have g1 : decide (lt < now) = true := by simp [h1]
    clear h1
    go_enter Try.func7, Try.ntmps7
    go_wp2_with fail
    refine (hc _).mono ?_
    rintro e w1 ⟨rfl, rfl⟩
    go_wp2
    exact bodyPost_ret (retS rfl _ _ (w.heap.size + 1) ⟨now, 0, r⟩ _ rfl rfl ((SRow.second w _ ⟨now, 0, r⟩).alloc _)) rfl ⟨rfl, belowMore (belowMore (below1 w _) _) _⟩
  rw [if_neg h1] at hn
  have g1 : decide (lt < now) = false := by simp; omega
  by_cases h2 : lc = 1099511627776
  · rw [if_pos h2] at hn
    subst hn
    have g2 : (lc == 1099511627776) = true := by simp [h2]
    clear h1 h2 h3
    go_enter Try.func7, Try.ntmps7
    go_wp2_with fail
    refine (hc _).mono ?_
    rintro e w1 ⟨rfl, rfl⟩
    go_wp2
    exact bodyPost_ret (retS rfl _ _ (w.heap.size + 1) zS _ rfl rfl ((SRow.second w _ zS).alloc _)) rfl ⟨rfl, belowMore (belowMore (below1 w _) _) _⟩
  rw [if_neg h2] at hn
  have g2 : (lc == 1099511627776) = false := by simp [h2]
  subst hn
  clear h1 h2
  go_enter Try.func7, Try.ntmps7
  go_wp2_with fail
  refine (hc _).mono ?_
  rintro e w1 ⟨rfl, rfl⟩
  go_wp2
  exact bodyPost_ret (retS rfl _ _ (w.heap.size + 1) ⟨lt, lc + 1, r⟩ _ rfl rfl ((SRow.second w _ ⟨lt, lc + 1, r⟩).alloc _)) rfl ⟨rfl, belowMore (belowMore (below1 w _) _) _⟩
end Go.Proofs.Ytfmeoblbknhjpaa
