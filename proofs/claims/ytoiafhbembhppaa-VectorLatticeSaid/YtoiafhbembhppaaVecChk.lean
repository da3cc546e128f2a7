/-
  Check of vectors: the program's, and the document's.
-/
import Derived.Test.YtoiafhbembhppaaVecRow
namespace Go.Proofs.Ytoiafhbembhppaa
set_option maxRecDepth 100000
open Go.RowKit

abbrev boxV (w : World) (l : Vc) : World := w.alloc (.cells (ics l) 39)
theorem boxV_below (w : World) (l : Vc) : Below w.heap.size w (boxV w l) := (Below.refl _ _).alloc (Nat.le_refl _) _
theorem boxV_size (w : World) (l : Vc) : (boxV w l).heap.size = w.heap.size + 1 := by simp [boxV]

set_option maxHeartbeats 4000000 in
set_option maxRecDepth 100000 in
theorem vchkC (l : Vc) (hl : l.length = 16) (w : World) : Calls Try.prog 17 #[.agg (ics l)] w fun e w' => e = .returned (.int .i64 (chkV l)) ∧ Below w.heap.size w w' := by
  have HL := Lib.hid hl
  have HN := Lib.hid (VRow.new w l)
  have HB := Lib.hid (boxV_below w l)
  have HG := Lib.hid (fun h => chkV_all (l := l) (by rw [hl]; exact h))
  have HD := Lib.hid (fun k (hk : k < 16) => chkV_bad (l := l) (k := k) (by rw [hl]; exact hk))
  clear hl
  generalize hc : chkV l = c at *
  clear hc
  go_enter Try.func17, Try.ntmps17
  go_wp2_with (first
    | ((with_reducible refine wl_box ?_ 39 (.tmp 0) ?_ (ics l) ?_ ?_); rfl; rfl; rfl)
    | ((with_reducible refine vl_load ?_ (.tmp 1) ?_ w.heap.size l ?_ ?_ ?_ ?_); rfl; rfl; rfl; exact HN.out; exact HL.out))
  go_loop [6] (fun i => ∃ k : Nat, i = .int .i64 k ∧ k ≤ 16 ∧ Hid (∀ j, j < k → okN (l.getD j 0))) (fun i => 16 - (intOf i).toNat)
  case atStart => exact ⟨0, rfl, by omega, Lib.hid (fun j hj => by omega)⟩
  case round =>
    obtain ⟨k, rfl, hk, hall⟩ := hrel
    by_cases hlt : k < 16
    · have hix := fun W => indexV HL.out k hlt W
      have HDk := Lib.hid (HD.out k hlt)
      have HK := Lib.hid (fun (h : okN (l.getD k 0)) j (hj : j < k + 1) => show okN (l.getD j 0) by
        by_cases e : j = k
        · subst e; exact h
        · exact hall.out j (by omega))
      clear hall
      generalize l.getD k 0 = x at hix HDk HK
      by_cases h0 : x < 0
      · have g0 : decide (x < 0) = true := by simp [h0]
        obtain rfl : c = 2 := HDk.out (fun h => by unfold okN at h; omega)
        go_wp2_with fail
        go_ret
        exact ⟨rfl, HB.out⟩
      · have g0 : decide (x < 0) = false := by simp [h0]
        by_cases h1 : 1099511627776 < x
        · have g1 : decide ((1099511627776 : Int) < x) = true := by simp [h1]
          obtain rfl : c = 2 := HDk.out (fun h => by unfold okN at h; omega)
          go_wp2_with fail
          go_ret
          exact ⟨rfl, HB.out⟩
        · have g1 : decide ((1099511627776 : Int) < x) = false := by simp [h1]
          have HK2 := Lib.hid (HK.out (by unfold okN; omega))
          clear HK
          go_wp2_with fail
          go_round
          case rel => exact ⟨k + 1, by go_num, by omega, HK2⟩
          case measure => simp [intOf]; omega
    · obtain rfl : k = 16 := by omega
      obtain rfl : c = 0 := HG.out hall.out
      go_wp2_with fail
      go_ret
      exact ⟨rfl, HB.out⟩

set_option maxHeartbeats 4000000 in
set_option maxRecDepth 100000 in
theorem vchkR (l : Vc) (hl : l.length = 16) (w : World) : Calls Try.prog 18 #[.agg (ics l)] w fun e w' => e = .returned (.int .i64 (chkV l)) ∧ Below w.heap.size w w' := by
  have HL := Lib.hid hl
  have HN := Lib.hid (VRow.new w l)
  have HB := Lib.hid (boxV_below w l)
  have HG := Lib.hid (fun h => chkV_all (l := l) (by rw [hl]; exact h))
  have HD := Lib.hid (fun k (hk : k < 16) => chkV_bad (l := l) (k := k) (by rw [hl]; exact hk))
  have hsz : w.heap.size < (boxV w l).heap.size := by rw [boxV_size]; omega
  clear hl
  generalize hc : chkV l = c at *
  clear hc
  go_enter Try.func18, Try.ntmps18
  go_wp2_with fail
  go_loop [3] (fun i => ∃ k : Nat, i = .int .i64 k ∧ k ≤ 16 ∧ Hid (∀ j, j < k → okN (l.getD j 0))) (fun i => 16 - (intOf i).toNat)
  case atStart => exact ⟨0, rfl, by omega, Lib.hid (fun j hj => by omega)⟩
  case round =>
    obtain ⟨k, rfl, hk, hall⟩ := hrel
    by_cases hlt : k < 16
    · have hix := HN.out.cell k (by rw [HL.out]; exact hlt)
      have HDk := Lib.hid (HD.out k hlt)
      have HK := Lib.hid (fun (h : okN (l.getD k 0)) j (hj : j < k + 1) => show okN (l.getD j 0) by
        by_cases e : j = k
        · subst e; exact h
        · exact hall.out j (by omega))
      clear hall
      generalize l.getD k 0 = x at hix HDk HK
      by_cases h0 : x < 0
      · have g0 : decide (x < 0) = true := by simp [h0]
        obtain rfl : c = 2 := HDk.out (fun h => by unfold okN at h; omega)
        go_wp2_with fail
        go_ret
        exact ⟨rfl, HB.out⟩
      · have g0 : decide (x < 0) = false := by simp [h0]
        by_cases h1 : 1099511627776 < x
        · have g1 : decide ((1099511627776 : Int) < x) = true := by simp [h1]
          obtain rfl : c = 2 := HDk.out (fun h => by unfold okN at h; omega)
          go_wp2_with fail
          go_ret
          exact ⟨rfl, HB.out⟩
        · have g1 : decide ((1099511627776 : Int) < x) = false := by simp [h1]
          have HK2 := Lib.hid (HK.out (by unfold okN; omega))
          clear HK
          go_wp2_with fail
          go_round
          case rel => exact ⟨k + 1, by go_num, by omega, HK2⟩
          case measure => simp [intOf]; omega
    · obtain rfl : k = 16 := by omega
      obtain rfl : c = 0 := HG.out hall.out
      go_wp2_with fail
      go_ret
      exact ⟨rfl, HB.out⟩
end Go.Proofs.Ytoiafhbembhppaa
