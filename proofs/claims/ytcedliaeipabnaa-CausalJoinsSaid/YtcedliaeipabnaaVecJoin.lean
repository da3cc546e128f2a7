/-
  Join, Meet: the program's, and the document's.
-/
import Derived.Test.YtcedliaeipabnaaGCauC
import Derived.RegionTactic
import Derived.BigRegion
namespace Go.Proofs.Ytcedliaeipabnaa
set_option maxRecDepth 100000
open Go.RowKit

theorem three_rows (w : World) (a b : Vc) : VRow (((w.alloc (.cells (ics a) 23)).alloc (.cells (ics b) 23)).alloc (.cells (ics zV) 23)) w.heap.size a ∧
    VRow (((w.alloc (.cells (ics a) 23)).alloc (.cells (ics b) 23)).alloc (.cells (ics zV) 23)) (w.heap.size + 1) b ∧
    VRow (((w.alloc (.cells (ics a) 23)).alloc (.cells (ics b) 23)).alloc (.cells (ics zV) 23)) (w.heap.size + 2) zV ∧
    Below w.heap.size w (((w.alloc (.cells (ics a) 23)).alloc (.cells (ics b) 23)).alloc (.cells (ics zV) 23)) := by
  have e1 : (w.alloc (.cells (ics a) 23)).heap.size = w.heap.size + 1 := by simp
  have e2 : ((w.alloc (.cells (ics a) 23)).alloc (.cells (ics b) 23)).heap.size = w.heap.size + 2 := by simp
  have h0 := VRow.new w a
  have h1 := VRow.new (w.alloc (.cells (ics a) 23)) b
  have h2 := VRow.new ((w.alloc (.cells (ics a) 23)).alloc (.cells (ics b) 23)) zV
  rw [e1] at h1
  rw [e2] at h2
  exact ⟨(h0.alloc _).alloc _, h1.alloc _, h2, (((Below.refl _ _).alloc (Nat.le_refl _) _).alloc (by simp) _).alloc (by simp; omega) _⟩

set_option maxHeartbeats 4000000 in
set_option maxRecDepth 100000 in
theorem vjoinC (a b : Vc) (ha : a.length = 16) (hb : b.length = 16) (w : World) : Calls Try.prog 41 #[.agg (ics a), .agg (ics b)] w fun e w' => e = .returned (.agg (ics (joinV a b))) ∧ Below w.heap.size w w' := by
  have HA := Lib.hid ha
  have HB := Lib.hid hb
  have HW := Lib.hid (three_rows w a b)
  clear ha hb
  go_enter Try.func41, Try.ntmps41
  go_wp2_with ((with_reducible refine vl_load ?_ (.tmp 3) ?_ (w.heap.size + 1) b ?_ ?_ ?_ ?_); rfl; rfl; rfl; exact HW.out.2.1; exact HB.out)
  go_loopw [8] (fun i wr => ∃ k : Nat, i = .int .i64 k ∧ k ≤ 16 ∧ VRow wr w.heap.size (mixJ a b k) ∧ VRow wr (w.heap.size + 2) zV ∧ Below w.heap.size w wr) (fun i _ => 16 - (intOf i).toNat)
  case atStart => exact ⟨0, rfl, by omega, by rw [mixJ_zero]; exact HW.out.1, HW.out.2.2.1, HW.out.2.2.2⟩
  case round =>
    rename_i wr
    obtain ⟨k, rfl, hk, r0, r2, rB⟩ := hrel
    by_cases hlt : k < 16
    · have hix := fun W => indexV HB.out k hlt W
      have hcell := r0.cell k (by rw [mixJ_len HA.out HB.out]; exact hlt)
      rw [mixJ_at HA.out HB.out hlt] at hcell
      have hfree := r0.free k
      have hz := r0.lt
      have HS := Lib.hid (mixJ_succ HA.out HB.out hlt)
      have R0 := Lib.hid r0
      have R2 := Lib.hid r2
      have RB := Lib.hid rB
      clear r0 r2 rB
      generalize a.getD k 0 = x at *
      generalize b.getD k 0 = y at *
      go_wp2_with fail
      go_roundw
      case rel => exact ⟨k + 1, by go_num, by omega, by rw [HS.out]; exact R0.out.set k _, R2.out.other (by omega) _ _, RB.out.setCell (Nat.le_refl _) _⟩
      case measure => simp [intOf]; omega
    · obtain rfl : k = 16 := by omega
      rw [mixJ_all HA.out HB.out] at r0
      have hj := joinV_len HA.out HB.out
      generalize hjj : joinV a b = j at *
      have HJJ := Lib.hid hjj
      have HJ := Lib.hid hj
      clear hjj
      have R0 := Lib.hid r0
      have R2 := Lib.hid r2
      have RB := Lib.hid rB
      clear r0 r2 rB hj
      go_wp2_with (first
        | ((with_reducible refine vl_load ?_ (.tmp 2) ?_ w.heap.size j ?_ ?_ ?_ ?_); rfl; rfl; rfl; exact R0.out; exact HJ.out)
        | ((with_reducible refine vl_store ?_ (.tmp 4) (.tmp 20) ?_ (w.heap.size + 2) j ?_ ?_ ?_ ?_ ?_); rfl; rfl; rfl; rfl; exact ⟨_, R2.out, by rw [HJ.out]; rfl⟩; exact HJ.out))
      exact bodyPost_ret (results_cell_row rfl _ _ _ _ _ (0, 0) (.array 16 3) rfl (setRow_heap _ _ _ _ _ _ R2.out) Try.underlying23 rfl (infoV HJ.out)) rfl ⟨by rw [HJJ.out], belowRow RB.out (by omega) _⟩

set_option maxHeartbeats 4000000 in
set_option maxRecDepth 100000 in
theorem vjoinR (a b : Vc) (ha : a.length = 16) (hb : b.length = 16) (w : World) : Calls Try.prog 42 #[.agg (ics a), .agg (ics b)] w fun e w' => e = .returned (.agg (ics (joinV a b))) ∧ Below w.heap.size w w' := by
  have HA := Lib.hid ha
  have HB := Lib.hid hb
  have HW := Lib.hid (three_rows w a b)
  clear ha hb
  go_enter Try.func42, Try.ntmps42
  go_wp2_with fail
  go_loopw [5] (fun i wr => ∃ k : Nat, i = .int .i64 k ∧ k ≤ 16 ∧ VRow wr w.heap.size (mixJ a b k) ∧ VRow wr (w.heap.size + 1) b ∧ VRow wr (w.heap.size + 2) zV ∧ Below w.heap.size w wr) (fun i _ => 16 - (intOf i).toNat)
  case atStart => exact ⟨0, rfl, by omega, by rw [mixJ_zero]; exact HW.out.1, HW.out.2.1, HW.out.2.2.1, HW.out.2.2.2⟩
  case round =>
    rename_i wr
    obtain ⟨k, rfl, hk, r0, r1, r2, rB⟩ := hrel
    by_cases hlt : k < 16
    · have hcell := r0.cell k (by rw [mixJ_len HA.out HB.out]; exact hlt)
      rw [mixJ_at HA.out HB.out hlt] at hcell
      have hcellb := r1.cell k (by rw [HB.out]; exact hlt)
      have hfree := r0.free k
      have hz := r0.lt
      have hz1 := r1.lt
      have HS := Lib.hid (mixJ_succ HA.out HB.out hlt)
      have R0 := Lib.hid r0
      have R1 := Lib.hid r1
      have R2 := Lib.hid r2
      have RB := Lib.hid rB
      clear r0 r1 r2 rB
      generalize a.getD k 0 = x at *
      generalize b.getD k 0 = y at *
      go_wp2_with fail
      go_region
      go_wp2_with fail
      go_roundw
      case rel => exact ⟨k + 1, by go_num, by omega, by rw [HS.out]; exact (R0.out.set k _).drew, (R1.out.other (by omega) _ _).drew, (R2.out.other (by omega) _ _).drew, (RB.out.setCell (Nat.le_refl _) _).drew⟩
      case measure => simp [intOf]; omega
    · obtain rfl : k = 16 := by omega
      rw [mixJ_all HA.out HB.out] at r0
      have hj := joinV_len HA.out HB.out
      generalize hjj : joinV a b = j at *
      have HJJ := Lib.hid hjj
      have HJ := Lib.hid hj
      clear hjj
      have R0 := Lib.hid r0
      have R2 := Lib.hid r2
      have RB := Lib.hid rB
      clear r0 r1 r2 rB hj
      go_wp2_with (first
        | ((with_reducible refine vl_load ?_ (.tmp 2) ?_ w.heap.size j ?_ ?_ ?_ ?_); rfl; rfl; rfl; exact R0.out; exact HJ.out)
        | ((with_reducible refine vl_store ?_ (.tmp 4) (.tmp 19) ?_ (w.heap.size + 2) j ?_ ?_ ?_ ?_ ?_); rfl; rfl; rfl; rfl; exact ⟨_, R2.out, by rw [HJ.out]; rfl⟩; exact HJ.out))
      exact bodyPost_ret (results_cell_row rfl _ _ _ _ _ (0, 0) (.array 16 3) rfl (setRow_heap _ _ _ _ _ _ R2.out) Try.underlying23 rfl (infoV HJ.out)) rfl ⟨by rw [HJJ.out], belowRow RB.out (by omega) _⟩

end Go.Proofs.Ytcedliaeipabnaa
