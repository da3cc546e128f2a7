/-
  Has: the program's, and the document's.
-/
import Derived.Test.YtoiafhbembhppaaVecRow
import Derived.Test.YtoiafhbembhppaaDotOne
import Derived.Lib.QuietBelow
import Derived.Deep.Cut
namespace Go.Proofs.Ytoiafhbembhppaa
set_option maxRecDepth 100000
open Go.RowKit Go.Sort

theorem dotBox (w : World) (v : Vc) (d : Dt) : VRow (boxD (w.alloc (.cells (ics v) 39)) d) w.heap.size v ∧
    (boxD (w.alloc (.cells (ics v) 39)) d).cell? ⟨w.heap.size + 1, 0, none⟩ = some (.int .i64 d.1) ∧
    (boxD (w.alloc (.cells (ics v) 39)) d).cell? ⟨w.heap.size + 1, 1, none⟩ = some (.int .i64 d.2) ∧
    Below w.heap.size w (boxD (w.alloc (.cells (ics v) 39)) d) ∧ w.heap.size + 1 < (boxD (w.alloc (.cells (ics v) 39)) d).heap.size := by
  have e1 : (w.alloc (.cells (ics v) 39)).heap.size = w.heap.size + 1 := by simp
  have h0 := VRow.new w v
  have hn : (boxD (w.alloc (.cells (ics v) 39)) d).heap[(w.alloc (.cells (ics v) 39)).heap.size]? = some (.cells #[.int .i64 d.1, .int .i64 d.2] 31) := heap_alloc_new _ _
  rw [e1] at hn
  refine ⟨h0.alloc _, ?_, ?_, ((Below.refl _ _).alloc (Nat.le_refl _) _).alloc (by simp) _, by simp [boxD]⟩
  · rw [Joins.cell_of_block hn]; rfl
  · rw [Joins.cell_of_block hn]; rfl
theorem chkD_boxed {f : FuncId} {d : Dt} (h : ∀ w, Calls Try.prog f #[.agg #[.int .i64 d.1, .int .i64 d.2]] w fun e w' => e = .returned (.int .i64 (chkD d)) ∧ boxD w d = w') (w : World) :
    Calls Try.prog f #[.agg #[.int .i64 d.1, .int .i64 d.2]] w fun e w' => e = .returned (.int .i64 (chkD d)) ∧ Below w.heap.size w w' :=
  (h w).mono fun e w' ⟨h1, h2⟩ => ⟨h1, by rw [← h2]; exact boxD_below w d⟩

set_option maxHeartbeats 4000000 in
set_option maxRecDepth 100000 in
theorem vhasC (v : Vc) (d : Dt) (hv : v.length = 16) (w : World) : Calls Try.prog 25 #[.agg (ics v), .agg #[.int .i64 d.1, .int .i64 d.2]] w fun e w' => e = .returned (.bool (hasV v d)) ∧ Below w.heap.size w w' := by
  have hh : hasV v d = (decide (chkD d = 0) && decide (d.2 ≤ v.getD d.1.toNat 0)) := rfl
  have hW := dotBox w v d
  have HCK := Lib.hid (fun W => chkD_boxed (fun W => checkC d W) W)
  have hok : chkD d = 0 → 0 ≤ d.1 ∧ d.1 ≤ 15 := fun h => by have := chkD_ok h; omega
  obtain ⟨r, n⟩ := d
  unfold boxD at hW
  simp only at hh hW HCK hok ⊢
  go_enter Try.func25, Try.ntmps25
  go_upto_region 1 with fail
  generalize (w.alloc (.cells (ics v) 39)).alloc (.cells #[.int .i64 r, .int .i64 n] 31) = w2 at *
  obtain ⟨r0, c0, c1, rB, hs⟩ := hW
  have RB := Lib.hid rB
  have d0 := fun q os => cell_regrown c0 q os
  have d1 := fun q os => cell_regrown c1 q os
  have HC2 := Lib.hid (fun q os => Calls.regrown_of (HCK.out (grow (redrawn w2 q) os)))
  clear rB HCK c0 c1
  by_cases h : chkD (r, n) = 0
  · obtain ⟨h0, h15⟩ := hok h
    obtain ⟨k, rfl⟩ := Int.eq_ofNat_of_zero_le h0
    have hk : k < 16 := by omega
    rw [h] at hh HC2
    have hcell := r0.cell k (by rw [hv]; exact hk)
    have e0 := fun q os => cell_regrown hcell q os
    have hh2 : hasV v ((k : Int), n) = decide (n ≤ v.getD k 0) := by rw [hh]; simp
    have hb : ((0 : Int) == 0) = true := rfl
    have HH := Lib.hid hh2
    clear hh hh2 hok h hcell r0 hv h0 h15
    generalize v.getD k 0 = x at *
    refine wp_region_quiet_below (by kernel_rfl) (by kernel_rfl) ?_
    repeat (first | go_big_quiet_step ((go_at_call 10; with_reducible exact HC2.out _ _)) | quiet_step ((go_at_call 10; with_reducible exact HC2.out _ _)))
    refine wpQuiet_nil ?_
    intro _ hw'
    obtain ⟨⟨dq, osq⟩, hw''⟩ := hw'
    subst hw''
    have HB9 := Lib.hid (RB.out.trans ((below_regrown w2 dq osq).mono (by omega)))
    clear d0 d1 e0 HC2
    generalize grow (redrawn w2 dq) osq = W at *
    go_wp2_with fail
    go_ret
    exact ⟨by rw [HH.out]; rfl, HB9.out⟩
  · have h2 : chkD (r, n) = 2 := (chkD_cases _).resolve_left h
    rw [h2] at hh HC2
    have hh2 : hasV v (r, n) = false := by rw [hh]; rfl
    have hb : ((2 : Int) == 0) = false := rfl
    have HH := Lib.hid hh2
    clear hh hh2 hok h h2 r0 hv
    refine wp_region_quiet_below (by kernel_rfl) (by kernel_rfl) ?_
    repeat (first | go_big_quiet_step ((go_at_call 10; with_reducible exact HC2.out _ _)) | quiet_step ((go_at_call 10; with_reducible exact HC2.out _ _)))
    refine wpQuiet_nil ?_
    intro _ hw'
    obtain ⟨⟨dq, osq⟩, hw''⟩ := hw'
    subst hw''
    have HB9 := Lib.hid (RB.out.trans ((below_regrown w2 dq osq).mono (by omega)))
    clear d0 d1 HC2
    generalize grow (redrawn w2 dq) osq = W at *
    go_wp2_with fail
    go_ret
    exact ⟨by rw [HH.out]; rfl, HB9.out⟩

set_option maxHeartbeats 4000000 in
set_option maxRecDepth 100000 in
theorem vhasR (v : Vc) (d : Dt) (hv : v.length = 16) (w : World) : Calls Try.prog 26 #[.agg (ics v), .agg #[.int .i64 d.1, .int .i64 d.2]] w fun e w' => e = .returned (.bool (hasV v d)) ∧ Below w.heap.size w w' := by
  have hh : hasV v d = (decide (chkD d = 0) && decide (d.2 ≤ v.getD d.1.toNat 0)) := rfl
  have hW := dotBox w v d
  have HCK := Lib.hid (fun W => chkD_boxed (fun W => checkR d W) W)
  have hok : chkD d = 0 → 0 ≤ d.1 ∧ d.1 ≤ 15 := fun h => by have := chkD_ok h; omega
  obtain ⟨r, n⟩ := d
  unfold boxD at hW
  simp only at hh hW HCK hok ⊢
  go_enter Try.func26, Try.ntmps26
  go_upto_region 1 with fail
  generalize (w.alloc (.cells (ics v) 39)).alloc (.cells #[.int .i64 r, .int .i64 n] 31) = w2 at *
  obtain ⟨r0, c0, c1, rB, hs⟩ := hW
  have RB := Lib.hid rB
  have d0 := fun q os => cell_regrown c0 q os
  have d1 := fun q os => cell_regrown c1 q os
  have HC2 := Lib.hid (fun q os => Calls.regrown_of (HCK.out (grow (redrawn w2 q) os)))
  clear rB HCK c0 c1
  by_cases h : chkD (r, n) = 0
  · obtain ⟨h0, h15⟩ := hok h
    obtain ⟨k, rfl⟩ := Int.eq_ofNat_of_zero_le h0
    have hk : k < 16 := by omega
    rw [h] at hh HC2
    have hcell := r0.cell k (by rw [hv]; exact hk)
    have e0 := fun q os => cell_regrown hcell q os
    have hh2 : hasV v ((k : Int), n) = decide (n ≤ v.getD k 0) := by rw [hh]; simp
    have hb : ((0 : Int) == 0) = true := rfl
    have HH := Lib.hid hh2
    clear hh hh2 hok h hcell r0 hv h0 h15
    generalize v.getD k 0 = x at *
    refine wp_region_quiet_below (by kernel_rfl) (by kernel_rfl) ?_
    repeat (first | go_big_quiet_step ((go_at_call 11; with_reducible exact HC2.out _ _)) | quiet_step ((go_at_call 11; with_reducible exact HC2.out _ _)))
    refine wpQuiet_nil ?_
    intro _ hw'
    obtain ⟨⟨dq, osq⟩, hw''⟩ := hw'
    subst hw''
    have HB9 := Lib.hid (RB.out.trans ((below_regrown w2 dq osq).mono (by omega)))
    clear d0 d1 e0 HC2
    generalize grow (redrawn w2 dq) osq = W at *
    go_wp2_with fail
    go_ret
    exact ⟨by rw [HH.out]; rfl, HB9.out⟩
  · have h2 : chkD (r, n) = 2 := (chkD_cases _).resolve_left h
    rw [h2] at hh HC2
    have hh2 : hasV v (r, n) = false := by rw [hh]; rfl
    have hb : ((2 : Int) == 0) = false := rfl
    have HH := Lib.hid hh2
    clear hh hh2 hok h h2 r0 hv
    refine wp_region_quiet_below (by kernel_rfl) (by kernel_rfl) ?_
    repeat (first | go_big_quiet_step ((go_at_call 11; with_reducible exact HC2.out _ _)) | quiet_step ((go_at_call 11; with_reducible exact HC2.out _ _)))
    refine wpQuiet_nil ?_
    intro _ hw'
    obtain ⟨⟨dq, osq⟩, hw''⟩ := hw'
    subst hw''
    have HB9 := Lib.hid (RB.out.trans ((below_regrown w2 dq osq).mono (by omega)))
    clear d0 d1 HC2
    generalize grow (redrawn w2 dq) osq = W at *
    go_wp2_with fail
    go_ret
    exact ⟨by rw [HH.out]; rfl, HB9.out⟩
end Go.Proofs.Ytoiafhbembhppaa
