/-
  The document's Has, Same.
-/
import Derived.Test.YtcedliaeipabnaaCauHas
import Derived.Test.YtcedliaeipabnaaGCauI
namespace Go.Proofs.Ytcedliaeipabnaa
set_option maxRecDepth 100000
open Go.RowKit Go.Sort

theorem has_at (c : Cx) {r : Nat} {n : Int} (h : chkD ((r : Int), n) = 0) : hasC c ((r : Int), n) = (decide (n ≤ c.v.getD r 0) || decide (((r : Int), n) ∈ c.l)) := by
  rw [Bool.eq_iff_iff, hasC_iff]
  simp [h]

set_option maxHeartbeats 4000000 in
theorem hasRC (c : Cx) (d : Dt) (a : Option Addr) (cap : Nat) (w : World) (h : CIn w c a) :
    Calls Try.prog 10 #[.agg (ccs c.v (.slice a c.l.length cap)), .agg #[.int .i64 d.1, .int .i64 d.2]] w fun e w' => e = .returned (.bool (hasC c d)) ∧ Go.RowKit.Below w.heap.size w w' := by
  have hlm : c.l.length ≤ maxLen := by have := h.len; unfold maxLen; omega
  have hB0 : Go.RowKit.Below w.heap.size w (boxD (boxC w c.v (.slice a c.l.length cap)) d) := (boxC_below _ _ _).trans ((boxD_below _ d).mono (by rw [boxC_size]; omega))
  have hrow : CRow (boxD (boxC w c.v (.slice a c.l.length cap)) d) w.heap.size c.v (.slice a c.l.length cap) := (CRow.new w c.v (.slice a c.l.length cap)).alloc _
  have hn := heap_alloc_new (boxC w c.v (.slice a c.l.length cap)) (.cells #[.int .i64 d.1, .int .i64 d.2] 31)
  rw [boxC_size] at hn
  have q0 : (boxD (boxC w c.v (.slice a c.l.length cap)) d).cell? ⟨w.heap.size + 1, 0, none⟩ = some (.int .i64 d.1) := by unfold boxD; rw [Joins.cell_of_block hn]; rfl
  have q1 : (boxD (boxC w c.v (.slice a c.l.length cap)) d).cell? ⟨w.heap.size + 1, 1, none⟩ = some (.int .i64 d.2) := by unfold boxD; rw [Joins.cell_of_block hn]; rfl
  have hlt : w.heap.size + 1 < (boxD (boxC w c.v (.slice a c.l.length cap)) d).heap.size := by rw [boxD_size, boxC_size]; omega
  have hin := h.below hB0
  have HV := Lib.hid h.v16
  have hc16 := hrow.cloud HV.out
  have H0 := Lib.hid (And.intro hB0 (And.intro hrow (And.intro q0 (And.intro q1 (And.intro hlt (And.intro hin hc16))))))
  have hck := fun W => checkRb d W
  have hh : hasC c d = (decide (chkD d = 0) && (decide (d.2 ≤ c.v.getD d.1.toNat 0) || decide (d ∈ c.l))) := rfl
  have hir := fun W (hin : DIn W a c.l) => inR c.l d a cap W hin hlm
  have HIR := Lib.hid hir
  have HH := Lib.hid hh
  have HCK0 := Lib.hid hck
  have hok : chkD d = 0 → 0 ≤ d.1 ∧ d.1 ≤ 15 ∧ 1 ≤ d.2 ∧ d.2 ≤ 1099511627776 := chkD_ok
  clear h hB0 hrow hn hin q0 q1 hlt hck hh hir hc16
  unfold boxD boxC at H0
  obtain ⟨dr, dq⟩ := d
  simp only at H0 HIR HH HCK0 hok ⊢
  go_enter Try.func10, Try.ntmps10
  go_upto_region 1 with fail
  generalize (w.alloc (.cells (ccs c.v (.slice a c.l.length cap)) 26)).alloc (.cells #[.int .i64 dr, .int .i64 dq] 31) = W at *
  have d0 := fun q os => cell_regrown H0.out.2.2.1 q os
  have d1 := fun q os => cell_regrown H0.out.2.2.2.1 q os
  have d2 := fun q os => cell_regrown H0.out.2.2.2.2.2.2 q os
  have HCK := Lib.hid (fun q os => Calls.regrown_of (HCK0.out (grow (redrawn W q) os)))
  have HIN := Lib.hid (fun q os => Calls.regrown_of (HIR.out (grow (redrawn W q) os) (H0.out.2.2.2.2.2.1.din.below (below_regrown W q os))))
  have hho := HH.out
  by_cases hc : chkD (dr, dq) = 0
  · obtain ⟨e1, e2, e3, e4⟩ := hok hc
    obtain ⟨r, rfl⟩ := Int.eq_ofNat_of_zero_le e1
    have hr16 : r < 16 := by omega
    have hcell := H0.out.2.1.cell r (by rw [HV.out]; exact hr16)
    rw [hc] at HCK
    have hho := has_at c hc
    obtain ⟨x, hx0⟩ : ∃ x, c.v.getD r 0 = x := ⟨_, rfl⟩
    rw [hx0] at hcell hho
    have d3 := fun q os => cell_regrown hcell q os
    have hb : ((0 : Int) == 0) = true := rfl
    clear hc hok e1 e2 e3 e4 hcell hx0
    by_cases hx : dq ≤ x
    · have hxd : decide (dq ≤ x) = true := by simp [hx]
      have HO := Lib.hid (show hasC c ((r : Int), dq) = true by rw [hho, hxd]; rfl)
      clear hho hx HIN
      refine wp_region_quiet_below (by kernel_rfl) (by kernel_rfl) ?_
      repeat (first | go_big_quiet_step ((go_at_call 30; with_reducible exact HCK.out _ _)) | quiet_step ((go_at_call 30; with_reducible exact HCK.out _ _)))
      refine wpQuiet_nil ?_
      intro _ hw'
      obtain ⟨⟨dq', osq⟩, hw''⟩ := hw'
      subst hw''
      have HB9 := Lib.hid (H0.out.1.trans ((below_regrown W dq' osq).mono H0.out.1.size))
      clear d0 d1 d2 d3 HCK
      generalize grow (redrawn W dq') osq = U at *
      go_wp2_with fail
      go_ret
      exact ⟨by rw [HO.out]; rfl, HB9.out⟩
    · have hxd : decide (dq ≤ x) = false := by simp; omega
      have HO := Lib.hid (show hasC c ((r : Int), dq) = decide (((r : Int), dq) ∈ c.l) by rw [hho, hxd]; rfl)
      obtain ⟨u, hu⟩ : ∃ u, decide (((r : Int), dq) ∈ c.l) = u := ⟨_, rfl⟩
      rw [hu] at HIN HO
      clear hho hx hu
      refine wp_region_quiet_below (by kernel_rfl) (by kernel_rfl) ?_
      repeat (first | go_big_quiet_step (first | (go_at_call 30; with_reducible exact HCK.out _ _) | (go_at_call 31; with_reducible exact HIN.out _ _)) | quiet_step (first | (go_at_call 30; with_reducible exact HCK.out _ _) | (go_at_call 31; with_reducible exact HIN.out _ _)))
      refine wpQuiet_nil ?_
      intro _ hw'
      obtain ⟨⟨dq', osq⟩, hw''⟩ := hw'
      subst hw''
      have HB9 := Lib.hid (H0.out.1.trans ((below_regrown W dq' osq).mono H0.out.1.size))
      clear d0 d1 d2 d3 HCK HIN
      generalize grow (redrawn W dq') osq = U at *
      go_wp2_with fail
      go_ret
      exact ⟨by rw [HO.out]; rfl, HB9.out⟩
  · have h2 : chkD (dr, dq) = 2 := (chkD_cases _).resolve_left hc
    have hb : ((2 : Int) == 0) = false := rfl
    have HO := Lib.hid (show hasC c (dr, dq) = false by rw [hho, decide_eq_false hc]; rfl)
    rw [h2] at HCK
    clear hho hc hok h2 HIN
    refine wp_region_quiet_below (by kernel_rfl) (by kernel_rfl) ?_
    repeat (first | go_big_quiet_step ((go_at_call 30; with_reducible exact HCK.out _ _)) | quiet_step ((go_at_call 30; with_reducible exact HCK.out _ _)))
    refine wpQuiet_nil ?_
    intro _ hw'
    obtain ⟨⟨dq', osq⟩, hw''⟩ := hw'
    subst hw''
    have HB9 := Lib.hid (H0.out.1.trans ((below_regrown W dq' osq).mono H0.out.1.size))
    clear d0 d1 d2 HCK
    generalize grow (redrawn W dq') osq = U at *
    go_wp2_with fail
    go_ret
    exact ⟨by rw [HO.out]; rfl, HB9.out⟩

theorem two_ctx (w : World) (v v2 : Vc) (s s2 : Value) : CRow (boxC (boxC w v s) v2 s2) w.heap.size v s ∧ CRow (boxC (boxC w v s) v2 s2) (w.heap.size + 1) v2 s2 ∧ Go.RowKit.Below w.heap.size w (boxC (boxC w v s) v2 s2) := by
  have e1 := boxC_size w v s
  have h0 := CRow.new w v s
  have h1 := CRow.new (boxC w v s) v2 s2
  rw [e1] at h1
  exact ⟨h0.alloc _, h1, (boxC_below w v s).alloc (by rw [e1]; omega) _⟩

set_option maxHeartbeats 4000000 in
theorem sameRC (a b : Cx) (pa pb : Option Addr) (ca cb : Nat) (w : World) (h : CIn w a pa) (hm : CIn w b pb) :
    Calls Try.prog 11 #[.agg (ccs a.v (.slice pa a.l.length ca)), .agg (ccs b.v (.slice pb b.l.length cb))] w fun e w' => e = .returned (.bool (decide (a = b))) ∧ Go.RowKit.Below w.heap.size w w' := by
  have HV := Lib.hid h.v16
  have HV2 := Lib.hid hm.v16
  have hla : a.l.length ≤ maxLen := by have := h.len; unfold maxLen; omega
  have hlb : b.l.length ≤ maxLen := by have := hm.len; unfold maxLen; omega
  have H0 := Lib.hid (two_ctx w a.v b.v (.slice pa a.l.length ca) (.slice pb b.l.length cb))
  have hs := sameR a.l b.l pa pb ca cb (boxC (boxC w a.v (.slice pa a.l.length ca)) b.v (.slice pb b.l.length cb)) (h.din.below H0.out.2.2) (hm.din.below H0.out.2.2) hla hlb
  have HS := Lib.hid hs
  have heq := fun W => eqlV HV.out HV2.out W
  have hfin : decide (a = b) = (decide (a.v = b.v) && decide (a.l = b.l)) := by
    obtain ⟨av, al⟩ := a
    obtain ⟨bv, bl⟩ := b
    simp only [Cx.mk.injEq]
    exact Bool.decide_and _ _
  have HF := Lib.hid hfin
  unfold boxC at H0 HS
  clear h hm hla hlb hs hfin
  go_enter Try.func11, Try.ntmps11
  go_upto_region 1 with fail
  generalize (w.alloc (.cells (ccs a.v (.slice pa a.l.length ca)) 26)).alloc (.cells (ccs b.v (.slice pb b.l.length cb)) 26) = W at *
  have c0 := H0.out.1.cloud HV.out
  have c1 := H0.out.2.1.cloud HV2.out
  have hff := HF.out
  by_cases hve : a.v = b.v
  · rw [decide_eq_true hve] at heq hff
    have HO := Lib.hid hff
    clear hve hff HF
    go_wp2_with (first
      | ((with_reducible refine cl_loadV ?_ (.tmp 5) ?_ w.heap.size a.v (.slice pa a.l.length ca) ?_ ?_ ?_ ?_); rfl; rfl; rfl; exact H0.out.1; exact HV.out)
      | ((with_reducible refine cl_loadV ?_ (.tmp 7) ?_ (w.heap.size + 1) b.v (.slice pb b.l.length cb) ?_ ?_ ?_ ?_); rfl; rfl; rfl; exact H0.out.2.1; exact HV2.out))
    refine HS.out.mono ?_
    rintro e w2 ⟨rfl, n, rfl⟩
    have HB := Lib.hid (H0.out.2.2.trans (belowN (Below.refl W.heap.size W) n |>.mono H0.out.2.2.size))
    clear c0 c1 heq HS
    go_wp2_with fail
    go_ret
    exact ⟨by rw [HO.out]; rfl, HB.out⟩
  · rw [decide_eq_false hve] at heq hff
    have HO := Lib.hid hff
    clear hve hff HF HS
    go_wp2_with (first
      | ((with_reducible refine cl_loadV ?_ (.tmp 5) ?_ w.heap.size a.v (.slice pa a.l.length ca) ?_ ?_ ?_ ?_); rfl; rfl; rfl; exact H0.out.1; exact HV.out)
      | ((with_reducible refine cl_loadV ?_ (.tmp 7) ?_ (w.heap.size + 1) b.v (.slice pb b.l.length cb) ?_ ?_ ?_ ?_); rfl; rfl; rfl; exact H0.out.2.1; exact HV2.out))
    go_ret
    exact ⟨by rw [HO.out]; rfl, H0.out.2.2⟩
end Go.Proofs.Ytcedliaeipabnaa
