/-
  kernel: a side laid out (sideOf), what it knows, what it leaves.
-/
import Derived.Test.YtcedliaeipabnaaGreatKernRow
namespace Go.Proofs.YtcedliaeipabnaaGreat
set_option linter.unusedSimpArgs false
set_option linter.unusedVariables false
set_option maxRecDepth 100000
open Go.RowKit Go.Sort

/-- what lies there while a side is made: the context, the answer's block, the clean context -/
structure HoldK (g gc : Nat) (v : Vc) (s : Value) (w U : World) : Prop where
  res : ∃ old, Blk U (g + 1) 64 old ∧ old.size = 19
  row : CRow U gc v s
  low : Go.RowKit.Below w.heap.size w U
theorem HoldK.below {g gc : Nat} {v : Vc} {s : Value} {w U U' : World} (h : HoldK g gc v s w U) (hb : Go.RowKit.Below U.heap.size U U') : HoldK g gc v s w U' :=
  ⟨by obtain ⟨o, h1, h2⟩ := h.res; exact ⟨o, h1.keep hb, h2⟩, h.row.keep hb, h.low.trans (hb.mono h.low.size)⟩

set_option maxHeartbeats 8000000 in
theorem sideOfC (l : List Ft) (a : Option Addr) (cap : Nat) (c : Cx) (pa : Option Addr) (ca : Nat) (w : World) (hf : FIn w a l) (hl : l.length ≤ 65536) (h : CIn w c pa) :
    Calls Tryz.prog 25 #[.slice a l.length cap, .agg (ccs c.v (.slice pa c.l.length ca))] w fun e w' => (∃ (o : Cx) (fa : Option Addr) (fc : Nat) (ba : Option Addr) (bc : Nat), e = .returned (.agg (kcs (.slice fa (sortF l).length fc) o.v (.slice ba o.l.length bc))) ∧ CleanOf c o ∧ FFrom w' w.heap.size fa (sortF l) ∧ Made w.heap.size w' o ba) ∧ Go.RowKit.Below w.heap.size w w' := by
  have HV := Lib.hid h.v16
  have HI := Lib.hid (And.intro hf h)
  have hn := CRow.new w c.v (.slice pa c.l.length ca)
  have H0 := Lib.hid (And.intro (hn.alloc (.cells (kcs nilS zV nilS) 64)) (And.intro (show Blk (World.alloc (w.alloc (.cells (ccs c.v (.slice pa c.l.length ca)) 27)) (.cells (kcs nilS zV nilS) 64)) (w.heap.size + 1) 64 (kcs nilS zV nilS) from by have h1 := Blk.new (w.alloc (.cells (ccs c.v (.slice pa c.l.length ca)) 27)) 64 (kcs nilS zV nilS); rwa [World.size_alloc] at h1)
    (show Go.RowKit.Below w.heap.size w (World.alloc (w.alloc (.cells (ccs c.v (.slice pa c.l.length ca)) 27)) (.cells (kcs nilS zV nilS) 64)) from ((Below.refl _ w).alloc (Nat.le_refl _) _).alloc (by simp) _)))
  clear h hf hn
  go_enter Tryz.func25, Tryz.ntmps25
  go_upto_region 1 with fail
  change Code.wp _ _ _ _ (World.alloc (w.alloc (.cells (ccs c.v (.slice pa c.l.length ca)) 27)) (.cells (kcs nilS zV nilS) 64))
  generalize World.alloc (w.alloc (.cells (ccs c.v (.slice pa c.l.length ca)) 27)) (.cells (kcs nilS zV nilS) 64) = W at *
  go_wp2_with ((with_reducible refine cl_load ?_ (.tmp 3) ?_ w.heap.size c.v (.slice pa c.l.length ca) ?_ ?_ ?_ ?_); rfl; rfl; rfl; exact H0.out.1; exact HV.out)
  refine (cleanCC c pa ca W (HI.out.2.below H0.out.2.2)).mono ?_
  rintro e w1 ⟨⟨o, oa, oc, rfl, hof, hmade, hol, -⟩, hb1⟩
  have hs1 : w.heap.size + 2 ≤ W.heap.size := by have := H0.out.2.1.lt; omega
  have hbx := boxC_below w1 o.v (.slice oa o.l.length oc)
  have hcr := CRow.new w1 o.v (.slice oa o.l.length oc)
  have HVO := Lib.hid hmade.v16
  have HW1 := Lib.hid (And.intro hs1 hb1.size)
  have H1 : Hid (HoldK w.heap.size w1.heap.size o.v (.slice oa o.l.length oc) w (boxC w1 o.v (.slice oa o.l.length oc))) := Lib.hid ⟨⟨_, (H0.out.2.1.keep hb1).keep hbx, by rw [kcs_size]; rfl⟩, hcr, (H0.out.2.2.trans (hb1.mono H0.out.2.2.size)).trans (hbx.mono (Nat.le_trans H0.out.2.2.size hb1.size))⟩
  have HO := Lib.hid (And.intro hof ((hmade.below hbx).mono (show w.heap.size + 2 ≤ W.heap.size from hs1)))
  have hbs : (boxC w1 o.v (.slice oa o.l.length oc)) = (w1.alloc (.cells (ccs zV nilS) 27)).setRow w1.heap.size (ccs o.v (.slice oa o.l.length oc)) := (World.setRow_alloc_new _ _ _ _).symm
  have HBS := Lib.hid hbs
  clear hof hmade hol hb1 hbx hcr hs1 hbs H0
  go_upto_region 2 with ((with_reducible refine cl_store ?_ (.tmp 5) (.tmp 7) ?_ w1.heap.size o.v oa o.l.length oc ?_ ?_ ?_ ?_ ?_); rfl; rfl; rfl; rfl; exact ⟨_, _, CRow.new w1 zV nilS, rfl⟩; exact HVO.out)
  change Code.wp _ _ _ _ ((w1.alloc (.cells (ccs zV nilS) 27)).setRow w1.heap.size (ccs o.v (.slice oa o.l.length oc)))
  rw [← HBS.out]
  clear HBS
  have hs9 : w.heap.size + 2 ≤ (boxC w1 o.v (.slice oa o.l.length oc)).heap.size := by rw [boxC_size]; have := HW1.out; omega
  have HS9 := Lib.hid hs9
  clear hs9
  generalize boxC w1 o.v (.slice oa o.l.length oc) = W9 at *
  generalize w1.heap.size = gc at *
  refine wp_region_held (S := fun U => HoldK w.heap.size gc o.v (.slice oa o.l.length oc) w U) (by kernel_rfl) ?_
  change wpAnyH _ _ _ _ _ _ _ _ W9.drew
  have K0 : (fun U => HoldK w.heap.size gc o.v (.slice oa o.l.length oc) w U) W9.drew := H1.out.below (Below.refl _ _).drew
  refine wpAnyH_take (i := 0) (oi := { dst := some 8, op := _, type := _, pos := _, after := _, guard := _ }) (v := ?v1) rfl (by kernel_rfl) (by kernel_rfl) (by kernel_rfl) (fun _ _ _ h => h) (Or.inl ⟨by rfl, ?hy1⟩) K0 ?rest1
  case hy1 => (intro w hSw; (try dsimp only at hSw); first | (go_simp; done) | (go_simp; with_reducible rfl))
  try simp only [Act.put, List.setIfInBounds_toArray, List.set_cons_zero, List.set_cons_succ]
  refine wpAnyH_take (i := 2) (oi := { dst := some 10, op := _, type := _, pos := _, after := _, guard := _ }) (v := ?v2) rfl (by kernel_rfl) (by kernel_rfl) (by kernel_rfl) (fun _ _ _ h => h) (Or.inl ⟨by rfl, ?hy2⟩) K0 ?rest2
  case hy2 => (intro w hSw; (try dsimp only at hSw); first | (go_simp; done) | (go_simp; with_reducible rfl))
  try simp only [Act.put, List.setIfInBounds_toArray, List.set_cons_zero, List.set_cons_succ]
  refine wpAnyH_take (i := 3) (oi := { dst := some 11, op := _, type := _, pos := _, after := _, guard := _ }) rfl (by kernel_rfl) (by kernel_rfl) (by kernel_rfl) (fun _ _ _ h => h) (yield_V (by rfl) (.tmp 10) rfl gc o.v (.slice oa o.l.length oc) rfl (fun U hU => hU.row) HVO.out) K0 ?_
  try simp only [Act.put, List.setIfInBounds_toArray, List.set_cons_zero, List.set_cons_succ]
  refine wpAnyH_take (i := 4) (oi := { dst := some 12, op := _, type := _, pos := _, after := _, guard := _ }) rfl (by kernel_rfl) (by kernel_rfl) (by kernel_rfl) (fun _ _ _ h => h) (yield_BV (by rfl) (.tmp 11) rfl o.v rfl HVO.out) K0 ?_
  try simp only [Act.put, List.setIfInBounds_toArray, List.set_cons_zero, List.set_cons_succ]
  refine wpAnyH_take (i := 5) (oi := { dst := some 13, op := _, type := _, pos := _, after := _, guard := _ }) (v := ?v5) rfl (by kernel_rfl) (by kernel_rfl) (by kernel_rfl) (fun _ _ _ h => h) (Or.inl ⟨by rfl, ?hy5⟩) K0 ?rest5
  case hy5 => (intro w hSw; (try dsimp only at hSw); first | (go_simp; done) | (go_simp; with_reducible rfl))
  try simp only [Act.put, List.setIfInBounds_toArray, List.set_cons_zero, List.set_cons_succ]
  refine wpAnyH_take (i := 6) (oi := { dst := some 14, op := _, type := _, pos := _, after := _, guard := _ }) rfl (by kernel_rfl) (by kernel_rfl) (by kernel_rfl) (fun _ _ _ h => h) (yield_S (by rfl) (.tmp 13) rfl gc o.v (.slice oa o.l.length oc) rfl (fun U hU => hU.row) HVO.out) K0 ?_
  try simp only [Act.put, List.setIfInBounds_toArray, List.set_cons_zero, List.set_cons_succ]
  refine wpAnyH_ready (rs := [1]) (by kernel_rfl) (by simp) ?_
  refine AllReadyH.cons (o := { dst := some 9, op := _, type := _, pos := _, after := _, guard := _ }) rfl (fun K hK => ?_) AllReadyH.nil
  go_simp
  refine (sortFCn l a cap _ (HI.out.1.below K0.low) hl).mono ?_
  rintro e u1 ⟨fa, fc, rfl, hff, hb⟩
  have K1 := K0.below hb
  have HFF := Lib.hid (hff.mono (show w.heap.size + 2 ≤ W9.drew.heap.size from HS9.out))
  have HB9 := Lib.hid ((Below.refl W9.heap.size W9).drew.trans hb)
  clear hff hb
  refine hK.out _ _ K1 (fun _ => ?_)
  clear hK K
  try simp only [Act.put, List.setIfInBounds_toArray, List.set_cons_zero, List.set_cons_succ]
  refine wpAnyH_take (i := 7) (oi := { dst := some 15, op := _, type := _, pos := _, after := _, guard := _ }) rfl (by kernel_rfl) (by kernel_rfl) (by kernel_rfl) (fun _ _ _ h => h) (yield_BK (by rfl) (.tmp 9) (.tmp 12) (.tmp 14) rfl o.v fa oa (sortF l).length fc o.l.length oc rfl rfl rfl HVO.out) K1 ?_
  try simp only [Act.put, List.setIfInBounds_toArray, List.set_cons_zero, List.set_cons_succ]
  refine wpAnyH_ready (rs := [8]) (by kernel_rfl) (by simp) ?_
  refine AllReadyH.cons (o := { dst := none, op := _, type := _, pos := _, after := _, guard := _ }) rfl (fun K hK => ?_) AllReadyH.nil
  refine draw_storeB rfl 64 (.tmp 4) (.tmp 15) rfl (w.heap.size + 1) (kcs (.slice fa (sortF l).length fc) o.v (.slice oa o.l.length oc)) rfl rfl (infoK _ _ HVO.out) (kcs_one _ _ _ _ _ _ _) (by rw [kcs_size, HVO.out]; exact K1.res) ?_
  have HR := Lib.hid (show Blk (u1.setRow (w.heap.size + 1) (kcs (.slice fa (sortF l).length fc) o.v (.slice oa o.l.length oc))) (w.heap.size + 1) 64 (kcs (.slice fa (sortF l).length fc) o.v (.slice oa o.l.length oc)) from by obtain ⟨old, h1, -⟩ := K1.res; exact h1.put _)
  have K8 : HoldK w.heap.size gc o.v (.slice oa o.l.length oc) w (u1.setRow (w.heap.size + 1) (kcs (.slice fa (sortF l).length fc) o.v (.slice oa o.l.length oc))) := ⟨⟨_, HR.out, by rw [kcs_size, HVO.out]⟩, K1.row.of_set (by have := HW1.out; omega) _, belowRow K1.low (by omega) _⟩
  have HX := Lib.hid (And.intro (HFF.out.setRow (show w.heap.size + 1 < w.heap.size + 2 by omega) (kcs (.slice fa (sortF l).length fc) o.v (.slice oa o.l.length oc))) ((HO.out.2.below HB9.out).setRow (show w.heap.size + 1 < w.heap.size + 2 by omega) (kcs (.slice fa (sortF l).length fc) o.v (.slice oa o.l.length oc))))
  refine hK.out _ _ K8 (fun _ => ?_)
  clear hK K
  try simp only [Act.put, List.setIfInBounds_toArray, List.set_cons_zero, List.set_cons_succ]
  refine wpAnyH_done (by kernel_rfl) ?_ _
  try simp only [Act.put, List.setIfInBounds_toArray, List.set_cons_zero, List.set_cons_succ]
  have HF := Lib.hid K8.low
  clear K0 K1 K8
  go_wp2_with fail
  exact bodyPost_ret (results_cell_row rfl _ _ (w.heap.size + 1) 64 (kcs (.slice fa (sortF l).length fc) o.v (.slice oa o.l.length oc)) (0, 0) _ rfl HR.out Tryz.underlying64 rfl (infoK _ _ HVO.out)) rfl ⟨⟨o, fa, fc, oa, oc, rfl, HO.out.1, HX.out.1.mono (by omega), HX.out.2.mono (by omega)⟩, HF.out⟩

set_option maxHeartbeats 4000000 in
theorem knowsC {c o : Cx} (hcl : CleanOf c o) (fv : Value) (ba : Option Addr) (bc : Nat) (d : Dt) (w : World) (h : CIn w o ba) :
    Calls Tryz.prog 46 #[.agg (kcs fv o.v (.slice ba o.l.length bc)), .agg #[.int .i64 d.1, .int .i64 d.2]] w fun e w' => e = .returned (.bool (hasC c d)) ∧ Go.RowKit.Below w.heap.size w w' := by
  have HKN := Lib.hid (knows_clean hcl d)
  have hst := stands_rise hcl.clean.rise
  have hlen := h.len
  have HV := Lib.hid h.v16
  have hA := Blk.new w 64 (kcs fv o.v (.slice ba o.l.length bc))
  have hB0 : Go.RowKit.Below w.heap.size w (boxD (w.alloc (.cells (kcs fv o.v (.slice ba o.l.length bc)) 64)) d) := ((Below.refl _ w).alloc (Nat.le_refl _) _).trans ((boxD_below _ d).mono (by simp))
  have hn := heap_alloc_new (w.alloc (.cells (kcs fv o.v (.slice ba o.l.length bc)) 64)) (.cells #[.int .i64 d.1, .int .i64 d.2] 50)
  rw [World.size_alloc] at hn
  have q0 : (boxD (w.alloc (.cells (kcs fv o.v (.slice ba o.l.length bc)) 64)) d).cell? ⟨w.heap.size + 1, 0, none⟩ = some (.int .i64 d.1) := by unfold boxD; rw [Joins.cell_of_block hn]; rfl
  have q1 : (boxD (w.alloc (.cells (kcs fv o.v (.slice ba o.l.length bc)) 64)) d).cell? ⟨w.heap.size + 1, 1, none⟩ = some (.int .i64 d.2) := by unfold boxD; rw [Joins.cell_of_block hn]; rfl
  have hlt : w.heap.size + 1 < (boxD (w.alloc (.cells (kcs fv o.v (.slice ba o.l.length bc)) 64)) d).heap.size := by rw [boxD_size, World.size_alloc]; omega
  have hblk := hA.alloc (.cells #[.int .i64 d.1, .int .i64 d.2] 50)
  have H0 := Lib.hid (And.intro hB0 (And.intro (show (boxD (w.alloc (.cells (kcs fv o.v (.slice ba o.l.length bc)) 64)) d).rangeAt w.heap.size 0 (kcs fv o.v (.slice ba o.l.length bc)).toList from hblk.all) (And.intro hlt (h.below hB0))))
  have hc18 := side_beyond H0.out.2.1 HV.out
  have hlt0 : w.heap.size < (boxD (w.alloc (.cells (kcs fv o.v (.slice ba o.l.length bc)) 64)) d).heap.size := by omega
  clear h hcl hA hn hB0 hblk hlt
  unfold boxD at H0 q0 q1 hc18 hlt0
  rw [Nat.zero_add] at hc18
  have HH := Lib.hid (fun W => hasCC ⟨o.v, []⟩ d none 0 W)
  have HL := Lib.hid (fun W hh => lhasD o.l d ba bc W hh (by omega) hst)
  obtain ⟨dr, dq⟩ := d
  simp only at H0 q0 q1 hc18 hlt0 HH HL HKN ⊢
  go_enter Tryz.func46, Tryz.ntmps46
  go_upto_region 1 with fail
  generalize (w.alloc (.cells (kcs fv o.v (.slice ba o.l.length bc)) 64)).alloc (.cells #[.int .i64 dr, .int .i64 dq] 50) = W at *
  go_wp2_with ((with_reducible refine bl_load ?_ 27 (.tmp 5) ?_ w.heap.size 1 (ccs o.v nilS) ?_ ?_ Tryz.underlying27 ?_ ?_ ?_); rfl; rfl; rfl; exact side_ctx H0.out.2.1; rfl; exact infoC _ HV.out)
  refine (HH.out W ⟨HV.out, .inl rfl, by simp⟩).mono ?_
  rintro e w1 ⟨rfl, hb1⟩
  have HKK := HKN.out
  have k0 : w1.cell? ⟨w.heap.size + 1, 0, none⟩ = some (.int .i64 dr) := by rw [hb1.cell (p := ⟨w.heap.size + 1, 0, none⟩) H0.out.2.2.1]; exact q0
  have k1 : w1.cell? ⟨w.heap.size + 1, 1, none⟩ = some (.int .i64 dq) := by rw [hb1.cell (p := ⟨w.heap.size + 1, 1, none⟩) H0.out.2.2.1]; exact q1
  have k18 : w1.cell? ⟨w.heap.size, 18, none⟩ = some (.slice ba o.l.length bc) := by rw [hb1.cell (p := ⟨w.heap.size, 18, none⟩) hlt0]; exact hc18
  have HB1 := Lib.hid (H0.out.1.trans (hb1.mono H0.out.1.size))
  have HD1 := Lib.hid (H0.out.2.2.2.din.below hb1)
  clear hb1 q0 q1 hc18 HH hlt0
  generalize hasC ⟨o.v, []⟩ (dr, dq) = u1 at *
  cases u1 with
  | true =>
    have HO := Lib.hid HKK
    clear HKK k0 k1 k18
    go_wp2_with fail
    go_ret
    exact ⟨by rw [← HO.out]; rfl, HB1.out⟩
  | false =>
    have HO := Lib.hid HKK
    clear HKK
    go_wp2_with fail
    refine (HL.out w1 HD1.out).mono ?_
    rintro e w2 ⟨rfl, hb2⟩
    have HB2 := Lib.hid (HB1.out.trans (hb2.mono HB1.out.size))
    clear hb2 k0 k1 k18 HL
    go_wp2_with fail
    go_ret
    exact ⟨by rw [← HO.out]; rfl, HB2.out⟩

set_option maxHeartbeats 4000000 in
theorem leavesC {c o : Cx} (hcl : CleanOf c o) (fl : List Ft) (fa : Option Addr) (fc : Nat) (ba : Option Addr) (bc : Nat) (f : Ft) (w : World) (hf : FIn w fa fl) (hl : fl.length ≤ 65536) (hr : RiseF fl) (h : CIn w o ba) :
    Calls Tryz.prog 26 #[.agg (kcs (.slice fa fl.length fc) o.v (.slice ba o.l.length bc)), .agg (fcs f).toArray] w fun e w' => e = .returned (.bool (leavesK fl c f)) ∧ Go.RowKit.Below w.heap.size w w' := by
  have HV := Lib.hid h.v16
  have hA := Blk.new w 64 (kcs (.slice fa fl.length fc) o.v (.slice ba o.l.length bc))
  have hsz : (w.alloc (.cells (kcs (.slice fa fl.length fc) o.v (.slice ba o.l.length bc)) 64)).heap.size = w.heap.size + 1 := World.size_alloc _ _
  have hB0 : Go.RowKit.Below w.heap.size w (boxF (w.alloc (.cells (kcs (.slice fa fl.length fc) o.v (.slice ba o.l.length bc)) 64)) f) := ((Below.refl _ w).alloc (Nat.le_refl _) _).trans ((boxF_gr _ f).below.mono (by simp))
  have hfr := boxF_in (w.alloc (.cells (kcs (.slice fa fl.length fc) o.v (.slice ba o.l.length bc)) 64)) f
  rw [hsz] at hfr
  have hlt : w.heap.size + 1 < (boxF (w.alloc (.cells (kcs (.slice fa fl.length fc) o.v (.slice ba o.l.length bc)) 64)) f).heap.size := by rw [boxF_size, hsz]; omega
  have hblk := hA.alloc (.cells (fcs f).toArray 61)
  have H0 := Lib.hid (And.intro hB0 (And.intro (show (boxF (w.alloc (.cells (kcs (.slice fa fl.length fc) o.v (.slice ba o.l.length bc)) 64)) f).rangeAt w.heap.size 0 (kcs (.slice fa fl.length fc) o.v (.slice ba o.l.length bc)).toList from hblk.all) (And.intro hlt (And.intro (h.below hB0) (And.intro (hf.below hB0) hfr)))))
  have q0 := range_one hfr 0 (v := .int .i64 f.d.1) rfl
  have q1 := range_one hfr 1 (v := .int .i64 f.d.2) rfl
  have hc0 := side_facts H0.out.2.1
  have hlt0 : w.heap.size < (boxF (w.alloc (.cells (kcs (.slice fa fl.length fc) o.v (.slice ba o.l.length bc)) 64)) f).heap.size := by omega
  have HKN := Lib.hid (fun W hh => knowsC hcl (.slice fa fl.length fc) ba bc f.d W hh)
  have HL := Lib.hid (fun W hh => lhasF fl f fa fc W hh hl hr)
  have HE := Lib.hid (show leavesK fl c f = (!hasC c f.d || decide (f ∈ fl)) from rfl)
  clear h hcl hf hA hB0 hblk hlt hfr hsz
  rw [Nat.zero_add] at q0 q1
  generalize f.d.1 = dr at *
  generalize f.d.2 = dq at *
  go_enter Tryz.func26, Tryz.ntmps26
  go_upto_region 1 with fail
  change Code.wp _ _ _ _ (boxF (w.alloc (.cells (kcs (.slice fa fl.length fc) o.v (.slice ba o.l.length bc)) 64)) f)
  generalize boxF (w.alloc (.cells (kcs (.slice fa fl.length fc) o.v (.slice ba o.l.length bc)) 64)) f = W at *
  go_wp2_with ((with_reducible refine bl_load ?_ 64 (.tmp 2) ?_ w.heap.size 0 (kcs (.slice fa fl.length fc) o.v (.slice ba o.l.length bc)) ?_ ?_ Tryz.underlying64 ?_ ?_ ?_); rfl; rfl; rfl; exact H0.out.2.1; rfl; exact infoK _ _ HV.out)
  refine (HKN.out W H0.out.2.2.2.1).mono ?_
  rintro e w1 ⟨rfl, hb1⟩
  have HEE := HE.out
  have k0 : w1.cell? ⟨w.heap.size, 0, none⟩ = some (.slice fa fl.length fc) := by rw [hb1.cell (p := ⟨w.heap.size, 0, none⟩) hlt0]; exact hc0
  have H1 := Lib.hid (And.intro (H0.out.1.trans (hb1.mono H0.out.1.size)) (And.intro (H0.out.2.2.2.2.1.below hb1) (range_below H0.out.2.2.2.2.2 hb1 H0.out.2.2.1)))
  clear hb1 q0 q1 hc0 HKN hlt0 H0
  generalize hasC c f.d = u1 at *
  cases u1 with
  | false =>
    have HO := Lib.hid HEE
    clear HEE k0
    go_wp2_with fail
    go_ret
    exact ⟨by rw [HO.out]; rfl, H1.out.1⟩
  | true =>
    have HO := Lib.hid HEE
    clear HEE
    go_wp2_with ((with_reducible refine fl_loadg ?_ (.tmp 3) ?_ (w.heap.size + 1) 0 f ?_ ?_ ?_); rfl; rfl; rfl; exact H1.out.2.2)
    refine (HL.out w1 H1.out.2.1).mono ?_
    rintro e w2 ⟨rfl, hb2⟩
    have HB2 := Lib.hid (H1.out.1.trans (hb2.mono H1.out.1.size))
    clear hb2 k0 HL
    go_wp2_with fail
    go_ret
    exact ⟨by rw [HO.out]; rfl, HB2.out⟩
end Go.Proofs.YtcedliaeipabnaaGreat
