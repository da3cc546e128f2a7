/-
  register: list.Compare of facts, unnamed, order.
-/
import Derived.Test.YtpcelgmcbfjmbaaFactOrd
import Derived.Test.YtpcelgmcbfjmbaaRegPlain
import Derived.Deep.RegionHeld3
namespace Go.Proofs.Ytpcelgmcbfjmbaa
set_option linter.unusedSimpArgs false
set_option linter.unusedVariables false
open Go.RowKit Go.Sort
set_option maxRecDepth 100000

/-- a fact of no kind and no name -/
def unF (f : Ft) : Ft := ⟨f.d, f.s, 0, ⟨#[]⟩, f.v⟩
abbrev cmpR : Ft → Ft → Int := cmpO ltR
theorem cmpR_or (a b : Ft) : cmpR a b = orP [cmpO ltS a.s b.s, cmpF (unF a) (unF b)] := by
  have e : cmpR a b = cmpO (lexL ltS (lexL ltD ltX)) (keyR a) (keyR b) := rfl
  have h5 : ∀ z : Int, (if z ≠ 0 then z else 0) = z := fun z => by
    by_cases h : z = 0
    · simp [h]
    · simp [h]
  rw [e, cmpO_lex totS, cmpO_lex totD, cmpF_or]
  simp only [orP, h5]
  show (if cmpO ltS a.s b.s ≠ 0 then cmpO ltS a.s b.s else if cmpO ltD a.d b.d ≠ 0 then cmpO ltD a.d b.d else cmpO ltX a.v b.v) = _
  by_cases h : cmpO ltS a.s b.s = 0
  · have hs : a.s = b.s := (cmpO_zero totS).1 h
    have hn : cmpX (unF a).n (unF b).n = 0 := (cmpO_zero totX).2 rfl
    have hk : cmpT (unF a).k (unF b).k = 0 := cmpT_eq rfl
    have hz : cmpO ltS (unF a).s (unF b).s = 0 := h
    rw [hn, hk, hz, cmpD_O]
    simp [h]
    rfl
  · rw [if_pos h, if_pos h]

/-! list.Compare at facts -/
theorem boxF2_rows (w : World) (a b : Ft) : FRow (boxF (boxF w a) b) w.heap.size a ∧ FRow (boxF (boxF w a) b) (w.heap.size + 1) b := by
  have h1 := FRow.new w a
  have h2 := FRow.new (boxF w a) b
  rw [boxF_size] at h2
  exact ⟨h1.keep (boxF_gr _ b).below, h2⟩
set_option maxHeartbeats 2000000 in
theorem compareFt (a b : Ft) (w : World) : Calls Try.prog 34 #[.func (.func 35) #[] #[], .agg (fcs a).toArray, .agg (fcs b).toArray] w fun e w' => e = .returned (.int .i64 (cmpF a b)) ∧ Gr w w' := by
  have HL := Lib.hid (fun W => lessFG a b W)
  have HM := Lib.hid (fun W => lessFG b a W)
  have HR := Lib.hid (boxF2_rows w a b)
  have HG := Lib.hid (show Gr w (boxF (boxF w a) b) from (boxF_gr w a).trans (boxF_gr _ b))
  have e : cmpF a b = if ltF a b = true then -1 else if ltF b a = true then 1 else 0 := rfl
  rw [e]
  clear e
  generalize ltF a b = p at *
  generalize ltF b a = q at *
  go_enter Try.func34, Try.ntmps34
  go_upto_region 1 with fail
  change Code.wp _ _ _ _ (boxF (boxF w a) b)
  generalize boxF (boxF w a) b = W at *
  go_wp2_with (first | ((with_reducible refine fl_load ?_ (.tmp 4) ?_ w.heap.size 0 a ?_ ?_ ?_); rfl; rfl; rfl; exact HR.out.1.range; simp only [Act.put, List.setIfInBounds_toArray, List.set_cons_zero, List.set_cons_succ]) | ((with_reducible refine fl_load ?_ (.tmp 5) ?_ (w.heap.size + 1) 0 b ?_ ?_ ?_); rfl; rfl; rfl; exact HR.out.2.range; simp only [Act.put, List.setIfInBounds_toArray, List.set_cons_zero, List.set_cons_succ]))
  refine (HL.out _).mono ?_
  rintro e w1 ⟨rfl, hg⟩
  have HG1 := Lib.hid (HG.out.trans hg)
  have HR1 := Lib.hid (And.intro (HR.out.1.keep hg.below) (HR.out.2.keep hg.below))
  clear hg HR HG HL
  cases p with
  | true =>
    go_wp2_with fail
    go_ret
    exact ⟨rfl, HG1.out⟩
  | false =>
    go_wp2_with (first | ((with_reducible refine fl_load ?_ (.tmp 4) ?_ w.heap.size 0 a ?_ ?_ ?_); rfl; rfl; rfl; exact HR1.out.1.range; simp only [Act.put, List.setIfInBounds_toArray, List.set_cons_zero, List.set_cons_succ]) | ((with_reducible refine fl_load ?_ (.tmp 5) ?_ (w.heap.size + 1) 0 b ?_ ?_ ?_); rfl; rfl; rfl; exact HR1.out.2.range; simp only [Act.put, List.setIfInBounds_toArray, List.set_cons_zero, List.set_cons_succ]))
    refine (HM.out _).mono ?_
    rintro e w2 ⟨rfl, hg⟩
    have HG2 := Lib.hid (HG1.out.trans hg)
    clear hg HR1 HG1 HM
    cases q with
    | true =>
      go_wp2_with fail
      go_ret
      exact ⟨rfl, HG2.out⟩
    | false =>
      go_wp2_with fail
      go_ret
      exact ⟨rfl, HG2.out⟩

set_option maxHeartbeats 2000000 in
theorem unnamedC (f : Ft) (w : World) : Calls Try.prog 36 #[.agg (fcs f).toArray] w fun e w' => e = .returned (.agg (fcs (unF f)).toArray) ∧ Gr w w' := by
  obtain ⟨⟨d1, d2⟩, ⟨st, sc, sr⟩, k, n, v⟩ := f
  unfold unF fcs
  simp only [List.toArray]
  go_enter Try.func36, Try.ntmps36
  go_wp2_with fail
  refine bodyPost_ret (results_cell_row rfl _ _ (w.heap.size + 1) 39 #[.int .i64 d1, .int .i64 d2, .int .i64 st, .int .i64 sc, .int .i64 sr, .int .i64 0, .string ⟨#[]⟩, .string v] (0, 0) _ rfl (heap_alloc2_new w _ _) Try.underlying39 rfl factSize) rfl ?_
  exact ⟨rfl, (Gr.one w _).alloc _⟩

theorem fyield_Ft {ops : Array Oper} {S : World → Prop} {o : Oper} {a : Act} (hw : Region.wanted o (yielded ops a.tmps) = true) (x : Operand) (ho : o.op = .load 39 x) (g : Nat) (f : Ft) (hx : a.eval x = .pointer (some ⟨g, 0, none⟩))
    (hg : ∀ w, S w → w.rangeAt g 0 (fcs f)) : YieldsIf Try.prog ops S o (.agg (fcs f).toArray) a :=
  yieldsIf_load_mid hw 39 x ho g 0 hx (fcs f) _ hg Try.underlying39 rfl factSize
set_option maxHeartbeats 4000000 in
theorem orderR (a b : Ft) (w : World) : Calls Try.prog 21 #[.agg (fcs a).toArray, .agg (fcs b).toArray] w fun e w' => e = .returned (.int .i64 (cmpR a b)) ∧ Gr w w' := by
  have hin := boxF2_in w a b
  have hgr : Gr w (boxF (boxF w a) b) := (boxF_gr w a).trans (boxF_gr _ b)
  have hlt : w.heap.size < (boxF (boxF w a) b).heap.size ∧ w.heap.size + 1 < (boxF (boxF w a) b).heap.size := by rw [boxF_size, boxF_size]; omega
  have hor := cmpR_or a b
  have hS := fun W => compareS a.s b.s W
  have hF := fun W => compareFt (unF a) (unF b) W
  generalize cmpR a b = c at *
  generalize cmpO ltS a.s b.s = c1 at *
  generalize cmpF (unF a) (unF b) = c2 at *
  have HIN := Lib.hid hin
  have HGR := Lib.hid hgr
  have HLT := Lib.hid hlt
  have HOR := Lib.hid hor
  have HS := Lib.hid hS
  have HF := Lib.hid hF
  clear hin hgr hlt hor hS hF
  go_enter Try.func21, Try.ntmps21
  go_upto_region 1 with fail
  change Code.wp _ _ _ _ (boxF (boxF w a) b)
  generalize boxF (boxF w a) b = W at *
  refine wp_region_held (S := fun U => Gr W U) (by kernel_rfl) ?_
  change wpAnyH _ _ _ _ _ _ _ _ W.drew
  have K0 : (fun U => Gr W U) W.drew := (Gr.drew1 _)
  refine wpAnyH_take (i := 0) (oi := { dst := some 5, op := _, type := _, pos := _, after := _, guard := _ }) (v := ?v1) rfl (by kernel_rfl) (by kernel_rfl) (by kernel_rfl) (fun _ _ _ h => h) (Or.inl ⟨by rfl, ?hy1⟩) K0 ?rest1
  case hy1 => (intro w hSw; (try dsimp only at hSw); first | (go_simp; done) | (go_simp; with_reducible rfl))
  try simp only [Act.put, List.setIfInBounds_toArray, List.set_cons_zero, List.set_cons_succ]
  refine wpAnyH_take (i := 1) (oi := { dst := some 6, op := _, type := _, pos := _, after := _, guard := _ }) rfl (by kernel_rfl) (by kernel_rfl) (by kernel_rfl) (fun _ _ _ h => h) (fyield_S (by rfl) (.tmp 5) rfl w.heap.size a.s rfl (fun U hU => range_stamp (range_below HIN.out.1 (Gr.below hU) HLT.out.1))) K0 ?_
  try simp only [Act.put, List.setIfInBounds_toArray, List.set_cons_zero, List.set_cons_succ]
  refine wpAnyH_take (i := 2) (oi := { dst := some 7, op := _, type := _, pos := _, after := _, guard := _ }) (v := ?v3) rfl (by kernel_rfl) (by kernel_rfl) (by kernel_rfl) (fun _ _ _ h => h) (Or.inl ⟨by rfl, ?hy3⟩) K0 ?rest3
  case hy3 => (intro w hSw; (try dsimp only at hSw); first | (go_simp; done) | (go_simp; with_reducible rfl))
  try simp only [Act.put, List.setIfInBounds_toArray, List.set_cons_zero, List.set_cons_succ]
  refine wpAnyH_take (i := 3) (oi := { dst := some 8, op := _, type := _, pos := _, after := _, guard := _ }) rfl (by kernel_rfl) (by kernel_rfl) (by kernel_rfl) (fun _ _ _ h => h) (fyield_S (by rfl) (.tmp 7) rfl (w.heap.size + 1) b.s rfl (fun U hU => range_stamp (range_below HIN.out.2 (Gr.below hU) HLT.out.2))) K0 ?_
  try simp only [Act.put, List.setIfInBounds_toArray, List.set_cons_zero, List.set_cons_succ]
  refine wpAnyH_take (i := 5) (oi := { dst := some 10, op := _, type := _, pos := _, after := _, guard := _ }) rfl (by kernel_rfl) (by kernel_rfl) (by kernel_rfl) (fun _ _ _ h => h) (fyield_Ft (by rfl) (.tmp 2) rfl w.heap.size a rfl (fun U hU => range_below HIN.out.1 (Gr.below hU) HLT.out.1)) K0 ?_
  try simp only [Act.put, List.setIfInBounds_toArray, List.set_cons_zero, List.set_cons_succ]
  refine wpAnyH_take (i := 7) (oi := { dst := some 12, op := _, type := _, pos := _, after := _, guard := _ }) rfl (by kernel_rfl) (by kernel_rfl) (by kernel_rfl) (fun _ _ _ h => h) (fyield_Ft (by rfl) (.tmp 3) rfl (w.heap.size + 1) b rfl (fun U hU => range_below HIN.out.2 (Gr.below hU) HLT.out.2)) K0 ?_
  try simp only [Act.put, List.setIfInBounds_toArray, List.set_cons_zero, List.set_cons_succ]
  refine wpAnyH_ready (rs := [4]) (by kernel_rfl) (by simp) ?_
  refine AllReadyH.cons (o := { dst := some 9, op := _, type := _, pos := _, after := _, guard := _ }) rfl (fun K hK => ?_) AllReadyH.nil
  go_simp
  refine (HS.out _).mono ?_
  rintro e u4 ⟨rfl, hw⟩
  have K4 := K0
  have K4 := Gr.trans K4 hw
  clear hw
  refine hK.out _ _ K4 (fun _ => ?_)
  clear hK K
  try simp only [Act.put, List.setIfInBounds_toArray, List.set_cons_zero, List.set_cons_succ]
  refine wpAnyH_ready (rs := [6]) (by kernel_rfl) (by simp) ?_
  refine AllReadyH.cons (o := { dst := some 11, op := _, type := _, pos := _, after := _, guard := _ }) rfl (fun K hK => ?_) AllReadyH.nil
  go_simp
  refine (unnamedC a _).mono ?_
  rintro e u6 ⟨rfl, hw⟩
  have K6 := K4
  have K6 := Gr.trans K6 hw
  clear hw
  refine hK.out _ _ K6 (fun _ => ?_)
  clear hK K
  try simp only [Act.put, List.setIfInBounds_toArray, List.set_cons_zero, List.set_cons_succ]
  refine wpAnyH_ready (rs := [8]) (by kernel_rfl) (by simp) ?_
  refine AllReadyH.cons (o := { dst := some 13, op := _, type := _, pos := _, after := _, guard := _ }) rfl (fun K hK => ?_) AllReadyH.nil
  go_simp
  refine (unnamedC b _).mono ?_
  rintro e u8 ⟨rfl, hw⟩
  have K8 := K6
  have K8 := Gr.trans K8 hw
  clear hw
  refine hK.out _ _ K8 (fun _ => ?_)
  clear hK K
  try simp only [Act.put, List.setIfInBounds_toArray, List.set_cons_zero, List.set_cons_succ]
  refine wpAnyH_ready (rs := [9]) (by kernel_rfl) (by simp) ?_
  refine AllReadyH.cons (o := { dst := some 14, op := _, type := _, pos := _, after := _, guard := _ }) rfl (fun K hK => ?_) AllReadyH.nil
  go_simp
  refine (HF.out _).mono ?_
  rintro e u9 ⟨rfl, hw⟩
  have K9 := K8
  have K9 := Gr.trans K9 hw
  clear hw
  refine hK.out _ _ K9 (fun _ => ?_)
  clear hK K
  try simp only [Act.put, List.setIfInBounds_toArray, List.set_cons_zero, List.set_cons_succ]
  refine wpAnyH_ready (rs := [10]) (by kernel_rfl) (by simp) ?_
  refine AllReadyH.cons (o := { dst := some 15, op := _, type := _, pos := _, after := _, guard := _ }) rfl (fun K hK => ?_) AllReadyH.nil
  go_simp
  have K10 := K9
  have K10 := Gr.alloc K10 (.cells #[.int .i64 c1, .int .i64 c2] 3)
  refine hK.out _ _ K10 (fun _ => ?_)
  clear hK K
  try simp only [Act.put, List.setIfInBounds_toArray, List.set_cons_zero, List.set_cons_succ]
  refine wpAnyH_ready (rs := [11]) (by kernel_rfl) (by simp) ?_
  refine AllReadyH.cons (o := { dst := some 16, op := _, type := _, pos := _, after := _, guard := _ }) rfl (fun K hK => ?_) AllReadyH.nil
  go_simp
  refine (orC [c1, c2] u9.heap.size 2 (u9.alloc (.cells #[.int .i64 c1, .int .i64 c2] 3)) rfl (by omega) (fun j hj => ?hc)).mono ?_
  case hc => (rw [Joins.cell_of_block (heap_alloc_new u9 _)]; match j, hj with | 0, _ => rfl | 1, _ => rfl)
  rintro e u11 ⟨rfl, hw⟩
  have K11 := K10
  rw [hw] at K11
  clear hw
  refine hK.out _ _ K11 (fun _ => ?_)
  clear hK K
  try simp only [Act.put, List.setIfInBounds_toArray, List.set_cons_zero, List.set_cons_succ]
  refine wpAnyH_take (i := 12) (oi := { dst := some 4, op := _, type := _, pos := _, after := _, guard := _ }) (v := ?v7) rfl (by kernel_rfl) (by kernel_rfl) (by kernel_rfl) (fun _ _ _ h => h) (Or.inl ⟨by rfl, ?hy7⟩) K11 ?rest7
  case hy7 => (intro w hSw; (try dsimp only at hSw); first | (go_simp; done) | (go_simp; with_reducible rfl))
  try simp only [Act.put, List.setIfInBounds_toArray, List.set_cons_zero, List.set_cons_succ]
  refine wpAnyH_done (by kernel_rfl) ?_ _
  try simp only [Act.put, List.setIfInBounds_toArray, List.set_cons_zero, List.set_cons_succ]
  have HK := Lib.hid (HGR.out.trans K11)
  clear K11
  go_wp2_with fail
  go_ret
  exact ⟨by rw [HOR.out]; rfl, HK.out⟩
end Go.Proofs.Ytpcelgmcbfjmbaa
