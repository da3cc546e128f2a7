/-
  Check: the program's.
  The document's Check, Add, Join.
  almonrylaw13: is a context not too great?
-/
import Derived.Test.YtcedliaeipabnaaGreatGKernJ
import Derived.Test.YtcedliaeipabnaaGreatGKernT
import Derived.Test.YtcedliaeipabnaaGreatGKernK
import Derived.Test.YtcedliaeipabnaaGreatGKernH
namespace Go.Proofs.YtcedliaeipabnaaGreat
set_option maxRecDepth 100000
open Go.RowKit Go.Sort

/-- a new context that a value is stored into -/
theorem new_ctx (w : World) (v : Vc) (s : Value) : CRow ((w.alloc (.cells (ccs zV nilS) 27)).setRow w.heap.size (ccs v s)) w.heap.size v s ∧ Go.RowKit.Below w.heap.size w ((w.alloc (.cells (ccs zV nilS) 27)).setRow w.heap.size (ccs v s)) :=
  ⟨CRow.of_put (CRow.new w zV nilS) v s, belowRow (boxC_below w zV nilS) (Nat.le_refl _) _⟩
/-- two vectors compared -/
theorem neqV {a b : Vc} (ha : a.length = 16) (hb : b.length = 16) (W : World) : (binOp .neq 24 (.agg (ics a)) (.agg (ics b))).run Tryz.prog W = .ok (.bool (!decide (a = b))) W := by
  rw [run_neq_struct]
  have hu := run_underlying (P := Tryz.prog) Tryz.underlying24 W
  have hs : (sizeOf 3).run Tryz.prog W = .ok 1 W := by kernel_rfl
  have e : Op.equalIn 10000 = Op.equalIn (9998 + 1 + 1) := rfl
  rw [e]
  unfold Op.equalIn
  have h := eqs_step ha hb W 16 0 (by omega)
  simp [Sem.run_bind, hu, hs]
  rw [h]
  by_cases hab : a = b
  · subst hab
    rw [if_pos (fun i _ => rfl)]
    simp
  · rw [if_neg (fun hc => hab (vec_ext ha hb fun i hi => by have := hc i hi; rwa [Nat.zero_add] at this))]
    simp [hab]

set_option maxHeartbeats 4000000 in
theorem chkCC (c : Cx) (a : Option Addr) (cap : Nat) (w : World) (h : CIn w c a) :
    Calls Tryz.prog 33 #[.agg (ccs c.v (.slice a c.l.length cap))] w fun e w' => e = .returned (.int .i64 (chkC c)) ∧ Go.RowKit.Below w.heap.size w w' := by
  have HV := Lib.hid h.v16
  have hlm : c.l.length ≤ maxLen := by have := h.len; unfold maxLen; omega
  have HLM := Lib.hid hlm
  have HB0 := Lib.hid (boxC_below w c.v (.slice a c.l.length cap))
  have HR0 := Lib.hid (CRow.new w c.v (.slice a c.l.length cap))
  have HI := Lib.hid h
  have hcv := fun W => vchkC c.v HV.out W
  have HC := Lib.hid (show chkC c = _ from rfl)
  have hc2 := fun h => chkC_vec (c := c) h
  have hc5 := fun h => chkC_form (c := c) h
  have hc0 := fun h => chkC_clean (c := c) h
  unfold boxC at HB0
  clear h hlm
  go_enter Tryz.func33, Tryz.ntmps33
  go_upto_region 1 with fail
  generalize w.alloc (.cells (ccs c.v (.slice a c.l.length cap)) 27) = W at *
  go_wp2_with ((with_reducible refine cl_loadV ?_ (.tmp 5) ?_ w.heap.size c.v (.slice a c.l.length cap) ?_ ?_ ?_ ?_); rfl; rfl; rfl; exact HR0.out; exact HV.out)
  refine (hcv W).mono ?_
  rintro e w1 ⟨rfl, hb1⟩
  have H1 := Lib.hid (And.intro (HR0.out.keep hb1) (HB0.out.trans (hb1.mono HB0.out.size)))
  clear hb1 HB0 HR0 hcv
  by_cases hv : chkV c.v = 0
  · rw [hv]
    clear hc2
    go_wp2_with ((with_reducible refine cl_load ?_ (.tmp 1) ?_ w.heap.size c.v (.slice a c.l.length cap) ?_ ?_ ?_ ?_); rfl; rfl; rfl; exact H1.out.1; exact HV.out)
    refine (cleanCC c a cap w1 (HI.out.below H1.out.2)).mono ?_
    rintro e w2 ⟨⟨o, oa, oc, rfl, hof, hom, hol, -⟩, hb2⟩
    have hoi := hom.cin
    clear hom
    have hiff := clean_iff hof
    have HOV := Lib.hid hoi.v16
    have hB2 := H1.out.2.trans (hb2.mono H1.out.2.size)
    have H2 := Lib.hid (And.intro (HI.out.below hB2) (And.intro hoi (And.intro (H1.out.1.keep hb2) (And.intro (show o.l.length ≤ maxLen by have := HLM.out; omega) hB2))))
    have h3 := new_ctx w2 o.v (.slice oa o.l.length oc)
    have H3 := Lib.hid (And.intro ((HI.out.below hB2).below h3.2) (And.intro (hoi.below h3.2) (And.intro ((H1.out.1.keep hb2).keep h3.2) (And.intro h3.1 (hB2.trans (h3.2.mono hB2.size))))))
    clear h3
    have HEQ := Lib.hid (fun (W : World) (h1 : DIn W a c.l) (h2 : DIn W oa o.l) => equalD c.l o.l a oa cap oc W h1 h2 HLM.out H2.out.2.2.2.1)
    have hne := fun W => neqV HV.out HOV.out W
    have hfrm : ¬ (c.v = o.v ∧ c.l = o.l) → chkC c = 5 := fun hn => hc5 hv (fun hcl => hn (hiff.2 hcl))
    have hgood : (c.v = o.v ∧ c.l = o.l) → chkC c = 0 := fun hn => hc0 (hiff.1 hn)
    clear hb2 hof hoi hol hB2 hiff hc5 hc0 hv
    go_upto_region 5 with (first
      | ((with_reducible refine cl_load ?_ (.tmp 1) ?_ w.heap.size c.v (.slice a c.l.length cap) ?_ ?_ ?_ ?_); rfl; rfl; rfl; exact H2.out.2.2.1; exact HV.out)
      | ((with_reducible refine cl_store ?_ (.tmp 4) (.tmp 12) ?_ w2.heap.size o.v oa o.l.length oc ?_ ?_ ?_ ?_ ?_); rfl; rfl; rfl; rfl; exact ⟨_, _, CRow.new w2 zV nilS, rfl⟩; exact HOV.out))
    change Code.wp _ _ _ _ ((w2.alloc (.cells (ccs zV nilS) 27)).setRow w2.heap.size (ccs o.v (.slice oa o.l.length oc)))
    generalize (w2.alloc (.cells (ccs zV nilS) 27)).setRow w2.heap.size (ccs o.v (.slice oa o.l.length oc)) = W3 at *
    have ca := H3.out.2.2.1.cloud HV.out
    have cb := H3.out.2.2.2.1.cloud HOV.out
    have HG := Lib.hid (And.intro hfrm hgood)
    clear hfrm hgood
    by_cases hve : c.v = o.v
    · rw [decide_eq_true hve] at hne
      have HVE := Lib.hid hve
      clear hve
      go_wp2_with (first
        | ((with_reducible refine cl_loadV ?_ (.tmp 13) ?_ w.heap.size c.v (.slice a c.l.length cap) ?_ ?_ ?_ ?_); rfl; rfl; rfl; exact H3.out.2.2.1; exact HV.out)
        | ((with_reducible refine cl_loadV ?_ (.tmp 15) ?_ w2.heap.size o.v (.slice oa o.l.length oc) ?_ ?_ ?_ ?_); rfl; rfl; rfl; exact H3.out.2.2.2.1; exact HOV.out))
      refine (HEQ.out W3 H3.out.1.din H3.out.2.1.din).mono ?_
      rintro e w4 ⟨rfl, hb4⟩
      have HF := Lib.hid (H3.out.2.2.2.2.trans (hb4.mono H3.out.2.2.2.2.size))
      clear hb4 ca cb hne
      by_cases hle : c.l = o.l
      · rw [decide_eq_true hle]
        have hg := HG.out.2 ⟨HVE.out, hle⟩
        have HGG := Lib.hid hg
        clear hle hg
        go_wp2_with fail
        go_ret
        exact ⟨by rw [HGG.out]; rfl, HF.out⟩
      · rw [decide_eq_false hle]
        have hg := HG.out.1 (fun h => hle h.2)
        have HGG := Lib.hid hg
        clear hle hg
        go_wp2_with fail
        go_ret
        exact ⟨by rw [HGG.out]; rfl, HF.out⟩
    · rw [decide_eq_false hve] at hne
      have hg := HG.out.1 (fun h => hve h.1)
      have HGG := Lib.hid hg
      clear hve hg
      go_wp2_with (first
        | ((with_reducible refine cl_loadV ?_ (.tmp 13) ?_ w.heap.size c.v (.slice a c.l.length cap) ?_ ?_ ?_ ?_); rfl; rfl; rfl; exact H3.out.2.2.1; exact HV.out)
        | ((with_reducible refine cl_loadV ?_ (.tmp 15) ?_ w2.heap.size o.v (.slice oa o.l.length oc) ?_ ?_ ?_ ?_); rfl; rfl; rfl; exact H3.out.2.2.2.1; exact HOV.out))
      go_ret
      exact ⟨by rw [HGG.out]; rfl, H3.out.2.2.2.2⟩
  · have HE2 := Lib.hid (hc2 hv)
    have h2 := (chkV_cases c.v).resolve_left hv
    rw [h2]
    clear hc2 hc5 hc0 hv h2
    go_wp2_with fail
    go_ret
    exact ⟨by rw [HE2.out]; rfl, H1.out.2⟩
end Go.Proofs.YtcedliaeipabnaaGreat

namespace Go.Proofs.YtcedliaeipabnaaGreat
set_option linter.unusedSimpArgs false
set_option linter.unusedVariables false
set_option maxRecDepth 100000
open Go.RowKit Go.Sort

set_option maxHeartbeats 4000000 in
theorem chkRC (c : Cx) (a : Option Addr) (cap : Nat) (w : World) (h : CIn w c a) :
    Calls Tryz.prog 39 #[.agg (ccs c.v (.slice a c.l.length cap))] w fun e w' => e = .returned (.int .i64 (chkC c)) ∧ Go.RowKit.Below w.heap.size w w' := by
  have HV := Lib.hid h.v16
  have HB0 := Lib.hid (boxC_below w c.v (.slice a c.l.length cap))
  have HR0 := Lib.hid (CRow.new w c.v (.slice a c.l.length cap))
  have HI := Lib.hid h
  have hcv := fun W => vchkR c.v HV.out W
  have hc2 := fun h => chkC_vec (c := c) h
  have hc5 := fun h => chkC_form (c := c) h
  have hc0 := fun h => chkC_clean (c := c) h
  unfold boxC at HB0
  clear h
  go_enter Tryz.func39, Tryz.ntmps39
  go_upto_region 1 with fail
  generalize w.alloc (.cells (ccs c.v (.slice a c.l.length cap)) 27) = W0 at *
  go_wp2_with ((with_reducible refine cl_loadV ?_ (.tmp 4) ?_ w.heap.size c.v (.slice a c.l.length cap) ?_ ?_ ?_ ?_); rfl; rfl; rfl; exact HR0.out; exact HV.out)
  refine (hcv W0).mono ?_
  rintro e W ⟨rfl, hb1⟩
  have H1 := Lib.hid (And.intro (HR0.out.keep hb1) (HB0.out.trans (hb1.mono HB0.out.size)))
  clear hb1 HB0 HR0 hcv
  by_cases hv : chkV c.v = 0
  · rw [hv]
    have HG := Lib.hid (And.intro hv (And.intro hc5 hc0))
    clear hc2 hv hc5 hc0
    go_upto_region 4 with fail
    refine wp_region_held (S := fun U => Go.RowKit.Below W.heap.size W U) (by kernel_rfl) ?_
    change wpAnyH _ _ _ _ _ _ _ _ W.drew
    have K0 : (fun U => Go.RowKit.Below W.heap.size W U) W.drew := (Below.refl _ _).drew
    refine wpAnyH_take (i := 0) (oi := { dst := some 10, op := _, type := _, pos := _, after := _, guard := _ }) rfl (by kernel_rfl) (by kernel_rfl) (by kernel_rfl) (fun _ _ _ h => h) (yield_C (by rfl) (.tmp 1) rfl w.heap.size c.v (.slice a c.l.length cap) rfl (fun U hU => H1.out.1.keep hU) HV.out) K0 ?_
    try simp only [Act.put, List.setIfInBounds_toArray, List.set_cons_zero, List.set_cons_succ]
    refine wpAnyH_take (i := 1) (oi := { dst := some 11, op := _, type := _, pos := _, after := _, guard := _ }) rfl (by kernel_rfl) (by kernel_rfl) (by kernel_rfl) (fun _ _ _ h => h) (yield_C (by rfl) (.tmp 1) rfl w.heap.size c.v (.slice a c.l.length cap) rfl (fun U hU => H1.out.1.keep hU) HV.out) K0 ?_
    try simp only [Act.put, List.setIfInBounds_toArray, List.set_cons_zero, List.set_cons_succ]
    refine wpAnyH_ready (rs := [2]) (by kernel_rfl) (by simp) ?_
    refine AllReadyH.cons (o := { dst := some 12, op := _, type := _, pos := _, after := _, guard := _ }) rfl (fun K hK => ?_) AllReadyH.nil
    go_simp
    refine (cleanRC c a cap _ (HI.out.below (H1.out.2.trans (K0.mono H1.out.2.size)))).mono ?_
    rintro e w2 ⟨⟨o, oa, oc, rfl, hof, hom, hol⟩, hb2⟩
    have K2 := K0.trans (hb2.mono K0.size)
    obtain ⟨u, hu⟩ : ∃ u, decide (c = o) = u := ⟨_, rfl⟩
    have hsm := sameRC c o a oa cap oc w2 (HI.out.below (H1.out.2.trans (K2.mono H1.out.2.size))) hom.cin
    rw [hu] at hsm
    have HSM := Lib.hid hsm
    have HIF := Lib.hid (And.intro hu (clean_iff hof))
    clear hof hom hol hb2 hsm hu
    refine hK.out _ _ K2 (fun _ => ?_)
    clear hK K
    try simp only [Act.put, List.setIfInBounds_toArray, List.set_cons_zero, List.set_cons_succ]
    refine wpAnyH_ready (rs := [3]) (by kernel_rfl) (by simp) ?_
    refine AllReadyH.cons (o := { dst := some 13, op := _, type := _, pos := _, after := _, guard := _ }) rfl (fun K hK => ?_) AllReadyH.nil
    go_simp
    refine HSM.out.mono ?_
    rintro e w3 ⟨rfl, hb3⟩
    have K3 := K2.trans (hb3.mono K2.size)
    clear hb3
    refine hK.out _ _ K3 (fun _ => ?_)
    clear hK K
    try simp only [Act.put, List.setIfInBounds_toArray, List.set_cons_zero, List.set_cons_succ]
    refine wpAnyH_take (i := 4) (oi := { dst := some 14, op := _, type := _, pos := _, after := _, guard := _ }) (v := ?v3) rfl (by kernel_rfl) (by kernel_rfl) (by kernel_rfl) (fun _ _ _ h => h) (Or.inl ⟨by rfl, ?hy3⟩) K3 ?rest3
    case hy3 => (intro w hSw; (try dsimp only at hSw); first | (go_simp; done) | (go_simp; with_reducible rfl))
    try simp only [Act.put, List.setIfInBounds_toArray, List.set_cons_zero, List.set_cons_succ]
    refine wpAnyH_done (by kernel_rfl) ?_ _
    try simp only [Act.put, List.setIfInBounds_toArray, List.set_cons_zero, List.set_cons_succ]
    have HF := Lib.hid (H1.out.2.trans (K3.mono H1.out.2.size))
    clear K0 K2 K3 HSM
    cases u with
    | true =>
      have he := of_decide_eq_true HIF.out.1
      have hg := HG.out.2.2 (HIF.out.2.1 ⟨by rw [← he], by rw [← he]⟩)
      have HGG := Lib.hid hg
      clear he hg
      go_wp2_with fail
      go_ret
      exact ⟨by rw [HGG.out]; rfl, HF.out⟩
    | false =>
      have he := of_decide_eq_false HIF.out.1
      have hg := HG.out.2.1 HG.out.1 (fun hcl => he (by
        obtain ⟨h1, h2⟩ := HIF.out.2.2 hcl
        obtain ⟨cv, cl⟩ := c
        obtain ⟨ov, ol⟩ := o
        simp only at h1 h2
        rw [h1, h2]))
      have HGG := Lib.hid hg
      clear he hg
      go_wp2_with fail
      go_ret
      exact ⟨by rw [HGG.out]; rfl, HF.out⟩
  · have HE2 := Lib.hid (hc2 hv)
    have h2 := (chkV_cases c.v).resolve_left hv
    rw [h2]
    clear hc2 hc5 hc0 hv h2
    go_wp2_with fail
    go_ret
    exact ⟨by rw [HE2.out]; rfl, H1.out.2⟩

set_option maxHeartbeats 4000000 in
theorem addRC (c : Cx) (m : List Dt) (a b : Option Addr) (cap capb : Nat) (w : World) (h : CIn w c a) (hm : DIn w b m) (hl : c.l.length + m.length ≤ 32768) :
    Calls Tryz.prog 21 #[.agg (ccs c.v (.slice a c.l.length cap)), .slice b m.length capb] w fun e w' => (∃ (o : Cx) (a' : Option Addr) (cap' : Nat), e = .returned (.agg (ccs o.v (.slice a' o.l.length cap'))) ∧ AddOf c m o ∧ Made w.heap.size w' o a' ∧ o.l.length ≤ c.l.length + m.length) ∧ Go.RowKit.Below w.heap.size w w' := by
  have HV := Lib.hid h.v16
  have HI := Lib.hid (And.intro h hm)
  obtain ⟨L, hL⟩ : ∃ L, L = c.l ++ m := ⟨_, rfl⟩
  have HLl : Hid (L.length = c.l.length + m.length) := Lib.hid (by rw [hL, List.length_append])
  have HL := Lib.hid hL
  have H0 : Hid (Hold1 w c.v (.slice a c.l.length cap) (boxC (boxC w c.v (.slice a c.l.length cap)) zV nilS)) := Lib.hid ⟨(CRow.new w _ _).alloc _, ⟨zV, nilS, by have := CRow.new (boxC w c.v (.slice a c.l.length cap)) zV nilS; rw [boxC_size] at this; exact this, rfl⟩, (boxC_below _ _ _).trans ((boxC_below _ _ _).mono (by rw [boxC_size]; omega))⟩
  unfold boxC at H0
  clear h hm hL
  go_enter Tryz.func21, Tryz.ntmps21
  go_upto_region 1 with fail
  change Code.wp _ _ _ _ ((w.alloc (.cells (ccs c.v (.slice a c.l.length cap)) 27)).alloc (.cells (ccs zV nilS) 27))
  generalize (w.alloc (.cells (ccs c.v (.slice a c.l.length cap)) 27)).alloc (.cells (ccs zV nilS) 27) = W at *
  have c16 := H0.out.row.cloud HV.out
  have hzW : w.heap.size + 2 ≤ W.heap.size := by obtain ⟨_, _, h1, _⟩ := H0.out.res; have := h1.lt; omega
  obtain ⟨q1, d1, w1, hr1, ho1, hb1⟩ := appD (c := cap) (ownD_nil W.heap.size W) (HI.out.1.din.below H0.out.low) (Nat.le_refl _) c.l.length (by simp) (by omega)
  rw [List.nil_append] at ho1
  have HR1 := Lib.hid hr1
  have H1 := Lib.hid (H0.out.below hb1)
  have hs1 := hb1.size
  obtain ⟨q2, d2, w2, hr2, ho2, hb2⟩ := appD (c := capb) ho1 (HI.out.2.below H1.out.low) hs1 L.length (by rw [HLl.out]) (by have := HLl.out; omega)
  rw [← HL.out] at ho2
  have HR2 := Lib.hid hr2
  have hb12 := hb1.trans hb2
  have H2 := Lib.hid (H0.out.below hb12)
  have HO2 := Lib.hid ho2.from
  have hs2 := hb12.size
  clear hr1 hr2 ho1 ho2 hb1 hb2 hb12
  have hcl := cleanRC ⟨c.v, L⟩ q2 d2 w2 ⟨HV.out, by obtain ⟨a', c', he, hf, -⟩ := HO2.out; injection he with h1 h2 h3; subst h1; exact hf.din, by show L.length ≤ 32768; rw [HLl.out]; exact hl⟩
  have HCL := Lib.hid hcl
  clear hcl
  go_wp2_with (first
    | (at_builtin; refine wpList_append_run rfl _ _ 25 25 rfl (.slice none 0 0) (.slice a c.l.length cap) _ w1 rfl rfl HR1.out ?_)
    | (at_builtin; refine wpList_append_run rfl _ _ 25 25 rfl (.slice q1 c.l.length d1) (.slice b m.length capb) _ w2 rfl rfl HR2.out ?_)
    | ((with_reducible refine cl_loadV ?_ (.tmp 13) ?_ w.heap.size c.v (.slice a c.l.length cap) ?_ ?_ ?_ ?_); rfl; rfl; rfl; exact H2.out.row; exact HV.out)
    | ((with_reducible refine cl_build ?_ (.tmp 14) (.tmp 15) ?_ c.v q2 L.length d2 ?_ ?_ ?_ ?_); rfl; rfl; rfl; rfl; exact HV.out))
  refine HCL.out.mono ?_
  rintro e w3 ⟨⟨o, oa, oc, rfl, hof, hom, hol⟩, hb3⟩
  have H3 := Lib.hid (H2.out.below hb3)
  have HO := Lib.hid (And.intro (addOf_cloud (by rw [← HL.out]; exact hof)) (And.intro hom (show o.l.length ≤ c.l.length + m.length by rw [← HLl.out]; exact hol)))
  clear hof hom hol hb3 HCL
  have HP := Lib.hid (H3.out.put (x := o.v) (t := .slice oa o.l.length oc) HO.out.2.1.v16)
  have HF := Lib.hid ((HO.out.2.1.mono (show w.heap.size + 2 ≤ w2.heap.size by omega)).setRow (show w.heap.size + 1 < w.heap.size + 2 by omega) (ccs o.v (.slice oa o.l.length oc)))
  go_wp2_with ((with_reducible refine cl_store ?_ (.tmp 4) (.tmp 17) ?_ (w.heap.size + 1) o.v oa o.l.length oc ?_ ?_ ?_ ?_ ?_); rfl; rfl; rfl; rfl; exact H3.out.res; exact HO.out.2.1.v16)
  refine bodyPost_ret (retC rfl _ _ (w.heap.size + 1) o.v (.slice oa o.l.length oc) rfl HP.out.2 HO.out.2.1.v16) rfl ?_
  first
    | exact ⟨⟨o, oa, oc, rfl, HO.out.1, HF.out.mono (by omega), HO.out.2.2⟩, HP.out.1.low⟩
    | exact ⟨⟨o, oa, ⟨oc, rfl⟩, HO.out.1, HF.out.mono (by omega), HO.out.2.2⟩, HP.out.1.low⟩

set_option maxHeartbeats 4000000 in
theorem joinRC (a b : Cx) (pa pb : Option Addr) (ca cb : Nat) (w : World) (h : CIn w a pa) (hm : CIn w b pb) (hl : a.l.length + b.l.length ≤ 32768) :
    Calls Tryz.prog 31 #[.agg (ccs a.v (.slice pa a.l.length ca)), .agg (ccs b.v (.slice pb b.l.length cb))] w fun e w' => (∃ (o : Cx) (a' : Option Addr) (cap' : Nat), e = .returned (.agg (ccs o.v (.slice a' o.l.length cap'))) ∧ JoinOf a b o ∧ Made w.heap.size w' o a' ∧ o.l.length ≤ a.l.length + b.l.length) ∧ Go.RowKit.Below w.heap.size w w' := by
  have HV := Lib.hid h.v16
  have HV2 := Lib.hid hm.v16
  have HI := Lib.hid (And.intro h hm)
  have HC := Lib.hid (three_two w a.v b.v (.slice pa a.l.length ca) (.slice pb b.l.length cb))
  unfold boxC at HC
  clear h hm
  go_enter Tryz.func31, Tryz.ntmps31
  go_upto_region 1 with fail
  change Code.wp _ _ _ _ (((w.alloc (.cells (ccs a.v (.slice pa a.l.length ca)) 27)).alloc (.cells (ccs b.v (.slice pb b.l.length cb)) 27)).alloc (.cells (ccs zV nilS) 27))
  generalize ((w.alloc (.cells (ccs a.v (.slice pa a.l.length ca)) 27)).alloc (.cells (ccs b.v (.slice pb b.l.length cb)) 27)).alloc (.cells (ccs zV nilS) 27) = W0 at *
  go_wp2_with ((with_reducible refine cl_load ?_ (.tmp 2) ?_ w.heap.size a.v (.slice pa a.l.length ca) ?_ ?_ ?_ ?_); rfl; rfl; rfl; exact HC.out.1; exact HV.out)
  refine (cleanRC a pa ca W0 (HI.out.1.below HC.out.2.2.2)).mono ?_
  rintro e w1 ⟨⟨o1, p1, c1, rfl, hof1, hom1, hol1⟩, hb1⟩
  have hzW : w.heap.size + 3 ≤ W0.heap.size := by have := HC.out.2.2.1.lt; omega
  have X1 := Lib.hid (And.intro (HC.out.1.keep hb1) (And.intro (HC.out.2.1.keep hb1) (And.intro (HC.out.2.2.1.keep hb1) (HC.out.2.2.2.trans (hb1.mono HC.out.2.2.2.size)))))
  have HO1 := Lib.hid (And.intro hof1 (And.intro (hom1.mono hzW) hol1))
  have X2 := Lib.hid (And.intro (CRow.of_put X1.out.1 o1.v (.slice p1 o1.l.length c1)) (And.intro (X1.out.2.1.of_set (show w.heap.size + 1 ≠ w.heap.size by omega) (ccs o1.v (.slice p1 o1.l.length c1))) (And.intro (X1.out.2.2.1.of_set (show w.heap.size + 2 ≠ w.heap.size by omega) (ccs o1.v (.slice p1 o1.l.length c1))) (And.intro (belowRow X1.out.2.2.2 (Nat.le_refl _) (ccs o1.v (.slice p1 o1.l.length c1))) (HO1.out.2.1.setRow (show w.heap.size < w.heap.size + 3 by omega) (ccs o1.v (.slice p1 o1.l.length c1)))))))
  have hs1 := hb1.size
  clear hof1 hom1 hol1 hb1 HC
  go_upto_region 2 with ((with_reducible refine cl_store ?_ (.tmp 2) (.tmp 6) ?_ w.heap.size o1.v p1 o1.l.length c1 ?_ ?_ ?_ ?_ ?_); rfl; rfl; rfl; rfl; exact ⟨_, _, X1.out.1, HV.out⟩; exact HO1.out.2.1.v16)
  have hsz2 : (w1.setRow w.heap.size (ccs o1.v (.slice p1 o1.l.length c1))).heap.size = w1.heap.size := by simp
  generalize w1.setRow w.heap.size (ccs o1.v (.slice p1 o1.l.length c1)) = w2 at *
  go_wp2_with ((with_reducible refine cl_load ?_ (.tmp 3) ?_ (w.heap.size + 1) b.v (.slice pb b.l.length cb) ?_ ?_ ?_ ?_); rfl; rfl; rfl; exact X2.out.2.1; exact HV2.out)
  refine (cleanRC b pb cb w2 (HI.out.2.below X2.out.2.2.2.1)).mono ?_
  rintro e w3 ⟨⟨o2, p2, c2, rfl, hof2, hom2, hol2⟩, hb3⟩
  have HO2 := Lib.hid (And.intro hof2 (And.intro (hom2.mono (show w.heap.size + 3 ≤ w2.heap.size by omega)) hol2))
  have X3 := Lib.hid (And.intro (X2.out.1.keep hb3) (And.intro (X2.out.2.1.keep hb3) (And.intro (X2.out.2.2.1.keep hb3) (And.intro (X2.out.2.2.2.1.trans (hb3.mono X2.out.2.2.2.1.size)) (X2.out.2.2.2.2.below hb3)))))
  have hs3 := hb3.size
  clear hof2 hom2 hol2 hb3 X2 X1
  have H0 : Hid (Hold2 w o1.v (.slice p1 o1.l.length c1) o2.v (.slice p2 o2.l.length c2) (w3.setRow (w.heap.size + 1) (ccs o2.v (.slice p2 o2.l.length c2)))) := Lib.hid ⟨X3.out.1.of_set (by omega) _, CRow.of_put X3.out.2.1 _ _, ⟨_, _, X3.out.2.2.1.of_set (by omega) _, rfl⟩, belowRow X3.out.2.2.2.1 (Nat.le_succ _) _⟩
  have HM1 := Lib.hid (X3.out.2.2.2.2.setRow (show w.heap.size + 1 < w.heap.size + 3 by omega) (ccs o2.v (.slice p2 o2.l.length c2)))
  have HM2 := Lib.hid (HO2.out.2.1.setRow (show w.heap.size + 1 < w.heap.size + 3 by omega) (ccs o2.v (.slice p2 o2.l.length c2)))
  go_upto_region 3 with ((with_reducible refine cl_store ?_ (.tmp 3) (.tmp 8) ?_ (w.heap.size + 1) o2.v p2 o2.l.length c2 ?_ ?_ ?_ ?_ ?_); rfl; rfl; rfl; rfl; exact ⟨_, _, X3.out.2.1, HV2.out⟩; exact HO2.out.2.1.v16)
  have hsz4 : (w3.setRow (w.heap.size + 1) (ccs o2.v (.slice p2 o2.l.length c2))).heap.size = w3.heap.size := by simp
  generalize w3.setRow (w.heap.size + 1) (ccs o2.v (.slice p2 o2.l.length c2)) = W at *
  have HV3 := Lib.hid HO1.out.2.1.v16
  have HV4 := Lib.hid HO2.out.2.1.v16
  have hvj := fun W => vjoinR o1.v o2.v HV3.out HV4.out W
  have HJL := Lib.hid (joinV_len HV3.out HV4.out)
  obtain ⟨J, hJ⟩ : ∃ J, J = joinV o1.v o2.v := ⟨_, rfl⟩
  rw [← hJ] at hvj HJL
  have HJ := Lib.hid hJ
  have HVJ := Lib.hid hvj
  have hlen2 : o1.l.length + o2.l.length ≤ 32768 := by have := HO1.out.2.2; have := HO2.out.2.2; omega
  clear hvj hJ X3
  refine wp_region_held (S := fun U => Hold2 w o1.v (.slice p1 o1.l.length c1) o2.v (.slice p2 o2.l.length c2) U) (by kernel_rfl) ?_
  change wpAnyH _ _ _ _ _ _ _ _ W.drew
  have K0 : (fun U => Hold2 w o1.v (.slice p1 o1.l.length c1) o2.v (.slice p2 o2.l.length c2) U) W.drew := H0.out.below (Below.refl _ _).drew
  refine wpAnyH_take (i := 0) (oi := { dst := some 9, op := _, type := _, pos := _, after := _, guard := _ }) (v := ?v4) rfl (by kernel_rfl) (by kernel_rfl) (by kernel_rfl) (fun _ _ _ h => h) (Or.inl ⟨by rfl, ?hy4⟩) K0 ?rest4
  case hy4 => (intro w hSw; (try dsimp only at hSw); first | (go_simp; done) | (go_simp; with_reducible rfl))
  try simp only [Act.put, List.setIfInBounds_toArray, List.set_cons_zero, List.set_cons_succ]
  refine wpAnyH_take (i := 1) (oi := { dst := some 10, op := _, type := _, pos := _, after := _, guard := _ }) rfl (by kernel_rfl) (by kernel_rfl) (by kernel_rfl) (fun _ _ _ h => h) (yield_V (by rfl) (.tmp 9) rfl w.heap.size o1.v (.slice p1 o1.l.length c1) rfl (fun U hU => hU.row) HV3.out) K0 ?_
  try simp only [Act.put, List.setIfInBounds_toArray, List.set_cons_zero, List.set_cons_succ]
  refine wpAnyH_take (i := 2) (oi := { dst := some 11, op := _, type := _, pos := _, after := _, guard := _ }) (v := ?v6) rfl (by kernel_rfl) (by kernel_rfl) (by kernel_rfl) (fun _ _ _ h => h) (Or.inl ⟨by rfl, ?hy6⟩) K0 ?rest6
  case hy6 => (intro w hSw; (try dsimp only at hSw); first | (go_simp; done) | (go_simp; with_reducible rfl))
  try simp only [Act.put, List.setIfInBounds_toArray, List.set_cons_zero, List.set_cons_succ]
  refine wpAnyH_take (i := 3) (oi := { dst := some 12, op := _, type := _, pos := _, after := _, guard := _ }) rfl (by kernel_rfl) (by kernel_rfl) (by kernel_rfl) (fun _ _ _ h => h) (yield_V (by rfl) (.tmp 11) rfl (w.heap.size + 1) o2.v (.slice p2 o2.l.length c2) rfl (fun U hU => hU.row2) HV4.out) K0 ?_
  try simp only [Act.put, List.setIfInBounds_toArray, List.set_cons_zero, List.set_cons_succ]
  refine wpAnyH_take (i := 5) (oi := { dst := some 14, op := _, type := _, pos := _, after := _, guard := _ }) (v := ?v8) rfl (by kernel_rfl) (by kernel_rfl) (by kernel_rfl) (fun _ _ _ h => h) (Or.inl ⟨by rfl, ?hy8⟩) K0 ?rest8
  case hy8 => (intro w hSw; (try dsimp only at hSw); first | (go_simp; done) | (go_simp; with_reducible rfl))
  try simp only [Act.put, List.setIfInBounds_toArray, List.set_cons_zero, List.set_cons_succ]
  refine wpAnyH_take (i := 6) (oi := { dst := some 15, op := _, type := _, pos := _, after := _, guard := _ }) rfl (by kernel_rfl) (by kernel_rfl) (by kernel_rfl) (fun _ _ _ h => h) (yield_S (by rfl) (.tmp 14) rfl w.heap.size o1.v (.slice p1 o1.l.length c1) rfl (fun U hU => hU.row) HV3.out) K0 ?_
  try simp only [Act.put, List.setIfInBounds_toArray, List.set_cons_zero, List.set_cons_succ]
  refine wpAnyH_take (i := 8) (oi := { dst := some 17, op := _, type := _, pos := _, after := _, guard := _ }) (v := ?v10) rfl (by kernel_rfl) (by kernel_rfl) (by kernel_rfl) (fun _ _ _ h => h) (Or.inl ⟨by rfl, ?hy10⟩) K0 ?rest10
  case hy10 => (intro w hSw; (try dsimp only at hSw); first | (go_simp; done) | (go_simp; with_reducible rfl))
  try simp only [Act.put, List.setIfInBounds_toArray, List.set_cons_zero, List.set_cons_succ]
  refine wpAnyH_take (i := 9) (oi := { dst := some 18, op := _, type := _, pos := _, after := _, guard := _ }) rfl (by kernel_rfl) (by kernel_rfl) (by kernel_rfl) (fun _ _ _ h => h) (yield_S (by rfl) (.tmp 17) rfl (w.heap.size + 1) o2.v (.slice p2 o2.l.length c2) rfl (fun U hU => hU.row2) HV4.out) K0 ?_
  try simp only [Act.put, List.setIfInBounds_toArray, List.set_cons_zero, List.set_cons_succ]
  refine wpAnyH_ready (rs := [4]) (by kernel_rfl) (by simp) ?_
  refine AllReadyH.cons (o := { dst := some 13, op := _, type := _, pos := _, after := _, guard := _ }) rfl (fun K hK => ?_) AllReadyH.nil
  go_simp
  refine (HVJ.out _).mono ?_
  rintro e w4 ⟨rfl, hb4⟩
  have K4 := K0.below hb4
  have hbW := ((Below.refl W.heap.size W).drew).trans hb4
  clear hb4
  refine hK.out _ _ K4 (fun _ => ?_)
  clear hK K
  try simp only [Act.put, List.setIfInBounds_toArray, List.set_cons_zero, List.set_cons_succ]
  refine wpAnyH_take (i := 7) (oi := { dst := some 16, op := _, type := _, pos := _, after := _, guard := _ }) rfl (by kernel_rfl) (by kernel_rfl) (by kernel_rfl) (fun _ _ _ h => h) (yield_B (by rfl) (.tmp 13) (.tmp 15) rfl J p1 o1.l.length c1 rfl rfl HJL.out) K4 ?_
  try simp only [Act.put, List.setIfInBounds_toArray, List.set_cons_zero, List.set_cons_succ]
  refine wpAnyH_ready (rs := [10]) (by kernel_rfl) (by simp) ?_
  refine AllReadyH.cons (o := { dst := some 19, op := _, type := _, pos := _, after := _, guard := _ }) rfl (fun K hK => ?_) AllReadyH.nil
  go_simp
  have hcl := addRC ⟨J, o1.l⟩ o2.l p1 p2 c1 c2 w4 ⟨HJL.out, (HM1.out.below hbW).new.din, HM1.out.len⟩ (HM2.out.below hbW).new.din hlen2
  refine hcl.mono ?_
  rintro e w8 ⟨⟨o, oa, oc, rfl, hof, hoi, hol⟩, hb8⟩
  have K10 := K4.below hb8
  have HO := Lib.hid (And.intro (joinOf_clean HO1.out.1 HO2.out.1 (joinOf_add HV3.out HV4.out (by rw [← HJ.out]; exact hof))) (And.intro hoi (And.intro hb8 (show o.l.length ≤ a.l.length + b.l.length from Nat.le_trans hol (Nat.add_le_add HO1.out.2.2 HO2.out.2.2)))))
  have hs4 : w.heap.size + 3 ≤ w4.heap.size := by obtain ⟨_, _, h1, _⟩ := K4.res; have := h1.lt; omega
  clear hcl hof hoi hol hb8
  refine hK.out _ _ K10 (fun _ => ?_)
  clear hK K
  try simp only [Act.put, List.setIfInBounds_toArray, List.set_cons_zero, List.set_cons_succ]
  refine wpAnyH_ready (rs := [11]) (by kernel_rfl) (by simp) ?_
  refine AllReadyH.cons (o := { dst := none, op := _, type := _, pos := _, after := _, guard := _ }) rfl (fun K hK => ?_) AllReadyH.nil
  refine draw_storeC rfl (.tmp 4) (.tmp 19) rfl (w.heap.size + 2) rfl o.v oa o.l.length oc rfl HO.out.2.1.v16 K10.res ?_
  have K11 := (K10.put (x := o.v) (t := .slice oa o.l.length oc) HO.out.2.1.v16).1
  have HR := Lib.hid (K10.put (x := o.v) (t := .slice oa o.l.length oc) HO.out.2.1.v16).2
  refine hK.out _ _ K11 (fun _ => ?_)
  clear hK K
  try simp only [Act.put, List.setIfInBounds_toArray, List.set_cons_zero, List.set_cons_succ]
  refine wpAnyH_done (by kernel_rfl) ?_ _
  try simp only [Act.put, List.setIfInBounds_toArray, List.set_cons_zero, List.set_cons_succ]
  have HF := Lib.hid (And.intro K11.low ((HO.out.2.1.mono hs4).setRow (show w.heap.size + 2 < w.heap.size + 3 by omega) (ccs o.v (.slice oa o.l.length oc))))
  clear K0 K4 K10 K11
  go_wp2_with fail
  refine bodyPost_ret (retC rfl _ _ (w.heap.size + 2) o.v (.slice oa o.l.length oc) rfl HR.out HO.out.2.1.v16) rfl ?_
  first
    | exact ⟨⟨o, oa, oc, rfl, HO.out.1, HF.out.2.mono (by omega), HO.out.2.2.2⟩, HF.out.1⟩
    | exact ⟨⟨o, oa, ⟨oc, rfl⟩, HO.out.1, HF.out.2.mono (by omega), HO.out.2.2.2⟩, HF.out.1⟩
end Go.Proofs.YtcedliaeipabnaaGreat

namespace Go.Proofs.YtcedliaeipabnaaGreat
set_option maxRecDepth 100000
open Go.RowKit Go.Sort

set_option maxHeartbeats 2000000 in
theorem fewC (c : Cx) (a : Option Addr) (cap : Nat) (w : World) (hv : c.v.length = 16) (hl : c.l.length ≤ maxLen) : Calls Tryz.prog 23 #[.agg (ccs c.v (.slice a c.l.length cap))] w fun e w' => e = .returned (.bool (decide (c.l.length ≤ 40))) ∧ Go.RowKit.Below w.heap.size w w' := by
  unfold maxLen at hl
  have c16 := (CRow.new w c.v (.slice a c.l.length cap)).cloud hv
  have HB := Lib.hid (boxC_below w c.v (.slice a c.l.length cap))
  have he : decide ((c.l.length : Int) ≤ 40) = decide (c.l.length ≤ 40) := by
    by_cases h : c.l.length ≤ 40
    · rw [decide_eq_true h, decide_eq_true (by omega)]
    · rw [decide_eq_false h, decide_eq_false (by omega)]
  unfold boxC at HB
  go_enter Tryz.func23, Tryz.ntmps23
  go_wp2_with fail
  go_ret
  exact ⟨by first | rfl | (rw [he]) | (simp [he]) | skip, HB.out⟩
end Go.Proofs.YtcedliaeipabnaaGreat
