/-
  almonrylaw16: the walk of KernelJoins.
-/
import Derived.Test.YtcedliaeipabnaaGreatKernLawA
import Derived.Test.YtcedliaeipabnaaGreatKernAwk
import Derived.Test.YtcedliaeipabnaaGreatKernRef
import Derived.Test.YtcedliaeipabnaaGreatKernRefC
namespace Go.Proofs.YtcedliaeipabnaaGreat
set_option linter.unusedSimpArgs false
set_option linter.unusedVariables false
set_option maxRecDepth 100000
open Go.RowKit Go.Sort

theorem SideArg.below {w w' : World} {l : List Ft} {la : Option Addr} {c : Cx} {pa : Option Addr} (h : SideArg w l la c pa) (hb : Go.RowKit.Below w.heap.size w w') : SideArg w' l la c pa :=
  ⟨h.fin.below hb, h.flen, h.txt, h.ctx.v16, h.ctx.din.below hb, h.ctx.len⟩
theorem fewS_ok {l : List Ft} {c : Cx} (h : fewS l c = true) : l.length ≤ 30 ∧ c.l.length ≤ 40 ∧ ∀ f ∈ l, f.v.size ≤ 5000 := by
  unfold fewS at h
  rw [Bool.and_eq_true, decide_eq_true_eq] at h
  exact ⟨(fewP_ok h.1).1, h.2, fewP_v h.1⟩
theorem SideArg.cin {w : World} {l : List Ft} {la : Option Addr} {c : Cx} {pa : Option Addr} (h : SideArg w l la c pa) (hc : c.l.length ≤ 40) : CIn w c pa := ⟨h.ctx.v16, h.ctx.din, by omega⟩
structure HJ2 (w : World) (A B : Array Value) (U : World) : Prop where
  ra : Blk U w.heap.size 29 A
  rb : Blk U (w.heap.size + 1) 29 B
  low : Go.RowKit.Below w.heap.size w U
theorem HJ2.below {w U U' : World} {A B : Array Value} (h : HJ2 w A B U) (hb : Go.RowKit.Below U.heap.size U U') : HJ2 w A B U' := ⟨h.ra.keep hb, h.rb.keep hb, h.low.trans (hb.mono h.low.size)⟩

set_option maxHeartbeats 16000000 in
theorem kjoins_row (a : List Ft) (la : Option Addr) (ka : Nat) (ac : Cx) (pa : Option Addr) (ca : Nat) (b : List Ft) (lb : Option Addr) (kb : Nat) (bc : Cx) (pb : Option Addr) (cb : Nat) (w : World) (ha : SideArg w a la ac pa) (hb : SideArg w b lb bc pb) :
    Calls Tryz.prog 3 #[.agg (sdc a la ka ac pa ca), .agg (sdc b lb kb bc pb cb)] w fun e w' => e = .returned (.bool true) ∧ Go.RowKit.Below w.heap.size w w' := by
  have e1 : (w.alloc (.cells (sdc a la ka ac pa ca) 29)).heap.size = w.heap.size + 1 := World.size_alloc _ _
  have h1 := Blk.new (w.alloc (.cells (sdc a la ka ac pa ca) 29)) 29 (sdc b lb kb bc pb cb)
  rw [e1] at h1
  have hlow : Go.RowKit.Below w.heap.size w ((w.alloc (.cells (sdc a la ka ac pa ca) 29)).alloc (.cells (sdc b lb kb bc pb cb) 29)) := (lowA w _).alloc (by rw [e1]; omega) _
  have H0 : Hid (HJ2 w (sdc a la ka ac pa ca) (sdc b lb kb bc pb cb) ((w.alloc (.cells (sdc a la ka ac pa ca) 29)).alloc (.cells (sdc b lb kb bc pb cb) 29))) := Lib.hid ⟨(Blk.new w 29 (sdc a la ka ac pa ca)).alloc _, h1, hlow⟩
  have HV := Lib.hid ha.ctx.v16
  have HV2 := Lib.hid hb.ctx.v16
  have HI := Lib.hid (And.intro ha hb)
  have HFA := Lib.hid (fun W hh => fewSC a la ka ac pa ca W hh)
  have HFB := Lib.hid (fun W hh => fewSC b lb kb bc pb cb W hh)
  clear e1 h1 hlow ha hb
  go_enter Tryz.func3, Tryz.ntmps3
  go_upto_region 1 with fail
  generalize (w.alloc (.cells (sdc a la ka ac pa ca) 29)).alloc (.cells (sdc b lb kb bc pb cb) 29) = W at *
  go_wp2_with (((with_reducible refine bl_load ?_ 29 (.tmp 2) ?_ (w.heap.size) 0 (sdc a la ka ac pa ca) ?_ ?_ Tryz.underlying29 ?_ ?_ ?_); rfl; rfl; rfl; exact H0.out.ra.all; rfl; exact infoSd HV.out; simp only [Act.put, List.setIfInBounds_toArray, List.set_cons_zero, List.set_cons_succ]))
  refine (HFA.out W (HI.out.1.below H0.out.low)).mono ?_
  rintro e w1 ⟨rfl, hb⟩
  have H1 := Lib.hid (H0.out.below hb)
  clear hb H0 HFA
  rcases hfa : fewS a ac with _ | _
  · have HQ := Lib.hid H1.out.low
    clear hfa
    go_wp2_with fail
    refine (kernAwake _).mono ?_
    rintro e wz ⟨rfl, hb⟩
    have HZ := Lib.hid (HQ.out.trans (hb.mono HQ.out.size))
    clear hb
    go_wp2_with fail
    go_ret
    exact ⟨rfl, HZ.out⟩
  go_wp2_with (((with_reducible refine bl_load ?_ 29 (.tmp 3) ?_ (w.heap.size + 1) 0 (sdc b lb kb bc pb cb) ?_ ?_ Tryz.underlying29 ?_ ?_ ?_); rfl; rfl; rfl; exact H1.out.rb.all; rfl; exact infoSd HV2.out; simp only [Act.put, List.setIfInBounds_toArray, List.set_cons_zero, List.set_cons_succ]))
  refine (HFB.out w1 (HI.out.2.below H1.out.low)).mono ?_
  rintro e w2 ⟨rfl, hb⟩
  have H2 := Lib.hid (H1.out.below hb)
  clear hb H1 HFB
  rcases hfb : fewS b bc with _ | _
  · have HQ := Lib.hid H2.out.low
    clear hfb hfa
    go_wp2_with fail
    refine (kernAwake _).mono ?_
    rintro e wz ⟨rfl, hb⟩
    have HZ := Lib.hid (HQ.out.trans (hb.mono HQ.out.size))
    clear hb
    go_wp2_with fail
    go_ret
    exact ⟨rfl, HZ.out⟩
  obtain ⟨hal, hacl, hav⟩ := fewS_ok hfa
  obtain ⟨hbl, hbcl, hbv⟩ := fewS_ok hfb
  have HAV := Lib.hid hav
  have HIN := Lib.hid (fun U (hU : Go.RowKit.Below w.heap.size w U) => And.intro (And.intro (HI.out.1.below hU).fin ((HI.out.1.below hU).cin hacl)) (And.intro (HI.out.2.below hU).fin ((HI.out.2.below hU).cin hbcl)))
  have HJC := Lib.hid (fun U (hU : Go.RowKit.Below w.heap.size w U) => joinKC a b la lb ka kb ac bc pa pb ca cb U (HIN.out U hU).1.1 (HIN.out U hU).2.1 (by omega) (by omega) (HIN.out U hU).1.2 (HIN.out U hU).2.2 (by omega))
  have HJR := Lib.hid (fun U (hU : Go.RowKit.Below w.heap.size w U) => joinKR a b la lb ka kb ac bc pa pb ca cb U (HIN.out U hU).1.1 (HIN.out U hU).2.1 (by omega) (by omega) (HIN.out U hU).1.2 (HIN.out U hU).2.2 (by omega))
  have HKC := Lib.hid (fun U (hU : Go.RowKit.Below w.heap.size w U) => kchkC a la ka ac pa ca U (HIN.out U hU).1.1 (by omega) hav (HIN.out U hU).1.2)
  have HKR := Lib.hid (fun U (hU : Go.RowKit.Below w.heap.size w U) => kchkR a la ka ac pa ca U (HIN.out U hU).1.1 (by omega) hav (HIN.out U hU).1.2)
  have hjl := joinK_len a ac b bc
  have hJL : (joinK a ac b bc).length ≤ 60 := by have := joinK_len a ac b bc; omega
  have hee : (chkK rdM a ac == chkK rdM a ac) = true := by simp
  clear hfa hfb hal hbl hacl hbcl hav hbv HAV hjl
  generalize chkK rdM a ac = E at *
  have a0 := sd_facts H2.out.ra.all
  have b0 := sd_facts H2.out.rb.all
  go_wp2_with (first
    | ((with_reducible refine bl_load ?_ 27 (.tmp 21) ?_ (w.heap.size) 1 (ccs ac.v (.slice pa ac.l.length ca)) ?_ ?_ Tryz.underlying27 ?_ ?_ ?_); rfl; rfl; rfl; exact sd_ctx H2.out.ra.all; rfl; exact infoC _ HV.out; simp only [Act.put, List.setIfInBounds_toArray, List.set_cons_zero, List.set_cons_succ])
    | ((with_reducible refine bl_load ?_ 27 (.tmp 25) ?_ (w.heap.size + 1) 1 (ccs bc.v (.slice pb bc.l.length cb)) ?_ ?_ Tryz.underlying27 ?_ ?_ ?_); rfl; rfl; rfl; exact sd_ctx H2.out.rb.all; rfl; exact infoC _ HV2.out; simp only [Act.put, List.setIfInBounds_toArray, List.set_cons_zero, List.set_cons_succ]))
  refine (HJC.out w2 H2.out.low).mono ?_
  rintro e u1 ⟨⟨o1, ra1, qa1, rk1, qk1, rfl, hj, hff, hmd, hjl⟩, hb⟩
  have hb9 := hb.trans ((lowA u1 (.cells (ccs o1.v (.slice qa1 o1.l.length qk1)) 27)).mono hb.size)
  have HO1 := Lib.hid (And.intro hj hmd.v16)
  have R1 := Lib.hid (RX.new qk1 hff hmd)
  have H3 := Lib.hid (H2.out.below hb9)
  clear a0 b0 hj hff hmd hjl hb hb9 H2 HJC
  go_upto_region 4 with ((with_reducible refine cl_store ?_ (.tmp 6) (.tmp 29) ?_ u1.heap.size o1.v qa1 o1.l.length qk1 ?_ ?_ ?_ ?_ ?_); rfl; rfl; rfl; rfl; exact ⟨_, _, CRow.new u1 zV nilS, rfl⟩; exact HO1.out.2)
  change Code.wp _ _ _ _ ((u1.alloc (.cells (ccs zV nilS) 27)).setRow u1.heap.size (ccs o1.v (.slice qa1 o1.l.length qk1)))
  rw [World.setRow_alloc_new]
  generalize u1.alloc (.cells (ccs o1.v (.slice qa1 o1.l.length qk1)) 27) = A1 at *
  generalize u1.heap.size = g1 at *
  have a0 := sd_facts H3.out.ra.all
  have b0 := sd_facts H3.out.rb.all
  go_wp2_with (first
    | ((with_reducible refine bl_load ?_ 27 (.tmp 33) ?_ (w.heap.size) 1 (ccs ac.v (.slice pa ac.l.length ca)) ?_ ?_ Tryz.underlying27 ?_ ?_ ?_); rfl; rfl; rfl; exact sd_ctx H3.out.ra.all; rfl; exact infoC _ HV.out; simp only [Act.put, List.setIfInBounds_toArray, List.set_cons_zero, List.set_cons_succ])
    | ((with_reducible refine bl_load ?_ 27 (.tmp 37) ?_ (w.heap.size + 1) 1 (ccs bc.v (.slice pb bc.l.length cb)) ?_ ?_ Tryz.underlying27 ?_ ?_ ?_); rfl; rfl; rfl; exact sd_ctx H3.out.rb.all; rfl; exact infoC _ HV2.out; simp only [Act.put, List.setIfInBounds_toArray, List.set_cons_zero, List.set_cons_succ]))
  refine (HJR.out A1 H3.out.low).mono ?_
  rintro e u2 ⟨⟨o2, ra2, qa2, rk2, qk2, rfl, hj, hff, hmd, hjl⟩, hb⟩
  have hb9 := hb.trans ((lowA u2 (.cells (ccs o2.v (.slice qa2 o2.l.length qk2)) 27)).mono hb.size)
  have HO2 := Lib.hid (And.intro hj hmd.v16)
  have R2 := Lib.hid (RX.new qk2 hff hmd)
  have H4 := Lib.hid (H3.out.below hb9)
  replace R1 := Lib.hid (R1.out.below hb9)
  clear a0 b0 hj hff hmd hjl hb hb9 H3 HJR
  go_upto_region 5 with ((with_reducible refine cl_store ?_ (.tmp 8) (.tmp 41) ?_ u2.heap.size o2.v qa2 o2.l.length qk2 ?_ ?_ ?_ ?_ ?_); rfl; rfl; rfl; rfl; exact ⟨_, _, CRow.new u2 zV nilS, rfl⟩; exact HO2.out.2)
  change Code.wp _ _ _ _ ((u2.alloc (.cells (ccs zV nilS) 27)).setRow u2.heap.size (ccs o2.v (.slice qa2 o2.l.length qk2)))
  rw [World.setRow_alloc_new]
  generalize u2.alloc (.cells (ccs o2.v (.slice qa2 o2.l.length qk2)) 27) = A2 at *
  generalize u2.heap.size = g2 at *
  obtain rfl : o2 = o1 := HO2.out.1.same HO1.out.1
  have HSF := Lib.hid (fun U (hU : Go.RowKit.Below A2.heap.size A2 U) => sameRF (joinK a ac b bc) (joinK a ac b bc) ra1 ra2 rk1 rk2 U (R1.out.fin.below hU) (R2.out.fin.below hU) (by unfold maxLen; omega))
  have HSC := Lib.hid (fun U (hU : Go.RowKit.Below A2.heap.size A2 U) => sameRC o2 o2 qa1 qa2 qk1 qk2 U (R1.out.cin.below hU) (R2.out.cin.below hU))
  simp only [decide_true] at HSF HSC
  generalize (joinK a ac b bc).length = jn at *
  refine wp_region_held (S := fun U => Go.RowKit.Below A2.heap.size A2 U) (by kernel_rfl) ?_
  change wpAnyH _ _ _ _ _ _ _ _ A2.drew
  have K0 : (fun U => Go.RowKit.Below A2.heap.size A2 U) A2.drew := (Below.refl _ _).drew
  refine wpAnyH_take (i := 0) (oi := { dst := some 42, op := _, type := _, pos := _, after := _, guard := _ }) (v := ?v1) rfl (by kernel_rfl) (by kernel_rfl) (by kernel_rfl) (fun _ _ _ h => h) (Or.inl ⟨by rfl, ?hy1⟩) K0 ?rest1
  case hy1 => (intro w hSw; (try dsimp only at hSw); first | (go_simp; done) | (go_simp; with_reducible rfl))
  try simp only [Act.put, List.setIfInBounds_toArray, List.set_cons_zero, List.set_cons_succ]
  refine wpAnyH_take (i := 1) (oi := { dst := some 43, op := _, type := _, pos := _, after := _, guard := _ }) (v := ?v2) rfl (by kernel_rfl) (by kernel_rfl) (by kernel_rfl) (fun _ _ _ h => h) (Or.inl ⟨by rfl, ?hy2⟩) K0 ?rest2
  case hy2 => (intro w hSw; (try dsimp only at hSw); first | (go_simp; done) | (go_simp; with_reducible rfl))
  try simp only [Act.put, List.setIfInBounds_toArray, List.set_cons_zero, List.set_cons_succ]
  refine wpAnyH_ready (rs := [2]) (by kernel_rfl) (by simp) ?_
  refine AllReadyH.cons (o := { dst := some 44, op := _, type := _, pos := _, after := _, guard := _ }) rfl (fun K hK => ?_) AllReadyH.nil
  go_simp
  refine (HSF.out _ K0).mono ?_
  rintro e v2 ⟨rfl, hb⟩
  have K2 := K0.trans (hb.mono K0.size)
  clear hb
  refine hK.out _ _ K2 (fun _ => ?_)
  clear hK K
  try simp only [Act.put, List.setIfInBounds_toArray, List.set_cons_zero, List.set_cons_succ]
  refine wpAnyH_take (i := 3) (oi := { dst := some 45, op := _, type := _, pos := _, after := _, guard := _ }) (v := ?v3) rfl (by kernel_rfl) (by kernel_rfl) (by kernel_rfl) (fun _ _ _ h => h) (Or.inl ⟨by rfl, ?hy3⟩) K2 ?rest3
  case hy3 => (intro w hSw; (try dsimp only at hSw); first | (go_simp; done) | (go_simp; with_reducible rfl))
  try simp only [Act.put, List.setIfInBounds_toArray, List.set_cons_zero, List.set_cons_succ]
  refine wpAnyH_take (i := 4) (oi := { dst := some 46, op := _, type := _, pos := _, after := _, guard := _ }) rfl (by kernel_rfl) (by kernel_rfl) (by kernel_rfl) (fun _ _ _ h => h) (yield_C (by rfl) (.tmp 6) rfl g1 o2.v (.slice qa1 o2.l.length qk1) rfl (fun U hU => R1.out.row.keep hU) HO2.out.2) K2 ?_
  try simp only [Act.put, List.setIfInBounds_toArray, List.set_cons_zero, List.set_cons_succ]
  refine wpAnyH_take (i := 5) (oi := { dst := some 47, op := _, type := _, pos := _, after := _, guard := _ }) rfl (by kernel_rfl) (by kernel_rfl) (by kernel_rfl) (fun _ _ _ h => h) (yield_C (by rfl) (.tmp 8) rfl g2 o2.v (.slice qa2 o2.l.length qk2) rfl (fun U hU => R2.out.row.keep hU) HO2.out.2) K2 ?_
  try simp only [Act.put, List.setIfInBounds_toArray, List.set_cons_zero, List.set_cons_succ]
  refine wpAnyH_ready (rs := [6]) (by kernel_rfl) (by simp) ?_
  refine AllReadyH.cons (o := { dst := some 48, op := _, type := _, pos := _, after := _, guard := _ }) rfl (fun K hK => ?_) AllReadyH.nil
  go_simp
  refine (HSC.out _ K2).mono ?_
  rintro e v6 ⟨rfl, hb⟩
  have K6 := K2.trans (hb.mono K2.size)
  clear hb
  refine hK.out _ _ K6 (fun _ => ?_)
  clear hK K
  try simp only [Act.put, List.setIfInBounds_toArray, List.set_cons_zero, List.set_cons_succ]
  refine wpAnyH_take (i := 7) (oi := { dst := some 49, op := _, type := _, pos := _, after := _, guard := _ }) (v := ?v6) rfl (by kernel_rfl) (by kernel_rfl) (by kernel_rfl) (fun _ _ _ h => h) (Or.inl ⟨by rfl, ?hy6⟩) K6 ?rest6
  case hy6 => (intro w hSw; (try dsimp only at hSw); first | (go_simp; done) | (go_simp; with_reducible rfl))
  try simp only [Act.put, List.setIfInBounds_toArray, List.set_cons_zero, List.set_cons_succ]
  refine wpAnyH_take (i := 8) (oi := { dst := some 50, op := _, type := _, pos := _, after := _, guard := _ }) (v := ?v7) rfl (by kernel_rfl) (by kernel_rfl) (by kernel_rfl) (fun _ _ _ h => h) (Or.inl ⟨by rfl, ?hy7⟩) K6 ?rest7
  case hy7 => (intro w hSw; (try dsimp only at hSw); first | (go_simp; done) | (go_simp; with_reducible rfl))
  try simp only [Act.put, List.setIfInBounds_toArray, List.set_cons_zero, List.set_cons_succ]
  refine wpAnyH_take (i := 9) (oi := { dst := some 51, op := _, type := _, pos := _, after := _, guard := _ }) (v := ?v8) rfl (by kernel_rfl) (by kernel_rfl) (by kernel_rfl) (fun _ _ _ h => h) (Or.inl ⟨by rfl, ?hy8⟩) K6 ?rest8
  case hy8 => (intro w hSw; (try dsimp only at hSw); first | (go_simp; done) | (go_simp; with_reducible rfl))
  try simp only [Act.put, List.setIfInBounds_toArray, List.set_cons_zero, List.set_cons_succ]
  refine wpAnyH_take (i := 10) (oi := { dst := some 52, op := _, type := _, pos := _, after := _, guard := _ }) rfl (by kernel_rfl) (by kernel_rfl) (by kernel_rfl) (fun _ _ _ h => h) (yield_cF (by rfl) (.tmp 51) rfl w.heap.size 0 la a.length ka rfl (fun U hU => sd_facts (H4.out.ra.keep hU).all)) K6 ?_
  try simp only [Act.put, List.setIfInBounds_toArray, List.set_cons_zero, List.set_cons_succ]
  refine wpAnyH_take (i := 11) (oi := { dst := some 53, op := _, type := _, pos := _, after := _, guard := _ }) (v := ?v10) rfl (by kernel_rfl) (by kernel_rfl) (by kernel_rfl) (fun _ _ _ h => h) (Or.inl ⟨by rfl, ?hy10⟩) K6 ?rest10
  case hy10 => (intro w hSw; (try dsimp only at hSw); first | (go_simp; done) | (go_simp; with_reducible rfl))
  try simp only [Act.put, List.setIfInBounds_toArray, List.set_cons_zero, List.set_cons_succ]
  refine wpAnyH_take (i := 12) (oi := { dst := some 54, op := _, type := _, pos := _, after := _, guard := _ }) rfl (by kernel_rfl) (by kernel_rfl) (by kernel_rfl) (fun _ _ _ h => h) (b_yield (by rfl) 27 (.tmp 53) rfl w.heap.size 1 (ccs ac.v (.slice pa ac.l.length ca)) rfl (fun U hU => sd_ctx (H4.out.ra.keep hU).all) Tryz.underlying27 rfl (infoC _ HV.out)) K6 ?_
  try simp only [Act.put, List.setIfInBounds_toArray, List.set_cons_zero, List.set_cons_succ]
  refine wpAnyH_take (i := 14) (oi := { dst := some 56, op := _, type := _, pos := _, after := _, guard := _ }) (v := ?v12) rfl (by kernel_rfl) (by kernel_rfl) (by kernel_rfl) (fun _ _ _ h => h) (Or.inl ⟨by rfl, ?hy12⟩) K6 ?rest12
  case hy12 => (intro w hSw; (try dsimp only at hSw); first | (go_simp; done) | (go_simp; with_reducible rfl))
  try simp only [Act.put, List.setIfInBounds_toArray, List.set_cons_zero, List.set_cons_succ]
  refine wpAnyH_take (i := 15) (oi := { dst := some 57, op := _, type := _, pos := _, after := _, guard := _ }) rfl (by kernel_rfl) (by kernel_rfl) (by kernel_rfl) (fun _ _ _ h => h) (yield_cF (by rfl) (.tmp 56) rfl w.heap.size 0 la a.length ka rfl (fun U hU => sd_facts (H4.out.ra.keep hU).all)) K6 ?_
  try simp only [Act.put, List.setIfInBounds_toArray, List.set_cons_zero, List.set_cons_succ]
  refine wpAnyH_take (i := 16) (oi := { dst := some 58, op := _, type := _, pos := _, after := _, guard := _ }) (v := ?v14) rfl (by kernel_rfl) (by kernel_rfl) (by kernel_rfl) (fun _ _ _ h => h) (Or.inl ⟨by rfl, ?hy14⟩) K6 ?rest14
  case hy14 => (intro w hSw; (try dsimp only at hSw); first | (go_simp; done) | (go_simp; with_reducible rfl))
  try simp only [Act.put, List.setIfInBounds_toArray, List.set_cons_zero, List.set_cons_succ]
  refine wpAnyH_take (i := 17) (oi := { dst := some 59, op := _, type := _, pos := _, after := _, guard := _ }) rfl (by kernel_rfl) (by kernel_rfl) (by kernel_rfl) (fun _ _ _ h => h) (b_yield (by rfl) 27 (.tmp 58) rfl w.heap.size 1 (ccs ac.v (.slice pa ac.l.length ca)) rfl (fun U hU => sd_ctx (H4.out.ra.keep hU).all) Tryz.underlying27 rfl (infoC _ HV.out)) K6 ?_
  try simp only [Act.put, List.setIfInBounds_toArray, List.set_cons_zero, List.set_cons_succ]
  refine wpAnyH_ready (rs := [13]) (by kernel_rfl) (by simp) ?_
  refine AllReadyH.cons (o := { dst := some 55, op := _, type := _, pos := _, after := _, guard := _ }) rfl (fun K hK => ?_) AllReadyH.nil
  go_simp
  refine (HKC.out _ (H4.out.low.trans (K6.mono H4.out.low.size))).mono ?_
  rintro e v13 ⟨rfl, hb⟩
  have K13 := K6.trans (hb.mono K6.size)
  clear hb
  refine hK.out _ _ K13 (fun _ => ?_)
  clear hK K
  try simp only [Act.put, List.setIfInBounds_toArray, List.set_cons_zero, List.set_cons_succ]
  refine wpAnyH_ready (rs := [18]) (by kernel_rfl) (by simp) ?_
  refine AllReadyH.cons (o := { dst := some 60, op := _, type := _, pos := _, after := _, guard := _ }) rfl (fun K hK => ?_) AllReadyH.nil
  go_simp
  refine (HKR.out _ (H4.out.low.trans (K13.mono H4.out.low.size))).mono ?_
  rintro e v18 ⟨rfl, hb⟩
  have K18 := K13.trans (hb.mono K13.size)
  clear hb
  refine hK.out _ _ K18 (fun _ => ?_)
  clear hK K
  try simp only [Act.put, List.setIfInBounds_toArray, List.set_cons_zero, List.set_cons_succ]
  refine wpAnyH_take (i := 19) (oi := { dst := some 61, op := _, type := _, pos := _, after := _, guard := _ }) (v := ?v16) rfl (by kernel_rfl) (by kernel_rfl) (by kernel_rfl) (fun _ _ _ h => h) (Or.inl ⟨by rfl, ?hy16⟩) K18 ?rest16
  case hy16 => (intro w hSw; (try dsimp only at hSw); first | (go_simp; done) | (go_simp; with_reducible rfl))
  try simp only [Act.put, List.setIfInBounds_toArray, List.set_cons_zero, List.set_cons_succ]
  refine wpAnyH_take (i := 20) (oi := { dst := some 62, op := _, type := _, pos := _, after := _, guard := _ }) (v := ?v17) rfl (by kernel_rfl) (by kernel_rfl) (by kernel_rfl) (fun _ _ _ h => h) (Or.inl ⟨by rfl, ?hy17⟩) K18 ?rest17
  case hy17 => (intro w hSw; (try dsimp only at hSw); first | (go_simp; done) | (go_simp; with_reducible rfl))
  try simp only [Act.put, List.setIfInBounds_toArray, List.set_cons_zero, List.set_cons_succ]
  refine wpAnyH_take (i := 21) (oi := { dst := some 63, op := _, type := _, pos := _, after := _, guard := _ }) (v := ?v18) rfl (by kernel_rfl) (by kernel_rfl) (by kernel_rfl) (fun _ _ _ h => h) (Or.inl ⟨by rfl, ?hy18⟩) K18 ?rest18
  case hy18 => (intro w hSw; (try dsimp only at hSw); first | (go_simp; done) | (go_simp; with_reducible rfl))
  try simp only [Act.put, List.setIfInBounds_toArray, List.set_cons_zero, List.set_cons_succ]
  refine wpAnyH_ready (rs := [22]) (by kernel_rfl) (by simp) ?_
  refine AllReadyH.cons (o := { dst := some 64, op := _, type := _, pos := _, after := _, guard := _ }) rfl (fun K hK => ?_) AllReadyH.nil
  go_simp
  refine (kernAwake _).mono ?_
  rintro e v22 ⟨rfl, hb⟩
  have K22 := K18.trans (hb.mono K18.size)
  clear hb
  refine hK.out _ _ K22 (fun _ => ?_)
  clear hK K
  try simp only [Act.put, List.setIfInBounds_toArray, List.set_cons_zero, List.set_cons_succ]
  refine wpAnyH_take (i := 23) (oi := { dst := some 65, op := _, type := _, pos := _, after := _, guard := _ }) (v := ?v19) rfl (by kernel_rfl) (by kernel_rfl) (by kernel_rfl) (fun _ _ _ h => h) (Or.inl ⟨by rfl, ?hy19⟩) K22 ?rest19
  case hy19 => (intro w hSw; (try dsimp only at hSw); first | (go_simp; done) | (go_simp; with_reducible rfl))
  try simp only [Act.put, List.setIfInBounds_toArray, List.set_cons_zero, List.set_cons_succ]
  refine wpAnyH_take (i := 24) (oi := { dst := some 4, op := _, type := _, pos := _, after := _, guard := _ }) (v := ?v20) rfl (by kernel_rfl) (by kernel_rfl) (by kernel_rfl) (fun _ _ _ h => h) (Or.inl ⟨by rfl, ?hy20⟩) K22 ?rest20
  case hy20 => (intro w hSw; (try dsimp only at hSw); first | (go_simp; done) | (go_simp; with_reducible rfl))
  try simp only [Act.put, List.setIfInBounds_toArray, List.set_cons_zero, List.set_cons_succ]
  refine wpAnyH_done (by kernel_rfl) ?_ _
  try simp only [Act.put, List.setIfInBounds_toArray, List.set_cons_zero, List.set_cons_succ]
  have HZ := Lib.hid (H4.out.low.trans (K22.mono H4.out.low.size))
  clear K0 K2 K6 K13 K18 K22
  go_wp2_with fail
  go_ret
  exact ⟨rfl, HZ.out⟩
end Go.Proofs.YtcedliaeipabnaaGreat
