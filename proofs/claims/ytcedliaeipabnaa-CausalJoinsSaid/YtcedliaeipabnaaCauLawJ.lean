/-
  almonrylaw13: the walk of CausalJoins.
-/
import Derived.Test.YtcedliaeipabnaaCauLawG
import Derived.Test.YtcedliaeipabnaaCauAdd
import Derived.Test.YtcedliaeipabnaaGCauP
import Derived.Test.YtcedliaeipabnaaCauMiss
import Derived.Test.YtcedliaeipabnaaCauRHas
namespace Go.Proofs.Ytcedliaeipabnaa
set_option maxRecDepth 100000
open Go.RowKit Go.Sort

theorem three_c (w : World) (v v2 v3 : Vc) (s s2 s3 : Value) : Go.RowKit.Below w.heap.size w (boxC (boxC (boxC w v s) v2 s2) v3 s3) ∧ CRow (boxC (boxC (boxC w v s) v2 s2) v3 s3) w.heap.size v s ∧ CRow (boxC (boxC (boxC w v s) v2 s2) v3 s3) (w.heap.size + 1) v2 s2 ∧
    CRow (boxC (boxC (boxC w v s) v2 s2) v3 s3) (w.heap.size + 2) v3 s3 := by
  have e1 := boxC_size w v s
  have e2 := boxC_size (boxC w v s) v2 s2
  have h0 := CRow.new w v s
  have h1 := CRow.new (boxC w v s) v2 s2
  have h2 := CRow.new (boxC (boxC w v s) v2 s2) v3 s3
  rw [e1] at h1
  rw [e2, e1] at h2
  exact ⟨((boxC_below w v s).alloc (by rw [e1]; omega) _).alloc (by rw [World.size_alloc, e1]; omega) _, (h0.alloc _).alloc _, h1.alloc _, h2⟩
theorem dat_new (w : World) (d : Dt) : DAt (boxD w d) w.heap.size 0 d := by
  have hn := heap_alloc_new w (.cells #[.int .i64 d.1, .int .i64 d.2] 31)
  refine ⟨?_, ?_, ?_⟩
  · unfold boxD; rw [Joins.cell_of_block hn]; rfl
  · unfold boxD; rw [Joins.cell_of_block hn]; rfl
  · rw [boxD_size]; omega
/-- the three contexts lie there -/
structure F3 (g : Nat) (a b c : Cx) (la lb lc : Option Addr) (sa sb sc : Value) (w0 W : World) : Prop where
  lo : Go.RowKit.Below w0.heap.size w0 W
  ra : CRow W g a.v sa
  rb : CRow W (g + 1) b.v sb
  rc : CRow W (g + 2) c.v sc
theorem F3.keep {g : Nat} {a b c : Cx} {la lb lc : Option Addr} {sa sb sc : Value} {w0 W W' : World} (k : F3 g a b c la lb lc sa sb sc w0 W) (hb : Go.RowKit.Below W.heap.size W W') : F3 g a b c la lb lc sa sb sc w0 W' :=
  ⟨k.lo.trans (hb.mono k.lo.size), k.ra.keep hb, k.rb.keep hb, k.rc.keep hb⟩
structure I3 (a b c : Cx) (la lb lc : Option Addr) (W : World) : Prop where
  ia : CIn W a la
  ib : CIn W b lb
  ic : CIn W c lc
theorem I3.below {a b c : Cx} {la lb lc : Option Addr} {W W' : World} (k : I3 a b c la lb lc W) (hb : Go.RowKit.Below W.heap.size W W') : I3 a b c la lb lc W' := ⟨k.ia.below hb, k.ib.below hb, k.ic.below hb⟩

set_option maxHeartbeats 8000000 in
theorem joins_row (a : Cx) (la : Option Addr) (ca : Nat) (b : Cx) (lb : Option Addr) (cb : Nat) (c : Cx) (lc : Option Addr) (cc : Nat) (w : World) (hca : CtxArg w a la) (hcb : CtxArg w b lb) (hcc : CtxArg w c lc) :
    Calls Try.prog 5 #[.agg (ccs a.v (.slice la a.l.length ca)), .agg (ccs b.v (.slice lb b.l.length cb)), .agg (ccs c.v (.slice lc c.l.length cc))] w fun e w' => e = .returned (.bool true) ∧ Go.RowKit.Below w.heap.size w w' := by
  have HV := Lib.hid hca.v16
  have HV2 := Lib.hid hcb.v16
  have HV3 := Lib.hid hcc.v16
  have hbx := three_c w a.v b.v c.v (.slice la a.l.length ca) (.slice lb b.l.length cb) (.slice lc c.l.length cc)
  have H0 : Hid (F3 w.heap.size a b c la lb lc (.slice la a.l.length ca) (.slice lb b.l.length cb) (.slice lc c.l.length cc) w _) := Lib.hid ⟨hbx.1, hbx.2.1, hbx.2.2.1, hbx.2.2.2⟩
  have HC := Lib.hid (And.intro hca (And.intro hcb hcc))
  unfold boxC at H0
  clear hca hcb hcc hbx
  go_enter Try.func5, Try.ntmps5
  go_upto_region 1 with fail
  generalize ((w.alloc (.cells (ccs a.v (.slice la a.l.length ca)) 26)).alloc (.cells (ccs b.v (.slice lb b.l.length cb)) 26)).alloc (.cells (ccs c.v (.slice lc c.l.length cc)) 26) = W0 at *
  have hfew := fewC a la ca W0 HV.out HC.out.1.len
  rcases Nat.lt_or_ge 40 a.l.length with hs0 | hs0
  · rw [decide_eq_false (by omega)] at hfew
    go_wp2_with ((with_reducible refine cl_load ?_ (.tmp 3) ?_ w.heap.size a.v (.slice la a.l.length ca) ?_ ?_ ?_ ?_); rfl; rfl; rfl; exact H0.out.ra; exact HV.out)
    refine hfew.mono ?_
    rintro e wf ⟨rfl, hb⟩
    have HH := Lib.hid (H0.out.keep hb).lo
    clear hb hfew
    go_wp2_with fail
    refine (causalAwake _).mono ?_
    rintro e wz ⟨rfl, hb⟩
    have HZ := Lib.hid (HH.out.trans (hb.mono HH.out.size))
    clear hb
    go_wp2_with fail
    go_ret
    exact ⟨rfl, HZ.out⟩
  rw [decide_eq_true hs0] at hfew
  go_wp2_with ((with_reducible refine cl_load ?_ (.tmp 3) ?_ w.heap.size a.v (.slice la a.l.length ca) ?_ ?_ ?_ ?_); rfl; rfl; rfl; exact H0.out.ra; exact HV.out)
  refine hfew.mono ?_
  rintro e w1 ⟨rfl, hb⟩
  have H1 := Lib.hid (H0.out.keep hb)
  clear hb hfew H0
  have hfew := fewC b lb cb w1 HV2.out HC.out.2.1.len
  rcases Nat.lt_or_ge 40 b.l.length with hs1 | hs1
  · rw [decide_eq_false (by omega)] at hfew
    go_wp2_with ((with_reducible refine cl_load ?_ (.tmp 4) ?_ (w.heap.size + 1) b.v (.slice lb b.l.length cb) ?_ ?_ ?_ ?_); rfl; rfl; rfl; exact H1.out.rb; exact HV2.out)
    refine hfew.mono ?_
    rintro e wf ⟨rfl, hb⟩
    have HH := Lib.hid (H1.out.keep hb).lo
    clear hb hfew
    go_wp2_with fail
    refine (causalAwake _).mono ?_
    rintro e wz ⟨rfl, hb⟩
    have HZ := Lib.hid (HH.out.trans (hb.mono HH.out.size))
    clear hb
    go_wp2_with fail
    go_ret
    exact ⟨rfl, HZ.out⟩
  rw [decide_eq_true hs1] at hfew
  go_wp2_with ((with_reducible refine cl_load ?_ (.tmp 4) ?_ (w.heap.size + 1) b.v (.slice lb b.l.length cb) ?_ ?_ ?_ ?_); rfl; rfl; rfl; exact H1.out.rb; exact HV2.out)
  refine hfew.mono ?_
  rintro e w2 ⟨rfl, hb⟩
  have H2 := Lib.hid (H1.out.keep hb)
  clear hb hfew H1
  have hfew := fewC c lc cc w2 HV3.out HC.out.2.2.len
  rcases Nat.lt_or_ge 40 c.l.length with hs2 | hs2
  · rw [decide_eq_false (by omega)] at hfew
    go_wp2_with ((with_reducible refine cl_load ?_ (.tmp 5) ?_ (w.heap.size + 2) c.v (.slice lc c.l.length cc) ?_ ?_ ?_ ?_); rfl; rfl; rfl; exact H2.out.rc; exact HV3.out)
    refine hfew.mono ?_
    rintro e wf ⟨rfl, hb⟩
    have HH := Lib.hid (H2.out.keep hb).lo
    clear hb hfew
    go_wp2_with fail
    refine (causalAwake _).mono ?_
    rintro e wz ⟨rfl, hb⟩
    have HZ := Lib.hid (HH.out.trans (hb.mono HH.out.size))
    clear hb
    go_wp2_with fail
    go_ret
    exact ⟨rfl, HZ.out⟩
  rw [decide_eq_true hs2] at hfew
  go_wp2_with ((with_reducible refine cl_load ?_ (.tmp 5) ?_ (w.heap.size + 2) c.v (.slice lc c.l.length cc) ?_ ?_ ?_ ?_); rfl; rfl; rfl; exact H2.out.rc; exact HV3.out)
  refine hfew.mono ?_
  rintro e w3 ⟨rfl, hb⟩
  have H3 := Lib.hid (H2.out.keep hb)
  clear hb hfew H2
  have HS := Lib.hid (And.intro hs0 (And.intro hs1 hs2))
  have HI : Hid (∀ U, Go.RowKit.Below w.heap.size w U → I3 a b c la lb lc U) := Lib.hid (fun U hU => ⟨(HC.out.1.cin HS.out.1).below hU, (HC.out.2.1.cin HS.out.2.1).below hU, (HC.out.2.2.cin HS.out.2.2).below hU⟩)
  clear hs0 hs1 hs2
  go_wp2_with (first
    | ((with_reducible refine cl_load ?_ (.tmp 3) ?_ w.heap.size a.v (.slice la a.l.length ca) ?_ ?_ ?_ ?_); rfl; rfl; rfl; exact H3.out.ra; exact HV.out)
    | ((with_reducible refine cl_load ?_ (.tmp 4) ?_ (w.heap.size + 1) b.v (.slice lb b.l.length cb) ?_ ?_ ?_ ?_); rfl; rfl; rfl; exact H3.out.rb; exact HV2.out))
  refine (joinCC a b la lb ca cb w3 (HI.out _ H3.out.lo).ia (HI.out _ H3.out.lo).ib (by have := HS.out; omega)).mono ?_
  rintro e w4 ⟨⟨j, pj, kj, rfl, hof, hmade, hol⟩, hb⟩
  have hn := new_ctx w4 j.v (.slice pj j.l.length kj)
  have hb2 := hb.trans (hn.2.mono hb.size)
  have HVJ := Lib.hid hmade.v16
  have HJ := Lib.hid (And.intro hof (show j.l.length ≤ 80 by have := HS.out; omega))
  have H4 := Lib.hid (And.intro (H3.out.keep hb2) (And.intro hn.1 (hmade.cin.below hn.2)))
  clear hb hb2 hn hmade hof hol H3
  go_upto_region 4 with ((with_reducible refine cl_store ?_ (.tmp 7) (.tmp 27) ?_ w4.heap.size j.v pj j.l.length kj ?_ ?_ ?_ ?_ ?_); rfl; rfl; rfl; rfl; exact ⟨_, _, CRow.new w4 zV nilS, rfl⟩; exact HVJ.out)
  change Code.wp _ _ _ _ ((w4.alloc (.cells (ccs zV nilS) 26)).setRow w4.heap.size (ccs j.v (.slice pj j.l.length kj)))
  generalize (w4.alloc (.cells (ccs zV nilS) 26)).setRow w4.heap.size (ccs j.v (.slice pj j.l.length kj)) = W at *
  generalize w4.heap.size = g7 at *
  refine wp_region_held (S := fun U => Go.RowKit.Below W.heap.size W U) (by kernel_rfl) ?_
  change wpAnyH _ _ _ _ _ _ _ _ W.drew
  have K0 : (fun U => Go.RowKit.Below W.heap.size W U) W.drew := (Below.refl _ _).drew
  refine wpAnyH_take (i := 0) (oi := { dst := some 28, op := _, type := _, pos := _, after := _, guard := _ }) rfl (by kernel_rfl) (by kernel_rfl) (by kernel_rfl) (fun _ _ _ h => h) (yield_C (by rfl) (.tmp 7) rfl g7 j.v (.slice pj j.l.length kj) rfl (fun U hU => H4.out.2.1.keep hU) HVJ.out) K0 ?_
  try simp only [Act.put, List.setIfInBounds_toArray, List.set_cons_zero, List.set_cons_succ]
  refine wpAnyH_take (i := 1) (oi := { dst := some 29, op := _, type := _, pos := _, after := _, guard := _ }) rfl (by kernel_rfl) (by kernel_rfl) (by kernel_rfl) (fun _ _ _ h => h) (yield_C (by rfl) (.tmp 4) rfl (w.heap.size + 1) b.v (.slice lb b.l.length cb) rfl (fun U hU => (H4.out.1.keep hU).rb) HV2.out) K0 ?_
  try simp only [Act.put, List.setIfInBounds_toArray, List.set_cons_zero, List.set_cons_succ]
  refine wpAnyH_take (i := 2) (oi := { dst := some 30, op := _, type := _, pos := _, after := _, guard := _ }) rfl (by kernel_rfl) (by kernel_rfl) (by kernel_rfl) (fun _ _ _ h => h) (yield_C (by rfl) (.tmp 3) rfl w.heap.size a.v (.slice la a.l.length ca) rfl (fun U hU => (H4.out.1.keep hU).ra) HV.out) K0 ?_
  try simp only [Act.put, List.setIfInBounds_toArray, List.set_cons_zero, List.set_cons_succ]
  refine wpAnyH_ready (rs := [3]) (by kernel_rfl) (by simp) ?_
  refine AllReadyH.cons (o := { dst := some 31, op := _, type := _, pos := _, after := _, guard := _ }) rfl (fun K hK => ?_) AllReadyH.nil
  go_simp
  refine (joinCC b a lb la cb ca _ (HI.out _ (H4.out.1.lo.trans (K0.mono H4.out.1.lo.size))).ib (HI.out _ (H4.out.1.lo.trans (K0.mono H4.out.1.lo.size))).ia (by have := HS.out; have := HJ.out.2; omega)).mono ?_
  rintro e u3 ⟨⟨o3, p3, k3, rfl, hof, hm, hol⟩, hb⟩
  have K3 := K0.trans (hb.mono K0.size)
  obtain rfl := HJ.out.1.same hof.comm
  have HP3 := Lib.hid hm.cin
  clear hof hm hol hb
  refine hK.out _ _ K3 (fun _ => ?_)
  clear hK K
  try simp only [Act.put, List.setIfInBounds_toArray, List.set_cons_zero, List.set_cons_succ]
  refine wpAnyH_ready (rs := [4]) (by kernel_rfl) (by simp) ?_
  refine AllReadyH.cons (o := { dst := some 32, op := _, type := _, pos := _, after := _, guard := _ }) rfl (fun K hK => ?_) AllReadyH.nil
  go_simp
  have hh := sameRC j j pj p3 kj k3 _ (H4.out.2.2.below K3) HP3.out
  rw [decide_eq_true (show j = j from rfl)] at hh
  refine hh.mono ?_
  rintro e u4 ⟨rfl, hb⟩
  have K4 := K3.trans (hb.mono K3.size)
  clear hh hb HP3
  refine hK.out _ _ K4 (fun _ => ?_)
  clear hK K
  try simp only [Act.put, List.setIfInBounds_toArray, List.set_cons_zero, List.set_cons_succ]
  refine wpAnyH_take (i := 5) (oi := { dst := some 33, op := _, type := _, pos := _, after := _, guard := _ }) (v := ?v4) rfl (by kernel_rfl) (by kernel_rfl) (by kernel_rfl) (fun _ _ _ h => h) (Or.inl ⟨by rfl, ?hy4⟩) K4 ?rest4
  case hy4 => (intro w hSw; (try dsimp only at hSw); first | (go_simp; done) | (go_simp; with_reducible rfl))
  try simp only [Act.put, List.setIfInBounds_toArray, List.set_cons_zero, List.set_cons_succ]
  refine wpAnyH_take (i := 6) (oi := { dst := some 34, op := _, type := _, pos := _, after := _, guard := _ }) (v := ?v5) rfl (by kernel_rfl) (by kernel_rfl) (by kernel_rfl) (fun _ _ _ h => h) (Or.inl ⟨by rfl, ?hy5⟩) K4 ?rest5
  case hy5 => (intro w hSw; (try dsimp only at hSw); first | (go_simp; done) | (go_simp; with_reducible rfl))
  try simp only [Act.put, List.setIfInBounds_toArray, List.set_cons_zero, List.set_cons_succ]
  refine wpAnyH_take (i := 7) (oi := { dst := some 35, op := _, type := _, pos := _, after := _, guard := _ }) rfl (by kernel_rfl) (by kernel_rfl) (by kernel_rfl) (fun _ _ _ h => h) (yield_C (by rfl) (.tmp 7) rfl g7 j.v (.slice pj j.l.length kj) rfl (fun U hU => H4.out.2.1.keep hU) HVJ.out) K4 ?_
  try simp only [Act.put, List.setIfInBounds_toArray, List.set_cons_zero, List.set_cons_succ]
  refine wpAnyH_take (i := 8) (oi := { dst := some 36, op := _, type := _, pos := _, after := _, guard := _ }) rfl (by kernel_rfl) (by kernel_rfl) (by kernel_rfl) (fun _ _ _ h => h) (yield_C (by rfl) (.tmp 5) rfl (w.heap.size + 2) c.v (.slice lc c.l.length cc) rfl (fun U hU => (H4.out.1.keep hU).rc) HV3.out) K4 ?_
  try simp only [Act.put, List.setIfInBounds_toArray, List.set_cons_zero, List.set_cons_succ]
  refine wpAnyH_take (i := 10) (oi := { dst := some 38, op := _, type := _, pos := _, after := _, guard := _ }) rfl (by kernel_rfl) (by kernel_rfl) (by kernel_rfl) (fun _ _ _ h => h) (yield_C (by rfl) (.tmp 3) rfl w.heap.size a.v (.slice la a.l.length ca) rfl (fun U hU => (H4.out.1.keep hU).ra) HV.out) K4 ?_
  try simp only [Act.put, List.setIfInBounds_toArray, List.set_cons_zero, List.set_cons_succ]
  refine wpAnyH_take (i := 11) (oi := { dst := some 39, op := _, type := _, pos := _, after := _, guard := _ }) rfl (by kernel_rfl) (by kernel_rfl) (by kernel_rfl) (fun _ _ _ h => h) (yield_C (by rfl) (.tmp 4) rfl (w.heap.size + 1) b.v (.slice lb b.l.length cb) rfl (fun U hU => (H4.out.1.keep hU).rb) HV2.out) K4 ?_
  try simp only [Act.put, List.setIfInBounds_toArray, List.set_cons_zero, List.set_cons_succ]
  refine wpAnyH_take (i := 12) (oi := { dst := some 40, op := _, type := _, pos := _, after := _, guard := _ }) rfl (by kernel_rfl) (by kernel_rfl) (by kernel_rfl) (fun _ _ _ h => h) (yield_C (by rfl) (.tmp 5) rfl (w.heap.size + 2) c.v (.slice lc c.l.length cc) rfl (fun U hU => (H4.out.1.keep hU).rc) HV3.out) K4 ?_
  try simp only [Act.put, List.setIfInBounds_toArray, List.set_cons_zero, List.set_cons_succ]
  refine wpAnyH_ready (rs := [9]) (by kernel_rfl) (by simp) ?_
  refine AllReadyH.cons (o := { dst := some 37, op := _, type := _, pos := _, after := _, guard := _ }) rfl (fun K hK => ?_) AllReadyH.nil
  go_simp
  refine (joinCC j c pj lc kj cc _ (H4.out.2.2.below K4) (HI.out _ (H4.out.1.lo.trans (K4.mono H4.out.1.lo.size))).ic (by have := HS.out; have := HJ.out.2; omega)).mono ?_
  rintro e u9 ⟨⟨o9, p9, k9, rfl, hof, hm, hol⟩, hb⟩
  have K9 := K4.trans (hb.mono K4.size)
  have HP9 := Lib.hid (And.intro hof hm.cin)
  clear hof hm hol hb
  refine hK.out _ _ K9 (fun _ => ?_)
  clear hK K
  try simp only [Act.put, List.setIfInBounds_toArray, List.set_cons_zero, List.set_cons_succ]
  refine wpAnyH_ready (rs := [13]) (by kernel_rfl) (by simp) ?_
  refine AllReadyH.cons (o := { dst := some 41, op := _, type := _, pos := _, after := _, guard := _ }) rfl (fun K hK => ?_) AllReadyH.nil
  go_simp
  refine (joinCC b c lb lc cb cc _ (HI.out _ (H4.out.1.lo.trans (K9.mono H4.out.1.lo.size))).ib (HI.out _ (H4.out.1.lo.trans (K9.mono H4.out.1.lo.size))).ic (by have := HS.out; have := HJ.out.2; omega)).mono ?_
  rintro e u13 ⟨⟨o13, p13, k13, rfl, hof, hm, hol⟩, hb⟩
  have K13 := K9.trans (hb.mono K9.size)
  have HP13 := Lib.hid (And.intro hof (And.intro hm.cin (show o13.l.length ≤ 80 by have := HS.out; omega)))
  have HP9b := Lib.hid (And.intro HP9.out.1 (HP9.out.2.below hb))
  clear hof hm hol hb HP9
  refine hK.out _ _ K13 (fun _ => ?_)
  clear hK K
  try simp only [Act.put, List.setIfInBounds_toArray, List.set_cons_zero, List.set_cons_succ]
  refine wpAnyH_ready (rs := [14]) (by kernel_rfl) (by simp) ?_
  refine AllReadyH.cons (o := { dst := some 42, op := _, type := _, pos := _, after := _, guard := _ }) rfl (fun K hK => ?_) AllReadyH.nil
  go_simp
  refine (joinCC a o13 la p13 ca k13 _ (HI.out _ (H4.out.1.lo.trans (K13.mono H4.out.1.lo.size))).ia HP13.out.2.1 (by have := HS.out; have := HP13.out.2.2; omega)).mono ?_
  rintro e u14 ⟨⟨o14, p14, k14, rfl, hof, hm, hol⟩, hb⟩
  have K14 := K13.trans (hb.mono K13.size)
  obtain rfl := HJ.out.1.assoc HP9b.out.1 HP13.out.1 hof
  have HP14 := Lib.hid (And.intro (HP9b.out.2.below hb) hm.cin)
  clear hof hm hol hb HP9b HP13
  refine hK.out _ _ K14 (fun _ => ?_)
  clear hK K
  try simp only [Act.put, List.setIfInBounds_toArray, List.set_cons_zero, List.set_cons_succ]
  refine wpAnyH_ready (rs := [15]) (by kernel_rfl) (by simp) ?_
  refine AllReadyH.cons (o := { dst := some 43, op := _, type := _, pos := _, after := _, guard := _ }) rfl (fun K hK => ?_) AllReadyH.nil
  go_simp
  have hh := sameRC o9 o9 p9 p14 k9 k14 _ HP14.out.1 HP14.out.2
  rw [decide_eq_true (show o9 = o9 from rfl)] at hh
  refine hh.mono ?_
  rintro e u15 ⟨rfl, hb⟩
  have K15 := K14.trans (hb.mono K14.size)
  clear hh hb HP14
  refine hK.out _ _ K15 (fun _ => ?_)
  clear hK K
  try simp only [Act.put, List.setIfInBounds_toArray, List.set_cons_zero, List.set_cons_succ]
  refine wpAnyH_take (i := 16) (oi := { dst := some 44, op := _, type := _, pos := _, after := _, guard := _ }) (v := ?v11) rfl (by kernel_rfl) (by kernel_rfl) (by kernel_rfl) (fun _ _ _ h => h) (Or.inl ⟨by rfl, ?hy11⟩) K15 ?rest11
  case hy11 => (intro w hSw; (try dsimp only at hSw); first | (go_simp; done) | (go_simp; with_reducible rfl))
  try simp only [Act.put, List.setIfInBounds_toArray, List.set_cons_zero, List.set_cons_succ]
  refine wpAnyH_take (i := 17) (oi := { dst := some 45, op := _, type := _, pos := _, after := _, guard := _ }) (v := ?v12) rfl (by kernel_rfl) (by kernel_rfl) (by kernel_rfl) (fun _ _ _ h => h) (Or.inl ⟨by rfl, ?hy12⟩) K15 ?rest12
  case hy12 => (intro w hSw; (try dsimp only at hSw); first | (go_simp; done) | (go_simp; with_reducible rfl))
  try simp only [Act.put, List.setIfInBounds_toArray, List.set_cons_zero, List.set_cons_succ]
  refine wpAnyH_take (i := 18) (oi := { dst := some 46, op := _, type := _, pos := _, after := _, guard := _ }) (v := ?v13) rfl (by kernel_rfl) (by kernel_rfl) (by kernel_rfl) (fun _ _ _ h => h) (Or.inl ⟨by rfl, ?hy13⟩) K15 ?rest13
  case hy13 => (intro w hSw; (try dsimp only at hSw); first | (go_simp; done) | (go_simp; with_reducible rfl))
  try simp only [Act.put, List.setIfInBounds_toArray, List.set_cons_zero, List.set_cons_succ]
  refine wpAnyH_take (i := 19) (oi := { dst := some 47, op := _, type := _, pos := _, after := _, guard := _ }) rfl (by kernel_rfl) (by kernel_rfl) (by kernel_rfl) (fun _ _ _ h => h) (yield_C (by rfl) (.tmp 7) rfl g7 j.v (.slice pj j.l.length kj) rfl (fun U hU => H4.out.2.1.keep hU) HVJ.out) K15 ?_
  try simp only [Act.put, List.setIfInBounds_toArray, List.set_cons_zero, List.set_cons_succ]
  refine wpAnyH_take (i := 20) (oi := { dst := some 48, op := _, type := _, pos := _, after := _, guard := _ }) rfl (by kernel_rfl) (by kernel_rfl) (by kernel_rfl) (fun _ _ _ h => h) (yield_C (by rfl) (.tmp 4) rfl (w.heap.size + 1) b.v (.slice lb b.l.length cb) rfl (fun U hU => (H4.out.1.keep hU).rb) HV2.out) K15 ?_
  try simp only [Act.put, List.setIfInBounds_toArray, List.set_cons_zero, List.set_cons_succ]
  refine wpAnyH_take (i := 22) (oi := { dst := some 50, op := _, type := _, pos := _, after := _, guard := _ }) rfl (by kernel_rfl) (by kernel_rfl) (by kernel_rfl) (fun _ _ _ h => h) (yield_C (by rfl) (.tmp 7) rfl g7 j.v (.slice pj j.l.length kj) rfl (fun U hU => H4.out.2.1.keep hU) HVJ.out) K15 ?_
  try simp only [Act.put, List.setIfInBounds_toArray, List.set_cons_zero, List.set_cons_succ]
  refine wpAnyH_ready (rs := [21]) (by kernel_rfl) (by simp) ?_
  refine AllReadyH.cons (o := { dst := some 49, op := _, type := _, pos := _, after := _, guard := _ }) rfl (fun K hK => ?_) AllReadyH.nil
  go_simp
  refine (joinCC j b pj lb kj cb _ (H4.out.2.2.below K15) (HI.out _ (H4.out.1.lo.trans (K15.mono H4.out.1.lo.size))).ib (by have := HS.out; have := HJ.out.2; omega)).mono ?_
  rintro e u21 ⟨⟨o21, p21, k21, rfl, hof, hm, hol⟩, hb⟩
  have K21 := K15.trans (hb.mono K15.size)
  obtain rfl := HJ.out.1.again.same hof
  have HP21 := Lib.hid hm.cin
  clear hof hm hol hb
  refine hK.out _ _ K21 (fun _ => ?_)
  clear hK K
  try simp only [Act.put, List.setIfInBounds_toArray, List.set_cons_zero, List.set_cons_succ]
  refine wpAnyH_ready (rs := [23]) (by kernel_rfl) (by simp) ?_
  refine AllReadyH.cons (o := { dst := some 51, op := _, type := _, pos := _, after := _, guard := _ }) rfl (fun K hK => ?_) AllReadyH.nil
  go_simp
  have hh := sameRC j j p21 pj k21 kj _ HP21.out (H4.out.2.2.below K21)
  rw [decide_eq_true (show j = j from rfl)] at hh
  refine hh.mono ?_
  rintro e u23 ⟨rfl, hb⟩
  have K23 := K21.trans (hb.mono K21.size)
  clear hh hb HP21
  refine hK.out _ _ K23 (fun _ => ?_)
  clear hK K
  try simp only [Act.put, List.setIfInBounds_toArray, List.set_cons_zero, List.set_cons_succ]
  refine wpAnyH_take (i := 24) (oi := { dst := some 52, op := _, type := _, pos := _, after := _, guard := _ }) (v := ?v17) rfl (by kernel_rfl) (by kernel_rfl) (by kernel_rfl) (fun _ _ _ h => h) (Or.inl ⟨by rfl, ?hy17⟩) K23 ?rest17
  case hy17 => (intro w hSw; (try dsimp only at hSw); first | (go_simp; done) | (go_simp; with_reducible rfl))
  try simp only [Act.put, List.setIfInBounds_toArray, List.set_cons_zero, List.set_cons_succ]
  refine wpAnyH_take (i := 25) (oi := { dst := some 53, op := _, type := _, pos := _, after := _, guard := _ }) (v := ?v18) rfl (by kernel_rfl) (by kernel_rfl) (by kernel_rfl) (fun _ _ _ h => h) (Or.inl ⟨by rfl, ?hy18⟩) K23 ?rest18
  case hy18 => (intro w hSw; (try dsimp only at hSw); first | (go_simp; done) | (go_simp; with_reducible rfl))
  try simp only [Act.put, List.setIfInBounds_toArray, List.set_cons_zero, List.set_cons_succ]
  refine wpAnyH_take (i := 26) (oi := { dst := some 54, op := _, type := _, pos := _, after := _, guard := _ }) (v := ?v19) rfl (by kernel_rfl) (by kernel_rfl) (by kernel_rfl) (fun _ _ _ h => h) (Or.inl ⟨by rfl, ?hy19⟩) K23 ?rest19
  case hy19 => (intro w hSw; (try dsimp only at hSw); first | (go_simp; done) | (go_simp; with_reducible rfl))
  try simp only [Act.put, List.setIfInBounds_toArray, List.set_cons_zero, List.set_cons_succ]
  refine wpAnyH_take (i := 27) (oi := { dst := some 55, op := _, type := _, pos := _, after := _, guard := _ }) rfl (by kernel_rfl) (by kernel_rfl) (by kernel_rfl) (fun _ _ _ h => h) (yield_C (by rfl) (.tmp 7) rfl g7 j.v (.slice pj j.l.length kj) rfl (fun U hU => H4.out.2.1.keep hU) HVJ.out) K23 ?_
  try simp only [Act.put, List.setIfInBounds_toArray, List.set_cons_zero, List.set_cons_succ]
  refine wpAnyH_ready (rs := [28]) (by kernel_rfl) (by simp) ?_
  refine AllReadyH.cons (o := { dst := some 56, op := _, type := _, pos := _, after := _, guard := _ }) rfl (fun K hK => ?_) AllReadyH.nil
  go_simp
  have hh := chkCC j pj kj _ (H4.out.2.2.below K23)
  rw [chkC_clean HJ.out.1.clean] at hh
  refine hh.mono ?_
  rintro e u28 ⟨rfl, hb⟩
  have K28 := K23.trans (hb.mono K23.size)
  clear hh hb
  refine hK.out _ _ K28 (fun _ => ?_)
  clear hK K
  try simp only [Act.put, List.setIfInBounds_toArray, List.set_cons_zero, List.set_cons_succ]
  refine wpAnyH_take (i := 29) (oi := { dst := some 57, op := _, type := _, pos := _, after := _, guard := _ }) (v := ?v21) rfl (by kernel_rfl) (by kernel_rfl) (by kernel_rfl) (fun _ _ _ h => h) (Or.inl ⟨by rfl, ?hy21⟩) K28 ?rest21
  case hy21 => (intro w hSw; (try dsimp only at hSw); first | (go_simp; done) | (go_simp; with_reducible rfl))
  try simp only [Act.put, List.setIfInBounds_toArray, List.set_cons_zero, List.set_cons_succ]
  refine wpAnyH_take (i := 30) (oi := { dst := some 58, op := _, type := _, pos := _, after := _, guard := _ }) (v := ?v22) rfl (by kernel_rfl) (by kernel_rfl) (by kernel_rfl) (fun _ _ _ h => h) (Or.inl ⟨by rfl, ?hy22⟩) K28 ?rest22
  case hy22 => (intro w hSw; (try dsimp only at hSw); first | (go_simp; done) | (go_simp; with_reducible rfl))
  try simp only [Act.put, List.setIfInBounds_toArray, List.set_cons_zero, List.set_cons_succ]
  refine wpAnyH_done (by kernel_rfl) ?_ _
  try simp only [Act.put, List.setIfInBounds_toArray, List.set_cons_zero, List.set_cons_succ]
  have H5 := Lib.hid (And.intro (H4.out.1.keep K28) (And.intro (H4.out.2.1.keep K28) (H4.out.2.2.below K28)))
  clear K0 K3 K4 K9 K13 K14 K15 K21 K23 K28 H4
  generalize u28 = V at *
  have hclen : c.l.length ≤ 40 := HS.out.2.2
  go_wp2_with fail
  go_loopw [8, 9] (fun i _ wr => ∃ k : Nat, k ≤ c.l.length ∧ i = .int .i64 k ∧ Hid (Go.RowKit.Below V.heap.size V wr)) (fun i _ _ => c.l.length - (intOf i).toNat)
  case atStart => exact ⟨0, Nat.zero_le _, rfl, Lib.hid (Below.refl _ _)⟩
  case round =>
    obtain ⟨k, hk, rfl, HB⟩ := hrel
    have H6 := Lib.hid (And.intro (H5.out.1.keep HB.out) (And.intro (H5.out.2.1.keep HB.out) (H5.out.2.2.below HB.out)))
    have c16 := H6.out.1.rc.cloud HV3.out
    by_cases hlt : k < c.l.length
    · obtain ⟨f, hf⟩ : ∃ d, c.l[k]? = some d := ⟨_, List.getElem?_eq_getElem hlt⟩
      obtain ⟨b1, off, rfl, hbl, c0, c1⟩ := (HI.out _ H6.out.1.lo).ic.din.at hf
      have hi1 : (k : Int) < (c.l.length : Int) := by omega
      obtain ⟨r, q⟩ := f
      simp only at c0 c1
      clear hf
      have HHJ := Lib.hid (HJ.out.1.has (r, q))
      have HB7 := Lib.hid (boxD_below wr (r, q))
      have H7 := Lib.hid (And.intro (H6.out.1.keep HB7.out) (And.intro (H6.out.2.1.keep HB7.out) (And.intro (H6.out.2.2.below HB7.out) (And.intro (dat_new wr (r, q)) (HB.out.trans (HB7.out.mono HB.out.size))))))
      clear HB7 H6
      unfold boxD at H7
      simp only at H7
      go_upto_region 10 with fail
      clear c0 c1 hbl c16
      generalize wr.alloc (.cells #[.int .i64 r, .int .i64 q] 31) = X at *
      generalize wr.heap.size = g9 at *
      rcases hha : hasC a (r, q) with _ | _
      · rw [hha, Bool.false_or] at HHJ
        have HA := Lib.hid hha
        obtain ⟨y, hy⟩ : ∃ y, hasC b (r, q) = y := ⟨_, rfl⟩
        rw [hy] at HHJ
        have HBY := Lib.hid hy
        have y1 : (y != y) = false := by cases y <;> rfl
        have y2 : (y == y) = true := by cases y <;> rfl
        clear hy
        clear hha
        refine wp_region_held (S := fun U => Go.RowKit.Below X.heap.size X U) (by kernel_rfl) ?_
        change wpAnyH _ _ _ _ _ _ _ _ X.drew
        have K0 : (fun U => Go.RowKit.Below X.heap.size X U) X.drew := (Below.refl _ _).drew
        refine wpAnyH_take (i := 0) (oi := { dst := some 71, op := _, type := _, pos := _, after := _, guard := _ }) rfl (by kernel_rfl) (by kernel_rfl) (by kernel_rfl) (fun _ _ _ h => h) (yield_C (by rfl) (.tmp 7) rfl g7 j.v (.slice pj j.l.length kj) rfl (fun U hU => H7.out.2.1.keep hU) HVJ.out) K0 ?_
        try simp only [Act.put, List.setIfInBounds_toArray, List.set_cons_zero, List.set_cons_succ]
        refine wpAnyH_take (i := 1) (oi := { dst := some 72, op := _, type := _, pos := _, after := _, guard := _ }) rfl (by kernel_rfl) (by kernel_rfl) (by kernel_rfl) (fun _ _ _ h => h) (yield_D (by rfl) (.tmp 9) rfl g9 0 (r, q) rfl (fun U hU => ⟨(H7.out.2.2.2.1.below hU H7.out.2.2.2.1.lt).c0, (H7.out.2.2.2.1.below hU H7.out.2.2.2.1.lt).c1⟩)) K0 ?_
        try simp only [Act.put, List.setIfInBounds_toArray, List.set_cons_zero, List.set_cons_succ]
        refine wpAnyH_take (i := 3) (oi := { dst := some 74, op := _, type := _, pos := _, after := _, guard := _ }) rfl (by kernel_rfl) (by kernel_rfl) (by kernel_rfl) (fun _ _ _ h => h) (yield_C (by rfl) (.tmp 3) rfl w.heap.size a.v (.slice la a.l.length ca) rfl (fun U hU => (H7.out.1.keep hU).ra) HV.out) K0 ?_
        try simp only [Act.put, List.setIfInBounds_toArray, List.set_cons_zero, List.set_cons_succ]
        refine wpAnyH_take (i := 4) (oi := { dst := some 75, op := _, type := _, pos := _, after := _, guard := _ }) rfl (by kernel_rfl) (by kernel_rfl) (by kernel_rfl) (fun _ _ _ h => h) (yield_D (by rfl) (.tmp 9) rfl g9 0 (r, q) rfl (fun U hU => ⟨(H7.out.2.2.2.1.below hU H7.out.2.2.2.1.lt).c0, (H7.out.2.2.2.1.below hU H7.out.2.2.2.1.lt).c1⟩)) K0 ?_
        try simp only [Act.put, List.setIfInBounds_toArray, List.set_cons_zero, List.set_cons_succ]
        refine wpAnyH_ready (rs := [2]) (by kernel_rfl) (by simp) ?_
        refine AllReadyH.cons (o := { dst := some 73, op := _, type := _, pos := _, after := _, guard := _ }) rfl (fun K hK => ?_) AllReadyH.nil
        go_simp
        have hh := hasCC j (r, q) pj kj _ (H7.out.2.2.1.below K0)
        rw [HHJ.out] at hh
        refine hh.mono ?_
        rintro e u2 ⟨rfl, hb⟩
        have K2 := K0.trans (hb.mono K0.size)
        clear hh hb
        refine hK.out _ _ K2 (fun _ => ?_)
        clear hK K
        try simp only [Act.put, List.setIfInBounds_toArray, List.set_cons_zero, List.set_cons_succ]
        refine wpAnyH_ready (rs := [5]) (by kernel_rfl) (by simp) ?_
        refine AllReadyH.cons (o := { dst := some 76, op := _, type := _, pos := _, after := _, guard := _ }) rfl (fun K hK => ?_) AllReadyH.nil
        go_simp
        have hh := hasCC a (r, q) la ca _ (HI.out _ (H7.out.1.lo.trans (K2.mono H7.out.1.lo.size))).ia
        rw [HA.out] at hh
        refine hh.mono ?_
        rintro e u5 ⟨rfl, hb⟩
        have K5 := K2.trans (hb.mono K2.size)
        clear hh hb
        refine hK.out _ _ K5 (fun _ => ?_)
        clear hK K
        try simp only [Act.put, List.setIfInBounds_toArray, List.set_cons_zero, List.set_cons_succ]
        refine wpAnyH_take (i := 6) (oi := { dst := some 77, op := _, type := _, pos := _, after := _, guard := _ }) (v := ?v27) rfl (by kernel_rfl) (by kernel_rfl) (by kernel_rfl) (fun _ _ _ h => h) (Or.inl ⟨by rfl, ?hy27⟩) K5 ?rest27
        case hy27 => (intro w hSw; (try dsimp only at hSw); first | (go_simp; done) | (go_simp; with_reducible rfl))
        try simp only [Act.put, List.setIfInBounds_toArray, List.set_cons_zero, List.set_cons_succ]
        refine wpAnyH_take (i := 7) (oi := { dst := some 78, op := _, type := _, pos := _, after := _, guard := _ }) rfl (by kernel_rfl) (by kernel_rfl) (by kernel_rfl) (fun _ _ _ h => h) (yield_C (by rfl) (.tmp 4) rfl (w.heap.size + 1) b.v (.slice lb b.l.length cb) rfl (fun U hU => (H7.out.1.keep hU).rb) HV2.out) K5 ?_
        try simp only [Act.put, List.setIfInBounds_toArray, List.set_cons_zero, List.set_cons_succ]
        refine wpAnyH_take (i := 8) (oi := { dst := some 79, op := _, type := _, pos := _, after := _, guard := _ }) rfl (by kernel_rfl) (by kernel_rfl) (by kernel_rfl) (fun _ _ _ h => h) (yield_D (by rfl) (.tmp 9) rfl g9 0 (r, q) rfl (fun U hU => ⟨(H7.out.2.2.2.1.below hU H7.out.2.2.2.1.lt).c0, (H7.out.2.2.2.1.below hU H7.out.2.2.2.1.lt).c1⟩)) K5 ?_
        try simp only [Act.put, List.setIfInBounds_toArray, List.set_cons_zero, List.set_cons_succ]
        refine wpAnyH_ready (rs := [9]) (by kernel_rfl) (by simp) ?_
        refine AllReadyH.cons (o := { dst := some 80, op := _, type := _, pos := _, after := _, guard := _ }) rfl (fun K hK => ?_) AllReadyH.nil
        go_simp
        have hh := hasCC b (r, q) lb cb _ (HI.out _ (H7.out.1.lo.trans (K5.mono H7.out.1.lo.size))).ib
        rw [HBY.out] at hh
        refine hh.mono ?_
        rintro e u9 ⟨rfl, hb⟩
        have K9 := K5.trans (hb.mono K5.size)
        clear hh hb
        refine hK.out _ _ K9 (fun _ => ?_)
        clear hK K
        try simp only [Act.put, List.setIfInBounds_toArray, List.set_cons_zero, List.set_cons_succ]
        refine wpAnyH_take (i := 10) (oi := { dst := some 81, op := _, type := _, pos := _, after := _, guard := _ }) (v := ?v30) rfl (by kernel_rfl) (by kernel_rfl) (by kernel_rfl) (fun _ _ _ h => h) (Or.inl ⟨by rfl, ?hy30⟩) K9 ?rest30
        case hy30 => (intro w hSw; (try dsimp only at hSw); first | (go_simp; done) | (go_simp; with_reducible rfl))
        try simp only [Act.put, List.setIfInBounds_toArray, List.set_cons_zero, List.set_cons_succ]
        refine wpAnyH_take (i := 11) (oi := { dst := some 82, op := _, type := _, pos := _, after := _, guard := _ }) (v := ?v31) rfl (by kernel_rfl) (by kernel_rfl) (by kernel_rfl) (fun _ _ _ h => h) (Or.inl ⟨by rfl, ?hy31⟩) K9 ?rest31
        case hy31 => (intro w hSw; (try dsimp only at hSw); first | (go_simp; done) | (go_simp; with_reducible rfl))
        try simp only [Act.put, List.setIfInBounds_toArray, List.set_cons_zero, List.set_cons_succ]
        refine wpAnyH_done (by kernel_rfl) ?_ _
        try simp only [Act.put, List.setIfInBounds_toArray, List.set_cons_zero, List.set_cons_succ]
        have HB2 := Lib.hid (H7.out.2.2.2.2.trans (K9.mono H7.out.2.2.2.2.size))
        clear K0 K2 K5 K9
        go_wp2_with fail
        go_roundw
        case rel => exact ⟨k + 1, by omega, by go_num, HB2⟩
        case measure => simp [intOf]; omega
      · rw [hha, Bool.true_or] at HHJ
        have HA := Lib.hid hha
        clear hha
        refine wp_region_held (S := fun U => Go.RowKit.Below X.heap.size X U) (by kernel_rfl) ?_
        change wpAnyH _ _ _ _ _ _ _ _ X.drew
        have K0 : (fun U => Go.RowKit.Below X.heap.size X U) X.drew := (Below.refl _ _).drew
        refine wpAnyH_take (i := 0) (oi := { dst := some 71, op := _, type := _, pos := _, after := _, guard := _ }) rfl (by kernel_rfl) (by kernel_rfl) (by kernel_rfl) (fun _ _ _ h => h) (yield_C (by rfl) (.tmp 7) rfl g7 j.v (.slice pj j.l.length kj) rfl (fun U hU => H7.out.2.1.keep hU) HVJ.out) K0 ?_
        try simp only [Act.put, List.setIfInBounds_toArray, List.set_cons_zero, List.set_cons_succ]
        refine wpAnyH_take (i := 1) (oi := { dst := some 72, op := _, type := _, pos := _, after := _, guard := _ }) rfl (by kernel_rfl) (by kernel_rfl) (by kernel_rfl) (fun _ _ _ h => h) (yield_D (by rfl) (.tmp 9) rfl g9 0 (r, q) rfl (fun U hU => ⟨(H7.out.2.2.2.1.below hU H7.out.2.2.2.1.lt).c0, (H7.out.2.2.2.1.below hU H7.out.2.2.2.1.lt).c1⟩)) K0 ?_
        try simp only [Act.put, List.setIfInBounds_toArray, List.set_cons_zero, List.set_cons_succ]
        refine wpAnyH_take (i := 3) (oi := { dst := some 74, op := _, type := _, pos := _, after := _, guard := _ }) rfl (by kernel_rfl) (by kernel_rfl) (by kernel_rfl) (fun _ _ _ h => h) (yield_C (by rfl) (.tmp 3) rfl w.heap.size a.v (.slice la a.l.length ca) rfl (fun U hU => (H7.out.1.keep hU).ra) HV.out) K0 ?_
        try simp only [Act.put, List.setIfInBounds_toArray, List.set_cons_zero, List.set_cons_succ]
        refine wpAnyH_take (i := 4) (oi := { dst := some 75, op := _, type := _, pos := _, after := _, guard := _ }) rfl (by kernel_rfl) (by kernel_rfl) (by kernel_rfl) (fun _ _ _ h => h) (yield_D (by rfl) (.tmp 9) rfl g9 0 (r, q) rfl (fun U hU => ⟨(H7.out.2.2.2.1.below hU H7.out.2.2.2.1.lt).c0, (H7.out.2.2.2.1.below hU H7.out.2.2.2.1.lt).c1⟩)) K0 ?_
        try simp only [Act.put, List.setIfInBounds_toArray, List.set_cons_zero, List.set_cons_succ]
        refine wpAnyH_ready (rs := [2]) (by kernel_rfl) (by simp) ?_
        refine AllReadyH.cons (o := { dst := some 73, op := _, type := _, pos := _, after := _, guard := _ }) rfl (fun K hK => ?_) AllReadyH.nil
        go_simp
        have hh := hasCC j (r, q) pj kj _ (H7.out.2.2.1.below K0)
        rw [HHJ.out] at hh
        refine hh.mono ?_
        rintro e u2 ⟨rfl, hb⟩
        have K2 := K0.trans (hb.mono K0.size)
        clear hh hb
        refine hK.out _ _ K2 (fun _ => ?_)
        clear hK K
        try simp only [Act.put, List.setIfInBounds_toArray, List.set_cons_zero, List.set_cons_succ]
        refine wpAnyH_ready (rs := [5]) (by kernel_rfl) (by simp) ?_
        refine AllReadyH.cons (o := { dst := some 76, op := _, type := _, pos := _, after := _, guard := _ }) rfl (fun K hK => ?_) AllReadyH.nil
        go_simp
        have hh := hasCC a (r, q) la ca _ (HI.out _ (H7.out.1.lo.trans (K2.mono H7.out.1.lo.size))).ia
        rw [HA.out] at hh
        refine hh.mono ?_
        rintro e u5 ⟨rfl, hb⟩
        have K5 := K2.trans (hb.mono K2.size)
        clear hh hb
        refine hK.out _ _ K5 (fun _ => ?_)
        clear hK K
        try simp only [Act.put, List.setIfInBounds_toArray, List.set_cons_zero, List.set_cons_succ]
        refine wpAnyH_take (i := 6) (oi := { dst := some 77, op := _, type := _, pos := _, after := _, guard := _ }) (v := ?v36) rfl (by kernel_rfl) (by kernel_rfl) (by kernel_rfl) (fun _ _ _ h => h) (Or.inl ⟨by rfl, ?hy36⟩) K5 ?rest36
        case hy36 => (intro w hSw; (try dsimp only at hSw); first | (go_simp; done) | (go_simp; with_reducible rfl))
        try simp only [Act.put, List.setIfInBounds_toArray, List.set_cons_zero, List.set_cons_succ]
        refine wpAnyH_take (i := 7) (oi := { dst := some 78, op := _, type := _, pos := _, after := _, guard := _ }) rfl (by kernel_rfl) (by kernel_rfl) (by kernel_rfl) (fun _ _ _ h => h) (Or.inr ⟨by rfl, rfl⟩) K5 ?_
        try simp only [Act.put, List.setIfInBounds_toArray, List.set_cons_zero, List.set_cons_succ]
        refine wpAnyH_take (i := 8) (oi := { dst := some 79, op := _, type := _, pos := _, after := _, guard := _ }) rfl (by kernel_rfl) (by kernel_rfl) (by kernel_rfl) (fun _ _ _ h => h) (Or.inr ⟨by rfl, rfl⟩) K5 ?_
        try simp only [Act.put, List.setIfInBounds_toArray, List.set_cons_zero, List.set_cons_succ]
        refine wpAnyH_take (i := 9) (oi := { dst := some 80, op := _, type := _, pos := _, after := _, guard := _ }) rfl (by kernel_rfl) (by kernel_rfl) (by kernel_rfl) (fun _ _ _ h => h) (Or.inr ⟨by rfl, rfl⟩) K5 ?_
        try simp only [Act.put, List.setIfInBounds_toArray, List.set_cons_zero, List.set_cons_succ]
        refine wpAnyH_take (i := 10) (oi := { dst := some 81, op := _, type := _, pos := _, after := _, guard := _ }) (v := ?v40) rfl (by kernel_rfl) (by kernel_rfl) (by kernel_rfl) (fun _ _ _ h => h) (Or.inl ⟨by rfl, ?hy40⟩) K5 ?rest40
        case hy40 => (intro w hSw; (try dsimp only at hSw); first | (go_simp; done) | (go_simp; with_reducible rfl))
        try simp only [Act.put, List.setIfInBounds_toArray, List.set_cons_zero, List.set_cons_succ]
        refine wpAnyH_take (i := 11) (oi := { dst := some 82, op := _, type := _, pos := _, after := _, guard := _ }) (v := ?v41) rfl (by kernel_rfl) (by kernel_rfl) (by kernel_rfl) (fun _ _ _ h => h) (Or.inl ⟨by rfl, ?hy41⟩) K5 ?rest41
        case hy41 => (intro w hSw; (try dsimp only at hSw); first | (go_simp; done) | (go_simp; with_reducible rfl))
        try simp only [Act.put, List.setIfInBounds_toArray, List.set_cons_zero, List.set_cons_succ]
        refine wpAnyH_done (by kernel_rfl) ?_ _
        try simp only [Act.put, List.setIfInBounds_toArray, List.set_cons_zero, List.set_cons_succ]
        have HB2 := Lib.hid (H7.out.2.2.2.2.trans (K5.mono H7.out.2.2.2.2.size))
        clear K0 K2 K5
        go_wp2_with fail
        go_roundw
        case rel => exact ⟨k + 1, by omega, by go_num, HB2⟩
        case measure => simp [intOf]; omega
    · have hi1 : ¬ (k : Int) < (c.l.length : Int) := by omega
      clear hlt hk H5 HB
      go_wp2_with (first
        | ((with_reducible refine cl_load ?_ (.tmp 3) ?_ w.heap.size a.v (.slice la a.l.length ca) ?_ ?_ ?_ ?_); rfl; rfl; rfl; exact H6.out.1.ra; exact HV.out)
        | ((with_reducible refine cl_load ?_ (.tmp 4) ?_ (w.heap.size + 1) b.v (.slice lb b.l.length cb) ?_ ?_ ?_ ?_); rfl; rfl; rfl; exact H6.out.1.rb; exact HV2.out))
      refine (missCC a b la lb ca cb wr (HI.out _ H6.out.1.lo).ia (HI.out _ H6.out.1.lo).ib).mono ?_
      rintro e w12 ⟨⟨m, pm, km, rfl, hmi, hmd⟩, hb⟩
      have HM := Lib.hid (And.intro hmi hmd.din)
      have H9 := Lib.hid (And.intro (H6.out.1.keep hb) (And.intro (H6.out.2.1.keep hb) (H6.out.2.2.below hb)))
      clear hb hmi hmd H6 c16
      go_upto_region 13 with fail
      rcases Nat.lt_or_ge m.length 4096 with hbig | hbig
      · have hbi : ¬ (4096 : Int) ≤ (m.length : Int) := by omega
        have HLT := Lib.hid hbig
        clear hbig
        refine wp_region_held (S := fun U => Go.RowKit.Below w12.heap.size w12 U) (by kernel_rfl) ?_
        change wpAnyH _ _ _ _ _ _ _ _ w12.drew
        have K0 : (fun U => Go.RowKit.Below w12.heap.size w12 U) w12.drew := (Below.refl _ _).drew
        refine wpAnyH_take (i := 0) (oi := { dst := some 86, op := _, type := _, pos := _, after := _, guard := _ }) (v := ?v42) rfl (by kernel_rfl) (by kernel_rfl) (by kernel_rfl) (fun _ _ _ h => h) (Or.inl ⟨by rfl, ?hy42⟩) K0 ?rest42
        case hy42 => (intro w hSw; (try dsimp only at hSw); first | (go_simp; done) | (go_simp; with_reducible rfl))
        try simp only [Act.put, List.setIfInBounds_toArray, List.set_cons_zero, List.set_cons_succ]
        refine wpAnyH_take (i := 1) (oi := { dst := some 87, op := _, type := _, pos := _, after := _, guard := _ }) (v := ?v43) rfl (by kernel_rfl) (by kernel_rfl) (by kernel_rfl) (fun _ _ _ h => h) (Or.inl ⟨by rfl, ?hy43⟩) K0 ?rest43
        case hy43 => (intro w hSw; (try dsimp only at hSw); first | (go_simp; done) | (go_simp; with_reducible rfl))
        try simp only [Act.put, List.setIfInBounds_toArray, List.set_cons_zero, List.set_cons_succ]
        refine wpAnyH_take (i := 2) (oi := { dst := some 88, op := _, type := _, pos := _, after := _, guard := _ }) (v := ?v44) rfl (by kernel_rfl) (by kernel_rfl) (by kernel_rfl) (fun _ _ _ h => h) (Or.inl ⟨by rfl, ?hy44⟩) K0 ?rest44
        case hy44 => (intro w hSw; (try dsimp only at hSw); first | (go_simp; done) | (go_simp; with_reducible rfl))
        try simp only [Act.put, List.setIfInBounds_toArray, List.set_cons_zero, List.set_cons_succ]
        refine wpAnyH_take (i := 3) (oi := { dst := some 89, op := _, type := _, pos := _, after := _, guard := _ }) (v := ?v45) rfl (by kernel_rfl) (by kernel_rfl) (by kernel_rfl) (fun _ _ _ h => h) (Or.inl ⟨by rfl, ?hy45⟩) K0 ?rest45
        case hy45 => (intro w hSw; (try dsimp only at hSw); first | (go_simp; done) | (go_simp; with_reducible rfl))
        try simp only [Act.put, List.setIfInBounds_toArray, List.set_cons_zero, List.set_cons_succ]
        refine wpAnyH_take (i := 4) (oi := { dst := some 90, op := _, type := _, pos := _, after := _, guard := _ }) rfl (by kernel_rfl) (by kernel_rfl) (by kernel_rfl) (fun _ _ _ h => h) (yield_C (by rfl) (.tmp 3) rfl w.heap.size a.v (.slice la a.l.length ca) rfl (fun U hU => (H9.out.1.keep hU).ra) HV.out) K0 ?_
        try simp only [Act.put, List.setIfInBounds_toArray, List.set_cons_zero, List.set_cons_succ]
        refine wpAnyH_take (i := 5) (oi := { dst := some 91, op := _, type := _, pos := _, after := _, guard := _ }) (v := ?v47) rfl (by kernel_rfl) (by kernel_rfl) (by kernel_rfl) (fun _ _ _ h => h) (Or.inl ⟨by rfl, ?hy47⟩) K0 ?rest47
        case hy47 => (intro w hSw; (try dsimp only at hSw); first | (go_simp; done) | (go_simp; with_reducible rfl))
        try simp only [Act.put, List.setIfInBounds_toArray, List.set_cons_zero, List.set_cons_succ]
        refine wpAnyH_take (i := 7) (oi := { dst := some 93, op := _, type := _, pos := _, after := _, guard := _ }) rfl (by kernel_rfl) (by kernel_rfl) (by kernel_rfl) (fun _ _ _ h => h) (yield_C (by rfl) (.tmp 7) rfl g7 j.v (.slice pj j.l.length kj) rfl (fun U hU => H9.out.2.1.keep hU) HVJ.out) K0 ?_
        try simp only [Act.put, List.setIfInBounds_toArray, List.set_cons_zero, List.set_cons_succ]
        refine wpAnyH_ready (rs := [6]) (by kernel_rfl) (by simp) ?_
        refine AllReadyH.cons (o := { dst := some 92, op := _, type := _, pos := _, after := _, guard := _ }) rfl (fun K hK => ?_) AllReadyH.nil
        go_simp
        refine (addCC a m la pm ca km _ (HI.out _ (H9.out.1.lo.trans (K0.mono H9.out.1.lo.size))).ia (HM.out.2.below K0) (by have := HS.out; have := HLT.out; omega)).mono ?_
        rintro e u6 ⟨⟨o6, p6, k6, rfl, hof, hm, -⟩, hb⟩
        have K6 := K0.trans (hb.mono K0.size)
        obtain rfl := (miss_add HM.out.1 HLT.out hof HJ.out.1).symm
        have HP6 := Lib.hid hm.cin
        clear hof hm hb
        refine hK.out _ _ K6 (fun _ => ?_)
        clear hK K
        try simp only [Act.put, List.setIfInBounds_toArray, List.set_cons_zero, List.set_cons_succ]
        refine wpAnyH_ready (rs := [8]) (by kernel_rfl) (by simp) ?_
        refine AllReadyH.cons (o := { dst := some 94, op := _, type := _, pos := _, after := _, guard := _ }) rfl (fun K hK => ?_) AllReadyH.nil
        go_simp
        have hh := sameRC j j p6 pj k6 kj _ HP6.out (H9.out.2.2.below K6)
        rw [decide_eq_true (show j = j from rfl)] at hh
        refine hh.mono ?_
        rintro e u8 ⟨rfl, hb⟩
        have K8 := K6.trans (hb.mono K6.size)
        clear hh hb HP6
        refine hK.out _ _ K8 (fun _ => ?_)
        clear hK K
        try simp only [Act.put, List.setIfInBounds_toArray, List.set_cons_zero, List.set_cons_succ]
        refine wpAnyH_take (i := 9) (oi := { dst := some 95, op := _, type := _, pos := _, after := _, guard := _ }) (v := ?v49) rfl (by kernel_rfl) (by kernel_rfl) (by kernel_rfl) (fun _ _ _ h => h) (Or.inl ⟨by rfl, ?hy49⟩) K8 ?rest49
        case hy49 => (intro w hSw; (try dsimp only at hSw); first | (go_simp; done) | (go_simp; with_reducible rfl))
        try simp only [Act.put, List.setIfInBounds_toArray, List.set_cons_zero, List.set_cons_succ]
        refine wpAnyH_take (i := 10) (oi := { dst := some 96, op := _, type := _, pos := _, after := _, guard := _ }) (v := ?v50) rfl (by kernel_rfl) (by kernel_rfl) (by kernel_rfl) (fun _ _ _ h => h) (Or.inl ⟨by rfl, ?hy50⟩) K8 ?rest50
        case hy50 => (intro w hSw; (try dsimp only at hSw); first | (go_simp; done) | (go_simp; with_reducible rfl))
        try simp only [Act.put, List.setIfInBounds_toArray, List.set_cons_zero, List.set_cons_succ]
        refine wpAnyH_ready (rs := [11]) (by kernel_rfl) (by simp) ?_
        refine AllReadyH.cons (o := { dst := some 97, op := _, type := _, pos := _, after := _, guard := _ }) rfl (fun K hK => ?_) AllReadyH.nil
        go_simp
        refine (causalAwake _).mono ?_
        rintro e u11 ⟨rfl, hb⟩
        have K11 := K8.trans (hb.mono K8.size)
        clear hb
        refine hK.out _ _ K11 (fun _ => ?_)
        clear hK K
        try simp only [Act.put, List.setIfInBounds_toArray, List.set_cons_zero, List.set_cons_succ]
        refine wpAnyH_take (i := 12) (oi := { dst := some 98, op := _, type := _, pos := _, after := _, guard := _ }) (v := ?v51) rfl (by kernel_rfl) (by kernel_rfl) (by kernel_rfl) (fun _ _ _ h => h) (Or.inl ⟨by rfl, ?hy51⟩) K11 ?rest51
        case hy51 => (intro w hSw; (try dsimp only at hSw); first | (go_simp; done) | (go_simp; with_reducible rfl))
        try simp only [Act.put, List.setIfInBounds_toArray, List.set_cons_zero, List.set_cons_succ]
        refine wpAnyH_take (i := 13) (oi := { dst := some 6, op := _, type := _, pos := _, after := _, guard := _ }) (v := ?v52) rfl (by kernel_rfl) (by kernel_rfl) (by kernel_rfl) (fun _ _ _ h => h) (Or.inl ⟨by rfl, ?hy52⟩) K11 ?rest52
        case hy52 => (intro w hSw; (try dsimp only at hSw); first | (go_simp; done) | (go_simp; with_reducible rfl))
        try simp only [Act.put, List.setIfInBounds_toArray, List.set_cons_zero, List.set_cons_succ]
        refine wpAnyH_done (by kernel_rfl) ?_ _
        try simp only [Act.put, List.setIfInBounds_toArray, List.set_cons_zero, List.set_cons_succ]
        have HF := Lib.hid (H9.out.1.lo.trans (K11.mono H9.out.1.lo.size))
        clear K0 K6 K8 K11
        go_wp2_with fail
        go_ret
        exact ⟨rfl, HF.out⟩
      · have hbi : (4096 : Int) ≤ (m.length : Int) := by omega
        clear hbig
        refine wp_region_held (S := fun U => Go.RowKit.Below w12.heap.size w12 U) (by kernel_rfl) ?_
        change wpAnyH _ _ _ _ _ _ _ _ w12.drew
        have K0 : (fun U => Go.RowKit.Below w12.heap.size w12 U) w12.drew := (Below.refl _ _).drew
        refine wpAnyH_take (i := 0) (oi := { dst := some 86, op := _, type := _, pos := _, after := _, guard := _ }) (v := ?v53) rfl (by kernel_rfl) (by kernel_rfl) (by kernel_rfl) (fun _ _ _ h => h) (Or.inl ⟨by rfl, ?hy53⟩) K0 ?rest53
        case hy53 => (intro w hSw; (try dsimp only at hSw); first | (go_simp; done) | (go_simp; with_reducible rfl))
        try simp only [Act.put, List.setIfInBounds_toArray, List.set_cons_zero, List.set_cons_succ]
        refine wpAnyH_take (i := 1) (oi := { dst := some 87, op := _, type := _, pos := _, after := _, guard := _ }) (v := ?v54) rfl (by kernel_rfl) (by kernel_rfl) (by kernel_rfl) (fun _ _ _ h => h) (Or.inl ⟨by rfl, ?hy54⟩) K0 ?rest54
        case hy54 => (intro w hSw; (try dsimp only at hSw); first | (go_simp; done) | (go_simp; with_reducible rfl))
        try simp only [Act.put, List.setIfInBounds_toArray, List.set_cons_zero, List.set_cons_succ]
        refine wpAnyH_take (i := 2) (oi := { dst := some 88, op := _, type := _, pos := _, after := _, guard := _ }) (v := ?v55) rfl (by kernel_rfl) (by kernel_rfl) (by kernel_rfl) (fun _ _ _ h => h) (Or.inl ⟨by rfl, ?hy55⟩) K0 ?rest55
        case hy55 => (intro w hSw; (try dsimp only at hSw); first | (go_simp; done) | (go_simp; with_reducible rfl))
        try simp only [Act.put, List.setIfInBounds_toArray, List.set_cons_zero, List.set_cons_succ]
        refine wpAnyH_take (i := 3) (oi := { dst := some 89, op := _, type := _, pos := _, after := _, guard := _ }) (v := ?v56) rfl (by kernel_rfl) (by kernel_rfl) (by kernel_rfl) (fun _ _ _ h => h) (Or.inl ⟨by rfl, ?hy56⟩) K0 ?rest56
        case hy56 => (intro w hSw; (try dsimp only at hSw); first | (go_simp; done) | (go_simp; with_reducible rfl))
        try simp only [Act.put, List.setIfInBounds_toArray, List.set_cons_zero, List.set_cons_succ]
        refine wpAnyH_take (i := 4) (oi := { dst := some 90, op := _, type := _, pos := _, after := _, guard := _ }) rfl (by kernel_rfl) (by kernel_rfl) (by kernel_rfl) (fun _ _ _ h => h) (Or.inr ⟨by rfl, rfl⟩) K0 ?_
        try simp only [Act.put, List.setIfInBounds_toArray, List.set_cons_zero, List.set_cons_succ]
        refine wpAnyH_take (i := 5) (oi := { dst := some 91, op := _, type := _, pos := _, after := _, guard := _ }) rfl (by kernel_rfl) (by kernel_rfl) (by kernel_rfl) (fun _ _ _ h => h) (Or.inr ⟨by rfl, rfl⟩) K0 ?_
        try simp only [Act.put, List.setIfInBounds_toArray, List.set_cons_zero, List.set_cons_succ]
        refine wpAnyH_take (i := 6) (oi := { dst := some 92, op := _, type := _, pos := _, after := _, guard := _ }) rfl (by kernel_rfl) (by kernel_rfl) (by kernel_rfl) (fun _ _ _ h => h) (Or.inr ⟨by rfl, rfl⟩) K0 ?_
        try simp only [Act.put, List.setIfInBounds_toArray, List.set_cons_zero, List.set_cons_succ]
        refine wpAnyH_take (i := 7) (oi := { dst := some 93, op := _, type := _, pos := _, after := _, guard := _ }) rfl (by kernel_rfl) (by kernel_rfl) (by kernel_rfl) (fun _ _ _ h => h) (Or.inr ⟨by rfl, rfl⟩) K0 ?_
        try simp only [Act.put, List.setIfInBounds_toArray, List.set_cons_zero, List.set_cons_succ]
        refine wpAnyH_take (i := 8) (oi := { dst := some 94, op := _, type := _, pos := _, after := _, guard := _ }) rfl (by kernel_rfl) (by kernel_rfl) (by kernel_rfl) (fun _ _ _ h => h) (Or.inr ⟨by rfl, rfl⟩) K0 ?_
        try simp only [Act.put, List.setIfInBounds_toArray, List.set_cons_zero, List.set_cons_succ]
        refine wpAnyH_take (i := 9) (oi := { dst := some 95, op := _, type := _, pos := _, after := _, guard := _ }) (v := ?v62) rfl (by kernel_rfl) (by kernel_rfl) (by kernel_rfl) (fun _ _ _ h => h) (Or.inl ⟨by rfl, ?hy62⟩) K0 ?rest62
        case hy62 => (intro w hSw; (try dsimp only at hSw); first | (go_simp; done) | (go_simp; with_reducible rfl))
        try simp only [Act.put, List.setIfInBounds_toArray, List.set_cons_zero, List.set_cons_succ]
        refine wpAnyH_take (i := 10) (oi := { dst := some 96, op := _, type := _, pos := _, after := _, guard := _ }) (v := ?v63) rfl (by kernel_rfl) (by kernel_rfl) (by kernel_rfl) (fun _ _ _ h => h) (Or.inl ⟨by rfl, ?hy63⟩) K0 ?rest63
        case hy63 => (intro w hSw; (try dsimp only at hSw); first | (go_simp; done) | (go_simp; with_reducible rfl))
        try simp only [Act.put, List.setIfInBounds_toArray, List.set_cons_zero, List.set_cons_succ]
        refine wpAnyH_ready (rs := [11]) (by kernel_rfl) (by simp) ?_
        refine AllReadyH.cons (o := { dst := some 97, op := _, type := _, pos := _, after := _, guard := _ }) rfl (fun K hK => ?_) AllReadyH.nil
        go_simp
        refine (causalAwake _).mono ?_
        rintro e u11 ⟨rfl, hb⟩
        have K11 := K0.trans (hb.mono K0.size)
        clear hb
        refine hK.out _ _ K11 (fun _ => ?_)
        clear hK K
        try simp only [Act.put, List.setIfInBounds_toArray, List.set_cons_zero, List.set_cons_succ]
        refine wpAnyH_take (i := 12) (oi := { dst := some 98, op := _, type := _, pos := _, after := _, guard := _ }) (v := ?v64) rfl (by kernel_rfl) (by kernel_rfl) (by kernel_rfl) (fun _ _ _ h => h) (Or.inl ⟨by rfl, ?hy64⟩) K11 ?rest64
        case hy64 => (intro w hSw; (try dsimp only at hSw); first | (go_simp; done) | (go_simp; with_reducible rfl))
        try simp only [Act.put, List.setIfInBounds_toArray, List.set_cons_zero, List.set_cons_succ]
        refine wpAnyH_take (i := 13) (oi := { dst := some 6, op := _, type := _, pos := _, after := _, guard := _ }) (v := ?v65) rfl (by kernel_rfl) (by kernel_rfl) (by kernel_rfl) (fun _ _ _ h => h) (Or.inl ⟨by rfl, ?hy65⟩) K11 ?rest65
        case hy65 => (intro w hSw; (try dsimp only at hSw); first | (go_simp; done) | (go_simp; with_reducible rfl))
        try simp only [Act.put, List.setIfInBounds_toArray, List.set_cons_zero, List.set_cons_succ]
        refine wpAnyH_done (by kernel_rfl) ?_ _
        try simp only [Act.put, List.setIfInBounds_toArray, List.set_cons_zero, List.set_cons_succ]
        have HF := Lib.hid (H9.out.1.lo.trans (K11.mono H9.out.1.lo.size))
        clear K0 K11
        go_wp2_with fail
        go_ret
        exact ⟨rfl, HF.out⟩
end Go.Proofs.Ytcedliaeipabnaa
