/-
  Add, Join: the program's.
-/
import Derived.Test.YtcedliaeipabnaaCauClean
import Derived.Test.YtcedliaeipabnaaGCauJ
import Derived.Test.YtcedliaeipabnaaCauHas
import Derived.Test.YtcedliaeipabnaaVecJoin
namespace Go.Proofs.Ytcedliaeipabnaa
set_option linter.unusedSimpArgs false
set_option linter.unusedVariables false
set_option maxRecDepth 100000
open Go.RowKit Go.Sort

theorem yield_B {ops : Array Oper} {S : World → Prop} {o : Oper} {a : Act} (hw : Region.wanted o (yielded ops a.tmps) = true) (x y : Operand) (ho : o.op = .build 26 #[(0, x), (1, y)]) (v : Vc) (p : Option Addr) (n c : Nat)
    (hx : a.eval x = .agg (ics v)) (hy : a.eval y = .slice p n c) (hl : v.length = 16) : YieldsIf Try.prog ops S o (.agg (ccs v (.slice p n c))) a := by
  refine .inl ⟨hw, fun w _ => ?_⟩
  have h := buildC hl p n c w
  unfold execOp
  simp only [ho, List.map_toArray, List.map_cons, List.map_nil, hx, hy, Sem.run_bind, Sem.run_pure, Result.andThen_ok, h]
/-- a whole context stored, in a region that draws -/
theorem draw_storeC {ops : Array Oper} {o : Oper} {a : Act} {w : World} {K : Act → World → Prop} {Q : Exit → Act → World → Prop} (hgd : o.guard = none) (x y : Operand) (ho : o.op = .store 26 x y)
    (g : Nat) (hx : a.eval x = .pointer (some ⟨g, 0, none⟩)) (v : Vc) (p : Option Addr) (n c : Nat) (hy : a.eval y = .agg (ccs v (.slice p n c))) (hl : v.length = 16) (hg : ∃ (old : Vc) (so : Value), CRow w g old so ∧ old.length = 16) (h : K (a.put o.dst undef) (w.setRow g (ccs v (.slice p n c)))) :
    if Region.wanted o (yielded ops a.tmps) = true then Oper.wp Try.prog o a w K Q else K (a.put o.dst undef) w := by
  obtain ⟨old, so, hg, ho2⟩ := hg
  have hl' := run_storeVar_row (P := Try.prog) w g 26 26 (ccs old so) (ccs v (.slice p n c)) hg (infoC _ hl) (by rw [ccs_size, ccs_size, hl, ho2]) (ccs_one _ _ _ _)
  simp only [Region.wanted, hgd, if_true]
  unfold Oper.wp execOp
  simp only [ho, hx, hy, Instr.storeAt, Instr.sureAddr, Sem.run_bind, Sem.run_pure, Result.andThen_ok, hl']
  exact h

/-- what lies there while a context is made of others -/
structure Hold1 (w : World) (v : Vc) (s : Value) (U : World) : Prop where
  row : CRow U w.heap.size v s
  res : ∃ (old : Vc) (so : Value), CRow U (w.heap.size + 1) old so ∧ old.length = 16
  low : Go.RowKit.Below w.heap.size w U
theorem Hold1.below {w U U' : World} {v : Vc} {s : Value} (h : Hold1 w v s U) (hb : Go.RowKit.Below U.heap.size U U') : Hold1 w v s U' :=
  ⟨h.row.keep hb, by obtain ⟨o, so, h1, h2⟩ := h.res; exact ⟨o, so, h1.keep hb, h2⟩, h.low.trans (hb.mono h.low.size)⟩
theorem Hold1.alloc {w U : World} {v : Vc} {s : Value} (h : Hold1 w v s U) (o : Obj) : Hold1 w v s (U.alloc o) := h.below ((Below.refl _ _).alloc (Nat.le_refl _) o)
theorem Hold1.put {w U : World} {v x : Vc} {s t : Value} (h : Hold1 w v s U) (hx : x.length = 16) : Hold1 w v s (U.setRow (w.heap.size + 1) (ccs x t)) ∧ CRow (U.setRow (w.heap.size + 1) (ccs x t)) (w.heap.size + 1) x t := by
  obtain ⟨o, so, h1, h2⟩ := h.res
  have h3 := CRow.of_put h1 x t
  exact ⟨⟨h.row.of_set (by omega) _, ⟨x, t, h3, hx⟩, belowRow h.low (by omega) _⟩, h3⟩
structure Hold2 (w : World) (v : Vc) (s : Value) (v2 : Vc) (s2 : Value) (U : World) : Prop where
  row : CRow U w.heap.size v s
  row2 : CRow U (w.heap.size + 1) v2 s2
  res : ∃ (old : Vc) (so : Value), CRow U (w.heap.size + 2) old so ∧ old.length = 16
  low : Go.RowKit.Below w.heap.size w U
theorem Hold2.below {w U U' : World} {v v2 : Vc} {s s2 : Value} (h : Hold2 w v s v2 s2 U) (hb : Go.RowKit.Below U.heap.size U U') : Hold2 w v s v2 s2 U' :=
  ⟨h.row.keep hb, h.row2.keep hb, by obtain ⟨o, so, h1, h2⟩ := h.res; exact ⟨o, so, h1.keep hb, h2⟩, h.low.trans (hb.mono h.low.size)⟩
theorem Hold2.put {w U : World} {v v2 x : Vc} {s s2 t : Value} (h : Hold2 w v s v2 s2 U) (hx : x.length = 16) : Hold2 w v s v2 s2 (U.setRow (w.heap.size + 2) (ccs x t)) ∧ CRow (U.setRow (w.heap.size + 2) (ccs x t)) (w.heap.size + 2) x t := by
  obtain ⟨o, so, h1, h2⟩ := h.res
  have h3 := CRow.of_put h1 x t
  exact ⟨⟨h.row.of_set (by omega) _, h.row2.of_set (by omega) _, ⟨x, t, h3, hx⟩, belowRow h.low (by omega) _⟩, h3⟩
/-- a context's cloud stays where a block above it is written -/
theorem CIn.setRow {w : World} {o : Cx} {p : Option Addr} {lo g : Nat} (h : CIn w o p) (hf : DFrom w lo p o.l) (hg : g < lo) (C : Array Value) : CIn (w.setRow g C) o p := ⟨h.v16, (hf.setRow hg C).din, h.len⟩
theorem two_new (W : World) (x y : Value) : TwoS (W.alloc (.cells #[x, y] 24)) W.heap.size x y :=
  ⟨by rw [Joins.cell_of_block (heap_alloc_new W _)]; rfl, by rw [Joins.cell_of_block (heap_alloc_new W _)]; rfl, by simp⟩

theorem three_two (w : World) (v v2 : Vc) (s s2 : Value) : CRow (boxC (boxC (boxC w v s) v2 s2) zV nilS) w.heap.size v s ∧ CRow (boxC (boxC (boxC w v s) v2 s2) zV nilS) (w.heap.size + 1) v2 s2 ∧
    CRow (boxC (boxC (boxC w v s) v2 s2) zV nilS) (w.heap.size + 2) zV nilS ∧ Go.RowKit.Below w.heap.size w (boxC (boxC (boxC w v s) v2 s2) zV nilS) := by
  have e1 := boxC_size w v s
  have e2 := boxC_size (boxC w v s) v2 s2
  have h0 := CRow.new w v s
  have h1 := CRow.new (boxC w v s) v2 s2
  have h2 := CRow.new (boxC (boxC w v s) v2 s2) zV nilS
  rw [e1] at h1
  rw [e2, e1] at h2
  exact ⟨(h0.alloc _).alloc _, h1.alloc _, h2, ((boxC_below w v s).alloc (by rw [e1]; omega) _).alloc (by rw [World.size_alloc, e1]; omega) _⟩
set_option maxHeartbeats 4000000 in
theorem addCC (c : Cx) (m : List Dt) (a b : Option Addr) (cap capb : Nat) (w : World) (h : CIn w c a) (hm : DIn w b m) (hl : c.l.length + m.length ≤ 32768) :
    Calls Try.prog 16 #[.agg (ccs c.v (.slice a c.l.length cap)), .slice b m.length capb] w fun e w' => (∃ (o : Cx) (a' : Option Addr) (cap' : Nat), e = .returned (.agg (ccs o.v (.slice a' o.l.length cap'))) ∧ AddOf c m o ∧ Made w.heap.size w' o a' ∧ o.l.length ≤ c.l.length + m.length) ∧ Go.RowKit.Below w.heap.size w w' := by
  have HV := Lib.hid h.v16
  have HI := Lib.hid (And.intro h hm)
  obtain ⟨L, hL⟩ : ∃ L, L = c.l ++ m := ⟨_, rfl⟩
  have HL := Lib.hid hL
  clear hL
  have H0 : Hid (Hold1 w c.v (.slice a c.l.length cap) (boxC (boxC w c.v (.slice a c.l.length cap)) zV nilS)) := Lib.hid ⟨(CRow.new w _ _).alloc _, ⟨zV, nilS, by have := CRow.new (boxC w c.v (.slice a c.l.length cap)) zV nilS; rw [boxC_size] at this; exact this, rfl⟩, (boxC_below _ _ _).trans ((boxC_below _ _ _).mono (by rw [boxC_size]; omega))⟩
  unfold boxC at H0
  clear h hm
  go_enter Try.func16, Try.ntmps16
  go_upto_region 1 with fail
  change Code.wp _ _ _ _ ((w.alloc (.cells (ccs c.v (.slice a c.l.length cap)) 26)).alloc (.cells (ccs zV nilS) 26))
  generalize (w.alloc (.cells (ccs c.v (.slice a c.l.length cap)) 26)).alloc (.cells (ccs zV nilS) 26) = W at *
  refine wp_region_held (S := fun U => Hold1 w c.v (.slice a c.l.length cap) U) (by kernel_rfl) ?_
  change wpAnyH _ _ _ _ _ _ _ _ W.drew
  have K0 : (fun U => Hold1 w c.v (.slice a c.l.length cap) U) W.drew := H0.out.below (Below.refl _ _).drew
  refine wpAnyH_take (i := 0) (oi := { dst := some 5, op := _, type := _, pos := _, after := _, guard := _ }) (v := ?v1) rfl (by kernel_rfl) (by kernel_rfl) (by kernel_rfl) (fun _ _ _ h => h) (Or.inl ⟨by rfl, ?hy1⟩) K0 ?rest1
  case hy1 => (intro w hSw; (try dsimp only at hSw); first | (go_simp; done) | (go_simp; with_reducible rfl))
  try simp only [Act.put, List.setIfInBounds_toArray, List.set_cons_zero, List.set_cons_succ]
  refine wpAnyH_take (i := 1) (oi := { dst := some 6, op := _, type := _, pos := _, after := _, guard := _ }) rfl (by kernel_rfl) (by kernel_rfl) (by kernel_rfl) (fun _ _ _ h => h) (yield_V (by rfl) (.tmp 5) rfl w.heap.size c.v (.slice a c.l.length cap) rfl (fun U hU => hU.row) HV.out) K0 ?_
  try simp only [Act.put, List.setIfInBounds_toArray, List.set_cons_zero, List.set_cons_succ]
  refine wpAnyH_take (i := 2) (oi := { dst := some 7, op := _, type := _, pos := _, after := _, guard := _ }) (v := ?v3) rfl (by kernel_rfl) (by kernel_rfl) (by kernel_rfl) (fun _ _ _ h => h) (Or.inl ⟨by rfl, ?hy3⟩) K0 ?rest3
  case hy3 => (intro w hSw; (try dsimp only at hSw); first | (go_simp; done) | (go_simp; with_reducible rfl))
  try simp only [Act.put, List.setIfInBounds_toArray, List.set_cons_zero, List.set_cons_succ]
  refine wpAnyH_take (i := 3) (oi := { dst := some 8, op := _, type := _, pos := _, after := _, guard := _ }) rfl (by kernel_rfl) (by kernel_rfl) (by kernel_rfl) (fun _ _ _ h => h) (yield_S (by rfl) (.tmp 7) rfl w.heap.size c.v (.slice a c.l.length cap) rfl (fun U hU => hU.row) HV.out) K0 ?_
  try simp only [Act.put, List.setIfInBounds_toArray, List.set_cons_zero, List.set_cons_succ]
  refine wpAnyH_take (i := 4) (oi := { dst := some 9, op := _, type := _, pos := _, after := _, guard := _ }) (v := ?v5) rfl (by kernel_rfl) (by kernel_rfl) (by kernel_rfl) (fun _ _ _ h => h) (Or.inl ⟨by rfl, ?hy5⟩) K0 ?rest5
  case hy5 => (intro w hSw; (try dsimp only at hSw); first | (go_simp; done) | (go_simp; with_reducible rfl))
  try simp only [Act.put, List.setIfInBounds_toArray, List.set_cons_zero, List.set_cons_succ]
  refine wpAnyH_ready (rs := [5]) (by kernel_rfl) (by simp) ?_
  refine AllReadyH.cons (o := { dst := some 10, op := _, type := _, pos := _, after := _, guard := _ }) rfl (fun K hK => ?_) AllReadyH.nil
  go_simp
  have K5 := K0.alloc (.cells #[.slice a c.l.length cap, .slice b m.length capb] 24)
  have HT := Lib.hid (two_new W.drew (.slice a c.l.length cap) (.slice b m.length capb))
  refine hK.out _ _ K5 (fun _ => ?_)
  clear hK K
  try simp only [Act.put, List.setIfInBounds_toArray, List.set_cons_zero, List.set_cons_succ]
  refine wpAnyH_ready (rs := [6]) (by kernel_rfl) (by simp) ?_
  refine AllReadyH.cons (o := { dst := some 11, op := _, type := _, pos := _, after := _, guard := _ }) rfl (fun K hK => ?_) AllReadyH.nil
  go_simp
  refine (concatD c.l m a b cap capb W.drew.heap.size _ (HI.out.1.din.below K5.low) (HI.out.2.below K5.low) (by omega) HT.out).mono ?_
  rintro e w6 ⟨v6, rfl, hown6, hb6⟩
  rw [← HL.out] at hown6
  obtain ⟨pa, pc, rfl, hdi6, -⟩ := hown6.din
  have K6 := K5.below hb6
  have HD6 := Lib.hid hdi6
  have hs6 : w.heap.size + 2 ≤ w6.heap.size := by obtain ⟨_, _, h1, _⟩ := K6.res; have := h1.lt; omega
  clear hown6 hdi6 hb6
  refine hK.out _ _ K6 (fun _ => ?_)
  clear hK K
  try simp only [Act.put, List.setIfInBounds_toArray, List.set_cons_zero, List.set_cons_succ]
  refine wpAnyH_take (i := 7) (oi := { dst := some 12, op := _, type := _, pos := _, after := _, guard := _ }) rfl (by kernel_rfl) (by kernel_rfl) (by kernel_rfl) (fun _ _ _ h => h) (yield_B (by rfl) (.tmp 6) (.tmp 11) rfl c.v pa L.length pc rfl rfl HV.out) K6 ?_
  try simp only [Act.put, List.setIfInBounds_toArray, List.set_cons_zero, List.set_cons_succ]
  refine wpAnyH_ready (rs := [8]) (by kernel_rfl) (by simp) ?_
  refine AllReadyH.cons (o := { dst := some 13, op := _, type := _, pos := _, after := _, guard := _ }) rfl (fun K hK => ?_) AllReadyH.nil
  go_simp
  have hcl := cleanCC ⟨c.v, L⟩ pa pc w6 ⟨HV.out, HD6.out, by rw [HL.out, List.length_append]; exact hl⟩
  refine hcl.mono ?_
  rintro e w8 ⟨⟨o, oa, oc, rfl, hof, hoi, hol, -⟩, hb8⟩
  have K8 := K6.below hb8
  have HO := Lib.hid (And.intro (addOf_cloud (by rw [← HL.out]; exact hof)) (And.intro hoi (And.intro hb8 (show o.l.length ≤ c.l.length + m.length by have := hol; rw [HL.out] at this; simpa using this))))
  clear hcl hof hoi hol hb8
  refine hK.out _ _ K8 (fun _ => ?_)
  clear hK K
  try simp only [Act.put, List.setIfInBounds_toArray, List.set_cons_zero, List.set_cons_succ]
  refine wpAnyH_ready (rs := [9]) (by kernel_rfl) (by simp) ?_
  refine AllReadyH.cons (o := { dst := none, op := _, type := _, pos := _, after := _, guard := _ }) rfl (fun K hK => ?_) AllReadyH.nil
  refine draw_storeC rfl (.tmp 4) (.tmp 13) rfl (w.heap.size + 1) rfl o.v oa o.l.length oc rfl HO.out.2.1.v16 K8.res ?_
  have K9 := (K8.put (x := o.v) (t := .slice oa o.l.length oc) HO.out.2.1.v16).1
  have HR := Lib.hid (K8.put (x := o.v) (t := .slice oa o.l.length oc) HO.out.2.1.v16).2
  refine hK.out _ _ K9 (fun _ => ?_)
  clear hK K
  try simp only [Act.put, List.setIfInBounds_toArray, List.set_cons_zero, List.set_cons_succ]
  refine wpAnyH_done (by kernel_rfl) ?_ _
  try simp only [Act.put, List.setIfInBounds_toArray, List.set_cons_zero, List.set_cons_succ]
  have HF := Lib.hid (And.intro K9.low ((HO.out.2.1.mono (show w.heap.size + 2 ≤ w6.heap.size by omega)).setRow (show w.heap.size + 1 < w.heap.size + 2 by omega) (ccs o.v (.slice oa o.l.length oc))))
  clear K0 K5 K6 K8 K9
  go_wp2_with fail
  exact bodyPost_ret (retC rfl _ _ (w.heap.size + 1) o.v (.slice oa o.l.length oc) rfl HR.out HO.out.2.1.v16) rfl ⟨⟨o, oa, oc, rfl, HO.out.1, HF.out.2.mono (by omega), HO.out.2.2.2⟩, HF.out.1⟩

set_option maxHeartbeats 4000000 in
theorem joinCC (a b : Cx) (pa pb : Option Addr) (ca cb : Nat) (w : World) (h : CIn w a pa) (hm : CIn w b pb) (hl : a.l.length + b.l.length ≤ 32768) :
    Calls Try.prog 18 #[.agg (ccs a.v (.slice pa a.l.length ca)), .agg (ccs b.v (.slice pb b.l.length cb))] w fun e w' => (∃ (o : Cx) (a' : Option Addr) (cap' : Nat), e = .returned (.agg (ccs o.v (.slice a' o.l.length cap'))) ∧ JoinOf a b o ∧ Made w.heap.size w' o a' ∧ o.l.length ≤ a.l.length + b.l.length) ∧ Go.RowKit.Below w.heap.size w w' := by
  have HV := Lib.hid h.v16
  have HV2 := Lib.hid hm.v16
  have HI := Lib.hid (And.intro h hm)
  have HC := Lib.hid (three_two w a.v b.v (.slice pa a.l.length ca) (.slice pb b.l.length cb))
  have H0 : Hid (Hold2 w a.v (.slice pa a.l.length ca) b.v (.slice pb b.l.length cb) (boxC (boxC (boxC w a.v (.slice pa a.l.length ca)) b.v (.slice pb b.l.length cb)) zV nilS)) := Lib.hid ⟨HC.out.1, HC.out.2.1, ⟨zV, nilS, HC.out.2.2.1, rfl⟩, HC.out.2.2.2⟩
  have hvj := fun W => vjoinC a.v b.v HV.out HV2.out W
  have HJL := Lib.hid (joinV_len HV.out HV2.out)
  obtain ⟨J, hJ⟩ : ∃ J, J = joinV a.v b.v := ⟨_, rfl⟩
  rw [← hJ] at hvj HJL
  have HJ := Lib.hid hJ
  have HVJ := Lib.hid hvj
  unfold boxC at H0
  clear h hm HC hvj hJ
  go_enter Try.func18, Try.ntmps18
  go_upto_region 1 with fail
  change Code.wp _ _ _ _ (((w.alloc (.cells (ccs a.v (.slice pa a.l.length ca)) 26)).alloc (.cells (ccs b.v (.slice pb b.l.length cb)) 26)).alloc (.cells (ccs zV nilS) 26))
  generalize ((w.alloc (.cells (ccs a.v (.slice pa a.l.length ca)) 26)).alloc (.cells (ccs b.v (.slice pb b.l.length cb)) 26)).alloc (.cells (ccs zV nilS) 26) = W at *
  refine wp_region_held (S := fun U => Hold2 w a.v (.slice pa a.l.length ca) b.v (.slice pb b.l.length cb) U) (by kernel_rfl) ?_
  change wpAnyH _ _ _ _ _ _ _ _ W.drew
  have K0 : (fun U => Hold2 w a.v (.slice pa a.l.length ca) b.v (.slice pb b.l.length cb) U) W.drew := H0.out.below (Below.refl _ _).drew
  refine wpAnyH_take (i := 0) (oi := { dst := some 5, op := _, type := _, pos := _, after := _, guard := _ }) (v := ?v7) rfl (by kernel_rfl) (by kernel_rfl) (by kernel_rfl) (fun _ _ _ h => h) (Or.inl ⟨by rfl, ?hy7⟩) K0 ?rest7
  case hy7 => (intro w hSw; (try dsimp only at hSw); first | (go_simp; done) | (go_simp; with_reducible rfl))
  try simp only [Act.put, List.setIfInBounds_toArray, List.set_cons_zero, List.set_cons_succ]
  refine wpAnyH_take (i := 1) (oi := { dst := some 6, op := _, type := _, pos := _, after := _, guard := _ }) rfl (by kernel_rfl) (by kernel_rfl) (by kernel_rfl) (fun _ _ _ h => h) (yield_V (by rfl) (.tmp 5) rfl w.heap.size a.v (.slice pa a.l.length ca) rfl (fun U hU => hU.row) HV.out) K0 ?_
  try simp only [Act.put, List.setIfInBounds_toArray, List.set_cons_zero, List.set_cons_succ]
  refine wpAnyH_take (i := 2) (oi := { dst := some 7, op := _, type := _, pos := _, after := _, guard := _ }) (v := ?v9) rfl (by kernel_rfl) (by kernel_rfl) (by kernel_rfl) (fun _ _ _ h => h) (Or.inl ⟨by rfl, ?hy9⟩) K0 ?rest9
  case hy9 => (intro w hSw; (try dsimp only at hSw); first | (go_simp; done) | (go_simp; with_reducible rfl))
  try simp only [Act.put, List.setIfInBounds_toArray, List.set_cons_zero, List.set_cons_succ]
  refine wpAnyH_take (i := 3) (oi := { dst := some 8, op := _, type := _, pos := _, after := _, guard := _ }) rfl (by kernel_rfl) (by kernel_rfl) (by kernel_rfl) (fun _ _ _ h => h) (yield_V (by rfl) (.tmp 7) rfl (w.heap.size + 1) b.v (.slice pb b.l.length cb) rfl (fun U hU => hU.row2) HV2.out) K0 ?_
  try simp only [Act.put, List.setIfInBounds_toArray, List.set_cons_zero, List.set_cons_succ]
  refine wpAnyH_take (i := 5) (oi := { dst := some 10, op := _, type := _, pos := _, after := _, guard := _ }) (v := ?v11) rfl (by kernel_rfl) (by kernel_rfl) (by kernel_rfl) (fun _ _ _ h => h) (Or.inl ⟨by rfl, ?hy11⟩) K0 ?rest11
  case hy11 => (intro w hSw; (try dsimp only at hSw); first | (go_simp; done) | (go_simp; with_reducible rfl))
  try simp only [Act.put, List.setIfInBounds_toArray, List.set_cons_zero, List.set_cons_succ]
  refine wpAnyH_take (i := 6) (oi := { dst := some 11, op := _, type := _, pos := _, after := _, guard := _ }) rfl (by kernel_rfl) (by kernel_rfl) (by kernel_rfl) (fun _ _ _ h => h) (yield_S (by rfl) (.tmp 10) rfl w.heap.size a.v (.slice pa a.l.length ca) rfl (fun U hU => hU.row) HV.out) K0 ?_
  try simp only [Act.put, List.setIfInBounds_toArray, List.set_cons_zero, List.set_cons_succ]
  refine wpAnyH_take (i := 8) (oi := { dst := some 13, op := _, type := _, pos := _, after := _, guard := _ }) (v := ?v13) rfl (by kernel_rfl) (by kernel_rfl) (by kernel_rfl) (fun _ _ _ h => h) (Or.inl ⟨by rfl, ?hy13⟩) K0 ?rest13
  case hy13 => (intro w hSw; (try dsimp only at hSw); first | (go_simp; done) | (go_simp; with_reducible rfl))
  try simp only [Act.put, List.setIfInBounds_toArray, List.set_cons_zero, List.set_cons_succ]
  refine wpAnyH_take (i := 9) (oi := { dst := some 14, op := _, type := _, pos := _, after := _, guard := _ }) rfl (by kernel_rfl) (by kernel_rfl) (by kernel_rfl) (fun _ _ _ h => h) (yield_S (by rfl) (.tmp 13) rfl (w.heap.size + 1) b.v (.slice pb b.l.length cb) rfl (fun U hU => hU.row2) HV2.out) K0 ?_
  try simp only [Act.put, List.setIfInBounds_toArray, List.set_cons_zero, List.set_cons_succ]
  refine wpAnyH_ready (rs := [4]) (by kernel_rfl) (by simp) ?_
  refine AllReadyH.cons (o := { dst := some 9, op := _, type := _, pos := _, after := _, guard := _ }) rfl (fun K hK => ?_) AllReadyH.nil
  go_simp
  refine (HVJ.out _).mono ?_
  rintro e w4 ⟨rfl, hb4⟩
  have K4 := K0.below hb4
  clear hb4
  refine hK.out _ _ K4 (fun _ => ?_)
  clear hK K
  try simp only [Act.put, List.setIfInBounds_toArray, List.set_cons_zero, List.set_cons_succ]
  refine wpAnyH_take (i := 7) (oi := { dst := some 12, op := _, type := _, pos := _, after := _, guard := _ }) rfl (by kernel_rfl) (by kernel_rfl) (by kernel_rfl) (fun _ _ _ h => h) (yield_B (by rfl) (.tmp 9) (.tmp 11) rfl J pa a.l.length ca rfl rfl HJL.out) K4 ?_
  try simp only [Act.put, List.setIfInBounds_toArray, List.set_cons_zero, List.set_cons_succ]
  refine wpAnyH_ready (rs := [10]) (by kernel_rfl) (by simp) ?_
  refine AllReadyH.cons (o := { dst := some 15, op := _, type := _, pos := _, after := _, guard := _ }) rfl (fun K hK => ?_) AllReadyH.nil
  go_simp
  have hcl := addCC ⟨J, a.l⟩ b.l pa pb ca cb w4 ⟨HJL.out, HI.out.1.din.below K4.low, HI.out.1.len⟩ (HI.out.2.din.below K4.low) hl
  refine hcl.mono ?_
  rintro e w8 ⟨⟨o, oa, oc, rfl, hof, hoi, hol⟩, hb8⟩
  have K10 := K4.below hb8
  have HO := Lib.hid (And.intro (joinOf_add HV.out HV2.out (by rw [← HJ.out]; exact hof)) (And.intro hoi (And.intro hb8 (show o.l.length ≤ a.l.length + b.l.length from hol))))
  have hs4 : w.heap.size + 3 ≤ w4.heap.size := by obtain ⟨_, _, h1, _⟩ := K4.res; have := h1.lt; omega
  clear hcl hof hoi hol hb8
  refine hK.out _ _ K10 (fun _ => ?_)
  clear hK K
  try simp only [Act.put, List.setIfInBounds_toArray, List.set_cons_zero, List.set_cons_succ]
  refine wpAnyH_ready (rs := [11]) (by kernel_rfl) (by simp) ?_
  refine AllReadyH.cons (o := { dst := none, op := _, type := _, pos := _, after := _, guard := _ }) rfl (fun K hK => ?_) AllReadyH.nil
  refine draw_storeC rfl (.tmp 4) (.tmp 15) rfl (w.heap.size + 2) rfl o.v oa o.l.length oc rfl HO.out.2.1.v16 K10.res ?_
  have K11 := (K10.put (x := o.v) (t := .slice oa o.l.length oc) HO.out.2.1.v16).1
  have HR := Lib.hid (K10.put (x := o.v) (t := .slice oa o.l.length oc) HO.out.2.1.v16).2
  refine hK.out _ _ K11 (fun _ => ?_)
  clear hK K
  try simp only [Act.put, List.setIfInBounds_toArray, List.set_cons_zero, List.set_cons_succ]
  refine wpAnyH_done (by kernel_rfl) ?_ _
  try simp only [Act.put, List.setIfInBounds_toArray, List.set_cons_zero, List.set_cons_succ]
  have HF := Lib.hid (And.intro K11.low ((HO.out.2.1.mono hs4).setRow (show w.heap.size + 2 < w.heap.size + 3 by omega) (ccs o.v (.slice oa o.l.length oc))))
  clear K0 K4 K10 K11
  go_wp2_with fail
  exact bodyPost_ret (retC rfl _ _ (w.heap.size + 2) o.v (.slice oa o.l.length oc) rfl HR.out HO.out.2.1.v16) rfl ⟨⟨o, oa, oc, rfl, HO.out.1, HF.out.2.mono (by omega), HO.out.2.2.2⟩, HF.out.1⟩
end Go.Proofs.Ytcedliaeipabnaa
