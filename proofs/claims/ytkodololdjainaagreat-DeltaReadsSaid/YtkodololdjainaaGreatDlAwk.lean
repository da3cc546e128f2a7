/-
  almonrylaw18: one, awake.
-/
import Derived.Test.YtkodololdjainaaGreatDlSame
import Derived.Test.YtkodololdjainaaGreatDlPut
import Derived.Test.YtkodololdjainaaGreatDlRd
namespace Go.Proofs.YtkodololdjainaaGreat
set_option linter.unusedSimpArgs false
set_option linter.unusedVariables false
set_option maxRecDepth 100000
open Go.RowKit Go.Sort

theorem FIn.ofRow {w : World} {b off g : Nat} {l : List Ft} (h : FIn w (some ⟨b, off, none⟩) l) (hn : b ≠ g) (C : Array Value) : FIn (w.setRow g C) (some ⟨b, off, none⟩) l := by
  rcases h with h | ⟨b', off', he, hlt, hc⟩
  · exact .inl h
  · injection he with he; injection he with h1 h2 h3; subst h1 h2
    refine .inr ⟨b, off, rfl, by simpa using hlt, fun j f hj i v hv => ?_⟩
    have h1 := hc j f hj i v hv
    unfold World.cell? at h1 ⊢
    rw [setRow_other _ _ _ _ hn]
    exact h1
theorem DIn.ofRow {w : World} {b off g : Nat} {l : List Dt} (h : DIn w (some ⟨b, off, none⟩) l) (hn : b ≠ g) (C : Array Value) : DIn (w.setRow g C) (some ⟨b, off, none⟩) l := by
  rcases h with h | ⟨b', off', he, hlt, hc⟩
  · exact .inl h
  · injection he with he; injection he with h1 h2 h3; subst h1 h2
    refine .inr ⟨b, off, rfl, by simpa using hlt, fun j f hj => ?_⟩
    have h1 := hc j f hj
    unfold World.cell? at h1 ⊢
    rw [setRow_other _ _ _ _ hn]
    exact h1
theorem DIn.ofCell {w : World} {b off g i : Nat} {l : List Dt} (h : DIn w (some ⟨b, off, none⟩) l) (hn : b ≠ g) (u : Value) : DIn (w.setCell ⟨g, i, none⟩ u) (some ⟨b, off, none⟩) l := by
  rcases h with h | ⟨b', off', he, hlt, hc⟩
  · exact .inl h
  · injection he with he; injection he with h1 h2 h3; subst h1 h2
    refine .inr ⟨b, off, rfl, by simpa using hlt, fun j f hj => ?_⟩
    have h1 := hc j f hj
    unfold World.cell? at h1 ⊢
    rw [Below.heap_setCell _ _ _ _ (show b ≠ g from hn)]
    exact h1
theorem Blk.fset4 {w : World} {b : Nat} {d : Dt} {t c r : Int} {l : List Ft} {g : List Dt} {la ga : Option Addr} {lk gk : Nat} (h : DBlk w b ⟨d, ⟨t, c, r⟩, l, g⟩ la lk ga gk) (z : Int) : DBlk (w.setCell ⟨b, 4, none⟩ (.int .i64 z)) b ⟨d, ⟨t, c, z⟩, l, g⟩ la lk ga gk := by
  have := Joins.block_setCell (i := 4) h (.int .i64 z)
  exact this
theorem Blk.fset6 {w : World} {b : Nat} {d : Dt} {s : St} {l : List Ft} {g g' : List Dt} {la ga ga' : Option Addr} {lk gk gk' : Nat} (h : DBlk w b ⟨d, s, l, g⟩ la lk ga gk) : DBlk (w.setCell ⟨b, 6, none⟩ (.slice ga' g'.length gk')) b ⟨d, s, l, g'⟩ la lk ga' gk' := by
  have := Joins.block_setCell (i := 6) h (.slice ga' g'.length gk')
  exact this

/-- the memory behind 'one' -/
def oneW (w : World) : World :=
  (((boxZ (w.alloc (.cells (dlc zDl none 0 none 0) 29)) awE1).alloc (.cells (fcs awE1).toArray 88)).alloc (.cells #[.int .i64 0, .int .i64 1] 23)).setRow w.heap.size (dlc oneE (some ⟨w.heap.size + 2, 0, none⟩) 1 (some ⟨w.heap.size + 3, 0, none⟩) 1)
theorem one_mem (w : World) : DBlk (oneW w) w.heap.size oneE (some ⟨w.heap.size + 2, 0, none⟩) 1 (some ⟨w.heap.size + 3, 0, none⟩) 1 ∧ DlMem (oneW w) oneE (some ⟨w.heap.size + 2, 0, none⟩) (some ⟨w.heap.size + 3, 0, none⟩) ∧ Go.RowKit.Below w.heap.size w (oneW w) := by
  have e1 : (w.alloc (.cells (dlc zDl none 0 none 0) 29)).heap.size = w.heap.size + 1 := World.size_alloc _ _
  have e2 : (boxZ (w.alloc (.cells (dlc zDl none 0 none 0) 29)) awE1).heap.size = w.heap.size + 2 := by simp [boxZ]
  have e3 : ((boxZ (w.alloc (.cells (dlc zDl none 0 none 0) 29)) awE1).alloc (.cells (fcs awE1).toArray 88)).heap.size = w.heap.size + 3 := by rw [World.size_alloc, e2]
  have h0 := Blk.new w 29 (dlc zDl none 0 none 0)
  have b1 := lowA w (.cells (dlc zDl none 0 none 0) 29)
  have b2 := boxZ_below (w.alloc (.cells (dlc zDl none 0 none 0) 29)) awE1
  have h2 := h0.keep b2
  have h3 := h2.alloc (.cells (fcs awE1).toArray 88)
  have h4 := h3.alloc (.cells #[.int .i64 0, .int .i64 1] 23)
  have f1 := fin_new (boxZ (w.alloc (.cells (dlc zDl none 0 none 0) 29)) awE1) awE1
  rw [e2] at f1
  have f2 := (f1.alloc (.cells #[.int .i64 0, .int .i64 1] 23)).ofRow (g := w.heap.size) (by omega) (dlc oneE (some ⟨w.heap.size + 2, 0, none⟩) 1 (some ⟨w.heap.size + 3, 0, none⟩) 1)
  have d1 := din_cells ((boxZ (w.alloc (.cells (dlc zDl none 0 none 0) 29)) awE1).alloc (.cells (fcs awE1).toArray 88)) [(0, 1)]
  rw [e3] at d1
  have d2 := d1.ofRow (g := w.heap.size) (by omega) (dlc oneE (some ⟨w.heap.size + 2, 0, none⟩) 1 (some ⟨w.heap.size + 3, 0, none⟩) 1)
  have b3 : Go.RowKit.Below w.heap.size w (boxZ (w.alloc (.cells (dlc zDl none 0 none 0) 29)) awE1) := b1.trans (b2.mono (by omega))
  exact ⟨h4.put _, ⟨f2, d2, by decide, by decide, fun f hf => fewP_v awD_few f hf⟩, belowRow ((b3.alloc (by omega) _).alloc (by omega) _) (Nat.le_refl _) _⟩

set_option maxHeartbeats 8000000 in
theorem oneDC (w : World) : Calls Tryz.prog 16 #[] w fun v w' => (∃ (la : Option Addr) (lk : Nat) (ga : Option Addr) (gk : Nat), v = .returned (.agg (dlc oneE la lk ga gk)) ∧ DlMem w' oneE la ga) ∧ Go.RowKit.Below w.heap.size w w' := by
  have HM := Lib.hid (one_mem w)
  have hold := Lib.hid (boxZ_old (w.alloc (.cells (dlc zDl none 0 none 0) 29)))
  have HZ := Lib.hid (boxZ_row (w.alloc (.cells (dlc zDl none 0 none 0) 29)) awE1)
  have e1 : (w.alloc (.cells (dlc zDl none 0 none 0) 29)).heap.size = w.heap.size + 1 := World.size_alloc _ _
  have e2 : (boxZ (w.alloc (.cells (dlc zDl none 0 none 0) 29)) awE1).heap.size = w.heap.size + 2 := by simp [boxZ]
  have h0 := (Blk.new w 29 (dlc zDl none 0 none 0)).keep (boxZ_below (w.alloc (.cells (dlc zDl none 0 none 0) 29)) awE1)
  have H0 := Lib.hid ((h0.alloc (.cells (fcs awE1).toArray 88)).alloc (.cells #[.int .i64 0, .int .i64 1] 23))
  unfold oneW at HM
  clear h0
  go_enter Tryz.func16, Tryz.ntmps16
  go_upto_region 1 with fail
  change Code.wp _ _ _ _ (w.alloc (.cells (dlc zDl none 0 none 0) 29))
  generalize w.alloc (.cells (dlc zDl none 0 none 0) 29) = W at *
  rw [e1] at hold HZ
  go_upto_region 2 with ((with_reducible refine fl_store ?_ (.tmp 1) (.tmp 4) ?_ (w.heap.size + 1) awE1 ?_ ?_ ?_ ?_); rfl; (first | rfl | (simp only [e1]; rfl)); (first | rfl | (simp only [e1]; rfl)); rfl; exact hold.out)
  have hz : (W.alloc (.cells zcs 88)).setRow (w.heap.size + 1) (fcs awE1).toArray = boxZ W awE1 := by unfold boxZ; rw [e1]
  change Code.wp _ _ _ _ ((W.alloc (.cells zcs 88)).setRow (w.heap.size + 1) (fcs awE1).toArray)
  rw [hz]
  clear hz
  have z0 : (boxZ W awE1).cell? ⟨w.heap.size + 1, 0, none⟩ = some (.int .i64 1) := by have h := HZ.out.range 0 _ rfl; rwa [Nat.zero_add] at h
  have z1 : (boxZ W awE1).cell? ⟨w.heap.size + 1, 1, none⟩ = some (.int .i64 2) := by have h := HZ.out.range 1 _ rfl; rwa [Nat.zero_add] at h
  have z2 : (boxZ W awE1).cell? ⟨w.heap.size + 1, 2, none⟩ = some (.int .i64 5) := by have h := HZ.out.range 2 _ rfl; rwa [Nat.zero_add] at h
  have z3 : (boxZ W awE1).cell? ⟨w.heap.size + 1, 3, none⟩ = some (.int .i64 0) := by have h := HZ.out.range 3 _ rfl; rwa [Nat.zero_add] at h
  have z4 : (boxZ W awE1).cell? ⟨w.heap.size + 1, 4, none⟩ = some (.int .i64 1) := by have h := HZ.out.range 4 _ rfl; rwa [Nat.zero_add] at h
  generalize boxZ W awE1 = Z at *
  clear e1 hold
  go_wp2_with (first
    | ((with_reducible refine fl_load ?_ (.tmp 1) ?_ (w.heap.size + 1) 0 awE1 ?_ ?_ ?_); rfl; rfl; rfl; exact HZ.out.range)
    | ((with_reducible refine wpList_build1F ?_ (.tmp 9) ?_ awE1 ?_ ?_); rfl; rfl; rfl)
    | ((with_reducible refine bl_store ?_ 29 (.tmp 0) (.tmp 13) ?_ w.heap.size (dlc oneE (some ⟨w.heap.size + 2, 0, none⟩) 1 (some ⟨w.heap.size + 3, 0, none⟩) 1) ?_ ?_ ?_ ?_ ?_ ?_); rfl; rfl; rfl; rfl; exact ⟨_, H0.out, rfl⟩; exact infoD _ _ _ _ _; exact dl_one _ _ _ _ _; simp only [Act.put, List.setIfInBounds_toArray, List.set_cons_zero, List.set_cons_succ]))
  refine bodyPost_ret (results_cell_row rfl _ _ w.heap.size 29 (dlc oneE (some ⟨w.heap.size + 2, 0, none⟩) 1 (some ⟨w.heap.size + 3, 0, none⟩) 1) (0, 0) _ rfl HM.out.1 Tryz.underlying29 rfl (infoD _ _ _ _ _)) rfl ?_
  exact ⟨⟨_, _, _, _, rfl, HM.out.2.1⟩, HM.out.2.2⟩

theorem builtZ : Tryz.prog.built 29 [(0, .agg #[.int .i64 0, .int .i64 1])] = some (dlc awEz none 0 none 0) := by kernel_rfl
theorem yield_BZ {ops : Array Oper} {S : World → Prop} {o : Oper} {a : Act} (hw : Region.wanted o (yielded ops a.tmps) = true) (x : Operand) (ho : o.op = .build 29 #[(0, x)])
    (hx : a.eval x = .agg #[.int .i64 0, .int .i64 1]) : YieldsIf Tryz.prog ops S o (.agg (dlc awEz none 0 none 0)) a := by
  refine .inl ⟨hw, fun w _ => ?_⟩
  have h := run_build (P := Tryz.prog) w 29 #[(0, .agg #[.int .i64 0, .int .i64 1])] _ builtZ
  unfold execOp
  simp only [ho, List.map_toArray, List.map_cons, List.map_nil, hx, Sem.run_bind, Sem.run_pure, Result.andThen_ok, h]
theorem dlMem_of {w : World} {x y : Dl} {la ga : Option Addr} (h : DlMem w x la ga) (hl : y.l = x.l) (hg : y.g = x.g) : DlMem w y la ga :=
  ⟨by rw [hl]; exact h.fin, by rw [hg]; exact h.din, by rw [hl]; exact h.flen, by rw [hg]; exact h.glen, by rw [hl]; exact h.val⟩
theorem dlMem_gone {w : World} {x y : Dl} {la ga ga' : Option Addr} (h : DlMem w x la ga) (hl : y.l = x.l) (hd : DIn w ga' y.g) (hg : y.g.length ≤ 65536) : DlMem w y la ga' :=
  ⟨by rw [hl]; exact h.fin, hd, by rw [hl]; exact h.flen, hg, by rw [hl]; exact h.val⟩

set_option maxHeartbeats 16000000 in
theorem dlAwake (w : World) : Calls Tryz.prog 6 #[] w fun v w' => v = .returned (.bool true) ∧ Go.RowKit.Below w.heap.size w w' := by
  go_enter Tryz.func6, Tryz.ntmps6
  go_wp2_with fail
  refine (oneDC w).mono ?_
  rintro v w1 ⟨⟨la1, lk1, ga1, gk1, rfl, hm1⟩, hb1⟩
  have B1 := Lib.hid hb1
  have M1 := Lib.hid hm1
  clear hb1 hm1
  go_wp2_with fail
  have hp := putDlC oneE la1 lk1 ga1 gk1 w1 M1.out awD_text
  rw [awD_put] at hp
  dsimp only at hp
  refine Calls.mono hp ?_
  rintro v w2 ⟨rfl, hb2⟩
  have B2 := Lib.hid (B1.out.trans (hb2.mono B1.out.size))
  clear hp hb2 B1 M1
  go_wp2_with fail
  have hr := readDlC awDs (by decide) (s5_val (by decide)) w2
  rw [awD_read] at hr
  dsimp only at hr
  refine Calls.mono hr ?_
  rintro v w3 ⟨⟨la3, lk3, ga3, gk3, rfl, hm3⟩, hb3⟩
  have hbn := belowRow (lowA w3 (.cells (dlc zDl none 0 none 0) 29)) (Nat.le_refl _) (dlc oneE la3 lk3 ga3 gk3)
  have hbo := B2.out.trans (hb3.mono B2.out.size)
  have B3 := Lib.hid (hbo.trans (hbn.mono hbo.size))
  have M3 := Lib.hid (hm3.below hbn)
  have HZ := Lib.hid (Blk.new w3 29 (dlc zDl none 0 none 0))
  have D3 := Lib.hid (HZ.out.put (dlc oneE la3 lk3 ga3 gk3))
  clear hr hm3 hb3 hbn hbo B2
  go_upto_region 3 with ((with_reducible refine bl_store ?_ 29 (.tmp 3) (.tmp 17) ?_ w3.heap.size (dlc oneE la3 lk3 ga3 gk3) ?_ ?_ ?_ ?_ ?_ ?_); rfl; rfl; rfl; rfl; exact ⟨_, HZ.out, rfl⟩; exact infoD _ _ _ _ _; exact dl_one _ _ _ _ _; simp only [Act.put, List.setIfInBounds_toArray, List.set_cons_zero, List.set_cons_succ])
  change Code.wp _ _ _ _ ((w3.alloc (.cells (dlc zDl none 0 none 0) 29)).setRow w3.heap.size (dlc oneE la3 lk3 ga3 gk3))
  clear HZ
  generalize (w3.alloc (.cells (dlc zDl none 0 none 0) 29)).setRow w3.heap.size (dlc oneE la3 lk3 ga3 gk3) = W3 at *
  generalize w3.heap.size = g3 at *
  go_wp2_with fail
  refine (oneDC W3).mono ?_
  rintro v w4 ⟨⟨la4, lk4, ga4, gk4, rfl, hm4⟩, hb4⟩
  have B4 := Lib.hid (B3.out.trans (hb4.mono B3.out.size))
  have D4 := Lib.hid (D3.out.keep hb4)
  have N4 := Lib.hid (M3.out.below hb4)
  have M4 := Lib.hid hm4
  clear hb4 hm4 B3 D3 M3
  go_wp2_with fail
  refine (oneDC w4).mono ?_
  rintro v w5 ⟨⟨la5, lk5, ga5, gk5, rfl, hm5⟩, hb5⟩
  have B5 := Lib.hid (B4.out.trans (hb5.mono B4.out.size))
  have D5 := Lib.hid (D4.out.keep hb5)
  have N5 := Lib.hid (N4.out.below hb5)
  have M5 := Lib.hid (M4.out.below hb5)
  have P5 := Lib.hid hm5
  clear hb5 hm5 B4 D4 N4 M4
  have e6 : (w5.alloc (.cells (dlc zDl none 0 none 0) 29)).heap.size = w5.heap.size + 1 := World.size_alloc _ _
  have ha := (Blk.new w5 29 (dlc zDl none 0 none 0)).alloc (.cells (dlc zDl none 0 none 0) 29)
  have hb := Blk.new (w5.alloc (.cells (dlc zDl none 0 none 0) 29)) 29 (dlc zDl none 0 none 0)
  rw [e6] at hb
  have ha1 := ha.put (dlc oneE la4 lk4 ga4 gk4)
  have hb1 := hb.other (c := w5.heap.size) (by omega) (dlc oneE la4 lk4 ga4 gk4)
  have HA := Lib.hid ha
  have HB := Lib.hid hb1
  have hl := belowRow (belowRow ((lowA w5 (.cells (dlc zDl none 0 none 0) 29)).alloc (by omega) (.cells (dlc zDl none 0 none 0) 29)) (Nat.le_refl _) (dlc oneE la4 lk4 ga4 gk4)) (show w5.heap.size ≤ w5.heap.size + 1 by omega) (dlc oneE la5 lk5 ga5 gk5)
  have X6 := Lib.hid (ha1.other (c := w5.heap.size + 1) (by omega) (dlc oneE la5 lk5 ga5 gk5))
  have Y6 := Lib.hid (hb1.put (dlc oneE la5 lk5 ga5 gk5))
  have L6 := Lib.hid hl
  clear e6 ha hb ha1 hb1 hl
  go_upto_region 4 with (first
    | ((with_reducible refine bl_store ?_ 29 (.tmp 5) (.tmp 19) ?_ w5.heap.size (dlc oneE la4 lk4 ga4 gk4) ?_ ?_ ?_ ?_ ?_ ?_); rfl; rfl; rfl; rfl; exact ⟨_, HA.out, rfl⟩; exact infoD _ _ _ _ _; exact dl_one _ _ _ _ _; simp only [Act.put, List.setIfInBounds_toArray, List.set_cons_zero, List.set_cons_succ])
    | ((with_reducible refine bl_store ?_ 29 (.tmp 6) (.tmp 20) ?_ (w5.heap.size + 1) (dlc oneE la5 lk5 ga5 gk5) ?_ ?_ ?_ ?_ ?_ ?_); rfl; rfl; rfl; rfl; exact ⟨_, HB.out, rfl⟩; exact infoD _ _ _ _ _; exact dl_one _ _ _ _ _; simp only [Act.put, List.setIfInBounds_toArray, List.set_cons_zero, List.set_cons_succ]))
  change Code.wp _ _ _ _ ((((w5.alloc (.cells (dlc zDl none 0 none 0) 29)).alloc (.cells (dlc zDl none 0 none 0) 29)).setRow w5.heap.size (dlc oneE la4 lk4 ga4 gk4)).setRow (w5.heap.size + 1) (dlc oneE la5 lk5 ga5 gk5))
  clear HA HB
  generalize (((w5.alloc (.cells (dlc zDl none 0 none 0) 29)).alloc (.cells (dlc zDl none 0 none 0) 29)).setRow w5.heap.size (dlc oneE la4 lk4 ga4 gk4)).setRow (w5.heap.size + 1) (dlc oneE la5 lk5 ga5 gk5) = W6 at *
  have c0 : W6.cell? ⟨w5.heap.size, 0, none⟩ = some (.int .i64 1) := X6.out.cell rfl
  have c1 : W6.cell? ⟨w5.heap.size, 1, none⟩ = some (.int .i64 2) := X6.out.cell rfl
  have xl := X6.out.alloc (.cells #[.int .i64 1, .int .i64 2] 23)
  have c6 : (W6.alloc (.cells #[.int .i64 1, .int .i64 2] 23)).cell? ⟨w5.heap.size, 6, none⟩ = some (.slice ga4 1 gk4) := xl.cell rfl
  have f6 := Blk.free xl 6
  have hl7 := lowA W6 (.cells #[.int .i64 1, .int .i64 2] 23)
  have hne : W6.heap.size ≠ w5.heap.size := by have := X6.out.lt; omega
  have G7 : Hid (DIn ((W6.alloc (.cells #[.int .i64 1, .int .i64 2] 23)).setCell ⟨w5.heap.size, 6, none⟩ (.slice (some ⟨W6.heap.size, 0, none⟩) 1 1)) (some ⟨W6.heap.size, 0, none⟩) [(1, 2)]) := Lib.hid ((din_cells W6 [(1, 2)]).ofCell (g := w5.heap.size) (i := 6) hne (.slice (some ⟨W6.heap.size, 0, none⟩) 1 1))
  have HGX := Lib.hid (show W6.heap.size ≠ w5.heap.size + 1 by have := Y6.out.lt; omega)
  have X7 := Lib.hid (Blk.fset6 (g' := [(1, 2)]) (ga' := some ⟨W6.heap.size, 0, none⟩) (gk' := 1) xl)
  have Y7 := Lib.hid ((Y6.out.keep hl7).set (c := w5.heap.size) (j := 6) (by omega) (.slice (some ⟨W6.heap.size, 0, none⟩) 1 1))
  have L7 := Lib.hid ((L6.out.trans (hl7.mono L6.out.size)).setCell (p := ⟨w5.heap.size, 6, none⟩) (Nat.le_refl _) (.slice (some ⟨W6.heap.size, 0, none⟩) 1 1))
  clear xl hl7 hne X6 Y6 L6
  go_upto_region 5 with fail
  clear c0 c1 c6 f6
  generalize (W6.alloc (.cells #[.int .i64 1, .int .i64 2] 23)).setCell ⟨w5.heap.size, 6, none⟩ (.slice (some ⟨W6.heap.size, 0, none⟩) 1 1) = W7 at *
  generalize W6.heap.size = gx at *
  have c4 : W7.cell? ⟨w5.heap.size + 1, 4, none⟩ = some (.int .i64 1) := Y7.out.cell rfl
  have f4 := Blk.free Y7.out 4
  have Y8 : Hid (DBlk (W7.setCell ⟨w5.heap.size + 1, 4, none⟩ (.int .i64 2)) (w5.heap.size + 1) awEy la5 lk5 ga5 gk5) := Lib.hid (Blk.fset4 Y7.out 2)
  have X8 : Hid (DBlk (W7.setCell ⟨w5.heap.size + 1, 4, none⟩ (.int .i64 2)) w5.heap.size awEx la4 lk4 (some ⟨gx, 0, none⟩) 1) := Lib.hid (Blk.set X7.out (c := w5.heap.size + 1) (j := 4) (by omega) (.int .i64 2))
  have L8 := Lib.hid (L7.out.setCell (p := ⟨w5.heap.size + 1, 4, none⟩) (show w5.heap.size ≤ w5.heap.size + 1 by omega) (.int .i64 2))
  have G8 : Hid (DIn (W7.setCell ⟨w5.heap.size + 1, 4, none⟩ (.int .i64 2)) (some ⟨gx, 0, none⟩) [(1, 2)]) := Lib.hid (DIn.ofCell G7.out (g := w5.heap.size + 1) (i := 4) HGX.out (.int .i64 2))
  have HM8 := Lib.hid L8.out
  clear X7 Y7 G7 L7 HGX
  go_upto_region 6 with fail
  clear c4 f4
  generalize W7.setCell ⟨w5.heap.size + 1, 4, none⟩ (.int .i64 2) = W8 at *
  have N8 := Lib.hid (N5.out.below L8.out)
  have D8 := Lib.hid (D5.out.keep L8.out)
  have P8 : Hid (DlMem W8 awEy la5 ga5) := Lib.hid (dlMem_of (P5.out.below L8.out) rfl rfl)
  have M8 : Hid (DlMem W8 awEx la4 (some ⟨gx, 0, none⟩)) := Lib.hid (dlMem_gone (M5.out.below L8.out) rfl G8.out (by decide))
  have B8 := Lib.hid (B5.out.trans (L8.out.mono B5.out.size))
  clear N5 D5 P5 M5 B5 L8 G8 HM8
  generalize w5.heap.size = g5 at *
  have hcat : awDs ++ (⟨#[120]⟩ : ByteArray) = awDx := by decide +kernel
  go_wp2_with fail
  have hr := readDlC awDx (by decide) (s5_val (by decide)) W8
  rw [awD_bad] at hr
  dsimp only at hr
  refine Calls.mono hr ?_
  rintro v w9 ⟨⟨la9, lk9, ga9, gk9, rfl, hm9⟩, hb9⟩
  have hbn := belowRow (lowA w9 (.cells (dlc zDl none 0 none 0) 29)) (Nat.le_refl _) (dlc zDl la9 lk9 ga9 gk9)
  have hbo := hb9.trans (hbn.mono hb9.size)
  have HZ := Lib.hid (Blk.new w9 29 (dlc zDl none 0 none 0))
  have B9 := Lib.hid (B8.out.trans (hbo.mono B8.out.size))
  have N9 := Lib.hid (N8.out.below hbo)
  have D9 := Lib.hid (D8.out.keep hbo)
  have P9 := Lib.hid (P8.out.below hbo)
  have M9 := Lib.hid (M8.out.below hbo)
  have X9 := Lib.hid (X8.out.keep hbo)
  have Y9 := Lib.hid (Y8.out.keep hbo)
  clear hr hm9 hb9 hbn hbo B8 N8 D8 P8 M8 X8 Y8 hcat
  go_upto_region 7 with ((with_reducible refine bl_store ?_ 29 (.tmp 7) (.tmp 31) ?_ w9.heap.size (dlc zDl la9 lk9 ga9 gk9) ?_ ?_ ?_ ?_ ?_ ?_); rfl; rfl; rfl; rfl; exact ⟨_, HZ.out, rfl⟩; exact infoD _ _ _ _ _; exact dl_one _ _ _ _ _; simp only [Act.put, List.setIfInBounds_toArray, List.set_cons_zero, List.set_cons_succ])
  change Code.wp _ _ _ _ ((w9.alloc (.cells (dlc zDl none 0 none 0) 29)).setRow w9.heap.size (dlc zDl la9 lk9 ga9 gk9))
  clear HZ
  generalize (w9.alloc (.cells (dlc zDl none 0 none 0) 29)).setRow w9.heap.size (dlc zDl la9 lk9 ga9 gk9) = W at *
  refine wp_region_held (S := fun U => Go.RowKit.Below W.heap.size W U) (by kernel_rfl) ?_
  change wpAnyH _ _ _ _ _ _ _ _ W.drew
  have K0 : (fun U => Go.RowKit.Below W.heap.size W U) W.drew := (Below.refl _ _).drew
  refine wpAnyH_take (i := 0) (oi := { dst := some 33, op := _, type := _, pos := _, after := _, guard := _ }) (v := ?v1) rfl (by kernel_rfl) (by kernel_rfl) (by kernel_rfl) (fun _ _ _ h => h) (Or.inl ⟨by rfl, ?hy1⟩) K0 ?rest1
  case hy1 => (intro w hSw; (try dsimp only at hSw); first | (go_simp; done) | (go_simp; with_reducible rfl))
  try simp only [Act.put, List.setIfInBounds_toArray, List.set_cons_zero, List.set_cons_succ]
  refine wpAnyH_take (i := 1) (oi := { dst := some 34, op := _, type := _, pos := _, after := _, guard := _ }) (v := ?v2) rfl (by kernel_rfl) (by kernel_rfl) (by kernel_rfl) (fun _ _ _ h => h) (Or.inl ⟨by rfl, ?hy2⟩) K0 ?rest2
  case hy2 => (intro w hSw; (try dsimp only at hSw); first | (go_simp; done) | (go_simp; with_reducible rfl))
  try simp only [Act.put, List.setIfInBounds_toArray, List.set_cons_zero, List.set_cons_succ]
  refine wpAnyH_take (i := 2) (oi := { dst := some 35, op := _, type := _, pos := _, after := _, guard := _ }) (v := ?v3) rfl (by kernel_rfl) (by kernel_rfl) (by kernel_rfl) (fun _ _ _ h => h) (Or.inl ⟨by rfl, ?hy3⟩) K0 ?rest3
  case hy3 => (intro w hSw; (try dsimp only at hSw); first | (go_simp; done) | (go_simp; with_reducible rfl))
  try simp only [Act.put, List.setIfInBounds_toArray, List.set_cons_zero, List.set_cons_succ]
  refine wpAnyH_take (i := 3) (oi := { dst := some 36, op := _, type := _, pos := _, after := _, guard := _ }) rfl (by kernel_rfl) (by kernel_rfl) (by kernel_rfl) (fun _ _ _ h => h) (b_yield (by rfl) 29 (.tmp 3) rfl g3 0 (dlc oneE la3 lk3 ga3 gk3) rfl (fun U hU => (D9.out.keep hU).all) Tryz.underlying29 rfl (infoD _ _ _ _ _)) K0 ?_
  try simp only [Act.put, List.setIfInBounds_toArray, List.set_cons_zero, List.set_cons_succ]
  refine wpAnyH_ready (rs := [4]) (by kernel_rfl) (by simp) ?_
  refine AllReadyH.cons (o := { dst := some 37, op := _, type := _, pos := _, after := _, guard := _ }) rfl (fun K hK => ?_) AllReadyH.nil
  go_simp
  have hh := oneDC W.drew
  refine Calls.mono hh ?_
  rintro v u4 ⟨⟨la10, lk10, ga10, gk10, rfl, hm10⟩, hb⟩
  have K104 := Below.trans K0 (hb.mono (Below.size K0))
  have Q10 := Lib.hid hm10
  clear hm10
  clear hh hb
  refine hK.out _ _ K104 (fun _ => ?_)
  clear hK K
  try simp only [Act.put, List.setIfInBounds_toArray, List.set_cons_zero, List.set_cons_succ]
  refine wpAnyH_ready (rs := [5]) (by kernel_rfl) (by simp) ?_
  refine AllReadyH.cons (o := { dst := some 38, op := _, type := _, pos := _, after := _, guard := _ }) rfl (fun K hK => ?_) AllReadyH.nil
  go_simp
  have hh := sameDlR oneE oneE la3 lk3 ga3 gk3 la10 lk10 ga10 gk10 u4 (N9.out.below K104) Q10.out true (by simp)
  refine Calls.mono hh ?_
  rintro v u5 ⟨rfl, hb⟩
  have K105 := Below.trans K104 (hb.mono (Below.size K104))
  clear hh hb
  refine hK.out _ _ K105 (fun _ => ?_)
  clear hK K
  try simp only [Act.put, List.setIfInBounds_toArray, List.set_cons_zero, List.set_cons_succ]
  refine wpAnyH_take (i := 6) (oi := { dst := some 39, op := _, type := _, pos := _, after := _, guard := _ }) (v := ?v4) rfl (by kernel_rfl) (by kernel_rfl) (by kernel_rfl) (fun _ _ _ h => h) (Or.inl ⟨by rfl, ?hy4⟩) K105 ?rest4
  case hy4 => (intro w hSw; (try dsimp only at hSw); first | (go_simp; done) | (go_simp; with_reducible rfl))
  try simp only [Act.put, List.setIfInBounds_toArray, List.set_cons_zero, List.set_cons_succ]
  refine wpAnyH_take (i := 7) (oi := { dst := some 40, op := _, type := _, pos := _, after := _, guard := _ }) (v := ?v5) rfl (by kernel_rfl) (by kernel_rfl) (by kernel_rfl) (fun _ _ _ h => h) (Or.inl ⟨by rfl, ?hy5⟩) K105 ?rest5
  case hy5 => (intro w hSw; (try dsimp only at hSw); first | (go_simp; done) | (go_simp; with_reducible rfl))
  try simp only [Act.put, List.setIfInBounds_toArray, List.set_cons_zero, List.set_cons_succ]
  refine wpAnyH_take (i := 8) (oi := { dst := some 41, op := _, type := _, pos := _, after := _, guard := _ }) (v := ?v6) rfl (by kernel_rfl) (by kernel_rfl) (by kernel_rfl) (fun _ _ _ h => h) (Or.inl ⟨by rfl, ?hy6⟩) K105 ?rest6
  case hy6 => (intro w hSw; (try dsimp only at hSw); first | (go_simp; done) | (go_simp; with_reducible rfl))
  try simp only [Act.put, List.setIfInBounds_toArray, List.set_cons_zero, List.set_cons_succ]
  refine wpAnyH_take (i := 9) (oi := { dst := some 42, op := _, type := _, pos := _, after := _, guard := _ }) (v := ?v7) rfl (by kernel_rfl) (by kernel_rfl) (by kernel_rfl) (fun _ _ _ h => h) (Or.inl ⟨by rfl, ?hy7⟩) K105 ?rest7
  case hy7 => (intro w hSw; (try dsimp only at hSw); first | (go_simp; done) | (go_simp; with_reducible rfl))
  try simp only [Act.put, List.setIfInBounds_toArray, List.set_cons_zero, List.set_cons_succ]
  refine wpAnyH_take (i := 10) (oi := { dst := some 43, op := _, type := _, pos := _, after := _, guard := _ }) (v := ?v8) rfl (by kernel_rfl) (by kernel_rfl) (by kernel_rfl) (fun _ _ _ h => h) (Or.inl ⟨by rfl, ?hy8⟩) K105 ?rest8
  case hy8 => (intro w hSw; (try dsimp only at hSw); first | (go_simp; done) | (go_simp; with_reducible rfl))
  try simp only [Act.put, List.setIfInBounds_toArray, List.set_cons_zero, List.set_cons_succ]
  refine wpAnyH_take (i := 11) (oi := { dst := some 44, op := _, type := _, pos := _, after := _, guard := _ }) (v := ?v9) rfl (by kernel_rfl) (by kernel_rfl) (by kernel_rfl) (fun _ _ _ h => h) (Or.inl ⟨by rfl, ?hy9⟩) K105 ?rest9
  case hy9 => (intro w hSw; (try dsimp only at hSw); first | (go_simp; done) | (go_simp; with_reducible rfl))
  try simp only [Act.put, List.setIfInBounds_toArray, List.set_cons_zero, List.set_cons_succ]
  refine wpAnyH_take (i := 12) (oi := { dst := some 45, op := _, type := _, pos := _, after := _, guard := _ }) rfl (by kernel_rfl) (by kernel_rfl) (by kernel_rfl) (fun _ _ _ h => h) (b_yield (by rfl) 29 (.tmp 5) rfl g5 0 (dlc awEx la4 lk4 (some ⟨gx, 0, none⟩) 1) rfl (fun U hU => (X9.out.keep hU).all) Tryz.underlying29 rfl (infoD _ _ _ _ _)) K105 ?_
  try simp only [Act.put, List.setIfInBounds_toArray, List.set_cons_zero, List.set_cons_succ]
  refine wpAnyH_ready (rs := [13]) (by kernel_rfl) (by simp) ?_
  refine AllReadyH.cons (o := { dst := some 46, op := _, type := _, pos := _, after := _, guard := _ }) rfl (fun K hK => ?_) AllReadyH.nil
  go_simp
  have hh := chkDC awEx la4 lk4 (some ⟨gx, 0, none⟩) 1 u5 (M9.out.below K105)
  rw [awD_x] at hh
  refine Calls.mono hh ?_
  rintro v u13 ⟨rfl, hb⟩
  have K113 := Below.trans K105 (hb.mono (Below.size K105))
  clear hh hb
  refine hK.out _ _ K113 (fun _ => ?_)
  clear hK K
  try simp only [Act.put, List.setIfInBounds_toArray, List.set_cons_zero, List.set_cons_succ]
  refine wpAnyH_take (i := 14) (oi := { dst := some 47, op := _, type := _, pos := _, after := _, guard := _ }) (v := ?v10) rfl (by kernel_rfl) (by kernel_rfl) (by kernel_rfl) (fun _ _ _ h => h) (Or.inl ⟨by rfl, ?hy10⟩) K113 ?rest10
  case hy10 => (intro w hSw; (try dsimp only at hSw); first | (go_simp; done) | (go_simp; with_reducible rfl))
  try simp only [Act.put, List.setIfInBounds_toArray, List.set_cons_zero, List.set_cons_succ]
  refine wpAnyH_take (i := 15) (oi := { dst := some 48, op := _, type := _, pos := _, after := _, guard := _ }) (v := ?v11) rfl (by kernel_rfl) (by kernel_rfl) (by kernel_rfl) (fun _ _ _ h => h) (Or.inl ⟨by rfl, ?hy11⟩) K113 ?rest11
  case hy11 => (intro w hSw; (try dsimp only at hSw); first | (go_simp; done) | (go_simp; with_reducible rfl))
  try simp only [Act.put, List.setIfInBounds_toArray, List.set_cons_zero, List.set_cons_succ]
  refine wpAnyH_take (i := 16) (oi := { dst := some 49, op := _, type := _, pos := _, after := _, guard := _ }) (v := ?v12) rfl (by kernel_rfl) (by kernel_rfl) (by kernel_rfl) (fun _ _ _ h => h) (Or.inl ⟨by rfl, ?hy12⟩) K113 ?rest12
  case hy12 => (intro w hSw; (try dsimp only at hSw); first | (go_simp; done) | (go_simp; with_reducible rfl))
  try simp only [Act.put, List.setIfInBounds_toArray, List.set_cons_zero, List.set_cons_succ]
  refine wpAnyH_take (i := 17) (oi := { dst := some 50, op := _, type := _, pos := _, after := _, guard := _ }) rfl (by kernel_rfl) (by kernel_rfl) (by kernel_rfl) (fun _ _ _ h => h) (b_yield (by rfl) 29 (.tmp 6) rfl (g5 + 1) 0 (dlc awEy la5 lk5 ga5 gk5) rfl (fun U hU => (Y9.out.keep hU).all) Tryz.underlying29 rfl (infoD _ _ _ _ _)) K113 ?_
  try simp only [Act.put, List.setIfInBounds_toArray, List.set_cons_zero, List.set_cons_succ]
  refine wpAnyH_ready (rs := [18]) (by kernel_rfl) (by simp) ?_
  refine AllReadyH.cons (o := { dst := some 51, op := _, type := _, pos := _, after := _, guard := _ }) rfl (fun K hK => ?_) AllReadyH.nil
  go_simp
  have hh := chkDC awEy la5 lk5 ga5 gk5 u13 (P9.out.below K113)
  rw [awD_y] at hh
  refine Calls.mono hh ?_
  rintro v u18 ⟨rfl, hb⟩
  have K118 := Below.trans K113 (hb.mono (Below.size K113))
  clear hh hb
  refine hK.out _ _ K118 (fun _ => ?_)
  clear hK K
  try simp only [Act.put, List.setIfInBounds_toArray, List.set_cons_zero, List.set_cons_succ]
  refine wpAnyH_take (i := 19) (oi := { dst := some 52, op := _, type := _, pos := _, after := _, guard := _ }) (v := ?v13) rfl (by kernel_rfl) (by kernel_rfl) (by kernel_rfl) (fun _ _ _ h => h) (Or.inl ⟨by rfl, ?hy13⟩) K118 ?rest13
  case hy13 => (intro w hSw; (try dsimp only at hSw); first | (go_simp; done) | (go_simp; with_reducible rfl))
  try simp only [Act.put, List.setIfInBounds_toArray, List.set_cons_zero, List.set_cons_succ]
  refine wpAnyH_take (i := 20) (oi := { dst := some 53, op := _, type := _, pos := _, after := _, guard := _ }) (v := ?v14) rfl (by kernel_rfl) (by kernel_rfl) (by kernel_rfl) (fun _ _ _ h => h) (Or.inl ⟨by rfl, ?hy14⟩) K118 ?rest14
  case hy14 => (intro w hSw; (try dsimp only at hSw); first | (go_simp; done) | (go_simp; with_reducible rfl))
  try simp only [Act.put, List.setIfInBounds_toArray, List.set_cons_zero, List.set_cons_succ]
  refine wpAnyH_take (i := 21) (oi := { dst := some 54, op := _, type := _, pos := _, after := _, guard := _ }) (v := ?v15) rfl (by kernel_rfl) (by kernel_rfl) (by kernel_rfl) (fun _ _ _ h => h) (Or.inl ⟨by rfl, ?hy15⟩) K118 ?rest15
  case hy15 => (intro w hSw; (try dsimp only at hSw); first | (go_simp; done) | (go_simp; with_reducible rfl))
  try simp only [Act.put, List.setIfInBounds_toArray, List.set_cons_zero, List.set_cons_succ]
  refine wpAnyH_take (i := 22) (oi := { dst := some 55, op := _, type := _, pos := _, after := _, guard := _ }) (v := ?v16) rfl (by kernel_rfl) (by kernel_rfl) (by kernel_rfl) (fun _ _ _ h => h) (Or.inl ⟨by rfl, ?hy16⟩) K118 ?rest16
  case hy16 => (intro w hSw; (try dsimp only at hSw); first | (go_simp; done) | (go_simp; with_reducible rfl))
  try simp only [Act.put, List.setIfInBounds_toArray, List.set_cons_zero, List.set_cons_succ]
  refine wpAnyH_take (i := 23) (oi := { dst := some 56, op := _, type := _, pos := _, after := _, guard := _ }) (v := ?v17) rfl (by kernel_rfl) (by kernel_rfl) (by kernel_rfl) (fun _ _ _ h => h) (Or.inl ⟨by rfl, ?hy17⟩) K118 ?rest17
  case hy17 => (intro w hSw; (try dsimp only at hSw); first | (go_simp; done) | (go_simp; with_reducible rfl))
  try simp only [Act.put, List.setIfInBounds_toArray, List.set_cons_zero, List.set_cons_succ]
  refine wpAnyH_take (i := 24) (oi := { dst := some 57, op := _, type := _, pos := _, after := _, guard := _ }) (v := ?v18) rfl (by kernel_rfl) (by kernel_rfl) (by kernel_rfl) (fun _ _ _ h => h) (Or.inl ⟨by rfl, ?hy18⟩) K118 ?rest18
  case hy18 => (intro w hSw; (try dsimp only at hSw); first | (go_simp; done) | (go_simp; with_reducible rfl))
  try simp only [Act.put, List.setIfInBounds_toArray, List.set_cons_zero, List.set_cons_succ]
  refine wpAnyH_take (i := 25) (oi := { dst := some 58, op := _, type := _, pos := _, after := _, guard := _ }) (v := ?v19) rfl (by kernel_rfl) (by kernel_rfl) (by kernel_rfl) (fun _ _ _ h => h) (Or.inl ⟨by rfl, ?hy19⟩) K118 ?rest19
  case hy19 => (intro w hSw; (try dsimp only at hSw); first | (go_simp; done) | (go_simp; with_reducible rfl))
  try simp only [Act.put, List.setIfInBounds_toArray, List.set_cons_zero, List.set_cons_succ]
  refine wpAnyH_take (i := 26) (oi := { dst := some 59, op := _, type := _, pos := _, after := _, guard := _ }) (v := ?v20) rfl (by kernel_rfl) (by kernel_rfl) (by kernel_rfl) (fun _ _ _ h => h) (Or.inl ⟨by rfl, ?hy20⟩) K118 ?rest20
  case hy20 => (intro w hSw; (try dsimp only at hSw); first | (go_simp; done) | (go_simp; with_reducible rfl))
  try simp only [Act.put, List.setIfInBounds_toArray, List.set_cons_zero, List.set_cons_succ]
  refine wpAnyH_take (i := 27) (oi := { dst := some 60, op := _, type := _, pos := _, after := _, guard := _ }) rfl (by kernel_rfl) (by kernel_rfl) (by kernel_rfl) (fun _ _ _ h => h) (yield_BZ (by rfl) (.tmp 59) rfl rfl) K118 ?_
  try simp only [Act.put, List.setIfInBounds_toArray, List.set_cons_zero, List.set_cons_succ]
  refine wpAnyH_ready (rs := [28]) (by kernel_rfl) (by simp) ?_
  refine AllReadyH.cons (o := { dst := some 61, op := _, type := _, pos := _, after := _, guard := _ }) rfl (fun K hK => ?_) AllReadyH.nil
  go_simp
  have hh := chkDC awEz none 0 none 0 u18 (dlMem_of (dlMem_zero u18) rfl rfl)
  rw [awD_z] at hh
  refine Calls.mono hh ?_
  rintro v u28 ⟨rfl, hb⟩
  have K128 := Below.trans K118 (hb.mono (Below.size K118))
  clear hh hb
  refine hK.out _ _ K128 (fun _ => ?_)
  clear hK K
  try simp only [Act.put, List.setIfInBounds_toArray, List.set_cons_zero, List.set_cons_succ]
  refine wpAnyH_take (i := 29) (oi := { dst := some 62, op := _, type := _, pos := _, after := _, guard := _ }) (v := ?v21) rfl (by kernel_rfl) (by kernel_rfl) (by kernel_rfl) (fun _ _ _ h => h) (Or.inl ⟨by rfl, ?hy21⟩) K128 ?rest21
  case hy21 => (intro w hSw; (try dsimp only at hSw); first | (go_simp; done) | (go_simp; with_reducible rfl))
  try simp only [Act.put, List.setIfInBounds_toArray, List.set_cons_zero, List.set_cons_succ]
  refine wpAnyH_take (i := 30) (oi := { dst := some 63, op := _, type := _, pos := _, after := _, guard := _ }) (v := ?v22) rfl (by kernel_rfl) (by kernel_rfl) (by kernel_rfl) (fun _ _ _ h => h) (Or.inl ⟨by rfl, ?hy22⟩) K128 ?rest22
  case hy22 => (intro w hSw; (try dsimp only at hSw); first | (go_simp; done) | (go_simp; with_reducible rfl))
  try simp only [Act.put, List.setIfInBounds_toArray, List.set_cons_zero, List.set_cons_succ]
  refine wpAnyH_take (i := 31) (oi := { dst := some 64, op := _, type := _, pos := _, after := _, guard := _ }) (v := ?v23) rfl (by kernel_rfl) (by kernel_rfl) (by kernel_rfl) (fun _ _ _ h => h) (Or.inl ⟨by rfl, ?hy23⟩) K128 ?rest23
  case hy23 => (intro w hSw; (try dsimp only at hSw); first | (go_simp; done) | (go_simp; with_reducible rfl))
  try simp only [Act.put, List.setIfInBounds_toArray, List.set_cons_zero, List.set_cons_succ]
  refine wpAnyH_take (i := 32) (oi := { dst := some 65, op := _, type := _, pos := _, after := _, guard := _ }) (v := ?v24) rfl (by kernel_rfl) (by kernel_rfl) (by kernel_rfl) (fun _ _ _ h => h) (Or.inl ⟨by rfl, ?hy24⟩) K128 ?rest24
  case hy24 => (intro w hSw; (try dsimp only at hSw); first | (go_simp; done) | (go_simp; with_reducible rfl))
  try simp only [Act.put, List.setIfInBounds_toArray, List.set_cons_zero, List.set_cons_succ]
  refine wpAnyH_take (i := 33) (oi := { dst := some 66, op := _, type := _, pos := _, after := _, guard := _ }) rfl (by kernel_rfl) (by kernel_rfl) (by kernel_rfl) (fun _ _ _ h => h) (yield_BZ (by rfl) (.tmp 65) rfl rfl) K128 ?_
  try simp only [Act.put, List.setIfInBounds_toArray, List.set_cons_zero, List.set_cons_succ]
  refine wpAnyH_ready (rs := [34]) (by kernel_rfl) (by simp) ?_
  refine AllReadyH.cons (o := { dst := some 67, op := _, type := _, pos := _, after := _, guard := _ }) rfl (fun K hK => ?_) AllReadyH.nil
  go_simp
  have hh := oneDC u28
  refine Calls.mono hh ?_
  rintro v u34 ⟨⟨la11, lk11, ga11, gk11, rfl, hm11⟩, hb⟩
  have K134 := Below.trans K128 (hb.mono (Below.size K128))
  clear hm11
  clear hh hb
  refine hK.out _ _ K134 (fun _ => ?_)
  clear hK K
  try simp only [Act.put, List.setIfInBounds_toArray, List.set_cons_zero, List.set_cons_succ]
  refine wpAnyH_ready (rs := [35]) (by kernel_rfl) (by simp) ?_
  refine AllReadyH.cons (o := { dst := some 68, op := _, type := _, pos := _, after := _, guard := _ }) rfl (fun K hK => ?_) AllReadyH.nil
  go_simp
  have hh := lessDlC awEz oneE none 0 none 0 la11 lk11 ga11 gk11 u34
  rw [awD_lt] at hh
  refine Calls.mono hh ?_
  rintro v u35 ⟨rfl, hb⟩
  have K135 := Below.trans K134 (hb.mono (Below.size K134))
  clear hh hb
  refine hK.out _ _ K135 (fun _ => ?_)
  clear hK K
  try simp only [Act.put, List.setIfInBounds_toArray, List.set_cons_zero, List.set_cons_succ]
  refine wpAnyH_take (i := 36) (oi := { dst := some 69, op := _, type := _, pos := _, after := _, guard := _ }) (v := ?v25) rfl (by kernel_rfl) (by kernel_rfl) (by kernel_rfl) (fun _ _ _ h => h) (Or.inl ⟨by rfl, ?hy25⟩) K135 ?rest25
  case hy25 => (intro w hSw; (try dsimp only at hSw); first | (go_simp; done) | (go_simp; with_reducible rfl))
  try simp only [Act.put, List.setIfInBounds_toArray, List.set_cons_zero, List.set_cons_succ]
  refine wpAnyH_take (i := 37) (oi := { dst := some 0, op := _, type := _, pos := _, after := _, guard := _ }) (v := ?v26) rfl (by kernel_rfl) (by kernel_rfl) (by kernel_rfl) (fun _ _ _ h => h) (Or.inl ⟨by rfl, ?hy26⟩) K135 ?rest26
  case hy26 => (intro w hSw; (try dsimp only at hSw); first | (go_simp; done) | (go_simp; with_reducible rfl))
  try simp only [Act.put, List.setIfInBounds_toArray, List.set_cons_zero, List.set_cons_succ]
  refine wpAnyH_done (by kernel_rfl) ?_ _
  try simp only [Act.put, List.setIfInBounds_toArray, List.set_cons_zero, List.set_cons_succ]
  have HK := Lib.hid (B9.out.trans (Below.mono K135 B9.out.size))
  clear K135
  go_wp2_with fail
  go_ret
  exact ⟨rfl, HK.out⟩
end Go.Proofs.YtkodololdjainaaGreat
