/-
  almonrylaw14: the walk of StampReckons.
-/
import Derived.Test.YtfmeoblbknhjpaaStampAwake
namespace Go.Proofs.Ytfmeoblbknhjpaa
open Go.RowKit Go.Sort
set_option maxRecDepth 100000

/-- a block of two numbers -/
def PRow (w : World) (b : Nat) (m n : Int) : Prop := w.heap[b]? = some (.cells #[.int .i64 m, .int .i64 n] 24 (0, 0))
theorem PRow.lt {w : World} {b : Nat} {m n : Int} (h : PRow w b m n) : b < w.heap.size := (Array.getElem?_eq_some_iff.1 h).1
theorem PRow.keep {w w' : World} {b : Nat} {m n : Int} (h : PRow w b m n) (hb : Below w.heap.size w w') : PRow w' b m n := by
  unfold PRow; rw [hb.block b h.lt]; exact h
theorem PRow.two {w : World} {b : Nat} {m n : Int} (h : PRow w b m n) : w.cell? ⟨b, 0, none⟩ = some (.int .i64 m) ∧ w.cell? ⟨b, 1, none⟩ = some (.int .i64 n) :=
  ⟨by rw [Joins.cell_of_block h]; rfl, by rw [Joins.cell_of_block h]; rfl⟩
def boxP (w : World) (m n : Int) : World := w.alloc (.cells #[.int .i64 m, .int .i64 n] 24)
theorem PRow.new (w : World) (m n : Int) : PRow (boxP w m n) w.heap.size m n := heap_alloc_new w _

theorem belowOf {f : FuncId} {args : Array Value} {W : World} {v : Value} {o : Obj} (h : Calls Try.prog f args W fun e w' => e = .returned v ∧ W.alloc o = w') : Calls Try.prog f args W fun e w' => e = .returned v ∧ Below W.heap.size W w' :=
  h.mono fun _ _ k => ⟨k.1, by rw [← k.2]; exact below1 W o⟩
theorem belowOf2 {f : FuncId} {args : Array Value} {W : World} {v : Value} {o p : Obj} (h : Calls Try.prog f args W fun e w' => e = .returned v ∧ (W.alloc o).alloc p = w') : Calls Try.prog f args W fun e w' => e = .returned v ∧ Below W.heap.size W w' :=
  h.mono fun _ _ k => ⟨k.1, by rw [← k.2]; exact belowMore (below1 W o) p⟩

set_option maxHeartbeats 8000000 in
theorem reckons_row (a b : St) (m n : Int) (w : World) :
    Calls Try.prog 3 #[sv a, sv b, .agg #[.int .i64 m, .int .i64 n]] w fun e w' => e = .returned (.bool true) ∧ Below w.heap.size w w' := by
  have k1 := fun W => nextC a m n W
  have k2 := fun W => nextR a m n W
  have k3 := fun W => seenC a b m W
  have k4 := fun W => seenR a b m W
  have k5 := fun W => checkC a W
  have k6 := fun W => checkR a W
  have k7 := fun W => lessC a b W
  have k8 := fun W => lessR a b W
  generalize nextS a m n = X at k1 k2
  generalize seenS a b m = Y at k3 k4
  generalize chkS a = E at k5 k6
  generalize ltS a b = t at k7 k8
  obtain ⟨⟨xt, xc, xr⟩, xe⟩ := X
  obtain ⟨⟨yt, yc, yr⟩, ye⟩ := Y
  have q1 := fun W => eqlSb (a := ⟨xt, xc, xr⟩) (b := ⟨xt, xc, xr⟩) (t := true) (by simp) W
  have q2 := fun W => eqlSb (a := ⟨yt, yc, yr⟩) (b := ⟨yt, yc, yr⟩) (t := true) (by simp) W
  unfold two at k1 k2 k3 k4
  have hr : SRow (boxP (boxS (boxS w a) b) m n) w.heap.size a ∧ SRow (boxP (boxS (boxS w a) b) m n) (w.heap.size + 1) b ∧ PRow (boxP (boxS (boxS w a) b) m n) (w.heap.size + 2) m n := by
    refine ⟨((SRow.new w a).alloc _).alloc _, ?_, ?_⟩
    · have h := (SRow.new (boxS w a) b).alloc (.cells #[.int .i64 m, .int .i64 n] 24)
      rw [boxS_size] at h
      exact h
    · have h := PRow.new (boxS (boxS w a) b) m n
      rw [boxS_size, boxS_size] at h
      exact h
  have hbx : Below w.heap.size w (boxP (boxS (boxS w a) b) m n) := belowMore (belowMore (below1 w _) _) _
  obtain ⟨at', ac, ar⟩ := a
  obtain ⟨bt, bc, br⟩ := b
  unfold sv
  unfold boxS at k5 k6 k8
  simp only at k1 k2 k3 k4 k5 k6 k7 k8 q1 q2 ⊢
  have K1 := Lib.hid k1
  have K2 := Lib.hid k2
  have K3 := Lib.hid k3
  have K4 := Lib.hid k4
  have K5 := Lib.hid k5
  have K6 := Lib.hid k6
  have K7 := Lib.hid k7
  have K8 := Lib.hid k8
  clear k1 k2 k3 k4 k5 k6 k7 k8
  go_enter Try.func3, Try.ntmps3
  go_upto_region 1 with fail
  change Code.wp _ _ _ _ (boxP (boxS (boxS w ⟨at', ac, ar⟩) ⟨bt, bc, br⟩) m n)
  generalize boxP (boxS (boxS w ⟨at', ac, ar⟩) ⟨bt, bc, br⟩) m n = v0 at hr hbx ⊢
  have HR0 := Lib.hid hr
  have HB0 := Lib.hid hbx
  clear hr hbx
  obtain ⟨a0, a1, a2⟩ := (HR0.out.1).three
  obtain ⟨b0, b1, b2⟩ := (HR0.out.2.1).three
  obtain ⟨p0, p1⟩ := (HR0.out.2.2).two
  simp only at a0 a1 a2 b0 b1 b2
  go_wp2_with fail
  refine (K1.out _).mono ?_
  rintro e w1 ⟨rfl, hb⟩
  clear a0 a1 a2 b0 b1 b2 p0 p1
  go_upto_region 2 with fail
  have hb1 := belowMore (HB0.out.trans (hb.mono HB0.out.size)) (.cells #[.int .i64 (⟨xt, xc, xr⟩ : St).t, .int .i64 (⟨xt, xc, xr⟩ : St).c, .int .i64 (⟨xt, xc, xr⟩ : St).r] 23)
  have hr1 : SRow (boxS w1 ⟨xt, xc, xr⟩) w.heap.size ⟨at', ac, ar⟩ ∧ SRow (boxS w1 ⟨xt, xc, xr⟩) (w.heap.size + 1) ⟨bt, bc, br⟩ ∧ PRow (boxS w1 ⟨xt, xc, xr⟩) (w.heap.size + 2) m n ∧ SRow (boxS w1 ⟨xt, xc, xr⟩) w1.heap.size ⟨xt, xc, xr⟩ := ⟨((HR0.out.1).keep hb).alloc _, ((HR0.out.2.1).keep hb).alloc _, ((HR0.out.2.2).keep hb).keep (below1 _ _), SRow.new w1 ⟨xt, xc, xr⟩⟩
  change Code.wp _ _ _ _ (boxS w1 ⟨xt, xc, xr⟩)
  change Below w.heap.size w (boxS w1 ⟨xt, xc, xr⟩) at hb1
  generalize boxS w1 ⟨xt, xc, xr⟩ = v1 at hb1 hr1 ⊢
  generalize w1.heap.size = g1 at *
  have HB1 := Lib.hid hb1
  have HR1 := Lib.hid hr1
  clear hb hb1 hr1 HB0 HR0
  obtain ⟨a0, a1, a2⟩ := (HR1.out.1).three
  obtain ⟨b0, b1, b2⟩ := (HR1.out.2.1).three
  obtain ⟨p0, p1⟩ := (HR1.out.2.2.1).two
  simp only at a0 a1 a2 b0 b1 b2
  go_wp2_with fail
  refine (K2.out _).mono ?_
  rintro e w1 ⟨rfl, hb⟩
  clear a0 a1 a2 b0 b1 b2 p0 p1
  go_upto_region 3 with fail
  have hb1 := belowMore (HB1.out.trans (hb.mono HB1.out.size)) (.cells #[.int .i64 (⟨xt, xc, xr⟩ : St).t, .int .i64 (⟨xt, xc, xr⟩ : St).c, .int .i64 (⟨xt, xc, xr⟩ : St).r] 23)
  have hr1 : SRow (boxS w1 ⟨xt, xc, xr⟩) w.heap.size ⟨at', ac, ar⟩ ∧ SRow (boxS w1 ⟨xt, xc, xr⟩) (w.heap.size + 1) ⟨bt, bc, br⟩ ∧ PRow (boxS w1 ⟨xt, xc, xr⟩) (w.heap.size + 2) m n ∧ SRow (boxS w1 ⟨xt, xc, xr⟩) g1 ⟨xt, xc, xr⟩ ∧ SRow (boxS w1 ⟨xt, xc, xr⟩) w1.heap.size ⟨xt, xc, xr⟩ := ⟨((HR1.out.1).keep hb).alloc _, ((HR1.out.2.1).keep hb).alloc _, ((HR1.out.2.2.1).keep hb).keep (below1 _ _), ((HR1.out.2.2.2).keep hb).alloc _, SRow.new w1 ⟨xt, xc, xr⟩⟩
  change Code.wp _ _ _ _ (boxS w1 ⟨xt, xc, xr⟩)
  change Below w.heap.size w (boxS w1 ⟨xt, xc, xr⟩) at hb1
  generalize boxS w1 ⟨xt, xc, xr⟩ = v2 at hb1 hr1 ⊢
  generalize w1.heap.size = g2 at *
  have HB2 := Lib.hid hb1
  have HR2 := Lib.hid hr1
  clear hb hb1 hr1 HB1 HR1
  obtain ⟨a0, a1, a2⟩ := (HR2.out.1).three
  obtain ⟨b0, b1, b2⟩ := (HR2.out.2.1).three
  obtain ⟨p0, p1⟩ := (HR2.out.2.2.1).two
  simp only at a0 a1 a2 b0 b1 b2
  go_wp2_with fail
  refine (K3.out _).mono ?_
  rintro e w1 ⟨rfl, hb⟩
  clear a0 a1 a2 b0 b1 b2 p0 p1
  go_upto_region 4 with fail
  have hb1 := belowMore (HB2.out.trans (hb.mono HB2.out.size)) (.cells #[.int .i64 (⟨yt, yc, yr⟩ : St).t, .int .i64 (⟨yt, yc, yr⟩ : St).c, .int .i64 (⟨yt, yc, yr⟩ : St).r] 23)
  have hr1 : SRow (boxS w1 ⟨yt, yc, yr⟩) w.heap.size ⟨at', ac, ar⟩ ∧ SRow (boxS w1 ⟨yt, yc, yr⟩) (w.heap.size + 1) ⟨bt, bc, br⟩ ∧ PRow (boxS w1 ⟨yt, yc, yr⟩) (w.heap.size + 2) m n ∧ SRow (boxS w1 ⟨yt, yc, yr⟩) g1 ⟨xt, xc, xr⟩ ∧ SRow (boxS w1 ⟨yt, yc, yr⟩) g2 ⟨xt, xc, xr⟩ ∧ SRow (boxS w1 ⟨yt, yc, yr⟩) w1.heap.size ⟨yt, yc, yr⟩ := ⟨((HR2.out.1).keep hb).alloc _, ((HR2.out.2.1).keep hb).alloc _, ((HR2.out.2.2.1).keep hb).keep (below1 _ _), ((HR2.out.2.2.2.1).keep hb).alloc _, ((HR2.out.2.2.2.2).keep hb).alloc _, SRow.new w1 ⟨yt, yc, yr⟩⟩
  change Code.wp _ _ _ _ (boxS w1 ⟨yt, yc, yr⟩)
  change Below w.heap.size w (boxS w1 ⟨yt, yc, yr⟩) at hb1
  generalize boxS w1 ⟨yt, yc, yr⟩ = v3 at hb1 hr1 ⊢
  generalize w1.heap.size = g3 at *
  have HB3 := Lib.hid hb1
  have HR3 := Lib.hid hr1
  clear hb hb1 hr1 HB2 HR2
  obtain ⟨a0, a1, a2⟩ := (HR3.out.1).three
  obtain ⟨b0, b1, b2⟩ := (HR3.out.2.1).three
  obtain ⟨p0, p1⟩ := (HR3.out.2.2.1).two
  simp only at a0 a1 a2 b0 b1 b2
  go_wp2_with fail
  refine (K4.out _).mono ?_
  rintro e w1 ⟨rfl, hb⟩
  clear a0 a1 a2 b0 b1 b2 p0 p1
  go_upto_region 5 with fail
  have hb1 := belowMore (HB3.out.trans (hb.mono HB3.out.size)) (.cells #[.int .i64 (⟨yt, yc, yr⟩ : St).t, .int .i64 (⟨yt, yc, yr⟩ : St).c, .int .i64 (⟨yt, yc, yr⟩ : St).r] 23)
  have hr1 : SRow (boxS w1 ⟨yt, yc, yr⟩) w.heap.size ⟨at', ac, ar⟩ ∧ SRow (boxS w1 ⟨yt, yc, yr⟩) (w.heap.size + 1) ⟨bt, bc, br⟩ ∧ PRow (boxS w1 ⟨yt, yc, yr⟩) (w.heap.size + 2) m n ∧ SRow (boxS w1 ⟨yt, yc, yr⟩) g1 ⟨xt, xc, xr⟩ ∧ SRow (boxS w1 ⟨yt, yc, yr⟩) g2 ⟨xt, xc, xr⟩ ∧ SRow (boxS w1 ⟨yt, yc, yr⟩) g3 ⟨yt, yc, yr⟩ ∧ SRow (boxS w1 ⟨yt, yc, yr⟩) w1.heap.size ⟨yt, yc, yr⟩ := ⟨((HR3.out.1).keep hb).alloc _, ((HR3.out.2.1).keep hb).alloc _, ((HR3.out.2.2.1).keep hb).keep (below1 _ _), ((HR3.out.2.2.2.1).keep hb).alloc _, ((HR3.out.2.2.2.2.1).keep hb).alloc _, ((HR3.out.2.2.2.2.2).keep hb).alloc _, SRow.new w1 ⟨yt, yc, yr⟩⟩
  change Code.wp _ _ _ _ (boxS w1 ⟨yt, yc, yr⟩)
  change Below w.heap.size w (boxS w1 ⟨yt, yc, yr⟩) at hb1
  generalize boxS w1 ⟨yt, yc, yr⟩ = v4 at hb1 hr1 ⊢
  generalize w1.heap.size = g4 at *
  have HB4 := Lib.hid hb1
  have HR4 := Lib.hid hr1
  clear hb hb1 hr1 HB3 HR3
  obtain ⟨c00, c01, c02⟩ := (HR4.out.1).three
  obtain ⟨c10, c11, c12⟩ := (HR4.out.2.1).three
  obtain ⟨c30, c31, c32⟩ := (HR4.out.2.2.2.1).three
  obtain ⟨c40, c41, c42⟩ := (HR4.out.2.2.2.2.1).three
  obtain ⟨c50, c51, c52⟩ := (HR4.out.2.2.2.2.2.1).three
  obtain ⟨c60, c61, c62⟩ := (HR4.out.2.2.2.2.2.2).three
  simp only at c00 c01 c02 c10 c11 c12 c30 c31 c32 c40 c41 c42 c50 c51 c52 c60 c61 c62
  have rc00 := fun d os => cell_regrown c00 d os
  have rc01 := fun d os => cell_regrown c01 d os
  have rc02 := fun d os => cell_regrown c02 d os
  have rc10 := fun d os => cell_regrown c10 d os
  have rc11 := fun d os => cell_regrown c11 d os
  have rc12 := fun d os => cell_regrown c12 d os
  have rc30 := fun d os => cell_regrown c30 d os
  have rc31 := fun d os => cell_regrown c31 d os
  have rc32 := fun d os => cell_regrown c32 d os
  have rc40 := fun d os => cell_regrown c40 d os
  have rc41 := fun d os => cell_regrown c41 d os
  have rc42 := fun d os => cell_regrown c42 d os
  have rc50 := fun d os => cell_regrown c50 d os
  have rc51 := fun d os => cell_regrown c51 d os
  have rc52 := fun d os => cell_regrown c52 d os
  have rc60 := fun d os => cell_regrown c60 d os
  have rc61 := fun d os => cell_regrown c61 d os
  have rc62 := fun d os => cell_regrown c62 d os
  have L5 := Lib.hid (fun d os => Calls.regrown_of (P := Try.prog) (belowOf (K5.out (grow (redrawn v4 d) os))))
  have L6 := Lib.hid (fun d os => Calls.regrown_of (P := Try.prog) (belowOf (K6.out (grow (redrawn v4 d) os))))
  have L7 := Lib.hid (fun d os => Calls.regrown_of (K7.out (grow (redrawn v4 d) os)))
  have L8 := Lib.hid (fun d os => Calls.regrown_of (belowOf2 (K8.out (grow (redrawn v4 d) os))))
  have L9 := Lib.hid (fun d os => Calls.regrown_of (stampAwake (grow (redrawn v4 d) os)))
  have e1 : (E == E) = true := by simp
  have e2 : (t == t) = true := by simp
  have e3 : (xe == xe) = true := by simp
  have e4 : (ye == ye) = true := by simp
  clear c00 c01 c02 c10 c11 c12 c30 c31 c32 c40 c41 c42 c50 c51 c52 c60 c61 c62 K1 K2 K3 K4 K5 K6 K7 K8
  refine wp_region_quiet_below (by kernel_rfl) (by kernel_rfl) ?_
  repeat (first
    | go_big_quiet_step ((first
      | (go_at_call 10; with_reducible exact L5.out _ _)
      | (go_at_call 11; with_reducible exact L6.out _ _)
      | (go_at_call 12; with_reducible exact L7.out _ _)
      | (go_at_call 13; with_reducible exact L8.out _ _)
      | (go_at_call 14; with_reducible exact L9.out _ _))))
  refine wpQuiet_nil ?_
  intro _ hw'
  obtain ⟨⟨dq, osq⟩, hw''⟩ := hw'
  subst hw''
  have HB9 := Lib.hid (HB4.out.trans ((below_regrown v4 dq osq).mono HB4.out.size))
  clear rc00 rc01 rc02 rc10 rc11 rc12 rc30 rc31 rc32 rc40 rc41 rc42 rc50 rc51 rc52 rc60 rc61 rc62 L5 L6 L7 L8 L9 q1 q2 HR4
  generalize grow (redrawn v4 dq) osq = W at *
  go_wp2_with fail
  go_ret
  exact ⟨rfl, HB9.out⟩
end Go.Proofs.Ytfmeoblbknhjpaa