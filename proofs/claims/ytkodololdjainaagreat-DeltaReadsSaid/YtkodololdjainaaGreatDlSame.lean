/-
  Updates: the document's Same; Less; almonrylaw18: Few, one.
-/
import Derived.Test.YtkodololdjainaaGreatDlChk
import Derived.Test.YtkodololdjainaaGreatGDelP
import Derived.Test.YtkodololdjainaaGreatGDelQ
namespace Go.Proofs.YtkodololdjainaaGreat
set_option linter.unusedSimpArgs false
set_option linter.unusedVariables false
set_option maxRecDepth 100000
open Go.RowKit Go.Sort

theorem dl_eq (x y : Dl) : decide (x = y) = (decide (x.d = y.d) && (decide (x.s = y.s) && (decide (x.l = y.l) && decide (x.g = y.g)))) := by
  obtain ⟨d, s, l, g⟩ := x
  obtain ⟨d', s', l', g'⟩ := y
  simp only [Dl.mk.injEq]
  rw [Bool.eq_iff_iff]
  simp only [Bool.and_eq_true, decide_eq_true_eq]
/-- two updates' boxes -/
structure TwoD (w : World) (x y : Dl) (la : Option Addr) (lk : Nat) (ga : Option Addr) (gk : Nat) (ma : Option Addr) (mk : Nat) (na : Option Addr) (nk : Nat) (U : World) : Prop where
  a : DBlk U w.heap.size x la lk ga gk
  b : DBlk U (w.heap.size + 1) y ma mk na nk
  low : Go.RowKit.Below w.heap.size w U
theorem TwoD.new (w : World) (x y : Dl) (la : Option Addr) (lk : Nat) (ga : Option Addr) (gk : Nat) (ma : Option Addr) (mk : Nat) (na : Option Addr) (nk : Nat) : TwoD w x y la lk ga gk ma mk na nk ((w.alloc (.cells (dlc x la lk ga gk) 29)).alloc (.cells (dlc y ma mk na nk) 29)) := by
  have e1 : (w.alloc (.cells (dlc x la lk ga gk) 29)).heap.size = w.heap.size + 1 := World.size_alloc _ _
  have h1 := Blk.new (w.alloc (.cells (dlc x la lk ga gk) 29)) 29 (dlc y ma mk na nk)
  rw [e1] at h1
  exact ⟨(Blk.new w _ _).alloc _, h1, (lowA w _).alloc (by rw [e1]; omega) _⟩
theorem TwoD.below {w : World} {x y : Dl} {la : Option Addr} {lk : Nat} {ga : Option Addr} {gk : Nat} {ma : Option Addr} {mk : Nat} {na : Option Addr} {nk : Nat} {U V : World} (h : TwoD w x y la lk ga gk ma mk na nk U) (hb : Go.RowKit.Below U.heap.size U V) : TwoD w x y la lk ga gk ma mk na nk V :=
  ⟨h.a.keep hb, h.b.keep hb, h.low.trans (hb.mono h.low.size)⟩

set_option maxHeartbeats 8000000 in
theorem sameDlR (x y : Dl) (la : Option Addr) (lk : Nat) (ga : Option Addr) (gk : Nat) (ma : Option Addr) (mk : Nat) (na : Option Addr) (nk : Nat) (w : World) (hx : DlMem w x la ga) (hy : DlMem w y ma na) (t : Bool) (ht : decide (x = y) = t) :
    Calls Tryz.prog 14 #[.agg (dlc x la lk ga gk), .agg (dlc y ma mk na nk)] w fun v w' => v = .returned (.bool t) ∧ Go.RowKit.Below w.heap.size w w' := by
  have H0 := Lib.hid (TwoD.new w x y la lk ga gk ma mk na nk)
  have HX := Lib.hid (hx.below H0.out.low)
  have HY := Lib.hid (hy.below H0.out.low)
  have HV := Lib.hid (ht.symm.trans (dl_eq x y))
  have hF := fun W (h1 : DlMem W x la ga) (h2 : DlMem W y ma na) => same_anyF x.l y.l x.l.length y.l.length rfl rfl la ma lk mk W h1.fin h2.fin h1.flen' _ rfl
  have hG := fun W (h1 : DlMem W x la ga) (h2 : DlMem W y ma na) => same_any x.g y.g x.g.length y.g.length rfl rfl ga na gk nk W h1.din h2.din h1.glen' h2.glen' _ rfl
  have HF := Lib.hid hF
  have HG := Lib.hid hG
  have hq1 := fun W => eqlD x.d y.d W
  have hq2 := fun W => eqlS x.s y.s W
  clear hx hy ht hF hG
  generalize decide (x.l = y.l) = b3 at *
  generalize decide (x.g = y.g) = b4 at *
  generalize decide (x.d = y.d) = b1 at *
  generalize decide (x.s = y.s) = b2 at *
  go_enter Tryz.func14, Tryz.ntmps14
  go_upto_region 1 with fail
  change Code.wp _ _ _ _ ((w.alloc (.cells (dlc x la lk ga gk) 29)).alloc (.cells (dlc y ma mk na nk) 29))
  generalize (w.alloc (.cells (dlc x la lk ga gk) 29)).alloc (.cells (dlc y ma mk na nk) 29) = W at *
  have c0 : W.cell? ⟨w.heap.size, 0, none⟩ = some (.int .i64 x.d.1) := H0.out.a.cell rfl
  have c1 : W.cell? ⟨w.heap.size, 1, none⟩ = some (.int .i64 x.d.2) := H0.out.a.cell rfl
  have c2 : W.cell? ⟨w.heap.size, 2, none⟩ = some (.int .i64 x.s.t) := H0.out.a.cell rfl
  have c3 : W.cell? ⟨w.heap.size, 3, none⟩ = some (.int .i64 x.s.c) := H0.out.a.cell rfl
  have c4 : W.cell? ⟨w.heap.size, 4, none⟩ = some (.int .i64 x.s.r) := H0.out.a.cell rfl
  have c5 : W.cell? ⟨w.heap.size, 5, none⟩ = some (.slice la x.l.length lk) := H0.out.a.cell rfl
  have k0 : W.cell? ⟨w.heap.size + 1, 0, none⟩ = some (.int .i64 y.d.1) := H0.out.b.cell rfl
  have k1 : W.cell? ⟨w.heap.size + 1, 1, none⟩ = some (.int .i64 y.d.2) := H0.out.b.cell rfl
  have k2 : W.cell? ⟨w.heap.size + 1, 2, none⟩ = some (.int .i64 y.s.t) := H0.out.b.cell rfl
  have k3 : W.cell? ⟨w.heap.size + 1, 3, none⟩ = some (.int .i64 y.s.c) := H0.out.b.cell rfl
  have k4 : W.cell? ⟨w.heap.size + 1, 4, none⟩ = some (.int .i64 y.s.r) := H0.out.b.cell rfl
  have k5 : W.cell? ⟨w.heap.size + 1, 5, none⟩ = some (.slice ma y.l.length mk) := H0.out.b.cell rfl
  cases b1 with
  | false =>
    have HV2 := Lib.hid (show t = false from HV.out)
    clear HV c2 c3 c4 c5 k2 k3 k4 k5 hq2
    go_wp2_with fail
    go_ret
    exact ⟨by rw [HV2.out]; rfl, H0.out.low⟩
  | true =>
    cases b2 with
    | false =>
      have HV2 := Lib.hid (show t = false from HV.out)
      clear HV c5 k5
      go_wp2_with fail
      go_ret
      exact ⟨by rw [HV2.out]; rfl, H0.out.low⟩
    | true =>
      go_wp2_with fail
      refine (HF.out W HX.out HY.out).mono ?_
      rintro v w1 ⟨rfl, hb1⟩
      have H1 := Lib.hid (H0.out.below hb1)
      have HX1 := Lib.hid (HX.out.below hb1)
      have HY1 := Lib.hid (HY.out.below hb1)
      clear hb1 H0 HX HY HF c0 c1 c2 c3 c4 c5 k0 k1 k2 k3 k4 k5 hq1 hq2
      cases b3 with
      | false =>
        have HV2 := Lib.hid (show t = false from HV.out)
        clear HV
        go_wp2_with fail
        go_ret
        exact ⟨by rw [HV2.out]; rfl, H1.out.low⟩
      | true =>
        have HV2 := Lib.hid (show t = b4 from HV.out)
        have c6 : w1.cell? ⟨w.heap.size, 6, none⟩ = some (.slice ga x.g.length gk) := H1.out.a.cell rfl
        have k6 : w1.cell? ⟨w.heap.size + 1, 6, none⟩ = some (.slice na y.g.length nk) := H1.out.b.cell rfl
        clear HV
        go_wp2_with fail
        refine (HG.out w1 HX1.out HY1.out).mono ?_
        rintro v w2 ⟨rfl, hb2⟩
        have H2 := Lib.hid (H1.out.low.trans (hb2.mono H1.out.low.size))
        clear hb2 H1 HX1 HY1 HG c6 k6
        go_wp2_with fail
        go_ret
        exact ⟨by rw [HV2.out]; rfl, H2.out⟩

set_option maxHeartbeats 4000000 in
theorem lessDlC (x y : Dl) (la : Option Addr) (lk : Nat) (ga : Option Addr) (gk : Nat) (ma : Option Addr) (mk : Nat) (na : Option Addr) (nk : Nat) (w : World) :
    Calls Tryz.prog 11 #[.agg (dlc x la lk ga gk), .agg (dlc y ma mk na nk)] w fun v w' => v = .returned (.bool (ltD x.d y.d)) ∧ Go.RowKit.Below w.heap.size w w' := by
  have H0 := Lib.hid (TwoD.new w x y la lk ga gk ma mk na nk)
  have HL := Lib.hid (fun W => lessCb x.d y.d W)
  generalize ltD x.d y.d = b at *
  go_enter Tryz.func11, Tryz.ntmps11
  go_upto_region 1 with fail
  change Code.wp _ _ _ _ ((w.alloc (.cells (dlc x la lk ga gk) 29)).alloc (.cells (dlc y ma mk na nk) 29))
  generalize (w.alloc (.cells (dlc x la lk ga gk) 29)).alloc (.cells (dlc y ma mk na nk) 29) = W at *
  have c0 : W.cell? ⟨w.heap.size, 0, none⟩ = some (.int .i64 x.d.1) := H0.out.a.cell rfl
  have c1 : W.cell? ⟨w.heap.size, 1, none⟩ = some (.int .i64 x.d.2) := H0.out.a.cell rfl
  have k0 : W.cell? ⟨w.heap.size + 1, 0, none⟩ = some (.int .i64 y.d.1) := H0.out.b.cell rfl
  have k1 : W.cell? ⟨w.heap.size + 1, 1, none⟩ = some (.int .i64 y.d.2) := H0.out.b.cell rfl
  go_wp2_with fail
  refine (HL.out W).mono ?_
  rintro v w1 ⟨rfl, hb1⟩
  have H1 := Lib.hid (H0.out.low.trans (hb1.mono H0.out.low.size))
  clear hb1 H0 c0 c1 k0 k1
  go_wp2_with fail
  go_ret
  exact ⟨rfl, H1.out⟩

/-- not too great -/
def fewDl (e : Dl) : Bool := fewP e.l && decide (e.g.length ≤ 30)
theorem fewDl_ok {e : Dl} (h : fewDl e = true) : fewP e.l = true ∧ e.g.length ≤ 30 := by
  simpa [fewDl] using h

set_option maxHeartbeats 4000000 in
theorem fewDlC (e : Dl) (la : Option Addr) (lk : Nat) (ga : Option Addr) (gk : Nat) (w : World) (hf : FIn w la e.l) (hl : e.l.length ≤ maxLen) (hs : ∀ f ∈ e.l, f.n.size ≤ maxLen ∧ f.v.size ≤ maxLen) (hg : e.g.length ≤ maxLen) :
    Calls Tryz.prog 5 #[.agg (dlc e la lk ga gk)] w fun v w' => v = .returned (.bool (fewDl e)) ∧ Go.RowKit.Below w.heap.size w w' := by
  have hb0 := lowA w (.cells (dlc e la lk ga gk) 29)
  have HK := Lib.hid (Blk.new w 29 (dlc e la lk ga gk))
  have HB := Lib.hid hb0
  have HI := Lib.hid (hf.below hb0)
  have HF := Lib.hid (fun W hW => ffewC e.l la lk W hW hl hs)
  have HV := Lib.hid (show fewDl e = (fewP e.l && decide (e.g.length ≤ 30)) from rfl)
  unfold maxLen at hg
  clear hb0 hf hl hs
  generalize fewDl e = V at *
  generalize fewP e.l = b at *
  go_enter Tryz.func5, Tryz.ntmps5
  go_upto_region 1 with fail
  change Code.wp _ _ _ _ (w.alloc (.cells (dlc e la lk ga gk) 29))
  generalize w.alloc (.cells (dlc e la lk ga gk) 29) = W at *
  have c5 : W.cell? ⟨w.heap.size, 5, none⟩ = some (.slice la e.l.length lk) := HK.out.cell rfl
  have c6 : W.cell? ⟨w.heap.size, 6, none⟩ = some (.slice ga e.g.length gk) := HK.out.cell rfl
  go_wp2_with fail
  refine (HF.out W HI.out).mono ?_
  rintro v w1 ⟨rfl, rfl⟩
  cases b with
  | false =>
    have HV2 := Lib.hid (show V = false from HV.out)
    clear HV
    go_wp2_with fail
    go_ret
    exact ⟨by rw [HV2.out]; rfl, HB.out⟩
  | true =>
    by_cases h : e.g.length ≤ 30
    · have hd : decide ((e.g.length : Int) ≤ 30) = true := by simp; omega
      have HV2 := Lib.hid (show V = true by rw [HV.out]; simp [h])
      clear HV h
      go_wp2_with fail
      go_ret
      exact ⟨by rw [HV2.out]; rfl, HB.out⟩
    · have hd : decide ((e.g.length : Int) ≤ 30) = false := by simp; omega
      have HV2 := Lib.hid (show V = false by rw [HV.out]; simp [h])
      clear HV h
      go_wp2_with fail
      go_ret
      exact ⟨by rw [HV2.out]; rfl, HB.out⟩
end Go.Proofs.YtkodololdjainaaGreat
