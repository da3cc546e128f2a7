/-
  Updates: the document's Same; Less; almonrylaw18: Few, one.
  almonrylaw19: what the walks over a case share.
  almonrylaw19: the walk of OpMakes.
-/
import Derived.Test.YtmnblpjdiplioaaGreatGOp23
import Derived.Test.YtmnblpjdiplioaaGreatGOp29
import Derived.Test.YtmnblpjdiplioaaGreatGOp30
import Derived.Test.YtmnblpjdiplioaaGreatGOp14
import Derived.Test.YtmnblpjdiplioaaGreatGOp31
import Derived.Test.YtmnblpjdiplioaaGreatGOp32
namespace Go.Proofs.YtmnblpjdiplioaaGreat
set_option linter.unusedSimpArgs false
set_option linter.unusedVariables false
set_option maxRecDepth 100000
open Go.RowKit Go.Sort

theorem dl_eq (x y : Dl) : decide (x = y) = (decide (x.d = y.d) && (decide (x.s = y.s) && (decide (x.l = y.l) && decide (x.g = y.g)))) := by
  obtain ⟨d, s, l, g⟩ := x
  obtain ⟨d', s', l', g'⟩ := y
  simp only [Dl.mk.injEq]
  rw [Bool.eq_iff_iff]
  simp only [Bool.and_eq_true, decide_eq_true_eq]
/-- two updates' boxes -/
structure TwoD (w : World) (x y : Dl) (la : Option Addr) (lk : Nat) (ga : Option Addr) (gk : Nat) (ma : Option Addr) (mk : Nat) (na : Option Addr) (nk : Nat) (U : World) : Prop where
  a : DBlk U w.heap.size x la lk ga gk
  b : DBlk U (w.heap.size + 1) y ma mk na nk
  low : Go.RowKit.Below w.heap.size w U
theorem TwoD.new (w : World) (x y : Dl) (la : Option Addr) (lk : Nat) (ga : Option Addr) (gk : Nat) (ma : Option Addr) (mk : Nat) (na : Option Addr) (nk : Nat) : TwoD w x y la lk ga gk ma mk na nk ((w.alloc (.cells (dlc x la lk ga gk) 43)).alloc (.cells (dlc y ma mk na nk) 43)) := by
  have e1 : (w.alloc (.cells (dlc x la lk ga gk) 43)).heap.size = w.heap.size + 1 := World.size_alloc _ _
  have h1 := Blk.new (w.alloc (.cells (dlc x la lk ga gk) 43)) 43 (dlc y ma mk na nk)
  rw [e1] at h1
  exact ⟨(Blk.new w _ _).alloc _, h1, (lowA w _).alloc (by rw [e1]; omega) _⟩
theorem TwoD.below {w : World} {x y : Dl} {la : Option Addr} {lk : Nat} {ga : Option Addr} {gk : Nat} {ma : Option Addr} {mk : Nat} {na : Option Addr} {nk : Nat} {U V : World} (h : TwoD w x y la lk ga gk ma mk na nk U) (hb : Go.RowKit.Below U.heap.size U V) : TwoD w x y la lk ga gk ma mk na nk V :=
  ⟨h.a.keep hb, h.b.keep hb, h.low.trans (hb.mono h.low.size)⟩

set_option maxHeartbeats 8000000 in
theorem sameDlR (x y : Dl) (la : Option Addr) (lk : Nat) (ga : Option Addr) (gk : Nat) (ma : Option Addr) (mk : Nat) (na : Option Addr) (nk : Nat) (w : World) (hx : DlMem w x la ga) (hy : DlMem w y ma na) (t : Bool) (ht : decide (x = y) = t) :
    Calls Tryz.prog 16 #[.agg (dlc x la lk ga gk), .agg (dlc y ma mk na nk)] w fun v w' => v = .returned (.bool t) ∧ Go.RowKit.Below w.heap.size w w' := by
  have H0 := Lib.hid (TwoD.new w x y la lk ga gk ma mk na nk)
  have HX := Lib.hid (hx.below H0.out.low)
  have HY := Lib.hid (hy.below H0.out.low)
  have HV := Lib.hid (ht.symm.trans (dl_eq x y))
  have hF := fun W (h1 : DlMem W x la ga) (h2 : DlMem W y ma na) => same_anyF x.l y.l x.l.length y.l.length rfl rfl la ma lk mk W h1.fin h2.fin h1.flen' _ rfl
  have hG := fun W (h1 : DlMem W x la ga) (h2 : DlMem W y ma na) => same_any x.g y.g x.g.length y.g.length rfl rfl ga na gk nk W h1.din h2.din h1.glen' h2.glen' _ rfl
  have HF := Lib.hid hF
  have HG := Lib.hid hG
  have hq1 := fun W => eqlD x.d y.d W
  have hq2 := fun W => eqlS x.s y.s W
  clear hx hy ht hF hG
  generalize decide (x.l = y.l) = b3 at *
  generalize decide (x.g = y.g) = b4 at *
  generalize decide (x.d = y.d) = b1 at *
  generalize decide (x.s = y.s) = b2 at *
  go_enter Tryz.func16, Tryz.ntmps16
  go_upto_region 1 with fail
  change Code.wp _ _ _ _ ((w.alloc (.cells (dlc x la lk ga gk) 43)).alloc (.cells (dlc y ma mk na nk) 43))
  generalize (w.alloc (.cells (dlc x la lk ga gk) 43)).alloc (.cells (dlc y ma mk na nk) 43) = W at *
  have c0 : W.cell? ⟨w.heap.size, 0, none⟩ = some (.int .i64 x.d.1) := H0.out.a.cell rfl
  have c1 : W.cell? ⟨w.heap.size, 1, none⟩ = some (.int .i64 x.d.2) := H0.out.a.cell rfl
  have c2 : W.cell? ⟨w.heap.size, 2, none⟩ = some (.int .i64 x.s.t) := H0.out.a.cell rfl
  have c3 : W.cell? ⟨w.heap.size, 3, none⟩ = some (.int .i64 x.s.c) := H0.out.a.cell rfl
  have c4 : W.cell? ⟨w.heap.size, 4, none⟩ = some (.int .i64 x.s.r) := H0.out.a.cell rfl
  have c5 : W.cell? ⟨w.heap.size, 5, none⟩ = some (.slice la x.l.length lk) := H0.out.a.cell rfl
  have k0 : W.cell? ⟨w.heap.size + 1, 0, none⟩ = some (.int .i64 y.d.1) := H0.out.b.cell rfl
  have k1 : W.cell? ⟨w.heap.size + 1, 1, none⟩ = some (.int .i64 y.d.2) := H0.out.b.cell rfl
  have k2 : W.cell? ⟨w.heap.size + 1, 2, none⟩ = some (.int .i64 y.s.t) := H0.out.b.cell rfl
  have k3 : W.cell? ⟨w.heap.size + 1, 3, none⟩ = some (.int .i64 y.s.c) := H0.out.b.cell rfl
  have k4 : W.cell? ⟨w.heap.size + 1, 4, none⟩ = some (.int .i64 y.s.r) := H0.out.b.cell rfl
  have k5 : W.cell? ⟨w.heap.size + 1, 5, none⟩ = some (.slice ma y.l.length mk) := H0.out.b.cell rfl
  cases b1 with
  | false =>
    have HV2 := Lib.hid (show t = false from HV.out)
    clear HV c2 c3 c4 c5 k2 k3 k4 k5 hq2
    go_wp2_with fail
    go_ret
    exact ⟨by rw [HV2.out]; rfl, H0.out.low⟩
  | true =>
    cases b2 with
    | false =>
      have HV2 := Lib.hid (show t = false from HV.out)
      clear HV c5 k5
      go_wp2_with fail
      go_ret
      exact ⟨by rw [HV2.out]; rfl, H0.out.low⟩
    | true =>
      go_wp2_with fail
      refine (HF.out W HX.out HY.out).mono ?_
      rintro v w1 ⟨rfl, hb1⟩
      have H1 := Lib.hid (H0.out.below hb1)
      have HX1 := Lib.hid (HX.out.below hb1)
      have HY1 := Lib.hid (HY.out.below hb1)
      clear hb1 H0 HX HY HF c0 c1 c2 c3 c4 c5 k0 k1 k2 k3 k4 k5 hq1 hq2
      cases b3 with
      | false =>
        have HV2 := Lib.hid (show t = false from HV.out)
        clear HV
        go_wp2_with fail
        go_ret
        exact ⟨by rw [HV2.out]; rfl, H1.out.low⟩
      | true =>
        have HV2 := Lib.hid (show t = b4 from HV.out)
        have c6 : w1.cell? ⟨w.heap.size, 6, none⟩ = some (.slice ga x.g.length gk) := H1.out.a.cell rfl
        have k6 : w1.cell? ⟨w.heap.size + 1, 6, none⟩ = some (.slice na y.g.length nk) := H1.out.b.cell rfl
        clear HV
        go_wp2_with fail
        refine (HG.out w1 HX1.out HY1.out).mono ?_
        rintro v w2 ⟨rfl, hb2⟩
        have H2 := Lib.hid (H1.out.low.trans (hb2.mono H1.out.low.size))
        clear hb2 H1 HX1 HY1 HG c6 k6
        go_wp2_with fail
        go_ret
        exact ⟨by rw [HV2.out]; rfl, H2.out⟩

end Go.Proofs.YtmnblpjdiplioaaGreat

namespace Go.Proofs.YtmnblpjdiplioaaGreat
set_option linter.unusedSimpArgs false
set_option linter.unusedVariables false
set_option maxRecDepth 100000
open Go.RowKit Go.Sort

/-- a case lies in its box -/
structure OnC (w : World) (x : Cs) (la : Option Addr) (lk : Nat) (U : World) : Prop where
  blk : CBlk U w.heap.size x la lk
  low : Go.RowKit.Below w.heap.size w U
theorem OnC.below {w : World} {x : Cs} {la : Option Addr} {lk : Nat} {U V : World} (h : OnC w x la lk U) (hb : Go.RowKit.Below U.heap.size U V) : OnC w x la lk V := ⟨h.blk.keep hb, h.low.trans (hb.mono h.low.size)⟩
theorem OnC.above {w : World} {x : Cs} {la : Option Addr} {lk : Nat} {U V : World} {B : Nat} (h : OnC w x la lk U) (hb : Go.RowKit.Below B U V) (hB : w.heap.size < B) : OnC w x la lk V := ⟨h.blk.below hb hB, h.low.trans (hb.mono (Nat.le_of_lt hB))⟩
theorem OnC.lt {w : World} {x : Cs} {la : Option Addr} {lk : Nat} {U : World} (h : OnC w x la lk U) : w.heap.size < U.heap.size := h.blk.lt
theorem csc_eq (x : Cs) (la : Option Addr) (lk : Nat) : csc x la lk = #[.slice la x.l.length lk, .int .i64 x.o.k, .string x.o.n, .string x.o.v, .float .f64 x.o.p, .string x.o.b, .int .i64 x.d.1, .int .i64 x.d.2, .int .i64 x.s.t, .int .i64 x.s.c, .int .i64 x.s.r, .string x.m] := by
  simp [csc, opc]
theorem OnC.opr {w : World} {x : Cs} {la : Option Addr} {lk : Nat} {U : World} (h : OnC w x la lk U) : U.rangeAt w.heap.size 1 (opc x.o).toList := by
  have hb := h.blk
  unfold CBlk at hb
  rw [csc_eq] at hb
  refine hb.range 1 _ fun j v hv => ?_
  have hj : j < 5 := by
    rcases Nat.lt_or_ge j 5 with h | h
    · exact h
    · rw [List.getElem?_eq_none (by simpa [opc] using h)] at hv; cases hv
  match j, hj, hv with
  | 0, _, hv => simpa [opc] using hv
  | 1, _, hv => simpa [opc] using hv
  | 2, _, hv => simpa [opc] using hv
  | 3, _, hv => simpa [opc] using hv
  | 4, _, hv => simpa [opc] using hv
theorem OnC.c0 {w : World} {x : Cs} {la : Option Addr} {lk : Nat} {U : World} (h : OnC w x la lk U) : U.cell? ⟨w.heap.size, 0, none⟩ = some (.slice la x.l.length lk) := by
  have hb := h.blk
  unfold CBlk at hb
  rw [csc_eq] at hb
  exact hb.cell rfl
theorem OnC.c6 {w : World} {x : Cs} {la : Option Addr} {lk : Nat} {U : World} (h : OnC w x la lk U) : U.cell? ⟨w.heap.size, 6, none⟩ = some (.int .i64 x.d.1) := by
  have hb := h.blk
  unfold CBlk at hb
  rw [csc_eq] at hb
  exact hb.cell rfl
theorem OnC.c7 {w : World} {x : Cs} {la : Option Addr} {lk : Nat} {U : World} (h : OnC w x la lk U) : U.cell? ⟨w.heap.size, 7, none⟩ = some (.int .i64 x.d.2) := by
  have hb := h.blk
  unfold CBlk at hb
  rw [csc_eq] at hb
  exact hb.cell rfl
theorem OnC.c8 {w : World} {x : Cs} {la : Option Addr} {lk : Nat} {U : World} (h : OnC w x la lk U) : U.cell? ⟨w.heap.size, 8, none⟩ = some (.int .i64 x.s.t) := by
  have hb := h.blk
  unfold CBlk at hb
  rw [csc_eq] at hb
  exact hb.cell rfl
theorem OnC.c9 {w : World} {x : Cs} {la : Option Addr} {lk : Nat} {U : World} (h : OnC w x la lk U) : U.cell? ⟨w.heap.size, 9, none⟩ = some (.int .i64 x.s.c) := by
  have hb := h.blk
  unfold CBlk at hb
  rw [csc_eq] at hb
  exact hb.cell rfl
theorem OnC.c10 {w : World} {x : Cs} {la : Option Addr} {lk : Nat} {U : World} (h : OnC w x la lk U) : U.cell? ⟨w.heap.size, 10, none⟩ = some (.int .i64 x.s.r) := by
  have hb := h.blk
  unfold CBlk at hb
  rw [csc_eq] at hb
  exact hb.cell rfl
theorem OnC.c11 {w : World} {x : Cs} {la : Option Addr} {lk : Nat} {U : World} (h : OnC w x la lk U) : U.cell? ⟨w.heap.size, 11, none⟩ = some (.string x.m) := by
  have hb := h.blk
  unfold CBlk at hb
  rw [csc_eq] at hb
  exact hb.cell rfl
theorem OnC.c1 {w : World} {x : Cs} {la : Option Addr} {lk : Nat} {U : World} (h : OnC w x la lk U) : U.cell? ⟨w.heap.size, 1, none⟩ = some (.int .i64 x.o.k) := by
  have hb := h.blk
  unfold CBlk at hb
  rw [csc_eq] at hb
  exact hb.cell rfl
theorem OnC.c2 {w : World} {x : Cs} {la : Option Addr} {lk : Nat} {U : World} (h : OnC w x la lk U) : U.cell? ⟨w.heap.size, 2, none⟩ = some (.string x.o.n) := by
  have hb := h.blk
  unfold CBlk at hb
  rw [csc_eq] at hb
  exact hb.cell rfl
theorem OnC.c3 {w : World} {x : Cs} {la : Option Addr} {lk : Nat} {U : World} (h : OnC w x la lk U) : U.cell? ⟨w.heap.size, 3, none⟩ = some (.string x.o.v) := by
  have hb := h.blk
  unfold CBlk at hb
  rw [csc_eq] at hb
  exact hb.cell rfl
theorem saysO_val {o : Opp} {d : Dt} {s : St} {m : ByteArray} (ho : fewO o = true) (hm : m.size ≤ 1000) : ∀ f ∈ saysO o d s m, f.v.size ≤ 5000 := by
  simp only [fewO, Bool.and_eq_true, Bool.or_eq_true, decide_eq_true_eq] at ho
  intro f hf
  unfold saysO at hf
  split at hf
  · obtain rfl := List.mem_singleton.1 hf; simp; omega
  split at hf
  · obtain rfl := List.mem_singleton.1 hf; simp; omega
  split at hf
  · obtain rfl := List.mem_singleton.1 hf; simp; omega
  split at hf
  · obtain rfl := List.mem_singleton.1 hf; simp [putS_size]
  · simp at hf
end Go.Proofs.YtmnblpjdiplioaaGreat

namespace Go.Proofs.YtmnblpjdiplioaaGreat
set_option linter.unusedSimpArgs false
set_option linter.unusedVariables false
set_option maxRecDepth 100000
open Go.RowKit Go.Sort

set_option maxHeartbeats 16000000 in
theorem op_makes_row (x : Cs) (la : Option Addr) (lk : Nat) (w : World) (h : CaseArg w x la) :
    Calls Tryz.prog 4 #[.agg (csc x la lk)] w fun v w' => v = .returned (.bool true) ∧ Go.RowKit.Below w.heap.size w w' := by
  have H0 : Hid (OnC w x la lk (w.alloc (.cells (csc x la lk) 40))) := Lib.hid ⟨Blk.new w 40 (csc x la lk), lowA w _⟩
  obtain ⟨⟨-, hl, hin, hsz⟩, ho, hmx⟩ := h
  have HF := Lib.hid (fun W (hb : Go.RowKit.Below w.heap.size w W) => hin.below hb)
  have HFW := Lib.hid (fun W (hW : FIn W la x.l) => ffewC x.l la lk W hW hl hsz)
  have HFO := Lib.hid (fun W => fewOC x.o ho.n ho.v ho.b W)
  have HA : Hid (OpArg x.o) := Lib.hid ⟨ho.n, ho.v, ho.b, ho.p⟩
  clear hin hsz ho
  unfold maxLen at hl hmx
  go_enter Tryz.func4, Tryz.ntmps4
  go_upto_region 1 with fail
  change Code.wp _ _ _ _ (w.alloc (.cells (csc x la lk) 40))
  generalize w.alloc (.cells (csc x la lk) 40) = W at *
  have c0 : W.cell? ⟨w.heap.size, 0, none⟩ = some (.slice la x.l.length lk) := H0.out.c0
  go_wp2_with fail
  refine (HFW.out W (HF.out W H0.out.low)).mono ?_
  rintro v w1 ⟨rfl, rfl⟩
  clear HFW
  rcases hfw : fewP x.l with _ | _
  · clear hfw
    go_wp2_with fail
    refine (opAwake W).mono ?_
    rintro v w2 ⟨rfl, hb2⟩
    have H2 := Lib.hid (H0.out.low.trans (hb2.mono H0.out.low.size))
    clear hb2
    go_wp2_with fail
    go_ret
    exact ⟨rfl, H2.out⟩
  have HL := Lib.hid hfw
  clear hfw c0
  go_wp2_with ((with_reducible refine bl_load ?_ 25 (.tmp 12) ?_ w.heap.size 1 (opc x.o) ?_ ?_ Tryz.underlying25 ?_ ?_ ?_); rfl; rfl; rfl; exact H0.out.opr; rfl; exact infoO _; simp only [Act.put, List.setIfInBounds_toArray, List.set_cons_zero, List.set_cons_succ])
  refine (HFO.out W).mono ?_
  rintro v w1 ⟨rfl, hb1⟩
  have H1 := Lib.hid (H0.out.below hb1)
  clear hb1 HFO H0
  have c11 : w1.cell? ⟨w.heap.size, 11, none⟩ = some (.string x.m) := H1.out.c11
  rcases hfw : fewO x.o with _ | _
  · clear hfw
    go_wp2_with fail
    refine (opAwake w1).mono ?_
    rintro v w2 ⟨rfl, hb2⟩
    have H2 := Lib.hid (H1.out.low.trans (hb2.mono H1.out.low.size))
    clear hb2
    go_wp2_with fail
    go_ret
    exact ⟨rfl, H2.out⟩
  have HO := Lib.hid hfw
  clear hfw
  by_cases hm : 1000 < x.m.size
  · have d1 : decide ((x.m.size : Int) > 1000) = true := decide_eq_true (by omega)
    clear hm
    go_wp2_with fail
    refine (opAwake w1).mono ?_
    rintro v w2 ⟨rfl, hb2⟩
    have H2 := Lib.hid (H1.out.low.trans (hb2.mono H1.out.low.size))
    clear hb2
    go_wp2_with fail
    go_ret
    exact ⟨rfl, H2.out⟩
  have d1 : decide ((x.m.size : Int) > 1000) = false := decide_eq_false (by omega)
  have h60 : x.l.length ≤ 60 := by have := (fewP_ok HL.out).1; omega
  have C1 := Lib.hid (fun W (hb : Go.RowKit.Below w.heap.size w W) => opMakeC x.l la lk x.o x.d x.s x.m W (HF.out W hb) h60 HA.out (saysO_val HO.out (by omega)))
  have C2 := Lib.hid (fun W (hb : Go.RowKit.Below w.heap.size w W) => makeOR x.l la lk x.o x.d x.s x.m W (HF.out W hb) h60 HA.out (saysO_val HO.out (by omega)))
  clear hm HA HF h60 HL HO
  generalize makeO x.l x.o 0 x.d x.s x.m = RS at *
  obtain ⟨E, e⟩ := RS
  simp only at C1 C2
  have hee : (e == e) = true := by simp
  have c0 : w1.cell? ⟨w.heap.size, 0, none⟩ = some (.slice la x.l.length lk) := H1.out.c0
  have c6 : w1.cell? ⟨w.heap.size, 6, none⟩ = some (.int .i64 x.d.1) := H1.out.c6
  have c7 : w1.cell? ⟨w.heap.size, 7, none⟩ = some (.int .i64 x.d.2) := H1.out.c7
  have c8 : w1.cell? ⟨w.heap.size, 8, none⟩ = some (.int .i64 x.s.t) := H1.out.c8
  have c9 : w1.cell? ⟨w.heap.size, 9, none⟩ = some (.int .i64 x.s.c) := H1.out.c9
  have c10 : w1.cell? ⟨w.heap.size, 10, none⟩ = some (.int .i64 x.s.r) := H1.out.c10
  go_wp2_with ((with_reducible refine bl_load ?_ 25 (.tmp 27) ?_ w.heap.size 1 (opc x.o) ?_ ?_ Tryz.underlying25 ?_ ?_ ?_); rfl; rfl; rfl; exact H1.out.opr; rfl; exact infoO _; simp only [Act.put, List.setIfInBounds_toArray, List.set_cons_zero, List.set_cons_succ])
  refine (C1.out w1 H1.out.low).mono ?_
  rintro v w2 ⟨⟨l2, k2, g2, q2, rfl, hm2⟩, hb2⟩
  have hw := belowRow (lowA w2 (.cells (dlc zDl none 0 none 0) 43)) (Nat.le_refl _) (dlc E l2 k2 g2 q2)
  have hbb := hb2.trans (hw.mono hb2.size)
  have H2 := Lib.hid (H1.out.below hbb)
  have HZ := Lib.hid (Blk.new w2 43 (dlc zDl none 0 none 0))
  have P2 := Lib.hid (HZ.out.put (dlc E l2 k2 g2 q2))
  have M2 := Lib.hid (hm2.below hw)
  clear hm2 hb2 hw hbb H1 C1 c0 c6 c7 c8 c9 c10 c11 d1
  go_upto_region 4 with ((with_reducible refine bl_store ?_ 43 (.tmp 3) (.tmp 36) ?_ w2.heap.size (dlc E l2 k2 g2 q2) ?_ ?_ ?_ ?_ ?_ ?_); rfl; rfl; rfl; rfl; exact ⟨_, HZ.out, rfl⟩; exact infoD _ _ _ _ _; exact dl_one _ _ _ _ _; simp only [Act.put, List.setIfInBounds_toArray, List.set_cons_zero, List.set_cons_succ])
  change Code.wp _ _ _ _ ((w2.alloc (.cells (dlc zDl none 0 none 0) 43)).setRow w2.heap.size (dlc E l2 k2 g2 q2))
  clear HZ
  generalize (w2.alloc (.cells (dlc zDl none 0 none 0) 43)).setRow w2.heap.size (dlc E l2 k2 g2 q2) = V2 at *
  generalize w2.heap.size = b2 at *
  have c0 : V2.cell? ⟨w.heap.size, 0, none⟩ = some (.slice la x.l.length lk) := H2.out.c0
  have c6 : V2.cell? ⟨w.heap.size, 6, none⟩ = some (.int .i64 x.d.1) := H2.out.c6
  have c7 : V2.cell? ⟨w.heap.size, 7, none⟩ = some (.int .i64 x.d.2) := H2.out.c7
  have c8 : V2.cell? ⟨w.heap.size, 8, none⟩ = some (.int .i64 x.s.t) := H2.out.c8
  have c9 : V2.cell? ⟨w.heap.size, 9, none⟩ = some (.int .i64 x.s.c) := H2.out.c9
  have c10 : V2.cell? ⟨w.heap.size, 10, none⟩ = some (.int .i64 x.s.r) := H2.out.c10
  have c11 : V2.cell? ⟨w.heap.size, 11, none⟩ = some (.string x.m) := H2.out.c11
  go_wp2_with ((with_reducible refine bl_load ?_ 25 (.tmp 41) ?_ w.heap.size 1 (opc x.o) ?_ ?_ Tryz.underlying25 ?_ ?_ ?_); rfl; rfl; rfl; exact H2.out.opr; rfl; exact infoO _; simp only [Act.put, List.setIfInBounds_toArray, List.set_cons_zero, List.set_cons_succ])
  refine (C2.out V2 H2.out.low).mono ?_
  rintro v w3 ⟨⟨l3, k3, g3, q3, rfl, hm3⟩, hb3⟩
  have hw := belowRow (lowA w3 (.cells (dlc zDl none 0 none 0) 43)) (Nat.le_refl _) (dlc E l3 k3 g3 q3)
  have hbb := hb3.trans (hw.mono hb3.size)
  have H3 := Lib.hid (H2.out.low.trans (hbb.mono H2.out.low.size))
  have HZ := Lib.hid (Blk.new w3 43 (dlc zDl none 0 none 0))
  have P3 := Lib.hid (P2.out.keep hbb)
  have M3 := Lib.hid (M2.out.below hbb)
  have Q3 := Lib.hid (HZ.out.put (dlc E l3 k3 g3 q3))
  have N3 := Lib.hid (hm3.below hw)
  clear hm3 hb3 hw hbb H2 P2 M2 C2 c0 c6 c7 c8 c9 c10 c11
  go_upto_region 5 with ((with_reducible refine bl_store ?_ 43 (.tmp 5) (.tmp 50) ?_ w3.heap.size (dlc E l3 k3 g3 q3) ?_ ?_ ?_ ?_ ?_ ?_); rfl; rfl; rfl; rfl; exact ⟨_, HZ.out, rfl⟩; exact infoD _ _ _ _ _; exact dl_one _ _ _ _ _; simp only [Act.put, List.setIfInBounds_toArray, List.set_cons_zero, List.set_cons_succ])
  change Code.wp _ _ _ _ ((w3.alloc (.cells (dlc zDl none 0 none 0) 43)).setRow w3.heap.size (dlc E l3 k3 g3 q3))
  clear HZ
  generalize (w3.alloc (.cells (dlc zDl none 0 none 0) 43)).setRow w3.heap.size (dlc E l3 k3 g3 q3) = V3 at *
  generalize w3.heap.size = b3 at *
  go_wp2_with (first
    | ((with_reducible refine bl_load ?_ 43 (.tmp 3) ?_ b2 0 (dlc E l2 k2 g2 q2) ?_ ?_ Tryz.underlying43 ?_ ?_ ?_); rfl; rfl; rfl; exact P3.out.all; rfl; exact infoD _ _ _ _ _; simp only [Act.put, List.setIfInBounds_toArray, List.set_cons_zero, List.set_cons_succ])
    | ((with_reducible refine bl_load ?_ 43 (.tmp 5) ?_ b3 0 (dlc E l3 k3 g3 q3) ?_ ?_ Tryz.underlying43 ?_ ?_ ?_); rfl; rfl; rfl; exact Q3.out.all; rfl; exact infoD _ _ _ _ _; simp only [Act.put, List.setIfInBounds_toArray, List.set_cons_zero, List.set_cons_succ]))
  refine (sameDlR E E l2 k2 g2 q2 l3 k3 g3 q3 V3 M3.out N3.out true (by simp)).mono ?_
  rintro v w4 ⟨rfl, hb4⟩
  have H4 := Lib.hid (H3.out.trans (hb4.mono H3.out.size))
  clear hb4 H3 P3 M3 Q3 N3
  go_wp2_with fail
  refine (opAwake w4).mono ?_
  rintro v w5 ⟨rfl, hb5⟩
  have H5 := Lib.hid (H4.out.trans (hb5.mono H4.out.size))
  clear hb5
  go_wp2_with fail
  go_ret
  exact ⟨rfl, H5.out⟩
end Go.Proofs.YtmnblpjdiplioaaGreat
