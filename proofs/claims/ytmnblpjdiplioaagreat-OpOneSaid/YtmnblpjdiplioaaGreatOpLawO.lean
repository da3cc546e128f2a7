/-
  almonrylaw19: the walk of OpOne.
-/
import Derived.Test.YtmnblpjdiplioaaGreatGOp33
import Derived.Test.YtmnblpjdiplioaaGreatGOp22
import Derived.Test.YtmnblpjdiplioaaGreatGOp21
namespace Go.Proofs.YtmnblpjdiplioaaGreat
set_option linter.unusedSimpArgs false
set_option linter.unusedVariables false
set_option maxRecDepth 100000
open Go.RowKit Go.Sort

/-- what lies there while an update is looked at -/
structure OneS (w : World) (x : Cs) (la : Option Addr) (lk b : Nat) (E : Dl) (l2 : Option Addr) (k2 : Nat) (g2 : Option Addr) (q2 : Nat) (ta : Option Addr) (T : List Dt) (U : World) : Prop where
  c : OnC w x la lk U
  d : DBlk U b E l2 k2 g2 q2
  m : DlMem U E l2 g2
  t : DIn U ta T
theorem OneS.below {w : World} {x : Cs} {la : Option Addr} {lk b : Nat} {E : Dl} {l2 : Option Addr} {k2 : Nat} {g2 : Option Addr} {q2 : Nat} {ta : Option Addr} {T : List Dt} {U V : World} (h : OneS w x la lk b E l2 k2 g2 q2 ta T U) (hb : Go.RowKit.Below U.heap.size U V) : OneS w x la lk b E l2 k2 g2 q2 ta T V :=
  ⟨h.c.below hb, h.d.keep hb, h.m.below hb, h.t.below hb⟩
/-- of an update that was made -/
structure MadeO (x : Cs) (E : Dl) (T : List Dt) : Prop where
  d : E.d = x.d
  s : E.s = x.s
  g : ∀ z ∈ E.g, z ∈ T
  l : ∀ f ∈ E.l, f = ⟨x.d, x.s, f.k, x.o.n, f.v⟩
  gl : E.g.length ≤ 60
  ll : E.l.length ≤ 1
theorem madeO_of {x : Cs} {E : Dl} (h60 : x.l.length ≤ 60) (he : E = makeE x.l x.o x.d x.s x.m) : MadeO x E (sortD (x.l.map (·.d))) := by
  subst he
  refine ⟨rfl, rfl, takesO_sub, fun f hf => ?_, Nat.le_trans (takesO_len _ _ _) h60, saysO_len _ _ _ _⟩
  obtain ⟨h1, h2, h3⟩ := saysO_all f hf
  obtain ⟨d, s, k, n, v⟩ := f
  simp only at h1 h2 h3
  subst h1 h2 h3
  rfl

set_option maxHeartbeats 16000000 in
theorem op_one_row (x : Cs) (la : Option Addr) (lk : Nat) (w : World) (h : CaseArg w x la) :
    Calls Tryz.prog 6 #[.agg (csc x la lk)] w fun v w' => v = .returned (.bool true) ∧ Go.RowKit.Below w.heap.size w w' := by
  have H0 : Hid (OnC w x la lk (w.alloc (.cells (csc x la lk) 40))) := Lib.hid ⟨Blk.new w 40 (csc x la lk), lowA w _⟩
  obtain ⟨⟨-, hl, hin, hsz⟩, ho, hmx⟩ := h
  have HF := Lib.hid (fun W (hb : Go.RowKit.Below w.heap.size w W) => hin.below hb)
  have HFW := Lib.hid (fun W (hW : FIn W la x.l) => ffewC x.l la lk W hW hl hsz)
  have HFO := Lib.hid (fun W => fewOC x.o ho.n ho.v ho.b W)
  have HA : Hid (OpArg x.o) := Lib.hid ⟨ho.n, ho.v, ho.b, ho.p⟩
  clear hin hsz ho
  unfold maxLen at hl hmx
  go_enter Tryz.func6, Tryz.ntmps6
  go_upto_region 1 with fail
  change Code.wp _ _ _ _ (w.alloc (.cells (csc x la lk) 40))
  generalize w.alloc (.cells (csc x la lk) 40) = W at *
  have c0 : W.cell? ⟨w.heap.size, 0, none⟩ = some (.slice la x.l.length lk) := H0.out.c0
  go_wp2_with fail
  refine (HFW.out W (HF.out W H0.out.low)).mono ?_
  rintro v w1 ⟨rfl, rfl⟩
  clear HFW
  rcases hfw : fewP x.l with _ | _
  · clear hfw
    go_wp2_with fail
    refine (opAwake W).mono ?_
    rintro v w2 ⟨rfl, hb2⟩
    have H2 := Lib.hid (H0.out.low.trans (hb2.mono H0.out.low.size))
    clear hb2
    go_wp2_with fail
    go_ret
    exact ⟨rfl, H2.out⟩
  have HL := Lib.hid hfw
  clear hfw c0
  go_wp2_with ((with_reducible refine bl_load ?_ 25 (.tmp 13) ?_ w.heap.size 1 (opc x.o) ?_ ?_ Tryz.underlying25 ?_ ?_ ?_); rfl; rfl; rfl; exact H0.out.opr; rfl; exact infoO _; simp only [Act.put, List.setIfInBounds_toArray, List.set_cons_zero, List.set_cons_succ])
  refine (HFO.out W).mono ?_
  rintro v w1 ⟨rfl, hb1⟩
  have H1 := Lib.hid (H0.out.below hb1)
  clear hb1 HFO H0
  have c11 : w1.cell? ⟨w.heap.size, 11, none⟩ = some (.string x.m) := H1.out.c11
  rcases hfw : fewO x.o with _ | _
  · clear hfw
    go_wp2_with fail
    refine (opAwake w1).mono ?_
    rintro v w2 ⟨rfl, hb2⟩
    have H2 := Lib.hid (H1.out.low.trans (hb2.mono H1.out.low.size))
    clear hb2
    go_wp2_with fail
    go_ret
    exact ⟨rfl, H2.out⟩
  have HO := Lib.hid hfw
  clear hfw
  by_cases hm : 1000 < x.m.size
  · have d1 : decide ((x.m.size : Int) > 1000) = true := decide_eq_true (by omega)
    clear hm
    go_wp2_with fail
    refine (opAwake w1).mono ?_
    rintro v w2 ⟨rfl, hb2⟩
    have H2 := Lib.hid (H1.out.low.trans (hb2.mono H1.out.low.size))
    clear hb2
    go_wp2_with fail
    go_ret
    exact ⟨rfl, H2.out⟩
  have d1 : decide ((x.m.size : Int) > 1000) = false := decide_eq_false (by omega)
  have h60 : x.l.length ≤ 60 := by have := (fewP_ok HL.out).1; omega
  have C1 := Lib.hid (fun W (hb : Go.RowKit.Below w.heap.size w W) => opMakeC x.l la lk x.o x.d x.s x.m W (HF.out W hb) h60 HA.out (saysO_val HO.out (by omega)))
  have HN := Lib.hid (fun h => makeO_no (l := x.l) (o := x.o) (t := 0) (d := x.d) (s := x.s) (m := x.m) h)
  have HK := Lib.hid (fun h => makeO_ok (l := x.l) (o := x.o) (t := 0) (d := x.d) (s := x.s) (m := x.m) h)
  have H6 := Lib.hid h60
  clear hm HA h60 HL HO
  generalize makeO x.l x.o 0 x.d x.s x.m = RS at *
  obtain ⟨E, e⟩ := RS
  simp only at C1
  have c0 : w1.cell? ⟨w.heap.size, 0, none⟩ = some (.slice la x.l.length lk) := H1.out.c0
  have c6 : w1.cell? ⟨w.heap.size, 6, none⟩ = some (.int .i64 x.d.1) := H1.out.c6
  have c7 : w1.cell? ⟨w.heap.size, 7, none⟩ = some (.int .i64 x.d.2) := H1.out.c7
  have c8 : w1.cell? ⟨w.heap.size, 8, none⟩ = some (.int .i64 x.s.t) := H1.out.c8
  have c9 : w1.cell? ⟨w.heap.size, 9, none⟩ = some (.int .i64 x.s.c) := H1.out.c9
  have c10 : w1.cell? ⟨w.heap.size, 10, none⟩ = some (.int .i64 x.s.r) := H1.out.c10
  go_wp2_with ((with_reducible refine bl_load ?_ 25 (.tmp 28) ?_ w.heap.size 1 (opc x.o) ?_ ?_ Tryz.underlying25 ?_ ?_ ?_); rfl; rfl; rfl; exact H1.out.opr; rfl; exact infoO _; simp only [Act.put, List.setIfInBounds_toArray, List.set_cons_zero, List.set_cons_succ])
  refine (C1.out w1 H1.out.low).mono ?_
  rintro v w2 ⟨⟨l2, k2, g2, q2, rfl, hm2⟩, hb2⟩
  have hw := belowRow (lowA w2 (.cells (dlc zDl none 0 none 0) 43)) (Nat.le_refl _) (dlc E l2 k2 g2 q2)
  have hbb := hb2.trans (hw.mono hb2.size)
  have H2 := Lib.hid (H1.out.below hbb)
  have HZ := Lib.hid (Blk.new w2 43 (dlc zDl none 0 none 0))
  have P2 := Lib.hid (HZ.out.put (dlc E l2 k2 g2 q2))
  have M2 := Lib.hid (hm2.below hw)
  clear hm2 hb2 hw hbb H1 C1 c0 c6 c7 c8 c9 c10 c11 d1
  go_upto_region 4 with ((with_reducible refine bl_store ?_ 43 (.tmp 3) (.tmp 37) ?_ w2.heap.size (dlc E l2 k2 g2 q2) ?_ ?_ ?_ ?_ ?_ ?_); rfl; rfl; rfl; rfl; exact ⟨_, HZ.out, rfl⟩; exact infoD _ _ _ _ _; exact dl_one _ _ _ _ _; simp only [Act.put, List.setIfInBounds_toArray, List.set_cons_zero, List.set_cons_succ])
  change Code.wp _ _ _ _ ((w2.alloc (.cells (dlc zDl none 0 none 0) 43)).setRow w2.heap.size (dlc E l2 k2 g2 q2))
  clear HZ
  generalize (w2.alloc (.cells (dlc zDl none 0 none 0) 43)).setRow w2.heap.size (dlc E l2 k2 g2 q2) = V2 at *
  generalize w2.heap.size = b2 at *
  by_cases he : e = 0
  case neg =>
    have hne : (e != 0) = true := by simp [he]
    have hz : E = zDl := HN.out he
    subst hz
    clear he HN HK HF H6
    go_wp2_with ((with_reducible refine bl_load ?_ 43 (.tmp 3) ?_ b2 0 (dlc zDl l2 k2 g2 q2) ?_ ?_ Tryz.underlying43 ?_ ?_ ?_); rfl; rfl; rfl; exact P2.out.all; rfl; exact infoD _ _ _ _ _; simp only [Act.put, List.setIfInBounds_toArray, List.set_cons_zero, List.set_cons_succ])
    have hq := sameDlR zDl zDl l2 k2 g2 q2 none 0 none 0 V2 M2.out (dlMem_zero _) true (by simp)
    refine Calls.mono hq ?_
    rintro v w4 ⟨rfl, hb4⟩
    have H4 := Lib.hid (H2.out.low.trans (hb4.mono H2.out.low.size))
    clear hb4 hq H2 P2 M2
    go_wp2_with fail
    refine (opAwake w4).mono ?_
    rintro v w5 ⟨rfl, hb5⟩
    have H5 := Lib.hid (H4.out.trans (hb5.mono H4.out.size))
    clear hb5
    go_wp2_with fail
    go_ret
    exact ⟨rfl, H5.out⟩
  case pos =>
  subst he
  obtain ⟨-, -, hE⟩ := HK.out rfl
  have MO := Lib.hid (madeO_of (x := x) (E := E) H6.out (by injection hE))
  clear HN HK hE
  have c0 : V2.cell? ⟨w.heap.size, 0, none⟩ = some (.slice la x.l.length lk) := H2.out.c0
  go_wp2_with fail
  refine (dotsKR x.l la lk V2 (HF.out V2 H2.out.low) (by have := H6.out; omega)).mono ?_
  rintro v w3 ⟨v3, rfl, hown, hb3⟩
  obtain ⟨ta, tk, rfl, -, -⟩ := hown.din
  have S3 : Hid (OneS w x la lk b2 E l2 k2 g2 q2 ta (sortD (x.l.map (·.d))) w3) := Lib.hid ⟨H2.out.below hb3, P2.out.keep hb3, M2.out.below hb3, hown.din1⟩
  have HTL := Lib.hid (show (sortD (x.l.map (·.d))).length ≤ 60 by have h1 := sortD_len (x.l.map (·.d)); rw [List.length_map] at h1; have := H6.out; omega)
  clear hown hb3 H2 P2 M2 c0 HF H6
  generalize sortD (x.l.map (·.d)) = T at *
  go_wp2_with fail
  go_loopw [6] (fun i wq => ∃ k : Nat, k ≤ E.g.length ∧ i = .int .i64 k ∧ Hid (OneS w x la lk b2 E l2 k2 g2 q2 ta T wq)) (fun i _ => E.g.length - (intOf i).toNat)
  case atStart => exact ⟨0, Nat.zero_le _, rfl, S3⟩
  case round =>
    obtain ⟨k, hk, rfl, HR⟩ := hrel
    have hgl := MO.out.gl
    have k6 : wr.cell? ⟨b2, 6, none⟩ = some (.slice g2 E.g.length q2) := HR.out.d.cell rfl
    by_cases hlt : k < E.g.length
    · obtain ⟨z, hz⟩ : ∃ z, E.g[k]? = some z := ⟨_, List.getElem?_eq_getElem hlt⟩
      obtain ⟨tb, tf, rfl, htb, z0, z1⟩ := HR.out.m.din.at hz
      have hi1 : (k : Int) < (E.g.length : Int) := by omega
      have HI := Lib.hid (inR T z ta tk wr HR.out.t (by have := HTL.out; simp [maxLen]; omega))
      have hin : decide (z ∈ T) = true := decide_eq_true (MO.out.g z (List.mem_of_getElem? hz))
      rw [hin] at HI
      clear hz hin
      go_wp2_with fail
      refine HI.out.mono ?_
      rintro v w4 ⟨rfl, hb4⟩
      have R4 := Lib.hid (HR.out.below hb4)
      clear hb4 HI HR k6 z0 z1
      go_wp2_with fail
      go_roundw
      case rel => exact ⟨k + 1, by omega, by go_num, R4⟩
      case measure => simp [intOf]; omega
    · obtain rfl : k = E.g.length := by omega
      have hi1 : ¬ (E.g.length : Int) < (E.g.length : Int) := by omega
      have hgl2 := MO.out.ll
      go_wp2_with fail
      clear k6 hi1
      go_loopw [7] (fun i wq => ∃ k : Nat, k ≤ E.l.length ∧ i = .int .i64 k ∧ Hid (OneS w x la lk b2 E l2 k2 g2 q2 ta T wq)) (fun i _ => E.l.length - (intOf i).toNat)
      case atStart => exact ⟨0, Nat.zero_le _, rfl, HR⟩
      case round =>
        obtain ⟨k, hk, rfl, HQ⟩ := hrel
        have k5 : wr.cell? ⟨b2, 5, none⟩ = some (.slice l2 E.l.length k2) := HQ.out.d.cell rfl
        by_cases hlt : k < E.l.length
        · obtain ⟨f, hf⟩ : ∃ f, E.l[k]? = some f := ⟨_, List.getElem?_eq_getElem hlt⟩
          have hfe := MO.out.l f (List.mem_of_getElem? hf)
          obtain ⟨tb, tf, rfl, htb, hr⟩ := HQ.out.m.fin.at hf
          have hi1 : (k : Int) < (E.l.length : Int) := by omega
          have HN := Lib.hid (fun n => HQ.out.below (belowN (Below.refl wr.heap.size wr) n))
          have HV := Lib.hid (show f.n = x.o.n ∧ f.d = x.d ∧ f.s = x.s by rw [hfe]; exact ⟨rfl, rfl, rfl⟩)
          clear hfe
          have q0 : wr.cell? ⟨tb, tf + k * 8, none⟩ = some (.int .i64 x.d.1) := by rw [← HV.out.2.1]; exact hr 0 _ rfl
          have q1 : wr.cell? ⟨tb, tf + k * 8 + 1, none⟩ = some (.int .i64 x.d.2) := by rw [← HV.out.2.1]; exact hr 1 _ rfl
          have qa : wr.cell? ⟨tb, tf + k * 8 + 2, none⟩ = some (.int .i64 x.s.t) := by rw [← HV.out.2.2]; exact hr 2 _ rfl
          have qb : wr.cell? ⟨tb, tf + k * 8 + 3, none⟩ = some (.int .i64 x.s.c) := by rw [← HV.out.2.2]; exact hr 3 _ rfl
          have qc : wr.cell? ⟨tb, tf + k * 8 + 4, none⟩ = some (.int .i64 x.s.r) := by rw [← HV.out.2.2]; exact hr 4 _ rfl
          have q6 : wr.cell? ⟨tb, tf + k * 8 + 6, none⟩ = some (.string x.o.n) := by rw [← HV.out.1]; exact hr 6 _ rfl
          have qd : wr.cell? ⟨tb, tf + k * 8 + 2 + 1, none⟩ = some (.int .i64 x.s.c) := qb
          have qe : wr.cell? ⟨tb, tf + k * 8 + 2 + 2, none⟩ = some (.int .i64 x.s.r) := qc
          have c2 : wr.cell? ⟨w.heap.size, 2, none⟩ = some (.string x.o.n) := HQ.out.c.c2
          have c6 : wr.cell? ⟨w.heap.size, 6, none⟩ = some (.int .i64 x.d.1) := HQ.out.c.c6
          have c7 : wr.cell? ⟨w.heap.size, 7, none⟩ = some (.int .i64 x.d.2) := HQ.out.c.c7
          have c8 : wr.cell? ⟨w.heap.size, 8, none⟩ = some (.int .i64 x.s.t) := HQ.out.c.c8
          have c9 : wr.cell? ⟨w.heap.size, 9, none⟩ = some (.int .i64 x.s.c) := HQ.out.c.c9
          have c10 : wr.cell? ⟨w.heap.size, 10, none⟩ = some (.int .i64 x.s.r) := HQ.out.c.c10
          have e1' : (x.o.n.toList == x.o.n.toList) = true := by simp
          have e2 := fun X => (neqD x.d x.d X).trans (by rw [decide_eq_true rfl]; rfl : _ = Result.ok (Value.bool false) X)
          have e3 := fun X => (neqS x.s x.s X).trans (by rw [decide_eq_true rfl]; rfl : _ = Result.ok (Value.bool false) X)
          clear hf hr
          go_upto_region 15 with fail
          go_quiet (fail)
          go_wp2_with fail
          go_roundw
          case rel => exact ⟨k + 1, by omega, by go_num, Lib.hid (HN.out _)⟩
          case measure => simp [intOf]; omega
        · obtain rfl : k = E.l.length := by omega
          have hi1 : ¬ (E.l.length : Int) < (E.l.length : Int) := by omega
          have q0 : wr.cell? ⟨b2, 0, none⟩ = some (.int .i64 x.d.1) := by rw [← MO.out.d]; exact HQ.out.d.cell rfl
          have q1 : wr.cell? ⟨b2, 1, none⟩ = some (.int .i64 x.d.2) := by rw [← MO.out.d]; exact HQ.out.d.cell rfl
          have qa : wr.cell? ⟨b2, 2, none⟩ = some (.int .i64 x.s.t) := by rw [← MO.out.s]; exact HQ.out.d.cell rfl
          have qb : wr.cell? ⟨b2, 3, none⟩ = some (.int .i64 x.s.c) := by rw [← MO.out.s]; exact HQ.out.d.cell rfl
          have qc : wr.cell? ⟨b2, 4, none⟩ = some (.int .i64 x.s.r) := by rw [← MO.out.s]; exact HQ.out.d.cell rfl
          have c6 : wr.cell? ⟨w.heap.size, 6, none⟩ = some (.int .i64 x.d.1) := HQ.out.c.c6
          have c7 : wr.cell? ⟨w.heap.size, 7, none⟩ = some (.int .i64 x.d.2) := HQ.out.c.c7
          have c8 : wr.cell? ⟨w.heap.size, 8, none⟩ = some (.int .i64 x.s.t) := HQ.out.c.c8
          have c9 : wr.cell? ⟨w.heap.size, 9, none⟩ = some (.int .i64 x.s.c) := HQ.out.c.c9
          have c10 : wr.cell? ⟨w.heap.size, 10, none⟩ = some (.int .i64 x.s.r) := HQ.out.c.c10
          have e2 := fun X => (eqlD x.d x.d X).trans (by rw [decide_eq_true rfl] : _ = Result.ok (Value.bool true) X)
          have e3 := fun X => (eqlS x.s x.s X).trans (by rw [decide_eq_true rfl] : _ = Result.ok (Value.bool true) X)
          have hle : decide ((E.l.length : Int) ≤ 1) = true := decide_eq_true (by omega)
          have HB := Lib.hid HQ.out.c.low
          clear HQ MO hgl2 hk
          go_wp2_with fail
          refine (opAwake wr).mono ?_
          rintro v w5 ⟨rfl, hb5⟩
          have H5 := Lib.hid (HB.out.trans (hb5.mono HB.out.size))
          clear hb5
          go_wp2_with fail
          go_ret
          exact ⟨rfl, H5.out⟩
end Go.Proofs.YtmnblpjdiplioaaGreat
