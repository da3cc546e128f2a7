/-
  almonrylaw18: the walk of DeltaReads.
-/
import Derived.Test.YtkodololdjainaaGreatDlLawP
import Derived.Test.YtkodololdjainaaGreatDlRdR
namespace Go.Proofs.YtkodololdjainaaGreat
set_option linter.unusedSimpArgs false
set_option linter.unusedVariables false
set_option maxRecDepth 100000
open Go.RowKit Go.Sort

/-- what lies there: the argument -/
structure RLow (w : World) (e : Dl) (la : Option Addr) (lk : Nat) (ga : Option Addr) (gk : Nat) (U : World) : Prop where
  d : DBlk U w.heap.size e la lk ga gk
  me : DlMem U e la ga
  low : Go.RowKit.Below w.heap.size w U
theorem RLow.below {w : World} {e : Dl} {la : Option Addr} {lk : Nat} {ga : Option Addr} {gk : Nat} {U V : World} (h : RLow w e la lk ga gk U) (hb : Go.RowKit.Below U.heap.size U V) : RLow w e la lk ga gk V :=
  ⟨h.d.keep hb, h.me.below hb, h.low.trans (hb.mono h.low.size)⟩
/-- a delta new in memory -/
def nuD (u : World) (e : Dl) (la : Option Addr) (lk : Nat) (ga : Option Addr) (gk : Nat) : World := (u.alloc (.cells (dlc zDl none 0 none 0) 29)).setRow u.heap.size (dlc e la lk ga gk)
theorem nuD_below (u : World) (e : Dl) (la : Option Addr) (lk : Nat) (ga : Option Addr) (gk : Nat) : Go.RowKit.Below u.heap.size u (nuD u e la lk ga gk) := belowRow (lowA u _) (Nat.le_refl _) _
theorem nuD_blk (u : World) (e : Dl) (la : Option Addr) (lk : Nat) (ga : Option Addr) (gk : Nat) : DBlk (nuD u e la lk ga gk) u.heap.size e la lk ga gk := (Blk.new u 29 (dlc zDl none 0 none 0)).put _
theorem nuD_old (u : World) : ∃ old : Array Value, Blk (u.alloc (.cells (dlc zDl none 0 none 0) 29)) u.heap.size 29 old ∧ old.size = 7 := ⟨_, Blk.new u _ _, rfl⟩

set_option maxHeartbeats 16000000 in
theorem delta_reads_row (s : ByteArray) (e : Dl) (la : Option Addr) (lk : Nat) (ga : Option Addr) (gk : Nat) (w : World) (hs : s.size ≤ maxLen) (he : DeltaArg w e la ga) :
    Calls Tryz.prog 4 #[.string s, .agg (dlc e la lk ga gk)] w fun v w' => v = .returned (.bool true) ∧ Go.RowKit.Below w.heap.size w w' := by
  have hb0 := lowA w (.cells (dlc e la lk ga gk) 29)
  have HK := Lib.hid (Blk.new w 29 (dlc e la lk ga gk))
  have HB := Lib.hid hb0
  have HI := Lib.hid he
  have HFW := Lib.hid (fun W (hb : Go.RowKit.Below w.heap.size w W) => fewDlC e la lk ga gk W (he.facts.2.2.1.below hb) he.facts.2.1 he.facts.2.2.2 he.glen)
  unfold maxLen at hs
  clear he hb0
  by_cases hbig : 5000 < s.size
  · have hbi : decide ((5000 : Int) < (s.size : Int)) = true := by simp; omega
    clear hbig HI HFW
    go_enter Tryz.func4, Tryz.ntmps4
    go_upto_region 1 with fail
    change Code.wp _ _ _ _ (w.alloc (.cells (dlc e la lk ga gk) 29))
    generalize w.alloc (.cells (dlc e la lk ga gk) 29) = W at *
    go_wp2_with fail
    refine (dlAwake W).mono ?_
    rintro v wz ⟨rfl, hb⟩
    have HZ := Lib.hid (HB.out.trans (hb.mono HB.out.size))
    clear hb
    go_wp2_with fail
    go_ret
    exact ⟨rfl, HZ.out⟩
  have hbi : decide ((5000 : Int) < (s.size : Int)) = false := by simp; omega
  have hs5 : s.size ≤ 5000 := by omega
  clear hbig
  cases hfw : fewDl e with
  | false =>
    rw [hfw] at HFW
    clear hfw HI hs5
    go_enter Tryz.func4, Tryz.ntmps4
    go_upto_region 1 with fail
    change Code.wp _ _ _ _ (w.alloc (.cells (dlc e la lk ga gk) 29))
    generalize w.alloc (.cells (dlc e la lk ga gk) 29) = W at *
    go_wp2_with ((with_reducible refine bl_load ?_ 29 (.tmp 3) ?_ w.heap.size 0 (dlc e la lk ga gk) ?_ ?_ Tryz.underlying29 ?_ ?_ ?_); rfl; rfl; rfl; exact HK.out.all; rfl; exact infoD _ _ _ _ _; simp only [Act.put, List.setIfInBounds_toArray, List.set_cons_zero, List.set_cons_succ])
    refine (HFW.out W HB.out).mono ?_
    rintro v w1 ⟨rfl, hb1⟩
    have HB1 := Lib.hid (HB.out.trans (hb1.mono HB.out.size))
    clear hb1
    go_wp2_with fail
    refine (dlAwake w1).mono ?_
    rintro v wz ⟨rfl, hb⟩
    have HZ := Lib.hid (HB1.out.trans (hb.mono HB1.out.size))
    clear hb
    go_wp2_with fail
    go_ret
    exact ⟨rfl, HZ.out⟩
  | true =>
    rw [hfw] at HFW
    have hme := HI.out.mem hfw
    have hte := textOk_of hfw
    have hra := fun W => readDlC s (by omega) (s5_val hs5) W
    have hrb := fun W => readDlR s hs5 W
    have hta := read_ok hs5
    have hput : (readDl rdM s).2 = 0 → putDl rdM (readDl rdM s).1 = (s, 0) := fun h => putDl_read (Prod.ext rfl h)
    have hpe := fun la lk ga gk W hW => putDlC e la lk ga gk W hW hte
    have hrc := fun W => readDlC (putDl rdM e).1 (by have := putDl_size hte; omega) (s5_put (fewDl_ok hfw).1) W
    have hback : (putDl rdM e).2 = 0 → readDl rdM (putDl rdM e).1 = (e, 0) := fun h => readDl_put (Prod.ext rfl h)
    have R0 : Hid (RLow w e la lk ga gk (w.alloc (.cells (dlc e la lk ga gk) 29))) := Lib.hid ⟨HK.out, hme.below HB.out, HB.out⟩
    generalize readDl rdM s = RS at *
    obtain ⟨a, ra⟩ := RS
    generalize putDl rdM e = PE at *
    obtain ⟨c, ce⟩ := PE
    simp only at hra hrb hta hput hpe hrc hback
    generalize readDl rdM c = RC at *
    obtain ⟨dd, di⟩ := RC
    simp only at hrc hback
    have hpa := fun la lk ga gk W hW => putDlC a la lk ga gk W hW hta
    generalize putDl rdM a = PA at *
    obtain ⟨t, te⟩ := PA
    simp only at hpa hput
    have HRA := Lib.hid hra
    have HRB := Lib.hid hrb
    have HPUT := Lib.hid hput
    have HPE := Lib.hid hpe
    have HRC := Lib.hid hrc
    have HBACK := Lib.hid hback
    have HPA := Lib.hid hpa
    clear hfw hme hte hra hrb hta hput hpe hrc hback hpa hs hs5 HI HK
    go_enter Tryz.func4, Tryz.ntmps4
    go_upto_region 1 with fail
    change Code.wp _ _ _ _ (w.alloc (.cells (dlc e la lk ga gk) 29))
    generalize w.alloc (.cells (dlc e la lk ga gk) 29) = W at *
    go_wp2_with ((with_reducible refine bl_load ?_ 29 (.tmp 3) ?_ w.heap.size 0 (dlc e la lk ga gk) ?_ ?_ Tryz.underlying29 ?_ ?_ ?_); rfl; rfl; rfl; exact R0.out.d.all; rfl; exact infoD _ _ _ _ _; simp only [Act.put, List.setIfInBounds_toArray, List.set_cons_zero, List.set_cons_succ])
    refine (HFW.out W R0.out.low).mono ?_
    rintro v w1 ⟨rfl, hb1⟩
    have R1 := Lib.hid (R0.out.below hb1)
    clear hb1 HFW R0 HB
    go_wp2_with fail
    refine (HRA.out w1).mono ?_
    rintro v w2 ⟨⟨l1, k1, p1, q1, rfl, hm2⟩, hb2⟩
    have hn := nuD_below w2 a l1 k1 p1 q1
    have R3 := Lib.hid ((R1.out.below hb2).below hn)
    have A3 := Lib.hid (And.intro (nuD_blk w2 a l1 k1 p1 q1) (hm2.below hn))
    have HO := Lib.hid (nuD_old w2)
    clear hb2 hm2 hn R1 HRA
    go_upto_region 4 with ((with_reducible refine bl_store ?_ 29 (.tmp 5) (.tmp 27) ?_ w2.heap.size (dlc a l1 k1 p1 q1) ?_ ?_ ?_ ?_ ?_ ?_); rfl; rfl; rfl; rfl; exact HO.out; exact infoD _ _ _ _ _; exact dl_one _ _ _ _ _; simp only [Act.put, List.setIfInBounds_toArray, List.set_cons_zero, List.set_cons_succ])
    change Code.wp _ _ _ _ (nuD w2 a l1 k1 p1 q1)
    clear HO
    generalize nuD w2 a l1 k1 p1 q1 = W3 at *
    generalize w2.heap.size = g1 at *
    go_wp2_with fail
    refine (HRB.out W3).mono ?_
    rintro v w4 ⟨⟨l2, k2, p2, q2, rfl, hm4⟩, hb4⟩
    have hn := nuD_below w4 a l2 k2 p2 q2
    have R5 := Lib.hid ((R3.out.below hb4).below hn)
    have A5 := Lib.hid (And.intro ((A3.out.1.keep hb4).keep hn) ((A3.out.2.below hb4).below hn))
    have B5 := Lib.hid (And.intro (nuD_blk w4 a l2 k2 p2 q2) (hm4.below hn))
    have HO := Lib.hid (nuD_old w4)
    clear hb4 hm4 hn R3 A3 HRB
    go_upto_region 5 with ((with_reducible refine bl_store ?_ 29 (.tmp 7) (.tmp 32) ?_ w4.heap.size (dlc a l2 k2 p2 q2) ?_ ?_ ?_ ?_ ?_ ?_); rfl; rfl; rfl; rfl; exact HO.out; exact infoD _ _ _ _ _; exact dl_one _ _ _ _ _; simp only [Act.put, List.setIfInBounds_toArray, List.set_cons_zero, List.set_cons_succ])
    change Code.wp _ _ _ _ (nuD w4 a l2 k2 p2 q2)
    clear HO
    generalize nuD w4 a l2 k2 p2 q2 = W5 at *
    generalize w4.heap.size = g2 at *
    go_wp2_with ((with_reducible refine bl_load ?_ 29 (.tmp 5) ?_ g1 0 (dlc a l1 k1 p1 q1) ?_ ?_ Tryz.underlying29 ?_ ?_ ?_); rfl; rfl; rfl; exact A5.out.1.all; rfl; exact infoD _ _ _ _ _; simp only [Act.put, List.setIfInBounds_toArray, List.set_cons_zero, List.set_cons_succ])
    refine (HPA.out l1 k1 p1 q1 W5 A5.out.2).mono ?_
    rintro v w6 ⟨rfl, hb6⟩
    have R6 := Lib.hid (R5.out.below hb6)
    have A6 := Lib.hid (And.intro (A5.out.1.keep hb6) (A5.out.2.below hb6))
    have B6 := Lib.hid (And.intro (B5.out.1.keep hb6) (B5.out.2.below hb6))
    clear hb6 R5 A5 B5 HPA
    go_wp2_with ((with_reducible refine bl_load ?_ 29 (.tmp 3) ?_ w.heap.size 0 (dlc e la lk ga gk) ?_ ?_ Tryz.underlying29 ?_ ?_ ?_); rfl; rfl; rfl; exact R6.out.d.all; rfl; exact infoD _ _ _ _ _; simp only [Act.put, List.setIfInBounds_toArray, List.set_cons_zero, List.set_cons_succ])
    refine (HPE.out la lk ga gk w6 R6.out.me).mono ?_
    rintro v w7 ⟨rfl, hb7⟩
    have R7 := Lib.hid (R6.out.below hb7)
    have A7 := Lib.hid (And.intro (A6.out.1.keep hb7) (A6.out.2.below hb7))
    have B7 := Lib.hid (And.intro (B6.out.1.keep hb7) (B6.out.2.below hb7))
    clear hb7 R6 A6 B6 HPE
    go_wp2_with fail
    refine (HRC.out w7).mono ?_
    rintro v w8 ⟨⟨ld, lkd, gd, gkd, rfl, hm8⟩, hb8⟩
    have hn := nuD_below w8 dd ld lkd gd gkd
    have R9 := Lib.hid ((R7.out.below hb8).below hn)
    have A9 := Lib.hid (And.intro ((A7.out.1.keep hb8).keep hn) ((A7.out.2.below hb8).below hn))
    have B9 := Lib.hid (And.intro ((B7.out.1.keep hb8).keep hn) ((B7.out.2.below hb8).below hn))
    have C9 := Lib.hid (And.intro (nuD_blk w8 dd ld lkd gd gkd) (hm8.below hn))
    have HO := Lib.hid (nuD_old w8)
    clear hb8 hm8 hn R7 A7 B7 HRC
    go_upto_region 8 with ((with_reducible refine bl_store ?_ 29 (.tmp 13) (.tmp 47) ?_ w8.heap.size (dlc dd ld lkd gd gkd) ?_ ?_ ?_ ?_ ?_ ?_); rfl; rfl; rfl; rfl; exact HO.out; exact infoD _ _ _ _ _; exact dl_one _ _ _ _ _; simp only [Act.put, List.setIfInBounds_toArray, List.set_cons_zero, List.set_cons_succ])
    change Code.wp _ _ _ _ (nuD w8 dd ld lkd gd gkd)
    clear HO
    generalize nuD w8 dd ld lkd gd gkd = W9 at *
    generalize w8.heap.size = g3 at *
    have HS1 := Lib.hid (fun W (h1 : DlMem W a l1 p1) (h2 : DlMem W a l2 p2) => sameDlR a a l1 k1 p1 q1 l2 k2 p2 q2 W h1 h2 true (by simp))
    go_wp2_with (first
      | ((with_reducible refine bl_load ?_ 29 (.tmp 5) ?_ g1 0 (dlc a l1 k1 p1 q1) ?_ ?_ Tryz.underlying29 ?_ ?_ ?_); rfl; rfl; rfl; exact A9.out.1.all; rfl; exact infoD _ _ _ _ _; simp only [Act.put, List.setIfInBounds_toArray, List.set_cons_zero, List.set_cons_succ])
      | ((with_reducible refine bl_load ?_ 29 (.tmp 7) ?_ g2 0 (dlc a l2 k2 p2 q2) ?_ ?_ Tryz.underlying29 ?_ ?_ ?_); rfl; rfl; rfl; exact B9.out.1.all; rfl; exact infoD _ _ _ _ _; simp only [Act.put, List.setIfInBounds_toArray, List.set_cons_zero, List.set_cons_succ]))
    refine (HS1.out W9 A9.out.2 B9.out.2).mono ?_
    rintro v w11 ⟨rfl, hb11⟩
    have R11 := Lib.hid (R9.out.below hb11)
    have C11 := Lib.hid (And.intro (C9.out.1.keep hb11) (C9.out.2.below hb11))
    clear hb11 R9 A9 B9 C9 HS1
    have hEE : (ra == ra) = true := by simp
    have hways : ∃ q r : Bool, ((ra != 0) = q) ∧ ((ce != 0) = r) := ⟨_, _, rfl, rfl⟩
    obtain ⟨q, r, hq, hr⟩ := hways
    have hts : q = false → (t.toList == s.toList) = true ∧ (te == 0) = true := fun hh => by
      have hE0 : ra = 0 := by rw [hh] at hq; simpa using hq
      have h1 := HPUT.out hE0
      obtain ⟨rfl, rfl⟩ := Prod.mk.inj h1
      exact ⟨dself_str _, by simp⟩
    have hdd : r = false → dd = e ∧ di = 0 := fun hh => by
      have hE0 : ce = 0 := by rw [hh] at hr; simpa using hr
      have h1 := HBACK.out hE0
      exact ⟨(Prod.ext_iff.1 h1).1, (Prod.ext_iff.1 h1).2⟩
    clear HPUT HBACK
    cases r with
    | true =>
      clear hdd
      cases q with
      | true =>
        clear hts
        go_wp2_with fail
        refine (dlAwake w11).mono ?_
        rintro v wz ⟨rfl, hb⟩
        have HZ := Lib.hid (R11.out.low.trans (hb.mono R11.out.low.size))
        clear hb
        go_wp2_with fail
        go_ret
        exact ⟨rfl, HZ.out⟩
      | false =>
        obtain ⟨u1, u2⟩ := hts rfl
        clear hts
        go_wp2_with fail
        refine (dlAwake w11).mono ?_
        rintro v wz ⟨rfl, hb⟩
        have HZ := Lib.hid (R11.out.low.trans (hb.mono R11.out.low.size))
        clear hb
        go_wp2_with fail
        go_ret
        exact ⟨rfl, HZ.out⟩
    | false =>
      obtain ⟨hde, hdi⟩ := hdd rfl
      have hde := hde.symm
      subst hde hdi
      clear hdd
      have HS2 := Lib.hid (fun W (h1 : DlMem W e ld gd) (h2 : DlMem W e la ga) => sameDlR e e ld lkd gd gkd la lk ga gk W h1 h2 true (by simp))
      cases q with
      | true =>
        clear hts
        go_wp2_with (first
          | ((with_reducible refine bl_load ?_ 29 (.tmp 13) ?_ g3 0 (dlc e ld lkd gd gkd) ?_ ?_ Tryz.underlying29 ?_ ?_ ?_); rfl; rfl; rfl; exact C11.out.1.all; rfl; exact infoD _ _ _ _ _; simp only [Act.put, List.setIfInBounds_toArray, List.set_cons_zero, List.set_cons_succ])
          | ((with_reducible refine bl_load ?_ 29 (.tmp 3) ?_ w.heap.size 0 (dlc e la lk ga gk) ?_ ?_ Tryz.underlying29 ?_ ?_ ?_); rfl; rfl; rfl; exact R11.out.d.all; rfl; exact infoD _ _ _ _ _; simp only [Act.put, List.setIfInBounds_toArray, List.set_cons_zero, List.set_cons_succ]))
        refine (HS2.out w11 C11.out.2 R11.out.me).mono ?_
        rintro v w12 ⟨rfl, hb12⟩
        have R12 := Lib.hid (R11.out.low.trans (hb12.mono R11.out.low.size))
        clear hb12
        go_wp2_with fail
        refine (dlAwake w12).mono ?_
        rintro v wz ⟨rfl, hb⟩
        have HZ := Lib.hid (R12.out.trans (hb.mono R12.out.size))
        clear hb
        go_wp2_with fail
        go_ret
        exact ⟨rfl, HZ.out⟩
      | false =>
        obtain ⟨u1, u2⟩ := hts rfl
        clear hts
        go_wp2_with (first
          | ((with_reducible refine bl_load ?_ 29 (.tmp 13) ?_ g3 0 (dlc e ld lkd gd gkd) ?_ ?_ Tryz.underlying29 ?_ ?_ ?_); rfl; rfl; rfl; exact C11.out.1.all; rfl; exact infoD _ _ _ _ _; simp only [Act.put, List.setIfInBounds_toArray, List.set_cons_zero, List.set_cons_succ])
          | ((with_reducible refine bl_load ?_ 29 (.tmp 3) ?_ w.heap.size 0 (dlc e la lk ga gk) ?_ ?_ Tryz.underlying29 ?_ ?_ ?_); rfl; rfl; rfl; exact R11.out.d.all; rfl; exact infoD _ _ _ _ _; simp only [Act.put, List.setIfInBounds_toArray, List.set_cons_zero, List.set_cons_succ]))
        refine (HS2.out w11 C11.out.2 R11.out.me).mono ?_
        rintro v w12 ⟨rfl, hb12⟩
        have R12 := Lib.hid (R11.out.low.trans (hb12.mono R11.out.low.size))
        clear hb12
        go_wp2_with fail
        refine (dlAwake w12).mono ?_
        rintro v wz ⟨rfl, hb⟩
        have HZ := Lib.hid (R12.out.trans (hb.mono R12.out.size))
        clear hb
        go_wp2_with fail
        go_ret
        exact ⟨rfl, HZ.out⟩
end Go.Proofs.YtkodololdjainaaGreat
