/-
  delta.Check: the name and the stamp; the facts; what is taken back; all of it.
-/
import Derived.Test.YtkodololdjainaaGreatGDelO
import Derived.Test.YtkodololdjainaaGreatGDelN
import Derived.Test.YtkodololdjainaaGreatGDelD
import Derived.Test.YtkodololdjainaaGreatGDelW
namespace Go.Proofs.YtkodololdjainaaGreat
set_option linter.unusedSimpArgs false
set_option linter.unusedVariables false
set_option maxRecDepth 100000
open Go.RowKit Go.Sort

theorem tchkCb (d : St) (w : World) : Calls Tryz.prog 62 #[.agg #[.int .i64 d.t, .int .i64 d.c, .int .i64 d.r]] w fun e w' => e = .returned (.int .i64 (chkS d)) ∧ Go.RowKit.Below w.heap.size w w' :=
  (tchkC d w).mono fun _ _ ⟨he, hw⟩ => ⟨he, by rw [← hw]; exact boxS_below w d⟩
theorem tchkRb (d : St) (w : World) : Calls Tryz.prog 31 #[.agg #[.int .i64 d.t, .int .i64 d.c, .int .i64 d.r]] w fun e w' => e = .returned (.int .i64 (chkS d)) ∧ Go.RowKit.Below w.heap.size w w' :=
  (tchkR d w).mono fun _ _ ⟨he, hw⟩ => ⟨he, by rw [← hw]; exact boxS_below w d⟩
theorem neqS (a b : St) (W : World) : (binOp .neq 25 (.agg #[.int .i64 a.t, .int .i64 a.c, .int .i64 a.r]) (.agg #[.int .i64 b.t, .int .i64 b.c, .int .i64 b.r])).run Tryz.prog W = .ok (.bool (!decide (a = b))) W := by
  rw [run_neq_struct, eqS]; rfl

set_option maxHeartbeats 4000000 in
theorem headDC (e : Dl) (la : Option Addr) (lk : Nat) (ga : Option Addr) (gk : Nat) (w : World) :
    Calls Tryz.prog 27 #[.agg (dlc e la lk ga gk)] w fun v w' => v = .returned (.int .i64 (hdE e)) ∧ Go.RowKit.Below w.heap.size w w' := by
  have HK := Lib.hid (Blk.new w 29 (dlc e la lk ga gk))
  have HB := Lib.hid (lowA w (.cells (dlc e la lk ga gk) 29))
  have HC := Lib.hid (fun W => checkCb e.d W)
  have HS := Lib.hid (fun W => tchkCb e.s W)
  have HV := Lib.hid (show hdE e = if chkD e.d ≠ 0 then chkD e.d else if chkS e.s ≠ 0 then chkS e.s else if e.d.1 ≠ e.s.r then 5 else 0 from rfl)
  generalize chkD e.d = E1 at *
  generalize chkS e.s = E2 at *
  generalize hdE e = V at *
  go_enter Tryz.func27, Tryz.ntmps27
  go_upto_region 1 with fail
  change Code.wp _ _ _ _ (w.alloc (.cells (dlc e la lk ga gk) 29))
  generalize w.alloc (.cells (dlc e la lk ga gk) 29) = W at *
  have c0 : W.cell? ⟨w.heap.size, 0, none⟩ = some (.int .i64 e.d.1) := HK.out.cell rfl
  have c1 : W.cell? ⟨w.heap.size, 1, none⟩ = some (.int .i64 e.d.2) := HK.out.cell rfl
  go_wp2_with fail
  refine (HC.out W).mono ?_
  rintro v w1 ⟨rfl, hb1⟩
  have HK1 := Lib.hid (HK.out.keep hb1)
  have HB1 := Lib.hid (HB.out.trans (hb1.mono HB.out.size))
  clear hb1 HK HB c0 c1 HC
  by_cases h1 : E1 = 0
  · subst h1
    have c2 : w1.cell? ⟨w.heap.size, 2, none⟩ = some (.int .i64 e.s.t) := HK1.out.cell rfl
    have c3 : w1.cell? ⟨w.heap.size, 3, none⟩ = some (.int .i64 e.s.c) := HK1.out.cell rfl
    have c4 : w1.cell? ⟨w.heap.size, 4, none⟩ = some (.int .i64 e.s.r) := HK1.out.cell rfl
    go_wp2_with fail
    refine (HS.out w1).mono ?_
    rintro v w2 ⟨rfl, hb2⟩
    have HK2 := Lib.hid (HK1.out.keep hb2)
    have HB2 := Lib.hid (HB1.out.trans (hb2.mono HB1.out.size))
    clear hb2 HK1 HB1 c2 c3 c4 HS
    by_cases h2 : E2 = 0
    · subst h2
      have c0 : w2.cell? ⟨w.heap.size, 0, none⟩ = some (.int .i64 e.d.1) := HK2.out.cell rfl
      have c4 : w2.cell? ⟨w.heap.size, 4, none⟩ = some (.int .i64 e.s.r) := HK2.out.cell rfl
      by_cases h3 : e.d.1 = e.s.r
      · have hq : (e.d.1 != e.s.r) = false := by simp [h3]
        have HV2 := Lib.hid (show V = 0 by rw [HV.out]; simp [h3])
        clear h3
        go_wp2_with fail
        go_ret
        exact ⟨by rw [HV2.out]; rfl, HB2.out⟩
      · have hq : (e.d.1 != e.s.r) = true := by simp [h3]
        have HV2 := Lib.hid (show V = 5 by rw [HV.out]; simp [h3])
        clear h3
        go_wp2_with fail
        go_ret
        exact ⟨by rw [HV2.out]; rfl, HB2.out⟩
    · have hne : (E2 != 0) = true := by simp [h2]
      have HV2 := Lib.hid (show V = E2 by rw [HV.out]; simp [h2])
      clear h2
      go_wp2_with fail
      go_ret
      exact ⟨by rw [HV2.out]; rfl, HB2.out⟩
  · have hne : (E1 != 0) = true := by simp [h1]
    have HV2 := Lib.hid (show V = E1 by rw [HV.out]; simp [h1])
    clear h1
    go_wp2_with fail
    go_ret
    exact ⟨by rw [HV2.out]; rfl, HB1.out⟩

set_option maxHeartbeats 4000000 in
theorem goneDC (e : Dl) (la : Option Addr) (lk : Nat) (ga : Option Addr) (gk : Nat) (w : World) (h : DIn w ga e.g) (hl : e.g.length ≤ 65536) :
    Calls Tryz.prog 29 #[.agg (dlc e la lk ga gk)] w fun v w' => v = .returned (.int .i64 (goE e)) ∧ Go.RowKit.Below w.heap.size w w' := by
  have hm : e.g.length ≤ maxLen := Nat.le_trans hl (by simp [maxLen])
  have hb0 := lowA w (.cells (dlc e la lk ga gk) 29)
  have HK := Lib.hid (Blk.new w 29 (dlc e la lk ga gk))
  have HD := Lib.hid (h.below hb0)
  have HB := Lib.hid hb0
  have HC := Lib.hid (fun W hW => chkLC e.g ga gk W hW hm)
  have HH := Lib.hid (fun W hW (hz : Stands e.g) => lhasD e.g e.d ga gk W hW hl hz)
  have HST := Lib.hid (show chkL e.g = 0 → Stands e.g from fun hz => List.Pairwise.imp (fun {_ _} h => ltD_asym h) (chkL_ok hz).2)
  have HV := Lib.hid (show goE e = if chkL e.g ≠ 0 then chkL e.g else if e.d ∈ e.g then 5 else 0 from rfl)
  have hu : (if e.d ∈ e.g then (5 : Int) else 0) = if decide (e.d ∈ e.g) = true then 5 else 0 := by simp
  rw [hu] at HV
  clear h hb0 hm hl hu
  generalize chkL e.g = E1 at *
  generalize decide (e.d ∈ e.g) = u at *
  generalize goE e = V at *
  go_enter Tryz.func29, Tryz.ntmps29
  go_upto_region 1 with fail
  change Code.wp _ _ _ _ (w.alloc (.cells (dlc e la lk ga gk) 29))
  generalize w.alloc (.cells (dlc e la lk ga gk) 29) = W at *
  have c6 : W.cell? ⟨w.heap.size, 6, none⟩ = some (.slice ga e.g.length gk) := HK.out.cell rfl
  go_wp2_with fail
  refine (HC.out W HD.out).mono ?_
  rintro v w1 ⟨rfl, hb1⟩
  have HK1 := Lib.hid (HK.out.keep hb1)
  have HD1 := Lib.hid (HD.out.below hb1)
  have HB1 := Lib.hid (HB.out.trans (hb1.mono HB.out.size))
  clear hb1 HK HB HD c6 HC
  by_cases h1 : E1 = 0
  · subst h1
    have c6 : w1.cell? ⟨w.heap.size, 6, none⟩ = some (.slice ga e.g.length gk) := HK1.out.cell rfl
    have c0 : w1.cell? ⟨w.heap.size, 0, none⟩ = some (.int .i64 e.d.1) := HK1.out.cell rfl
    have c1 : w1.cell? ⟨w.heap.size, 1, none⟩ = some (.int .i64 e.d.2) := HK1.out.cell rfl
    go_wp2_with fail
    refine (HH.out w1 HD1.out (HST.out (by simp))).mono ?_
    rintro v w2 ⟨rfl, hb2⟩
    have HB2 := Lib.hid (HB1.out.trans (hb2.mono HB1.out.size))
    clear hb2 HK1 HB1 c0 c1 c6 HH HD1
    cases u with
    | true =>
      have HV2 := Lib.hid (show V = 5 by rw [HV.out]; simp)
      go_wp2_with fail
      go_ret
      exact ⟨by rw [HV2.out]; rfl, HB2.out⟩
    | false =>
      have HV2 := Lib.hid (show V = 0 by rw [HV.out]; simp)
      go_wp2_with fail
      go_ret
      exact ⟨by rw [HV2.out]; rfl, HB2.out⟩
  · have hne : (E1 != 0) = true := by simp [h1]
    have HV2 := Lib.hid (show V = E1 by rw [HV.out]; simp [h1])
    clear h1
    go_wp2_with fail
    go_ret
    exact ⟨by rw [HV2.out]; rfl, HB1.out⟩

set_option maxHeartbeats 8000000 in
theorem factsDC (e : Dl) (la : Option Addr) (lk : Nat) (ga : Option Addr) (gk : Nat) (w : World) (h : FIn w la e.l) (hl : e.l.length ≤ 65536) (hv : ∀ f ∈ e.l, f.v.size ≤ 5000) :
    Calls Tryz.prog 28 #[.agg (dlc e la lk ga gk)] w fun v w' => v = .returned (.int .i64 (faE e)) ∧ Go.RowKit.Below w.heap.size w w' := by
  have hm : e.l.length ≤ maxLen := Nat.le_trans hl (by simp [maxLen])
  have hb0 := lowA w (.cells (dlc e la lk ga gk) 29)
  have HK := Lib.hid (Blk.new w 29 (dlc e la lk ga gk))
  have HD := Lib.hid (h.below hb0)
  have HB := Lib.hid hb0
  have HC := Lib.hid (fun W hW => chkFsC e.l la lk W hW hm hv)
  have HV := Lib.hid (show faE e = if chkFs rdM e.l ≠ 0 then chkFs rdM e.l else if OwnE e then 0 else 5 from rfl)
  clear h hb0 hm hv
  generalize chkFs rdM e.l = E1 at *
  generalize faE e = V at *
  go_enter Tryz.func28, Tryz.ntmps28
  go_upto_region 1 with fail
  change Code.wp _ _ _ _ (w.alloc (.cells (dlc e la lk ga gk) 29))
  generalize w.alloc (.cells (dlc e la lk ga gk) 29) = W at *
  have c5 : W.cell? ⟨w.heap.size, 5, none⟩ = some (.slice la e.l.length lk) := HK.out.cell rfl
  go_wp2_with fail
  refine (HC.out W HD.out).mono ?_
  rintro v w1 ⟨rfl, hb1⟩
  have HK1 := Lib.hid (HK.out.keep hb1)
  have HD1 := Lib.hid (HD.out.below hb1)
  have HB1 := Lib.hid (HB.out.trans (hb1.mono HB.out.size))
  clear hb1 HK HB HD c5 HC
  by_cases h1 : E1 = 0
  · subst h1
    have c5 : w1.cell? ⟨w.heap.size, 5, none⟩ = some (.slice la e.l.length lk) := HK1.out.cell rfl
    go_wp2_with fail
    go_loopw [15] (fun i wr => ∃ k : Nat, k ≤ e.l.length ∧ i = .int .i64 k ∧ Hid (∀ (j : Nat) (f : Ft), j < k → e.l[j]? = some f → f.d = e.d ∧ f.s = e.s) ∧ Go.RowKit.Below w1.heap.size w1 wr) (fun i _ => e.l.length - (intOf i).toNat)
    case atStart => exact ⟨0, Nat.zero_le _, rfl, Lib.hid (fun j d hj => by omega), Below.refl _ _⟩
    case round =>
      obtain ⟨k, hk, rfl, HKK, hb⟩ := hrel
      have HBr := Lib.hid hb
      have hbs := hb.size
      have HKr := Lib.hid (HK1.out.keep hb)
      clear hb c5
      by_cases hlt : k < e.l.length
      · obtain ⟨f, hf⟩ : ∃ f, e.l[k]? = some f := ⟨_, List.getElem?_eq_getElem hlt⟩
        obtain ⟨b, off, rfl, hbl, r0⟩ := (HD1.out.below HBr.out).at hf
        have R0 := Lib.hid r0
        have hi1 : (k : Int) < (e.l.length : Int) := by omega
        have HF := Lib.hid hf
        have hsz : w.heap.size < wr.heap.size := HKr.out.lt
        have HBz := Lib.hid (HBr.out.trans ((boxZ_below wr f).mono hbs))
        have HKz := Lib.hid (HKr.out.keep (boxZ_below wr f))
        have HZ := Lib.hid (boxZ_row wr f)
        clear r0 hf
        go_upto_region 7 with (first
          | ((with_reducible refine fl_load ?_ (.tmp 17) ?_ b (off + k * 8) f ?_ ?_ ?_); rfl; rfl; rfl; exact R0.out)
          | ((with_reducible refine fl_store ?_ (.tmp 5) (.tmp 18) ?_ wr.heap.size f ?_ ?_ ?_ ?_); rfl; rfl; rfl; rfl; exact boxZ_old wr))
        change Code.wp _ _ _ _ (boxZ wr f)
        generalize boxZ wr f = Z at *
        have z0 : Z.cell? ⟨wr.heap.size, 0, none⟩ = some (.int .i64 f.d.1) := by have h := HZ.out.range 0 _ rfl; rwa [Nat.zero_add] at h
        have z1 : Z.cell? ⟨wr.heap.size, 1, none⟩ = some (.int .i64 f.d.2) := by have h := HZ.out.range 1 _ rfl; rwa [Nat.zero_add] at h
        have z2 : Z.cell? ⟨wr.heap.size, 2, none⟩ = some (.int .i64 f.s.t) := by have h := HZ.out.range 2 _ rfl; rwa [Nat.zero_add] at h
        have z3 : Z.cell? ⟨wr.heap.size, 3, none⟩ = some (.int .i64 f.s.c) := by have h := HZ.out.range 3 _ rfl; rwa [Nat.zero_add] at h
        have z4 : Z.cell? ⟨wr.heap.size, 4, none⟩ = some (.int .i64 f.s.r) := by have h := HZ.out.range 4 _ rfl; rwa [Nat.zero_add] at h
        have k0 : Z.cell? ⟨w.heap.size, 0, none⟩ = some (.int .i64 e.d.1) := HKz.out.cell rfl
        have k1 : Z.cell? ⟨w.heap.size, 1, none⟩ = some (.int .i64 e.d.2) := HKz.out.cell rfl
        have k2 : Z.cell? ⟨w.heap.size, 2, none⟩ = some (.int .i64 e.s.t) := HKz.out.cell rfl
        have k3 : Z.cell? ⟨w.heap.size, 3, none⟩ = some (.int .i64 e.s.c) := HKz.out.cell rfl
        have k4 : Z.cell? ⟨w.heap.size, 4, none⟩ = some (.int .i64 e.s.r) := HKz.out.cell rfl
        have hq1 := fun X => neqD f.d e.d X
        have hq2 := fun X => neqS f.s e.s X
        by_cases h3 : f.d = e.d
        · have hd1 : decide (f.d = e.d) = true := by simp [h3]
          rw [hd1] at hq1
          by_cases h4 : f.s = e.s
          · have hd2 : decide (f.s = e.s) = true := by simp [h4]
            rw [hd2] at hq2
            have HK2 := Lib.hid (show ∀ (j : Nat) (x : Ft), j < k + 1 → e.l[j]? = some x → x.d = e.d ∧ x.s = e.s from fun j x hj hx => by
              rcases Nat.lt_or_ge j k with g1 | g1
              · exact HKK.out j x g1 hx
              · obtain rfl : j = k := by omega
                rw [HF.out] at hx
                obtain rfl := Option.some.inj hx
                exact ⟨h3, h4⟩)
            clear h3 h4 hd1 hd2
            go_wp2_with fail
            go_roundw
            case rel => exact ⟨k + 1, by omega, by go_num, HK2, HBz.out⟩
            case measure => simp [intOf]; omega
          · have hd2 : decide (f.s = e.s) = false := by simp [h4]
            rw [hd2] at hq2
            have HV2 := Lib.hid (show V = 5 by rw [HV.out]; simp only [ne_eq, not_true_eq_false, if_false]; exact if_neg (fun k => h4 (k f (List.mem_of_getElem? HF.out)).2))
            have HZZ := Lib.hid (HB1.out.trans (HBz.out.mono HB1.out.size))
            clear h3 h4 hd1 hd2
            go_wp2_with fail
            go_ret
            exact ⟨by rw [HV2.out]; rfl, HZZ.out⟩
        · have hd1 : decide (f.d = e.d) = false := by simp [h3]
          rw [hd1] at hq1
          have HV2 := Lib.hid (show V = 5 by rw [HV.out]; simp only [ne_eq, not_true_eq_false, if_false]; exact if_neg (fun k => h3 (k f (List.mem_of_getElem? HF.out)).1))
          have HZZ := Lib.hid (HB1.out.trans (HBz.out.mono HB1.out.size))
          clear h3 hd1 hq2
          go_wp2_with fail
          go_ret
          exact ⟨by rw [HV2.out]; rfl, HZZ.out⟩
      · have hi1 : ¬ (k : Int) < (e.l.length : Int) := by omega
        have HV2 := Lib.hid (show V = 0 by
          rw [HV.out]; simp only [ne_eq, not_true_eq_false, if_false]
          exact if_pos (fun f hf => by
            obtain ⟨j, hj, hjf⟩ := List.mem_iff_getElem.1 hf
            exact HKK.out j f (by omega) (by rw [List.getElem?_eq_getElem hj, hjf])))
        have HZZ := Lib.hid (HB1.out.trans (HBr.out.mono HB1.out.size))
        go_wp2_with fail
        go_ret
        exact ⟨by rw [HV2.out]; rfl, HZZ.out⟩
  · have hne : (E1 != 0) = true := by simp [h1]
    have HV2 := Lib.hid (show V = E1 by rw [HV.out]; simp [h1])
    clear h1
    go_wp2_with fail
    go_ret
    exact ⟨by rw [HV2.out]; rfl, HB1.out⟩

set_option maxHeartbeats 8000000 in
theorem chkDC (e : Dl) (la : Option Addr) (lk : Nat) (ga : Option Addr) (gk : Nat) (w : World) (h : DlMem w e la ga) :
    Calls Tryz.prog 9 #[.agg (dlc e la lk ga gk)] w fun v w' => v = .returned (.int .i64 (chkDm e)) ∧ Go.RowKit.Below w.heap.size w w' := by
  have hb0 := lowA w (.cells (dlc e la lk ga gk) 29)
  have HK := Lib.hid (Blk.new w 29 (dlc e la lk ga gk))
  have HM := Lib.hid (h.below hb0)
  have HB := Lib.hid hb0
  have H1 := Lib.hid (fun W => headDC e la lk ga gk W)
  have H2 := Lib.hid (fun W (hW : DlMem W e la ga) => factsDC e la lk ga gk W hW.fin hW.flen hW.val)
  have H3 := Lib.hid (fun W (hW : DlMem W e la ga) => goneDC e la lk ga gk W hW.din hW.glen)
  have HV := Lib.hid (chkDm_of e)
  have HL := Lib.hid (show lastE e = if 256 < e.l.length ∨ 256 < e.g.length then 3 else 0 from rfl)
  generalize chkDm e = V at *
  generalize hdE e = E1 at *
  generalize faE e = E2 at *
  generalize goE e = E3 at *
  generalize lastE e = E4 at *
  clear h hb0
  go_enter Tryz.func9, Tryz.ntmps9
  go_upto_region 1 with fail
  change Code.wp _ _ _ _ (w.alloc (.cells (dlc e la lk ga gk) 29))
  generalize w.alloc (.cells (dlc e la lk ga gk) 29) = W at *
  go_wp2_with ((with_reducible refine bl_load ?_ 29 (.tmp 1) ?_ w.heap.size 0 (dlc e la lk ga gk) ?_ ?_ Tryz.underlying29 ?_ ?_ ?_); rfl; rfl; rfl; exact HK.out.all; rfl; exact infoD _ _ _ _ _; simp only [Act.put, List.setIfInBounds_toArray, List.set_cons_zero, List.set_cons_succ])
  refine (H1.out W).mono ?_
  rintro v w1 ⟨rfl, hb1⟩
  have HK1 := Lib.hid (HK.out.keep hb1)
  have HM1 := Lib.hid (HM.out.below hb1)
  have HB1 := Lib.hid (HB.out.trans (hb1.mono HB.out.size))
  clear hb1 HK HB HM H1
  by_cases h1 : E1 = 0
  · subst h1
    go_wp2_with ((with_reducible refine bl_load ?_ 29 (.tmp 1) ?_ w.heap.size 0 (dlc e la lk ga gk) ?_ ?_ Tryz.underlying29 ?_ ?_ ?_); rfl; rfl; rfl; exact HK1.out.all; rfl; exact infoD _ _ _ _ _; simp only [Act.put, List.setIfInBounds_toArray, List.set_cons_zero, List.set_cons_succ])
    refine (H2.out w1 HM1.out).mono ?_
    rintro v w2 ⟨rfl, hb2⟩
    have HK2 := Lib.hid (HK1.out.keep hb2)
    have HM2 := Lib.hid (HM1.out.below hb2)
    have HB2 := Lib.hid (HB1.out.trans (hb2.mono HB1.out.size))
    clear hb2 HK1 HB1 HM1 H2
    by_cases h2 : E2 = 0
    · subst h2
      go_wp2_with ((with_reducible refine bl_load ?_ 29 (.tmp 1) ?_ w.heap.size 0 (dlc e la lk ga gk) ?_ ?_ Tryz.underlying29 ?_ ?_ ?_); rfl; rfl; rfl; exact HK2.out.all; rfl; exact infoD _ _ _ _ _; simp only [Act.put, List.setIfInBounds_toArray, List.set_cons_zero, List.set_cons_succ])
      refine (H3.out w2 HM2.out).mono ?_
      rintro v w3 ⟨rfl, hb3⟩
      have HK3 := Lib.hid (HK2.out.keep hb3)
      have HB3 := Lib.hid (HB2.out.trans (hb3.mono HB2.out.size))
      clear hb3 HK2 HB2 HM2 H3
      by_cases h3 : E3 = 0
      · subst h3
        have HV3 := Lib.hid (show V = E4 by rw [HV.out]; simp)
        have c5 : w3.cell? ⟨w.heap.size, 5, none⟩ = some (.slice la e.l.length lk) := HK3.out.cell rfl
        have c6 : w3.cell? ⟨w.heap.size, 6, none⟩ = some (.slice ga e.g.length gk) := HK3.out.cell rfl
        by_cases h4 : 256 < e.l.length
        · have hd1 : decide ((256 : Int) < (e.l.length : Int)) = true := by simp; omega
          have HV2 := Lib.hid (show V = 3 by rw [HV3.out, HL.out]; simp [h4])
          clear h4
          go_wp2_with fail
          go_ret
          exact ⟨by rw [HV2.out]; rfl, HB3.out⟩
        · have hd1 : decide ((256 : Int) < (e.l.length : Int)) = false := by simp; omega
          by_cases h5 : 256 < e.g.length
          · have hd2 : decide ((256 : Int) < (e.g.length : Int)) = true := by simp; omega
            have HV2 := Lib.hid (show V = 3 by rw [HV3.out, HL.out]; simp [h5])
            clear h4 h5
            go_wp2_with fail
            go_ret
            exact ⟨by rw [HV2.out]; rfl, HB3.out⟩
          · have hd2 : decide ((256 : Int) < (e.g.length : Int)) = false := by simp; omega
            have HV2 := Lib.hid (show V = 0 by rw [HV3.out, HL.out]; simp [h4, h5])
            clear h4 h5
            go_wp2_with fail
            go_ret
            exact ⟨by rw [HV2.out]; rfl, HB3.out⟩
      · have hne : (E3 != 0) = true := by simp [h3]
        have HV2 := Lib.hid (show V = E3 by rw [HV.out]; simp [h3])
        clear h3
        go_wp2_with fail
        go_ret
        exact ⟨by rw [HV2.out]; rfl, HB3.out⟩
    · have hne : (E2 != 0) = true := by simp [h2]
      have HV2 := Lib.hid (show V = E2 by rw [HV.out]; simp [h2])
      clear h2
      go_wp2_with fail
      go_ret
      exact ⟨by rw [HV2.out]; rfl, HB2.out⟩
  · have hne : (E1 != 0) = true := by simp [h1]
    have HV2 := Lib.hid (show V = E1 by rw [HV.out]; simp [h1])
    clear h1
    go_wp2_with fail
    go_ret
    exact ⟨by rw [HV2.out]; rfl, HB1.out⟩
end Go.Proofs.YtkodololdjainaaGreat
