/-
  delta.Check: the name and the stamp; the facts; what is taken back; all of it.
  Check, the document's.
-/
import Derived.Test.YtmnblpjdiplioaaGreatGOp22
import Derived.Test.YtmnblpjdiplioaaGreatGOp11
import Derived.Test.YtmnblpjdiplioaaGreatGOp20
import Derived.Test.YtmnblpjdiplioaaGreatLstHasD
import Derived.Test.YtmnblpjdiplioaaGreatGOp09
namespace Go.Proofs.YtmnblpjdiplioaaGreat
set_option linter.unusedSimpArgs false
set_option linter.unusedVariables false
set_option maxRecDepth 100000
open Go.RowKit Go.Sort

theorem tchkCb (d : St) (w : World) : Calls Tryz.prog 86 #[.agg #[.int .i64 d.t, .int .i64 d.c, .int .i64 d.r]] w fun e w' => e = .returned (.int .i64 (chkS d)) ∧ Go.RowKit.Below w.heap.size w w' :=
  (tchkC d w).mono fun _ _ ⟨he, hw⟩ => ⟨he, by rw [← hw]; exact boxS_below w d⟩
theorem tchkRb (d : St) (w : World) : Calls Tryz.prog 62 #[.agg #[.int .i64 d.t, .int .i64 d.c, .int .i64 d.r]] w fun e w' => e = .returned (.int .i64 (chkS d)) ∧ Go.RowKit.Below w.heap.size w w' :=
  (tchkR d w).mono fun _ _ ⟨he, hw⟩ => ⟨he, by rw [← hw]; exact boxS_below w d⟩
theorem neqSt (a b : St) (W : World) : (binOp .neq 38 (.agg #[.int .i64 a.t, .int .i64 a.c, .int .i64 a.r]) (.agg #[.int .i64 b.t, .int .i64 b.c, .int .i64 b.r])).run Tryz.prog W = .ok (.bool (!decide (a = b))) W := by
  rw [run_neq_struct, eqS]; rfl

set_option maxHeartbeats 4000000 in
theorem headDC (e : Dl) (la : Option Addr) (lk : Nat) (ga : Option Addr) (gk : Nat) (w : World) :
    Calls Tryz.prog 57 #[.agg (dlc e la lk ga gk)] w fun v w' => v = .returned (.int .i64 (hdE e)) ∧ Go.RowKit.Below w.heap.size w w' := by
  have HK := Lib.hid (Blk.new w 43 (dlc e la lk ga gk))
  have HB := Lib.hid (lowA w (.cells (dlc e la lk ga gk) 43))
  have HC := Lib.hid (fun W => checkCb e.d W)
  have HS := Lib.hid (fun W => tchkCb e.s W)
  have HV := Lib.hid (show hdE e = if chkD e.d ≠ 0 then chkD e.d else if chkS e.s ≠ 0 then chkS e.s else if e.d.1 ≠ e.s.r then 5 else 0 from rfl)
  generalize chkD e.d = E1 at *
  generalize chkS e.s = E2 at *
  generalize hdE e = V at *
  go_enter Tryz.func57, Tryz.ntmps57
  go_upto_region 1 with fail
  change Code.wp _ _ _ _ (w.alloc (.cells (dlc e la lk ga gk) 43))
  generalize w.alloc (.cells (dlc e la lk ga gk) 43) = W at *
  have c0 : W.cell? ⟨w.heap.size, 0, none⟩ = some (.int .i64 e.d.1) := HK.out.cell rfl
  have c1 : W.cell? ⟨w.heap.size, 1, none⟩ = some (.int .i64 e.d.2) := HK.out.cell rfl
  go_wp2_with fail
  refine (HC.out W).mono ?_
  rintro v w1 ⟨rfl, hb1⟩
  have HK1 := Lib.hid (HK.out.keep hb1)
  have HB1 := Lib.hid (HB.out.trans (hb1.mono HB.out.size))
  clear hb1 HK HB c0 c1 HC
  by_cases h1 : E1 = 0
  · subst h1
    have c2 : w1.cell? ⟨w.heap.size, 2, none⟩ = some (.int .i64 e.s.t) := HK1.out.cell rfl
    have c3 : w1.cell? ⟨w.heap.size, 3, none⟩ = some (.int .i64 e.s.c) := HK1.out.cell rfl
    have c4 : w1.cell? ⟨w.heap.size, 4, none⟩ = some (.int .i64 e.s.r) := HK1.out.cell rfl
    go_wp2_with fail
    refine (HS.out w1).mono ?_
    rintro v w2 ⟨rfl, hb2⟩
    have HK2 := Lib.hid (HK1.out.keep hb2)
    have HB2 := Lib.hid (HB1.out.trans (hb2.mono HB1.out.size))
    clear hb2 HK1 HB1 c2 c3 c4 HS
    by_cases h2 : E2 = 0
    · subst h2
      have c0 : w2.cell? ⟨w.heap.size, 0, none⟩ = some (.int .i64 e.d.1) := HK2.out.cell rfl
      have c4 : w2.cell? ⟨w.heap.size, 4, none⟩ = some (.int .i64 e.s.r) := HK2.out.cell rfl
      by_cases h3 : e.d.1 = e.s.r
      · have hq : (e.d.1 != e.s.r) = false := by simp [h3]
        have HV2 := Lib.hid (show V = 0 by rw [HV.out]; simp [h3])
        clear h3
        go_wp2_with fail
        go_ret
        exact ⟨by rw [HV2.out]; rfl, HB2.out⟩
      · have hq : (e.d.1 != e.s.r) = true := by simp [h3]
        have HV2 := Lib.hid (show V = 5 by rw [HV.out]; simp [h3])
        clear h3
        go_wp2_with fail
        go_ret
        exact ⟨by rw [HV2.out]; rfl, HB2.out⟩
    · have hne : (E2 != 0) = true := by simp [h2]
      have HV2 := Lib.hid (show V = E2 by rw [HV.out]; simp [h2])
      clear h2
      go_wp2_with fail
      go_ret
      exact ⟨by rw [HV2.out]; rfl, HB2.out⟩
  · have hne : (E1 != 0) = true := by simp [h1]
    have HV2 := Lib.hid (show V = E1 by rw [HV.out]; simp [h1])
    clear h1
    go_wp2_with fail
    go_ret
    exact ⟨by rw [HV2.out]; rfl, HB1.out⟩

set_option maxHeartbeats 4000000 in
theorem goneDC (e : Dl) (la : Option Addr) (lk : Nat) (ga : Option Addr) (gk : Nat) (w : World) (h : DIn w ga e.g) (hl : e.g.length ≤ 65536) :
    Calls Tryz.prog 59 #[.agg (dlc e la lk ga gk)] w fun v w' => v = .returned (.int .i64 (goE e)) ∧ Go.RowKit.Below w.heap.size w w' := by
  have hm : e.g.length ≤ maxLen := Nat.le_trans hl (by simp [maxLen])
  have hb0 := lowA w (.cells (dlc e la lk ga gk) 43)
  have HK := Lib.hid (Blk.new w 43 (dlc e la lk ga gk))
  have HD := Lib.hid (h.below hb0)
  have HB := Lib.hid hb0
  have HC := Lib.hid (fun W hW => chkLC e.g ga gk W hW hm)
  have HH := Lib.hid (fun W hW (hz : Stands e.g) => lhasD e.g e.d ga gk W hW hl hz)
  have HST := Lib.hid (show chkL e.g = 0 → Stands e.g from fun hz => List.Pairwise.imp (fun {_ _} h => ltD_asym h) (chkL_ok hz).2)
  have HV := Lib.hid (show goE e = if chkL e.g ≠ 0 then chkL e.g else if e.d ∈ e.g then 5 else 0 from rfl)
  have hu : (if e.d ∈ e.g then (5 : Int) else 0) = if decide (e.d ∈ e.g) = true then 5 else 0 := by simp
  rw [hu] at HV
  clear h hb0 hm hl hu
  generalize chkL e.g = E1 at *
  generalize decide (e.d ∈ e.g) = u at *
  generalize goE e = V at *
  go_enter Tryz.func59, Tryz.ntmps59
  go_upto_region 1 with fail
  change Code.wp _ _ _ _ (w.alloc (.cells (dlc e la lk ga gk) 43))
  generalize w.alloc (.cells (dlc e la lk ga gk) 43) = W at *
  have c6 : W.cell? ⟨w.heap.size, 6, none⟩ = some (.slice ga e.g.length gk) := HK.out.cell rfl
  go_wp2_with fail
  refine (HC.out W HD.out).mono ?_
  rintro v w1 ⟨rfl, hb1⟩
  have HK1 := Lib.hid (HK.out.keep hb1)
  have HD1 := Lib.hid (HD.out.below hb1)
  have HB1 := Lib.hid (HB.out.trans (hb1.mono HB.out.size))
  clear hb1 HK HB HD c6 HC
  by_cases h1 : E1 = 0
  · subst h1
    have c6 : w1.cell? ⟨w.heap.size, 6, none⟩ = some (.slice ga e.g.length gk) := HK1.out.cell rfl
    have c0 : w1.cell? ⟨w.heap.size, 0, none⟩ = some (.int .i64 e.d.1) := HK1.out.cell rfl
    have c1 : w1.cell? ⟨w.heap.size, 1, none⟩ = some (.int .i64 e.d.2) := HK1.out.cell rfl
    go_wp2_with fail
    refine (HH.out w1 HD1.out (HST.out (by simp))).mono ?_
    rintro v w2 ⟨rfl, hb2⟩
    have HB2 := Lib.hid (HB1.out.trans (hb2.mono HB1.out.size))
    clear hb2 HK1 HB1 c0 c1 c6 HH HD1
    cases u with
    | true =>
      have HV2 := Lib.hid (show V = 5 by rw [HV.out]; simp)
      go_wp2_with fail
      go_ret
      exact ⟨by rw [HV2.out]; rfl, HB2.out⟩
    | false =>
      have HV2 := Lib.hid (show V = 0 by rw [HV.out]; simp)
      go_wp2_with fail
      go_ret
      exact ⟨by rw [HV2.out]; rfl, HB2.out⟩
  · have hne : (E1 != 0) = true := by simp [h1]
    have HV2 := Lib.hid (show V = E1 by rw [HV.out]; simp [h1])
    clear h1
    go_wp2_with fail
    go_ret
    exact ⟨by rw [HV2.out]; rfl, HB1.out⟩

set_option maxHeartbeats 8000000 in
theorem factsDC (e : Dl) (la : Option Addr) (lk : Nat) (ga : Option Addr) (gk : Nat) (w : World) (h : FIn w la e.l) (hl : e.l.length ≤ 65536) (hv : ∀ f ∈ e.l, f.v.size ≤ 5000) :
    Calls Tryz.prog 58 #[.agg (dlc e la lk ga gk)] w fun v w' => v = .returned (.int .i64 (faE e)) ∧ Go.RowKit.Below w.heap.size w w' := by
  have hm : e.l.length ≤ maxLen := Nat.le_trans hl (by simp [maxLen])
  have hb0 := lowA w (.cells (dlc e la lk ga gk) 43)
  have HK := Lib.hid (Blk.new w 43 (dlc e la lk ga gk))
  have HD := Lib.hid (h.below hb0)
  have HB := Lib.hid hb0
  have HC := Lib.hid (fun W hW => chkFsC e.l la lk W hW hm hv)
  have HV := Lib.hid (show faE e = if chkFs rdM e.l ≠ 0 then chkFs rdM e.l else if OwnE e then 0 else 5 from rfl)
  clear h hb0 hm hv
  generalize chkFs rdM e.l = E1 at *
  generalize faE e = V at *
  go_enter Tryz.func58, Tryz.ntmps58
  go_upto_region 1 with fail
  change Code.wp _ _ _ _ (w.alloc (.cells (dlc e la lk ga gk) 43))
  generalize w.alloc (.cells (dlc e la lk ga gk) 43) = W at *
  have c5 : W.cell? ⟨w.heap.size, 5, none⟩ = some (.slice la e.l.length lk) := HK.out.cell rfl
  go_wp2_with fail
  refine (HC.out W HD.out).mono ?_
  rintro v w1 ⟨rfl, hb1⟩
  have HK1 := Lib.hid (HK.out.keep hb1)
  have HD1 := Lib.hid (HD.out.below hb1)
  have HB1 := Lib.hid (HB.out.trans (hb1.mono HB.out.size))
  clear hb1 HK HB HD c5 HC
  by_cases h1 : E1 = 0
  · subst h1
    have c5 : w1.cell? ⟨w.heap.size, 5, none⟩ = some (.slice la e.l.length lk) := HK1.out.cell rfl
    go_wp2_with fail
    go_loopw [15] (fun i wr => ∃ k : Nat, k ≤ e.l.length ∧ i = .int .i64 k ∧ Hid (∀ (j : Nat) (f : Ft), j < k → e.l[j]? = some f → f.d = e.d ∧ f.s = e.s) ∧ Go.RowKit.Below w1.heap.size w1 wr) (fun i _ => e.l.length - (intOf i).toNat)
    case atStart => exact ⟨0, Nat.zero_le _, rfl, Lib.hid (fun j d hj => by omega), Below.refl _ _⟩
    case round =>
      obtain ⟨k, hk, rfl, HKK, hb⟩ := hrel
      have HBr := Lib.hid hb
      have hbs := hb.size
      have HKr := Lib.hid (HK1.out.keep hb)
      clear hb c5
      by_cases hlt : k < e.l.length
      · obtain ⟨f, hf⟩ : ∃ f, e.l[k]? = some f := ⟨_, List.getElem?_eq_getElem hlt⟩
        obtain ⟨b, off, rfl, hbl, r0⟩ := (HD1.out.below HBr.out).at hf
        have R0 := Lib.hid r0
        have hi1 : (k : Int) < (e.l.length : Int) := by omega
        have HF := Lib.hid hf
        have hsz : w.heap.size < wr.heap.size := HKr.out.lt
        have HBz := Lib.hid (HBr.out.trans ((boxZ_below wr f).mono hbs))
        have HKz := Lib.hid (HKr.out.keep (boxZ_below wr f))
        have HZ := Lib.hid (boxZ_row wr f)
        clear r0 hf
        go_upto_region 7 with (first
          | ((with_reducible refine fl_load ?_ (.tmp 17) ?_ b (off + k * 8) f ?_ ?_ ?_); rfl; rfl; rfl; exact R0.out)
          | ((with_reducible refine fl_store ?_ (.tmp 5) (.tmp 18) ?_ wr.heap.size f ?_ ?_ ?_ ?_); rfl; rfl; rfl; rfl; exact boxZ_old wr))
        change Code.wp _ _ _ _ (boxZ wr f)
        generalize boxZ wr f = Z at *
        have z0 : Z.cell? ⟨wr.heap.size, 0, none⟩ = some (.int .i64 f.d.1) := by have h := HZ.out.range 0 _ rfl; rwa [Nat.zero_add] at h
        have z1 : Z.cell? ⟨wr.heap.size, 1, none⟩ = some (.int .i64 f.d.2) := by have h := HZ.out.range 1 _ rfl; rwa [Nat.zero_add] at h
        have z2 : Z.cell? ⟨wr.heap.size, 2, none⟩ = some (.int .i64 f.s.t) := by have h := HZ.out.range 2 _ rfl; rwa [Nat.zero_add] at h
        have z3 : Z.cell? ⟨wr.heap.size, 3, none⟩ = some (.int .i64 f.s.c) := by have h := HZ.out.range 3 _ rfl; rwa [Nat.zero_add] at h
        have z4 : Z.cell? ⟨wr.heap.size, 4, none⟩ = some (.int .i64 f.s.r) := by have h := HZ.out.range 4 _ rfl; rwa [Nat.zero_add] at h
        have k0 : Z.cell? ⟨w.heap.size, 0, none⟩ = some (.int .i64 e.d.1) := HKz.out.cell rfl
        have k1 : Z.cell? ⟨w.heap.size, 1, none⟩ = some (.int .i64 e.d.2) := HKz.out.cell rfl
        have k2 : Z.cell? ⟨w.heap.size, 2, none⟩ = some (.int .i64 e.s.t) := HKz.out.cell rfl
        have k3 : Z.cell? ⟨w.heap.size, 3, none⟩ = some (.int .i64 e.s.c) := HKz.out.cell rfl
        have k4 : Z.cell? ⟨w.heap.size, 4, none⟩ = some (.int .i64 e.s.r) := HKz.out.cell rfl
        have hq1 := fun X => neqD f.d e.d X
        have hq2 := fun X => neqSt f.s e.s X
        by_cases h3 : f.d = e.d
        · have hd1 : decide (f.d = e.d) = true := by simp [h3]
          rw [hd1] at hq1
          by_cases h4 : f.s = e.s
          · have hd2 : decide (f.s = e.s) = true := by simp [h4]
            rw [hd2] at hq2
            have HK2 := Lib.hid (show ∀ (j : Nat) (x : Ft), j < k + 1 → e.l[j]? = some x → x.d = e.d ∧ x.s = e.s from fun j x hj hx => by
              rcases Nat.lt_or_ge j k with g1 | g1
              · exact HKK.out j x g1 hx
              · obtain rfl : j = k := by omega
                rw [HF.out] at hx
                obtain rfl := Option.some.inj hx
                exact ⟨h3, h4⟩)
            clear h3 h4 hd1 hd2
            go_wp2_with fail
            go_roundw
            case rel => exact ⟨k + 1, by omega, by go_num, HK2, HBz.out⟩
            case measure => simp [intOf]; omega
          · have hd2 : decide (f.s = e.s) = false := by simp [h4]
            rw [hd2] at hq2
            have HV2 := Lib.hid (show V = 5 by rw [HV.out]; simp only [ne_eq, not_true_eq_false, if_false]; exact if_neg (fun k => h4 (k f (List.mem_of_getElem? HF.out)).2))
            have HZZ := Lib.hid (HB1.out.trans (HBz.out.mono HB1.out.size))
            clear h3 h4 hd1 hd2
            go_wp2_with fail
            go_ret
            exact ⟨by rw [HV2.out]; rfl, HZZ.out⟩
        · have hd1 : decide (f.d = e.d) = false := by simp [h3]
          rw [hd1] at hq1
          have HV2 := Lib.hid (show V = 5 by rw [HV.out]; simp only [ne_eq, not_true_eq_false, if_false]; exact if_neg (fun k => h3 (k f (List.mem_of_getElem? HF.out)).1))
          have HZZ := Lib.hid (HB1.out.trans (HBz.out.mono HB1.out.size))
          clear h3 hd1 hq2
          go_wp2_with fail
          go_ret
          exact ⟨by rw [HV2.out]; rfl, HZZ.out⟩
      · have hi1 : ¬ (k : Int) < (e.l.length : Int) := by omega
        have HV2 := Lib.hid (show V = 0 by
          rw [HV.out]; simp only [ne_eq, not_true_eq_false, if_false]
          exact if_pos (fun f hf => by
            obtain ⟨j, hj, hjf⟩ := List.mem_iff_getElem.1 hf
            exact HKK.out j f (by omega) (by rw [List.getElem?_eq_getElem hj, hjf])))
        have HZZ := Lib.hid (HB1.out.trans (HBr.out.mono HB1.out.size))
        go_wp2_with fail
        go_ret
        exact ⟨by rw [HV2.out]; rfl, HZZ.out⟩
  · have hne : (E1 != 0) = true := by simp [h1]
    have HV2 := Lib.hid (show V = E1 by rw [HV.out]; simp [h1])
    clear h1
    go_wp2_with fail
    go_ret
    exact ⟨by rw [HV2.out]; rfl, HB1.out⟩

set_option maxHeartbeats 8000000 in
theorem chkDC (e : Dl) (la : Option Addr) (lk : Nat) (ga : Option Addr) (gk : Nat) (w : World) (h : DlMem w e la ga) :
    Calls Tryz.prog 35 #[.agg (dlc e la lk ga gk)] w fun v w' => v = .returned (.int .i64 (chkDm e)) ∧ Go.RowKit.Below w.heap.size w w' := by
  have hb0 := lowA w (.cells (dlc e la lk ga gk) 43)
  have HK := Lib.hid (Blk.new w 43 (dlc e la lk ga gk))
  have HM := Lib.hid (h.below hb0)
  have HB := Lib.hid hb0
  have H1 := Lib.hid (fun W => headDC e la lk ga gk W)
  have H2 := Lib.hid (fun W (hW : DlMem W e la ga) => factsDC e la lk ga gk W hW.fin hW.flen hW.val)
  have H3 := Lib.hid (fun W (hW : DlMem W e la ga) => goneDC e la lk ga gk W hW.din hW.glen)
  have HV := Lib.hid (chkDm_of e)
  have HL := Lib.hid (show lastE e = if 256 < e.l.length ∨ 256 < e.g.length then 3 else 0 from rfl)
  generalize chkDm e = V at *
  generalize hdE e = E1 at *
  generalize faE e = E2 at *
  generalize goE e = E3 at *
  generalize lastE e = E4 at *
  clear h hb0
  go_enter Tryz.func35, Tryz.ntmps35
  go_upto_region 1 with fail
  change Code.wp _ _ _ _ (w.alloc (.cells (dlc e la lk ga gk) 43))
  generalize w.alloc (.cells (dlc e la lk ga gk) 43) = W at *
  go_wp2_with ((with_reducible refine bl_load ?_ 43 (.tmp 1) ?_ w.heap.size 0 (dlc e la lk ga gk) ?_ ?_ Tryz.underlying43 ?_ ?_ ?_); rfl; rfl; rfl; exact HK.out.all; rfl; exact infoD _ _ _ _ _; simp only [Act.put, List.setIfInBounds_toArray, List.set_cons_zero, List.set_cons_succ])
  refine (H1.out W).mono ?_
  rintro v w1 ⟨rfl, hb1⟩
  have HK1 := Lib.hid (HK.out.keep hb1)
  have HM1 := Lib.hid (HM.out.below hb1)
  have HB1 := Lib.hid (HB.out.trans (hb1.mono HB.out.size))
  clear hb1 HK HB HM H1
  by_cases h1 : E1 = 0
  · subst h1
    go_wp2_with ((with_reducible refine bl_load ?_ 43 (.tmp 1) ?_ w.heap.size 0 (dlc e la lk ga gk) ?_ ?_ Tryz.underlying43 ?_ ?_ ?_); rfl; rfl; rfl; exact HK1.out.all; rfl; exact infoD _ _ _ _ _; simp only [Act.put, List.setIfInBounds_toArray, List.set_cons_zero, List.set_cons_succ])
    refine (H2.out w1 HM1.out).mono ?_
    rintro v w2 ⟨rfl, hb2⟩
    have HK2 := Lib.hid (HK1.out.keep hb2)
    have HM2 := Lib.hid (HM1.out.below hb2)
    have HB2 := Lib.hid (HB1.out.trans (hb2.mono HB1.out.size))
    clear hb2 HK1 HB1 HM1 H2
    by_cases h2 : E2 = 0
    · subst h2
      go_wp2_with ((with_reducible refine bl_load ?_ 43 (.tmp 1) ?_ w.heap.size 0 (dlc e la lk ga gk) ?_ ?_ Tryz.underlying43 ?_ ?_ ?_); rfl; rfl; rfl; exact HK2.out.all; rfl; exact infoD _ _ _ _ _; simp only [Act.put, List.setIfInBounds_toArray, List.set_cons_zero, List.set_cons_succ])
      refine (H3.out w2 HM2.out).mono ?_
      rintro v w3 ⟨rfl, hb3⟩
      have HK3 := Lib.hid (HK2.out.keep hb3)
      have HB3 := Lib.hid (HB2.out.trans (hb3.mono HB2.out.size))
      clear hb3 HK2 HB2 HM2 H3
      by_cases h3 : E3 = 0
      · subst h3
        have HV3 := Lib.hid (show V = E4 by rw [HV.out]; simp)
        have c5 : w3.cell? ⟨w.heap.size, 5, none⟩ = some (.slice la e.l.length lk) := HK3.out.cell rfl
        have c6 : w3.cell? ⟨w.heap.size, 6, none⟩ = some (.slice ga e.g.length gk) := HK3.out.cell rfl
        by_cases h4 : 256 < e.l.length
        · have hd1 : decide ((256 : Int) < (e.l.length : Int)) = true := by simp; omega
          have HV2 := Lib.hid (show V = 3 by rw [HV3.out, HL.out]; simp [h4])
          clear h4
          go_wp2_with fail
          go_ret
          exact ⟨by rw [HV2.out]; rfl, HB3.out⟩
        · have hd1 : decide ((256 : Int) < (e.l.length : Int)) = false := by simp; omega
          by_cases h5 : 256 < e.g.length
          · have hd2 : decide ((256 : Int) < (e.g.length : Int)) = true := by simp; omega
            have HV2 := Lib.hid (show V = 3 by rw [HV3.out, HL.out]; simp [h5])
            clear h4 h5
            go_wp2_with fail
            go_ret
            exact ⟨by rw [HV2.out]; rfl, HB3.out⟩
          · have hd2 : decide ((256 : Int) < (e.g.length : Int)) = false := by simp; omega
            have HV2 := Lib.hid (show V = 0 by rw [HV3.out, HL.out]; simp [h4, h5])
            clear h4 h5
            go_wp2_with fail
            go_ret
            exact ⟨by rw [HV2.out]; rfl, HB3.out⟩
      · have hne : (E3 != 0) = true := by simp [h3]
        have HV2 := Lib.hid (show V = E3 by rw [HV.out]; simp [h3])
        clear h3
        go_wp2_with fail
        go_ret
        exact ⟨by rw [HV2.out]; rfl, HB3.out⟩
    · have hne : (E2 != 0) = true := by simp [h2]
      have HV2 := Lib.hid (show V = E2 by rw [HV.out]; simp [h2])
      clear h2
      go_wp2_with fail
      go_ret
      exact ⟨by rw [HV2.out]; rfl, HB2.out⟩
  · have hne : (E1 != 0) = true := by simp [h1]
    have HV2 := Lib.hid (show V = E1 by rw [HV.out]; simp [h1])
    clear h1
    go_wp2_with fail
    go_ret
    exact ⟨by rw [HV2.out]; rfl, HB1.out⟩
end Go.Proofs.YtmnblpjdiplioaaGreat

namespace Go.Proofs.YtmnblpjdiplioaaGreat
open Go.RowKit Go.Sort

set_option maxHeartbeats 4000000 in
set_option maxRecDepth 100000 in
theorem checkMR (m : Man) (a : Option Addr) (cap : Nat) (w : World) (h : MArg w m a) :
    Calls Tryz.prog 72 #[mv m (.slice a m.ids.length cap)] w fun e w' => e = .returned (.int .i64 (manE m)) ∧ Below w.heap.size w w' := by
  obtain ⟨hbx, hbw⟩ := box_man w m (.slice a m.ids.length cap)
  have ha := h.below hbw
  have hlen := h.len
  obtain ⟨z, c, ids⟩ := m
  have h0 := hbx.c0
  have h1 := hbx.c1
  have h2 := hbx.c2
  simp only at h0 h1 h2 hlen
  by_cases hc : c < 1
  · have e : manE ⟨z, c, ids⟩ = 2 := by unfold manE; rw [if_pos (.inl (by simp only; omega))]
    rw [e]
    have hd : decide (c < 1) = true := decide_eq_true hc
    have HB := Lib.hid hbw
    clear hbx hbw ha h e hc
    go_enter Tryz.func72, Tryz.ntmps72
    go_wp2_with fail
    go_ret
    exact ⟨rfl, HB.out⟩
  have hdc : decide (c < 1) = false := decide_eq_false hc
  by_cases hc2 : 4096 < c
  · have e : manE ⟨z, c, ids⟩ = 2 := by unfold manE; rw [if_pos (.inl (by simp only; omega))]
    rw [e]
    have hd : decide (4096 < c) = true := decide_eq_true hc2
    have HB := Lib.hid hbw
    clear hbx hbw ha h e hc hc2
    go_enter Tryz.func72, Tryz.ntmps72
    go_wp2_with fail
    go_ret
    exact ⟨rfl, HB.out⟩
  have hdc2 : decide (4096 < c) = false := decide_eq_false hc2
  by_cases hz : z < 0
  · have e : manE ⟨z, c, ids⟩ = 2 := by unfold manE; rw [if_pos (.inr (.inl hz))]
    rw [e]
    have hd : decide (z < 0) = true := decide_eq_true hz
    have HB := Lib.hid hbw
    clear hbx hbw ha h e hc hc2 hz
    go_enter Tryz.func72, Tryz.ntmps72
    go_wp2_with fail
    go_ret
    exact ⟨rfl, HB.out⟩
  have hdz : decide (z < 0) = false := decide_eq_false hz
  by_cases hz2 : 32768 < z
  · have e : manE ⟨z, c, ids⟩ = 2 := by unfold manE; rw [if_pos (.inr (.inr hz2))]
    rw [e]
    have hd : decide (32768 < z) = true := decide_eq_true hz2
    have HB := Lib.hid hbw
    clear hbx hbw ha h e hc hc2 hz hz2
    go_enter Tryz.func72, Tryz.ntmps72
    go_wp2_with fail
    go_ret
    exact ⟨rfl, HB.out⟩
  have hdz2 : decide (32768 < z) = false := decide_eq_false hz2
  obtain ⟨zn, rfl⟩ : ∃ n : Nat, z = n := ⟨z.toNat, by omega⟩
  obtain ⟨cn, rfl⟩ : ∃ n : Nat, c = n := ⟨c.toNat, by omega⟩
  have hk := hbx.lt
  have e0 : manE ⟨(zn : Int), (cn : Int), ids⟩ = if ids.length ≠ nP zn cn ∨ ¬(∀ s ∈ ids, ckE s = 0) then 5 else if 4096 < ids.length then 3 else 0 := by
    unfold manE
    simp only [Int.toNat_natCast]
    rw [if_neg (by omega)]
  have hcn1 : 1 ≤ cn := by omega
  have hcn2 : cn ≤ 4096 := by omega
  have hzn : zn ≤ 32768 := by omega
  have E0 := Lib.hid e0
  have HB := Lib.hid hbw
  have HA := Lib.hid ha
  clear e0 hc hc2 hz hz2 h hbw ha
  go_enter Tryz.func72, Tryz.ntmps72
  go_upto_region 3 with fail
  generalize w.alloc (.cells #[.int .i64 (zn : Int), .int .i64 (cn : Int), .slice a ids.length cap] 86) = w1 at *
  have r0 := fun d os => cell_regrown h0 d os
  have r1 := fun d os => cell_regrown h1 d os
  have r2 := fun d os => cell_regrown h2 d os
  have cN := fun d os => Calls.regrown_of ((manyR zn cn (by omega) hcn1 hcn2 (grow (redrawn w1 d) os)).mono fun e w' ⟨he, hw⟩ => ⟨he, hw ▸ Below.refl _ _⟩)
  have HN := Lib.hid cN
  clear cN h0 h1
  generalize nP zn cn = N at *
  by_cases hN : ids.length = N
  case neg =>
    have hdn : ((ids.length : Int) != (N : Int)) = true := by simp; omega
    have EE : manE ⟨(zn : Int), (cn : Int), ids⟩ = 5 := by rw [E0.out, if_pos (.inl hN)]
    clear hN E0
    refine wp_region_quiet_below (by kernel_rfl) (by kernel_rfl) ?_
    repeat (first | go_big_quiet_step ((go_at_call 98; with_reducible exact HN.out _ _)) | quiet_step ((go_at_call 98; with_reducible exact HN.out _ _)))
    refine wpQuiet_nil ?_
    intro _ hw'
    obtain ⟨⟨dq, osq⟩, hw''⟩ := hw'
    subst hw''
    have HBq := Lib.hid (HB.out.trans ((below_regrown w1 dq osq).mono HB.out.size))
    clear HN r0 r1 r2
    go_wp2_with fail
    go_ret
    first | (rw [EE]; exact ⟨rfl, HBq.out⟩) | exact ⟨rfl, HBq.out⟩
  case pos =>
    have hdn : ((ids.length : Int) != (N : Int)) = false := by simp [hN]
    have HEQ := Lib.hid hN
    clear hN
    refine wp_region_quiet_below (by kernel_rfl) (by kernel_rfl) ?_
    repeat (first | go_big_quiet_step ((go_at_call 98; with_reducible exact HN.out _ _)) | quiet_step ((go_at_call 98; with_reducible exact HN.out _ _)))
    refine wpQuiet_nil ?_
    intro _ hw'
    obtain ⟨⟨dq, osq⟩, hw''⟩ := hw'
    subst hw''
    have hbq := below_regrown w1 dq osq
    have k2 := r2 dq osq
    have hbx2 : MBox (grow (redrawn w1 dq) osq) w.heap.size ⟨(zn : Int), (cn : Int), ids⟩ (.slice a ids.length cap) := hbx.below hbq hk
    clear HN r0 r1 r2 h2 hbx
    have HB2 := Lib.hid (HB.out.trans (hbq.mono HB.out.size))
    have HA2 := Lib.hid (HA.out.below hbq)
    have hk2 := hbx2.lt
    clear hbq HB HA hk
    generalize grow (redrawn w1 dq) osq = w2 at *
    go_wp2_with fail
    go_loopw [3] (fun i wr => ∃ k : Nat, i = .int .i64 k ∧ k ≤ ids.length ∧ (∀ j, j < k → ckE (ids.getD j ByteArray.empty) = 0) ∧ Below w2.heap.size w2 wr) (fun i _ => ids.length - (intOf i).toNat)
    case atStart => exact ⟨0, rfl, Nat.zero_le _, fun j hj => absurd hj (by omega), Below.refl _ _⟩
    case round =>
      obtain ⟨k, rfl, hkl, hzz, hb⟩ := hrel
      have kc := (hbx2.below hb hk2).c2
      by_cases hlt : k < ids.length
      · obtain ⟨b, off, rfl, hbl, hcc⟩ := str_at (HA2.out.row.below hb) hlt
        have hmem : ids.getD k ByteArray.empty ∈ ids := by rw [List.getD_eq_getElem?_getD, List.getElem?_eq_getElem hlt]; exact List.getElem_mem hlt
        have hck := hchkR (ids.getD k ByteArray.empty) wr (HA2.out.short _ hmem)
        have HZ := Lib.hid hzz
        have HBr := Lib.hid hb
        have HM := Lib.hid hmem
        clear hzz hb hmem
        simp only at hcc
        generalize hsk : ids.getD k ByteArray.empty = s at hcc hck HM
        by_cases hs0 : ckE s = 0
        · rw [hs0] at hck
          go_wp2_with fail
          refine hck.mono ?_
          rintro e w3 ⟨rfl, hb3⟩
          have HB3 := Lib.hid (HBr.out.trans (hb3.mono HBr.out.size))
          clear hb3
          go_wp2_with fail
          go_roundw
          case rel =>
            refine ⟨k + 1, by go_num, by omega, fun j hj => ?_, HB3.out⟩
            by_cases hjk : j < k
            · exact HZ.out j hjk
            · obtain rfl : j = k := by omega
              rw [hsk]; exact hs0
          case measure => simp [intOf]; omega
        · have hne : (ckE s != 0) = true := by simp [hs0]
          have hall : ¬ ∀ s ∈ ids, ckE s = 0 := fun h => hs0 (h s HM.out)
          have EE : manE ⟨(zn : Int), (cn : Int), ids⟩ = 5 := by rw [E0.out, if_pos (.inr hall)]
          clear hall
          generalize ckE s = E at hck hne
          go_wp2_with fail
          refine hck.mono ?_
          rintro e w3 ⟨rfl, hb3⟩
          have HB3 := Lib.hid (HB2.out.trans ((HBr.out.trans (hb3.mono HBr.out.size)).mono HB2.out.size))
          clear hb3
          go_wp2_with fail
          go_ret
          first | (rw [EE]; exact ⟨rfl, HB3.out⟩) | exact ⟨rfl, HB3.out⟩
      · obtain rfl : k = ids.length := by omega
        have hall : ∀ s ∈ ids, ckE s = 0 := fun s hs' => by
          obtain ⟨j, hj, rfl⟩ := List.getElem_of_mem hs'
          have := hzz j hj
          rw [List.getD_eq_getElem?_getD, List.getElem?_eq_getElem hj] at this
          exact this
        have HB3 := Lib.hid (HB2.out.trans (hb.mono HB2.out.size))
        by_cases h4 : 4096 < ids.length
        · have EE : manE ⟨(zn : Int), (cn : Int), ids⟩ = 3 := by rw [E0.out, if_neg (by rintro (h | h); exact h HEQ.out; exact h hall), if_pos h4]
          have hd4 : decide ((4096 : Int) < (ids.length : Int)) = true := by simp; omega
          clear hall hzz hb E0
          go_wp2_with fail
          go_ret
          first | (rw [EE]; exact ⟨rfl, HB3.out⟩) | exact ⟨rfl, HB3.out⟩
        · have EE : manE ⟨(zn : Int), (cn : Int), ids⟩ = 0 := by rw [E0.out, if_neg (by rintro (h | h); exact h HEQ.out; exact h hall), if_neg h4]
          have hd4 : decide ((4096 : Int) < (ids.length : Int)) = false := by simp; omega
          clear hall hzz hb E0
          go_wp2_with fail
          go_ret
          first | (rw [EE]; exact ⟨rfl, HB3.out⟩) | exact ⟨rfl, HB3.out⟩
end Go.Proofs.YtmnblpjdiplioaaGreat
