/-
  The document's Check of an update.
-/
import Derived.Test.YtkodololdjainaaGreatDlChk
import Derived.Test.YtkodololdjainaaGreatFactChR
import Derived.Test.YtkodololdjainaaGreatGDelP
namespace Go.Proofs.YtkodololdjainaaGreat
set_option linter.unusedSimpArgs false
set_option linter.unusedVariables false
set_option maxRecDepth 100000
open Go.RowKit Go.Sort

set_option maxHeartbeats 8000000 in
theorem factsDR (e : Dl) (la : Option Addr) (lk : Nat) (ga : Option Addr) (gk : Nat) (w : World) (h : FIn w la e.l) (hl : e.l.length ≤ 65536) (hv : ∀ f ∈ e.l, f.v.size ≤ 5000) :
    Calls Tryz.prog 32 #[.agg (dlc e la lk ga gk)] w fun v w' => v = .returned (.int .i64 (faE e)) ∧ Go.RowKit.Below w.heap.size w w' := by
  have hm : e.l.length ≤ maxLen := Nat.le_trans hl (by simp [maxLen])
  have hb0 := lowA w (.cells (dlc e la lk ga gk) 29)
  have HK := Lib.hid (Blk.new w 29 (dlc e la lk ga gk))
  have HD := Lib.hid (h.below hb0)
  have HB := Lib.hid hb0
  have HC := Lib.hid (fun W hW => chkFsR e.l la lk W hW hm hv)
  have HO := Lib.hid (fun f (hf : f ∈ e.l) W => fchkR f (hv f hf) W)
  have HV := Lib.hid (faE_ref e)
  have HF1 := Lib.hid (firstF_ok (rd := rdM) (l := e.l))
  have HF2 := Lib.hid (show ∀ (j : Nat) (f : Ft), e.l[j]? = some f → chkFm f ≠ 0 → (∀ i g, i < j → e.l[i]? = some g → chkFm g = 0) → firstF rdM e.l = chkFm f from fun j f => firstF_at)
  clear h hb0 hm hv
  generalize chkFs rdM e.l = E1 at *
  generalize firstF rdM e.l = E0 at *
  generalize faE e = V at *
  go_enter Tryz.func32, Tryz.ntmps32
  go_upto_region 1 with fail
  change Code.wp _ _ _ _ (w.alloc (.cells (dlc e la lk ga gk) 29))
  generalize w.alloc (.cells (dlc e la lk ga gk) 29) = W at *
  go_wp2_with fail
  go_loopw [3] (fun i wr => ∃ k : Nat, k ≤ e.l.length ∧ i = .int .i64 k ∧ Hid (∀ (j : Nat) (f : Ft), j < k → e.l[j]? = some f → chkFm f = 0) ∧ Go.RowKit.Below W.heap.size W wr) (fun i _ => e.l.length - (intOf i).toNat)
  case atStart => exact ⟨0, Nat.zero_le _, rfl, Lib.hid (fun j d hj => by omega), Below.refl _ _⟩
  case round =>
    obtain ⟨k, hk, rfl, HKK, hb⟩ := hrel
    have HBr := Lib.hid hb
    have hbs := hb.size
    have HKr := Lib.hid (HK.out.keep hb)
    have c5 : wr.cell? ⟨w.heap.size, 5, none⟩ = some (.slice la e.l.length lk) := HKr.out.cell rfl
    clear hb
    by_cases hlt : k < e.l.length
    · obtain ⟨f, hf⟩ : ∃ f, e.l[k]? = some f := ⟨_, List.getElem?_eq_getElem hlt⟩
      obtain ⟨b, off, rfl, hbl, r0⟩ := (HD.out.below HBr.out).at hf
      have R0 := Lib.hid r0
      have hi1 : (k : Int) < (e.l.length : Int) := by omega
      have HOf := Lib.hid (fun X => HO.out f (List.mem_of_getElem? hf) X)
      have HF := Lib.hid hf
      have HE := Lib.hid (show chkFm f ≠ 0 → E0 = chkFm f from fun hne => HF2.out k f hf hne (fun i g hi hg => HKK.out i g hi hg))
      have HK3 := Lib.hid (show chkFm f = 0 → ∀ (j : Nat) (x : Ft), j < k + 1 → e.l[j]? = some x → chkFm x = 0 from fun he j x hj hx => by
        rcases Nat.lt_or_ge j k with g1 | g1
        · exact HKK.out j x g1 hx
        · obtain rfl : j = k := by omega
          rw [HF.out] at hx
          obtain rfl := Option.some.inj hx
          exact he)
      generalize chkFm f = EF at *
      clear r0 hf
      go_wp2_with ((with_reducible refine fl_load ?_ (.tmp 16) ?_ b (off + k * 8) f ?_ ?_ ?_); rfl; rfl; rfl; exact R0.out)
      refine (HOf.out wr).mono ?_
      rintro v w1 ⟨rfl, hb1⟩
      have HB1 := Lib.hid (HBr.out.trans (hb1.mono hbs))
      have HQ1 := Lib.hid (HB.out.trans (HB1.out.mono HB.out.size))
      clear hb1 c5
      by_cases h1 : EF = 0
      · have HK4 := Lib.hid (HK3.out h1)
        subst h1
        clear HK3 HE
        go_wp2_with fail
        go_roundw
        case rel => exact ⟨k + 1, by omega, by go_num, HK4, HB1.out⟩
        case measure => simp [intOf]; omega
      · have hne : (EF != 0) = true := by simp [h1]
        have HV2 := Lib.hid (show V = EF by rw [HV.out, HE.out h1]; simp [h1])
        clear h1 HK3 HE
        go_wp2_with fail
        go_ret
        exact ⟨by rw [HV2.out]; rfl, HQ1.out⟩
    · have hi1 : ¬ (k : Int) < (e.l.length : Int) := by omega
      have HE0 := Lib.hid (show E0 = 0 from HF1.out.2 (fun f hf => by
        obtain ⟨j, hj, hjf⟩ := List.mem_iff_getElem.1 hf
        exact HKK.out j f (by omega) (by rw [List.getElem?_eq_getElem hj, hjf])))
      have HV1 := Lib.hid (show V = if OwnE e then E1 else 5 by rw [HV.out, HE0.out]; simp)
      have HDr := Lib.hid (HD.out.below HBr.out)
      have HBw := Lib.hid (HB.out.trans (HBr.out.mono HB.out.size))
      clear HKK HE0 HF1 HF2 HO HV HBr hlt hk HK HB HD
      go_wp2_with fail
      clear c5 hi1
      obtain ⟨W2, hW2⟩ : ∃ X, X = wr := ⟨_, rfl⟩
      rw [← hW2]
      have HKr := Lib.hid (show Blk W2 w.heap.size 29 (dlc e la lk ga gk) by rw [hW2]; exact HKr.out)
      have HDr := Lib.hid (show FIn W2 la e.l by rw [hW2]; exact HDr.out)
      have HBw := Lib.hid (show Go.RowKit.Below w.heap.size w W2 by rw [hW2]; exact HBw.out)
      clear hW2
      go_loopw [5] (fun i wq => ∃ k : Nat, k ≤ e.l.length ∧ i = .int .i64 k ∧ Hid (∀ (j : Nat) (f : Ft), j < k → e.l[j]? = some f → f.d = e.d ∧ f.s = e.s) ∧ Go.RowKit.Below W2.heap.size W2 wq) (fun i _ => e.l.length - (intOf i).toNat)
      case atStart => exact ⟨0, Nat.zero_le _, rfl, Lib.hid (fun j d hj => by omega), Below.refl _ _⟩
      case round =>
        obtain ⟨k, hk, rfl, HKK, hb⟩ := hrel
        have HBq := Lib.hid hb
        have hbs2 := hb.size
        have HKq := Lib.hid (HKr.out.keep hb)
        have hblk := HKr.out.keep hb
        have k5 : wr.cell? ⟨w.heap.size, 5, none⟩ = some (.slice la e.l.length lk) := hblk.cell rfl
        clear hb
        by_cases hlt : k < e.l.length
        · obtain ⟨f, hf⟩ : ∃ f, e.l[k]? = some f := ⟨_, List.getElem?_eq_getElem hlt⟩
          obtain ⟨b, off, rfl, hbl, r0⟩ := (HDr.out.below HBq.out).at hf
          have hi1 : (k : Int) < (e.l.length : Int) := by omega
          have HF := Lib.hid hf
          have k0 : wr.cell? ⟨w.heap.size, 0, none⟩ = some (.int .i64 e.d.1) := hblk.cell rfl
          have k1 : wr.cell? ⟨w.heap.size, 1, none⟩ = some (.int .i64 e.d.2) := hblk.cell rfl
          have k2 : wr.cell? ⟨w.heap.size, 2, none⟩ = some (.int .i64 e.s.t) := hblk.cell rfl
          have k3 : wr.cell? ⟨w.heap.size, 3, none⟩ = some (.int .i64 e.s.c) := hblk.cell rfl
          have k4 : wr.cell? ⟨w.heap.size, 4, none⟩ = some (.int .i64 e.s.r) := hblk.cell rfl
          have z0 : wr.cell? ⟨b, off + k * 8, none⟩ = some (.int .i64 f.d.1) := by have h := r0 0 _ rfl; rwa [Nat.add_zero] at h
          have z1 : wr.cell? ⟨b, off + k * 8 + 1, none⟩ = some (.int .i64 f.d.2) := r0 1 _ rfl
          have z2 : wr.cell? ⟨b, off + k * 8 + 2, none⟩ = some (.int .i64 f.s.t) := r0 2 _ rfl
          have z3 : wr.cell? ⟨b, off + k * 8 + 3, none⟩ = some (.int .i64 f.s.c) := r0 3 _ rfl
          have z4 : wr.cell? ⟨b, off + k * 8 + 4, none⟩ = some (.int .i64 f.s.r) := r0 4 _ rfl
          have HBN := Lib.hid (fun n => belowN HBq.out n)
          have HQN := Lib.hid (fun n => HBw.out.trans ((belowN HBq.out n).mono HBw.out.size))
          have hq1 := fun X => neqD f.d e.d X
          have hq2 := fun X => neqS f.s e.s X
          clear r0 hf hblk
          by_cases h3 : f.d = e.d
          · have hd1 : decide (f.d = e.d) = true := by simp [h3]
            rw [hd1] at hq1
            by_cases h4 : f.s = e.s
            · have hd2 : decide (f.s = e.s) = true := by simp [h4]
              rw [hd2] at hq2
              have HK2 := Lib.hid (show ∀ (j : Nat) (x : Ft), j < k + 1 → e.l[j]? = some x → x.d = e.d ∧ x.s = e.s from fun j x hj hx => by
                rcases Nat.lt_or_ge j k with g1 | g1
                · exact HKK.out j x g1 hx
                · obtain rfl : j = k := by omega
                  rw [HF.out] at hx
                  obtain rfl := Option.some.inj hx
                  exact ⟨h3, h4⟩)
              clear h3 h4 hd1 hd2
              go_upto_region 10 with fail
              go_quiet (fail)
              go_wp2_with fail
              go_roundw
              case rel => exact ⟨k + 1, by omega, by go_num, HK2, HBN.out _⟩
              case measure => simp [intOf]; omega
            · have hd2 : decide (f.s = e.s) = false := by simp [h4]
              rw [hd2] at hq2
              have HV2 := Lib.hid (show V = 5 by rw [HV1.out]; exact if_neg (fun k => h4 (k f (List.mem_of_getElem? HF.out)).2))
              clear h3 h4 hd1 hd2
              go_upto_region 10 with fail
              go_quiet (fail)
              go_wp2_with fail
              go_ret
              exact ⟨by rw [HV2.out]; rfl, HQN.out _⟩
          · have hd1 : decide (f.d = e.d) = false := by simp [h3]
            rw [hd1] at hq1
            have HV2 := Lib.hid (show V = 5 by rw [HV1.out]; exact if_neg (fun k => h3 (k f (List.mem_of_getElem? HF.out)).1))
            clear h3 hd1 hq2
            go_upto_region 10 with fail
            go_quiet (fail)
            go_wp2_with fail
            go_ret
            exact ⟨by rw [HV2.out]; rfl, HQN.out _⟩
        · have hi1 : ¬ (k : Int) < (e.l.length : Int) := by omega
          have HV2 := Lib.hid (show V = E1 by
            rw [HV1.out]
            exact if_pos (fun f hf => by
              obtain ⟨j, hj, hjf⟩ := List.mem_iff_getElem.1 hf
              exact HKK.out j f (by omega) (by rw [List.getElem?_eq_getElem hj, hjf])))
          have HQ0 := Lib.hid (HBw.out.trans (HBq.out.mono HBw.out.size))
          have HD2 := Lib.hid (HDr.out.below HBq.out)
          clear hlt hk
          go_wp2_with fail
          refine (HC.out wr HD2.out).mono ?_
          rintro v w2 ⟨rfl, hb2⟩
          have HZ := Lib.hid (HQ0.out.trans (hb2.mono HQ0.out.size))
          clear hb2
          go_wp2_with fail
          go_ret
          exact ⟨by rw [HV2.out]; rfl, HZ.out⟩

set_option maxHeartbeats 8000000 in
theorem chkDR (e : Dl) (la : Option Addr) (lk : Nat) (ga : Option Addr) (gk : Nat) (w : World) (h : DlMem w e la ga) :
    Calls Tryz.prog 10 #[.agg (dlc e la lk ga gk)] w fun v w' => v = .returned (.int .i64 (chkDm e)) ∧ Go.RowKit.Below w.heap.size w w' := by
  have hb0 := lowA w (.cells (dlc e la lk ga gk) 29)
  have HK := Lib.hid (Blk.new w 29 (dlc e la lk ga gk))
  have HM := Lib.hid (h.below hb0)
  have HB := Lib.hid hb0
  have hgm := h.glen'
  have HD := Lib.hid (fun W => checkRb e.d W)
  have HS := Lib.hid (fun W => tchkRb e.s W)
  have H2 := Lib.hid (fun W (hW : DlMem W e la ga) => factsDR e la lk ga gk W hW.fin hW.flen hW.val)
  have H3 := Lib.hid (fun W (hW : DlMem W e la ga) => chkLR e.g ga gk W hW.din hgm)
  have H4 := Lib.hid (fun W (hW : DlMem W e la ga) => inR e.g e.d ga gk W hW.din hgm)
  have HV := Lib.hid (chkDm_of e)
  have HL := Lib.hid (show lastE e = if 256 < e.l.length ∨ 256 < e.g.length then 3 else 0 from rfl)
  have HHD := Lib.hid (show hdE e = if chkD e.d ≠ 0 then chkD e.d else if chkS e.s ≠ 0 then chkS e.s else if e.d.1 ≠ e.s.r then 5 else 0 from rfl)
  have HGO := Lib.hid (show goE e = if chkL e.g ≠ 0 then chkL e.g else if decide (e.d ∈ e.g) = true then 5 else 0 by simp [goE])
  generalize chkDm e = V at *
  generalize hdE e = F1 at *
  generalize faE e = E3 at *
  generalize goE e = F2 at *
  generalize lastE e = F3 at *
  generalize chkD e.d = E1 at *
  generalize chkS e.s = E2 at *
  generalize chkL e.g = E4 at *
  generalize decide (e.d ∈ e.g) = u at *
  clear h hb0 hgm
  go_enter Tryz.func10, Tryz.ntmps10
  go_upto_region 1 with fail
  change Code.wp _ _ _ _ (w.alloc (.cells (dlc e la lk ga gk) 29))
  generalize w.alloc (.cells (dlc e la lk ga gk) 29) = W at *
  have c0 : W.cell? ⟨w.heap.size, 0, none⟩ = some (.int .i64 e.d.1) := HK.out.cell rfl
  have c1 : W.cell? ⟨w.heap.size, 1, none⟩ = some (.int .i64 e.d.2) := HK.out.cell rfl
  go_wp2_with fail
  refine (HD.out W).mono ?_
  rintro v w1 ⟨rfl, hb1⟩
  have HK1 := Lib.hid (HK.out.keep hb1)
  have HM1 := Lib.hid (HM.out.below hb1)
  have HB1 := Lib.hid (HB.out.trans (hb1.mono HB.out.size))
  clear hb1 HK HB HM c0 c1 HD
  by_cases h1 : E1 = 0
  · subst h1
    have c2 : w1.cell? ⟨w.heap.size, 2, none⟩ = some (.int .i64 e.s.t) := HK1.out.cell rfl
    have c3 : w1.cell? ⟨w.heap.size, 3, none⟩ = some (.int .i64 e.s.c) := HK1.out.cell rfl
    have c4 : w1.cell? ⟨w.heap.size, 4, none⟩ = some (.int .i64 e.s.r) := HK1.out.cell rfl
    go_wp2_with fail
    refine (HS.out w1).mono ?_
    rintro v w2 ⟨rfl, hb2⟩
    have HK2 := Lib.hid (HK1.out.keep hb2)
    have HM2 := Lib.hid (HM1.out.below hb2)
    have HB2 := Lib.hid (HB1.out.trans (hb2.mono HB1.out.size))
    clear hb2 HK1 HB1 HM1 c2 c3 c4 HS
    by_cases h2 : E2 = 0
    · subst h2
      have c0 : w2.cell? ⟨w.heap.size, 0, none⟩ = some (.int .i64 e.d.1) := HK2.out.cell rfl
      have c4 : w2.cell? ⟨w.heap.size, 4, none⟩ = some (.int .i64 e.s.r) := HK2.out.cell rfl
      by_cases h3 : e.d.1 = e.s.r
      · have hq : (e.d.1 != e.s.r) = false := by simp [h3]
        have HF1 := Lib.hid (show F1 = 0 by rw [HHD.out]; simp [h3])
        clear h3
        go_wp2_with ((with_reducible refine bl_load ?_ 29 (.tmp 1) ?_ w.heap.size 0 (dlc e la lk ga gk) ?_ ?_ Tryz.underlying29 ?_ ?_ ?_); rfl; rfl; rfl; exact HK2.out.all; rfl; exact infoD _ _ _ _ _; simp only [Act.put, List.setIfInBounds_toArray, List.set_cons_zero, List.set_cons_succ])
        refine (H2.out w2 HM2.out).mono ?_
        rintro v w3 ⟨rfl, hb3⟩
        have HK3 := Lib.hid (HK2.out.keep hb3)
        have HM3 := Lib.hid (HM2.out.below hb3)
        have HB3 := Lib.hid (HB2.out.trans (hb3.mono HB2.out.size))
        clear hb3 HK2 HB2 HM2 c0 c4 H2
        by_cases h4 : E3 = 0
        · subst h4
          have c6 : w3.cell? ⟨w.heap.size, 6, none⟩ = some (.slice ga e.g.length gk) := HK3.out.cell rfl
          go_wp2_with fail
          refine (H3.out w3 HM3.out).mono ?_
          rintro v w4 ⟨rfl, hb4⟩
          have HK4 := Lib.hid (HK3.out.keep hb4)
          have HM4 := Lib.hid (HM3.out.below hb4)
          have HB4 := Lib.hid (HB3.out.trans (hb4.mono HB3.out.size))
          clear hb4 HK3 HB3 HM3 c6 H3
          by_cases h5 : E4 = 0
          · subst h5
            have c6 : w4.cell? ⟨w.heap.size, 6, none⟩ = some (.slice ga e.g.length gk) := HK4.out.cell rfl
            have c0 : w4.cell? ⟨w.heap.size, 0, none⟩ = some (.int .i64 e.d.1) := HK4.out.cell rfl
            have c1 : w4.cell? ⟨w.heap.size, 1, none⟩ = some (.int .i64 e.d.2) := HK4.out.cell rfl
            go_wp2_with fail
            refine (H4.out w4 HM4.out).mono ?_
            rintro v w5 ⟨rfl, hb5⟩
            have HK5 := Lib.hid (HK4.out.keep hb5)
            have HB5 := Lib.hid (HB4.out.trans (hb5.mono HB4.out.size))
            clear hb5 HK4 HB4 HM4 c6 c0 c1 H4
            cases u with
            | true =>
              have HF2 := Lib.hid (show F2 = 5 by rw [HGO.out]; simp)
              have HV2 := Lib.hid (show V = 5 by rw [HV.out, HF1.out, HF2.out]; simp)
              go_wp2_with fail
              go_ret
              exact ⟨by rw [HV2.out]; rfl, HB5.out⟩
            | false =>
              have HF2 := Lib.hid (show F2 = 0 by rw [HGO.out]; simp)
              have HV3 := Lib.hid (show V = F3 by rw [HV.out, HF1.out, HF2.out]; simp)
              have c5 : w5.cell? ⟨w.heap.size, 5, none⟩ = some (.slice la e.l.length lk) := HK5.out.cell rfl
              have c6 : w5.cell? ⟨w.heap.size, 6, none⟩ = some (.slice ga e.g.length gk) := HK5.out.cell rfl
              by_cases h6 : 256 < e.l.length
              · have hd1 : decide ((256 : Int) < (e.l.length : Int)) = true := by simp; omega
                have HV2 := Lib.hid (show V = 3 by rw [HV3.out, HL.out]; simp [h6])
                clear h6
                go_wp2_with fail
                go_ret
                exact ⟨by rw [HV2.out]; rfl, HB5.out⟩
              · have hd1 : decide ((256 : Int) < (e.l.length : Int)) = false := by simp; omega
                by_cases h7 : 256 < e.g.length
                · have hd2 : decide ((256 : Int) < (e.g.length : Int)) = true := by simp; omega
                  have HV2 := Lib.hid (show V = 3 by rw [HV3.out, HL.out]; simp [h7])
                  clear h6 h7
                  go_wp2_with fail
                  go_ret
                  exact ⟨by rw [HV2.out]; rfl, HB5.out⟩
                · have hd2 : decide ((256 : Int) < (e.g.length : Int)) = false := by simp; omega
                  have HV2 := Lib.hid (show V = 0 by rw [HV3.out, HL.out]; simp [h6, h7])
                  clear h6 h7
                  go_wp2_with fail
                  go_ret
                  exact ⟨by rw [HV2.out]; rfl, HB5.out⟩
          · have hne : (E4 != 0) = true := by simp [h5]
            have HF2 := Lib.hid (show F2 = E4 by rw [HGO.out]; simp [h5])
            have HV2 := Lib.hid (show V = E4 by rw [HV.out, HF1.out, HF2.out]; simp [h5])
            clear h5
            go_wp2_with fail
            go_ret
            exact ⟨by rw [HV2.out]; rfl, HB4.out⟩
        · have hne : (E3 != 0) = true := by simp [h4]
          have HV2 := Lib.hid (show V = E3 by rw [HV.out, HF1.out]; simp [h4])
          clear h4
          go_wp2_with fail
          go_ret
          exact ⟨by rw [HV2.out]; rfl, HB3.out⟩
      · have hq : (e.d.1 != e.s.r) = true := by simp [h3]
        have HF1 := Lib.hid (show F1 = 5 by rw [HHD.out]; simp [h3])
        have HV2 := Lib.hid (show V = 5 by rw [HV.out, HF1.out]; simp)
        clear h3
        go_wp2_with fail
        go_ret
        exact ⟨by rw [HV2.out]; rfl, HB2.out⟩
    · have hne : (E2 != 0) = true := by simp [h2]
      have HF1 := Lib.hid (show F1 = E2 by rw [HHD.out]; simp [h2])
      have HV2 := Lib.hid (show V = E2 by rw [HV.out, HF1.out]; simp [h2])
      clear h2
      go_wp2_with fail
      go_ret
      exact ⟨by rw [HV2.out]; rfl, HB2.out⟩
  · have hne : (E1 != 0) = true := by simp [h1]
    have HF1 := Lib.hid (show F1 = E1 by rw [HHD.out]; simp [h1])
    have HV2 := Lib.hid (show V = E1 by rw [HV.out, HF1.out]; simp [h1])
    clear h1
    go_wp2_with fail
    go_ret
    exact ⟨by rw [HV2.out]; rfl, HB1.out⟩
end Go.Proofs.YtkodololdjainaaGreat
