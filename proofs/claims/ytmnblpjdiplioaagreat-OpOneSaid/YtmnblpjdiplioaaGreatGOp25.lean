/-
  The document's Check of an update.
  Rows of facts, of names, of a call's own: kept where a block ahead of them is written; read.
  An update and an error answered; none in memory.
  Vectors by value and in memory: whole rows boxed, loaded, stored, compared; one place read.
  Whole vectors loaded where an operation is guarded, and in regions that draw and only read.
-/
import Derived.Test.YtmnblpjdiplioaaGreatGOp23
import Derived.Test.YtmnblpjdiplioaaGreatGOp24
import Derived.Test.YtmnblpjdiplioaaGreatGOp21
import Derived.Test.YtmnblpjdiplioaaGreatGOp05
import Derived.Test.YtmnblpjdiplioaaGreatGOp02
import Derived.Test.YtmnblpjdiplioaaGreatGOp22
import Derived.Laws.ResultCell
import Derived.Test.YtmnblpjdiplioaaGreatGOp12
import Derived.Test.YtmnblpjdiplioaaGreatGOp01
import Derived.Deep.WholeRow
import Derived.Laws.StructEq
import Derived.Lib.QuietBelow
namespace Go.Proofs.YtmnblpjdiplioaaGreat
set_option linter.unusedSimpArgs false
set_option linter.unusedVariables false
set_option maxRecDepth 100000
open Go.RowKit Go.Sort

set_option maxHeartbeats 8000000 in
theorem factsDR (e : Dl) (la : Option Addr) (lk : Nat) (ga : Option Addr) (gk : Nat) (w : World) (h : FIn w la e.l) (hl : e.l.length ≤ 65536) (hv : ∀ f ∈ e.l, f.v.size ≤ 5000) :
    Calls Tryz.prog 63 #[.agg (dlc e la lk ga gk)] w fun v w' => v = .returned (.int .i64 (faE e)) ∧ Go.RowKit.Below w.heap.size w w' := by
  have hm : e.l.length ≤ maxLen := Nat.le_trans hl (by simp [maxLen])
  have hb0 := lowA w (.cells (dlc e la lk ga gk) 43)
  have HK := Lib.hid (Blk.new w 43 (dlc e la lk ga gk))
  have HD := Lib.hid (h.below hb0)
  have HB := Lib.hid hb0
  have HC := Lib.hid (fun W hW => chkFsR e.l la lk W hW hm hv)
  have HO := Lib.hid (fun f (hf : f ∈ e.l) W => fchkR f (hv f hf) W)
  have HV := Lib.hid (faE_ref e)
  have HF1 := Lib.hid (firstF_ok (rd := rdM) (l := e.l))
  have HF2 := Lib.hid (show ∀ (j : Nat) (f : Ft), e.l[j]? = some f → chkFm f ≠ 0 → (∀ i g, i < j → e.l[i]? = some g → chkFm g = 0) → firstF rdM e.l = chkFm f from fun j f => firstF_at)
  clear h hb0 hm hv
  generalize chkFs rdM e.l = E1 at *
  generalize firstF rdM e.l = E0 at *
  generalize faE e = V at *
  go_enter Tryz.func63, Tryz.ntmps63
  go_upto_region 1 with fail
  change Code.wp _ _ _ _ (w.alloc (.cells (dlc e la lk ga gk) 43))
  generalize w.alloc (.cells (dlc e la lk ga gk) 43) = W at *
  go_wp2_with fail
  go_loopw [3] (fun i wr => ∃ k : Nat, k ≤ e.l.length ∧ i = .int .i64 k ∧ Hid (∀ (j : Nat) (f : Ft), j < k → e.l[j]? = some f → chkFm f = 0) ∧ Go.RowKit.Below W.heap.size W wr) (fun i _ => e.l.length - (intOf i).toNat)
  case atStart => exact ⟨0, Nat.zero_le _, rfl, Lib.hid (fun j d hj => by omega), Below.refl _ _⟩
  case round =>
    obtain ⟨k, hk, rfl, HKK, hb⟩ := hrel
    have HBr := Lib.hid hb
    have hbs := hb.size
    have HKr := Lib.hid (HK.out.keep hb)
    have c5 : wr.cell? ⟨w.heap.size, 5, none⟩ = some (.slice la e.l.length lk) := HKr.out.cell rfl
    clear hb
    by_cases hlt : k < e.l.length
    · obtain ⟨f, hf⟩ : ∃ f, e.l[k]? = some f := ⟨_, List.getElem?_eq_getElem hlt⟩
      obtain ⟨b, off, rfl, hbl, r0⟩ := (HD.out.below HBr.out).at hf
      have R0 := Lib.hid r0
      have hi1 : (k : Int) < (e.l.length : Int) := by omega
      have HOf := Lib.hid (fun X => HO.out f (List.mem_of_getElem? hf) X)
      have HF := Lib.hid hf
      have HE := Lib.hid (show chkFm f ≠ 0 → E0 = chkFm f from fun hne => HF2.out k f hf hne (fun i g hi hg => HKK.out i g hi hg))
      have HK3 := Lib.hid (show chkFm f = 0 → ∀ (j : Nat) (x : Ft), j < k + 1 → e.l[j]? = some x → chkFm x = 0 from fun he j x hj hx => by
        rcases Nat.lt_or_ge j k with g1 | g1
        · exact HKK.out j x g1 hx
        · obtain rfl : j = k := by omega
          rw [HF.out] at hx
          obtain rfl := Option.some.inj hx
          exact he)
      generalize chkFm f = EF at *
      clear r0 hf
      go_wp2_with ((with_reducible refine fl_load ?_ (.tmp 16) ?_ b (off + k * 8) f ?_ ?_ ?_); rfl; rfl; rfl; exact R0.out)
      refine (HOf.out wr).mono ?_
      rintro v w1 ⟨rfl, hb1⟩
      have HB1 := Lib.hid (HBr.out.trans (hb1.mono hbs))
      have HQ1 := Lib.hid (HB.out.trans (HB1.out.mono HB.out.size))
      clear hb1 c5
      by_cases h1 : EF = 0
      · have HK4 := Lib.hid (HK3.out h1)
        subst h1
        clear HK3 HE
        go_wp2_with fail
        go_roundw
        case rel => exact ⟨k + 1, by omega, by go_num, HK4, HB1.out⟩
        case measure => simp [intOf]; omega
      · have hne : (EF != 0) = true := by simp [h1]
        have HV2 := Lib.hid (show V = EF by rw [HV.out, HE.out h1]; simp [h1])
        clear h1 HK3 HE
        go_wp2_with fail
        go_ret
        exact ⟨by rw [HV2.out]; rfl, HQ1.out⟩
    · have hi1 : ¬ (k : Int) < (e.l.length : Int) := by omega
      have HE0 := Lib.hid (show E0 = 0 from HF1.out.2 (fun f hf => by
        obtain ⟨j, hj, hjf⟩ := List.mem_iff_getElem.1 hf
        exact HKK.out j f (by omega) (by rw [List.getElem?_eq_getElem hj, hjf])))
      have HV1 := Lib.hid (show V = if OwnE e then E1 else 5 by rw [HV.out, HE0.out]; simp)
      have HDr := Lib.hid (HD.out.below HBr.out)
      have HBw := Lib.hid (HB.out.trans (HBr.out.mono HB.out.size))
      clear HKK HE0 HF1 HF2 HO HV HBr hlt hk HK HB HD
      go_wp2_with fail
      clear c5 hi1
      obtain ⟨W2, hW2⟩ : ∃ X, X = wr := ⟨_, rfl⟩
      rw [← hW2]
      have HKr := Lib.hid (show Blk W2 w.heap.size 43 (dlc e la lk ga gk) by rw [hW2]; exact HKr.out)
      have HDr := Lib.hid (show FIn W2 la e.l by rw [hW2]; exact HDr.out)
      have HBw := Lib.hid (show Go.RowKit.Below w.heap.size w W2 by rw [hW2]; exact HBw.out)
      clear hW2
      go_loopw [5] (fun i wq => ∃ k : Nat, k ≤ e.l.length ∧ i = .int .i64 k ∧ Hid (∀ (j : Nat) (f : Ft), j < k → e.l[j]? = some f → f.d = e.d ∧ f.s = e.s) ∧ Go.RowKit.Below W2.heap.size W2 wq) (fun i _ => e.l.length - (intOf i).toNat)
      case atStart => exact ⟨0, Nat.zero_le _, rfl, Lib.hid (fun j d hj => by omega), Below.refl _ _⟩
      case round =>
        obtain ⟨k, hk, rfl, HKK, hb⟩ := hrel
        have HBq := Lib.hid hb
        have hbs2 := hb.size
        have HKq := Lib.hid (HKr.out.keep hb)
        have hblk := HKr.out.keep hb
        have k5 : wr.cell? ⟨w.heap.size, 5, none⟩ = some (.slice la e.l.length lk) := hblk.cell rfl
        clear hb
        by_cases hlt : k < e.l.length
        · obtain ⟨f, hf⟩ : ∃ f, e.l[k]? = some f := ⟨_, List.getElem?_eq_getElem hlt⟩
          obtain ⟨b, off, rfl, hbl, r0⟩ := (HDr.out.below HBq.out).at hf
          have hi1 : (k : Int) < (e.l.length : Int) := by omega
          have HF := Lib.hid hf
          have k0 : wr.cell? ⟨w.heap.size, 0, none⟩ = some (.int .i64 e.d.1) := hblk.cell rfl
          have k1 : wr.cell? ⟨w.heap.size, 1, none⟩ = some (.int .i64 e.d.2) := hblk.cell rfl
          have k2 : wr.cell? ⟨w.heap.size, 2, none⟩ = some (.int .i64 e.s.t) := hblk.cell rfl
          have k3 : wr.cell? ⟨w.heap.size, 3, none⟩ = some (.int .i64 e.s.c) := hblk.cell rfl
          have k4 : wr.cell? ⟨w.heap.size, 4, none⟩ = some (.int .i64 e.s.r) := hblk.cell rfl
          have z0 : wr.cell? ⟨b, off + k * 8, none⟩ = some (.int .i64 f.d.1) := by have h := r0 0 _ rfl; rwa [Nat.add_zero] at h
          have z1 : wr.cell? ⟨b, off + k * 8 + 1, none⟩ = some (.int .i64 f.d.2) := r0 1 _ rfl
          have z2 : wr.cell? ⟨b, off + k * 8 + 2, none⟩ = some (.int .i64 f.s.t) := r0 2 _ rfl
          have z3 : wr.cell? ⟨b, off + k * 8 + 3, none⟩ = some (.int .i64 f.s.c) := r0 3 _ rfl
          have z4 : wr.cell? ⟨b, off + k * 8 + 4, none⟩ = some (.int .i64 f.s.r) := r0 4 _ rfl
          have HBN := Lib.hid (fun n => belowN HBq.out n)
          have HQN := Lib.hid (fun n => HBw.out.trans ((belowN HBq.out n).mono HBw.out.size))
          have hq1 := fun X => neqD f.d e.d X
          have hq2 := fun X => neqS f.s e.s X
          clear r0 hf hblk
          by_cases h3 : f.d = e.d
          · have hd1 : decide (f.d = e.d) = true := by simp [h3]
            rw [hd1] at hq1
            by_cases h4 : f.s = e.s
            · have hd2 : decide (f.s = e.s) = true := by simp [h4]
              rw [hd2] at hq2
              have HK2 := Lib.hid (show ∀ (j : Nat) (x : Ft), j < k + 1 → e.l[j]? = some x → x.d = e.d ∧ x.s = e.s from fun j x hj hx => by
                rcases Nat.lt_or_ge j k with g1 | g1
                · exact HKK.out j x g1 hx
                · obtain rfl : j = k := by omega
                  rw [HF.out] at hx
                  obtain rfl := Option.some.inj hx
                  exact ⟨h3, h4⟩)
              clear h3 h4 hd1 hd2
              go_upto_region 10 with fail
              go_quiet (fail)
              go_wp2_with fail
              go_roundw
              case rel => exact ⟨k + 1, by omega, by go_num, HK2, HBN.out _⟩
              case measure => simp [intOf]; omega
            · have hd2 : decide (f.s = e.s) = false := by simp [h4]
              rw [hd2] at hq2
              have HV2 := Lib.hid (show V = 5 by rw [HV1.out]; exact if_neg (fun k => h4 (k f (List.mem_of_getElem? HF.out)).2))
              clear h3 h4 hd1 hd2
              go_upto_region 10 with fail
              go_quiet (fail)
              go_wp2_with fail
              go_ret
              exact ⟨by rw [HV2.out]; rfl, HQN.out _⟩
          · have hd1 : decide (f.d = e.d) = false := by simp [h3]
            rw [hd1] at hq1
            have HV2 := Lib.hid (show V = 5 by rw [HV1.out]; exact if_neg (fun k => h3 (k f (List.mem_of_getElem? HF.out)).1))
            clear h3 hd1 hq2
            go_upto_region 10 with fail
            go_quiet (fail)
            go_wp2_with fail
            go_ret
            exact ⟨by rw [HV2.out]; rfl, HQN.out _⟩
        · have hi1 : ¬ (k : Int) < (e.l.length : Int) := by omega
          have HV2 := Lib.hid (show V = E1 by
            rw [HV1.out]
            exact if_pos (fun f hf => by
              obtain ⟨j, hj, hjf⟩ := List.mem_iff_getElem.1 hf
              exact HKK.out j f (by omega) (by rw [List.getElem?_eq_getElem hj, hjf])))
          have HQ0 := Lib.hid (HBw.out.trans (HBq.out.mono HBw.out.size))
          have HD2 := Lib.hid (HDr.out.below HBq.out)
          clear hlt hk
          go_wp2_with fail
          refine (HC.out wr HD2.out).mono ?_
          rintro v w2 ⟨rfl, hb2⟩
          have HZ := Lib.hid (HQ0.out.trans (hb2.mono HQ0.out.size))
          clear hb2
          go_wp2_with fail
          go_ret
          exact ⟨by rw [HV2.out]; rfl, HZ.out⟩

set_option maxHeartbeats 8000000 in
theorem chkDR (e : Dl) (la : Option Addr) (lk : Nat) (ga : Option Addr) (gk : Nat) (w : World) (h : DlMem w e la ga) :
    Calls Tryz.prog 39 #[.agg (dlc e la lk ga gk)] w fun v w' => v = .returned (.int .i64 (chkDm e)) ∧ Go.RowKit.Below w.heap.size w w' := by
  have hb0 := lowA w (.cells (dlc e la lk ga gk) 43)
  have HK := Lib.hid (Blk.new w 43 (dlc e la lk ga gk))
  have HM := Lib.hid (h.below hb0)
  have HB := Lib.hid hb0
  have hgm := h.glen'
  have HD := Lib.hid (fun W => checkRb e.d W)
  have HS := Lib.hid (fun W => tchkRb e.s W)
  have H2 := Lib.hid (fun W (hW : DlMem W e la ga) => factsDR e la lk ga gk W hW.fin hW.flen hW.val)
  have H3 := Lib.hid (fun W (hW : DlMem W e la ga) => chkLR e.g ga gk W hW.din hgm)
  have H4 := Lib.hid (fun W (hW : DlMem W e la ga) => inR e.g e.d ga gk W hW.din hgm)
  have HV := Lib.hid (chkDm_of e)
  have HL := Lib.hid (show lastE e = if 256 < e.l.length ∨ 256 < e.g.length then 3 else 0 from rfl)
  have HHD := Lib.hid (show hdE e = if chkD e.d ≠ 0 then chkD e.d else if chkS e.s ≠ 0 then chkS e.s else if e.d.1 ≠ e.s.r then 5 else 0 from rfl)
  have HGO := Lib.hid (show goE e = if chkL e.g ≠ 0 then chkL e.g else if decide (e.d ∈ e.g) = true then 5 else 0 by simp [goE])
  generalize chkDm e = V at *
  generalize hdE e = F1 at *
  generalize faE e = E3 at *
  generalize goE e = F2 at *
  generalize lastE e = F3 at *
  generalize chkD e.d = E1 at *
  generalize chkS e.s = E2 at *
  generalize chkL e.g = E4 at *
  generalize decide (e.d ∈ e.g) = u at *
  clear h hb0 hgm
  go_enter Tryz.func39, Tryz.ntmps39
  go_upto_region 1 with fail
  change Code.wp _ _ _ _ (w.alloc (.cells (dlc e la lk ga gk) 43))
  generalize w.alloc (.cells (dlc e la lk ga gk) 43) = W at *
  have c0 : W.cell? ⟨w.heap.size, 0, none⟩ = some (.int .i64 e.d.1) := HK.out.cell rfl
  have c1 : W.cell? ⟨w.heap.size, 1, none⟩ = some (.int .i64 e.d.2) := HK.out.cell rfl
  go_wp2_with fail
  refine (HD.out W).mono ?_
  rintro v w1 ⟨rfl, hb1⟩
  have HK1 := Lib.hid (HK.out.keep hb1)
  have HM1 := Lib.hid (HM.out.below hb1)
  have HB1 := Lib.hid (HB.out.trans (hb1.mono HB.out.size))
  clear hb1 HK HB HM c0 c1 HD
  by_cases h1 : E1 = 0
  · subst h1
    have c2 : w1.cell? ⟨w.heap.size, 2, none⟩ = some (.int .i64 e.s.t) := HK1.out.cell rfl
    have c3 : w1.cell? ⟨w.heap.size, 3, none⟩ = some (.int .i64 e.s.c) := HK1.out.cell rfl
    have c4 : w1.cell? ⟨w.heap.size, 4, none⟩ = some (.int .i64 e.s.r) := HK1.out.cell rfl
    go_wp2_with fail
    refine (HS.out w1).mono ?_
    rintro v w2 ⟨rfl, hb2⟩
    have HK2 := Lib.hid (HK1.out.keep hb2)
    have HM2 := Lib.hid (HM1.out.below hb2)
    have HB2 := Lib.hid (HB1.out.trans (hb2.mono HB1.out.size))
    clear hb2 HK1 HB1 HM1 c2 c3 c4 HS
    by_cases h2 : E2 = 0
    · subst h2
      have c0 : w2.cell? ⟨w.heap.size, 0, none⟩ = some (.int .i64 e.d.1) := HK2.out.cell rfl
      have c4 : w2.cell? ⟨w.heap.size, 4, none⟩ = some (.int .i64 e.s.r) := HK2.out.cell rfl
      by_cases h3 : e.d.1 = e.s.r
      · have hq : (e.d.1 != e.s.r) = false := by simp [h3]
        have HF1 := Lib.hid (show F1 = 0 by rw [HHD.out]; simp [h3])
        clear h3
        go_wp2_with ((with_reducible refine bl_load ?_ 43 (.tmp 1) ?_ w.heap.size 0 (dlc e la lk ga gk) ?_ ?_ Tryz.underlying43 ?_ ?_ ?_); rfl; rfl; rfl; exact HK2.out.all; rfl; exact infoD _ _ _ _ _; simp only [Act.put, List.setIfInBounds_toArray, List.set_cons_zero, List.set_cons_succ])
        refine (H2.out w2 HM2.out).mono ?_
        rintro v w3 ⟨rfl, hb3⟩
        have HK3 := Lib.hid (HK2.out.keep hb3)
        have HM3 := Lib.hid (HM2.out.below hb3)
        have HB3 := Lib.hid (HB2.out.trans (hb3.mono HB2.out.size))
        clear hb3 HK2 HB2 HM2 c0 c4 H2
        by_cases h4 : E3 = 0
        · subst h4
          have c6 : w3.cell? ⟨w.heap.size, 6, none⟩ = some (.slice ga e.g.length gk) := HK3.out.cell rfl
          go_wp2_with fail
          refine (H3.out w3 HM3.out).mono ?_
          rintro v w4 ⟨rfl, hb4⟩
          have HK4 := Lib.hid (HK3.out.keep hb4)
          have HM4 := Lib.hid (HM3.out.below hb4)
          have HB4 := Lib.hid (HB3.out.trans (hb4.mono HB3.out.size))
          clear hb4 HK3 HB3 HM3 c6 H3
          by_cases h5 : E4 = 0
          · subst h5
            have c6 : w4.cell? ⟨w.heap.size, 6, none⟩ = some (.slice ga e.g.length gk) := HK4.out.cell rfl
            have c0 : w4.cell? ⟨w.heap.size, 0, none⟩ = some (.int .i64 e.d.1) := HK4.out.cell rfl
            have c1 : w4.cell? ⟨w.heap.size, 1, none⟩ = some (.int .i64 e.d.2) := HK4.out.cell rfl
            go_wp2_with fail
            refine (H4.out w4 HM4.out).mono ?_
            rintro v w5 ⟨rfl, hb5⟩
            have HK5 := Lib.hid (HK4.out.keep hb5)
            have HB5 := Lib.hid (HB4.out.trans (hb5.mono HB4.out.size))
            clear hb5 HK4 HB4 HM4 c6 c0 c1 H4
            cases u with
            | true =>
              have HF2 := Lib.hid (show F2 = 5 by rw [HGO.out]; simp)
              have HV2 := Lib.hid (show V = 5 by rw [HV.out, HF1.out, HF2.out]; simp)
              go_wp2_with fail
              go_ret
              exact ⟨by rw [HV2.out]; rfl, HB5.out⟩
            | false =>
              have HF2 := Lib.hid (show F2 = 0 by rw [HGO.out]; simp)
              have HV3 := Lib.hid (show V = F3 by rw [HV.out, HF1.out, HF2.out]; simp)
              have c5 : w5.cell? ⟨w.heap.size, 5, none⟩ = some (.slice la e.l.length lk) := HK5.out.cell rfl
              have c6 : w5.cell? ⟨w.heap.size, 6, none⟩ = some (.slice ga e.g.length gk) := HK5.out.cell rfl
              by_cases h6 : 256 < e.l.length
              · have hd1 : decide ((256 : Int) < (e.l.length : Int)) = true := by simp; omega
                have HV2 := Lib.hid (show V = 3 by rw [HV3.out, HL.out]; simp [h6])
                clear h6
                go_wp2_with fail
                go_ret
                exact ⟨by rw [HV2.out]; rfl, HB5.out⟩
              · have hd1 : decide ((256 : Int) < (e.l.length : Int)) = false := by simp; omega
                by_cases h7 : 256 < e.g.length
                · have hd2 : decide ((256 : Int) < (e.g.length : Int)) = true := by simp; omega
                  have HV2 := Lib.hid (show V = 3 by rw [HV3.out, HL.out]; simp [h7])
                  clear h6 h7
                  go_wp2_with fail
                  go_ret
                  exact ⟨by rw [HV2.out]; rfl, HB5.out⟩
                · have hd2 : decide ((256 : Int) < (e.g.length : Int)) = false := by simp; omega
                  have HV2 := Lib.hid (show V = 0 by rw [HV3.out, HL.out]; simp [h6, h7])
                  clear h6 h7
                  go_wp2_with fail
                  go_ret
                  exact ⟨by rw [HV2.out]; rfl, HB5.out⟩
          · have hne : (E4 != 0) = true := by simp [h5]
            have HF2 := Lib.hid (show F2 = E4 by rw [HGO.out]; simp [h5])
            have HV2 := Lib.hid (show V = E4 by rw [HV.out, HF1.out, HF2.out]; simp [h5])
            clear h5
            go_wp2_with fail
            go_ret
            exact ⟨by rw [HV2.out]; rfl, HB4.out⟩
        · have hne : (E3 != 0) = true := by simp [h4]
          have HV2 := Lib.hid (show V = E3 by rw [HV.out, HF1.out]; simp [h4])
          clear h4
          go_wp2_with fail
          go_ret
          exact ⟨by rw [HV2.out]; rfl, HB3.out⟩
      · have hq : (e.d.1 != e.s.r) = true := by simp [h3]
        have HF1 := Lib.hid (show F1 = 5 by rw [HHD.out]; simp [h3])
        have HV2 := Lib.hid (show V = 5 by rw [HV.out, HF1.out]; simp)
        clear h3
        go_wp2_with fail
        go_ret
        exact ⟨by rw [HV2.out]; rfl, HB2.out⟩
    · have hne : (E2 != 0) = true := by simp [h2]
      have HF1 := Lib.hid (show F1 = E2 by rw [HHD.out]; simp [h2])
      have HV2 := Lib.hid (show V = E2 by rw [HV.out, HF1.out]; simp [h2])
      clear h2
      go_wp2_with fail
      go_ret
      exact ⟨by rw [HV2.out]; rfl, HB2.out⟩
  · have hne : (E1 != 0) = true := by simp [h1]
    have HF1 := Lib.hid (show F1 = E1 by rw [HHD.out]; simp [h1])
    have HV2 := Lib.hid (show V = E1 by rw [HV.out, HF1.out]; simp [h1])
    clear h1
    go_wp2_with fail
    go_ret
    exact ⟨by rw [HV2.out]; rfl, HB1.out⟩
end Go.Proofs.YtmnblpjdiplioaaGreat

namespace Go.Proofs.YtmnblpjdiplioaaGreat
set_option linter.unusedSimpArgs false
set_option linter.unusedVariables false
set_option maxRecDepth 100000
open Go.RowKit Go.Sort

theorem OwnF.ofRow {B g : Nat} {v : Value} {l : List Ft} {w : World} (h : OwnF B v l w) (hb : g < B) (cs : Array Value) : OwnF B v l (w.setRow g cs) := by
  unfold OwnF at *
  refine ⟨h.1, ?_⟩
  rcases h.2 with hn | ⟨q, cap, cur, hv, hB, hg, rest⟩
  · exact .inl hn
  · exact .inr ⟨q, cap, cur, hv, hB, by rw [setRow_other _ _ _ _ (show q ≠ g by omega)]; exact hg, rest⟩
theorem OwnD.ofRow {B g : Nat} {v : Value} {l : List Dt} {w : World} (h : OwnD B v l w) (hb : g < B) (cs : Array Value) : OwnD B v l (w.setRow g cs) := by
  unfold OwnD at *
  refine ⟨h.1, ?_⟩
  rcases h.2 with hn | ⟨q, cap, cur, hv, hB, hg, rest⟩
  · exact .inl hn
  · exact .inr ⟨q, cap, cur, hv, hB, by rw [setRow_other _ _ _ _ (show q ≠ g by omega)]; exact hg, rest⟩
theorem OwnF.fin1 {B n c : Nat} {a : Option Addr} {l : List Ft} {w : World} (h : OwnF B (.slice a n c) l w) : FIn w a l := by
  obtain ⟨a', c', he, hf, -⟩ := h.fin
  injection he with h1 h2 h3
  rw [h1]; exact hf
theorem OwnD.din1 {B n c : Nat} {a : Option Addr} {l : List Dt} {w : World} (h : OwnD B (.slice a n c) l w) : DIn w a l := by
  obtain ⟨a', c', he, hf, -⟩ := h.din
  injection he with h1 h2 h3
  rw [h1]; exact hf
end Go.Proofs.YtmnblpjdiplioaaGreat

namespace Go.Proofs.YtmnblpjdiplioaaGreat
set_option linter.unusedSimpArgs false
set_option linter.unusedVariables false
set_option maxRecDepth 100000
open Go.RowKit Go.Sort

theorem retDl {fn : Func} {p u : Tmp} (h : fn.results = #[.cell p 43, .tmp u]) (tmps : Array Value) (w : World) (g : Nat) (e : Dl) (la : Option Addr) (lk : Nat) (ga : Option Addr) (gk : Nat) (x : Value)
    (hp : tmps.getD p undef = .pointer (some ⟨g, 0, none⟩)) (hx : tmps.getD u undef = x) (hg : DBlk w g e la lk ga gk) :
    (results fn tmps).run Tryz.prog w = .ok (.tuple #[.agg (dlc e la lk ga gk), x]) w := by
  rw [results_cell_tmp h, hp, hx]
  simp [asAddr, run_loadVar_row w g 43 43 (dlc e la lk ga gk) (0, 0) _ hg Tryz.underlying43 rfl (infoD _ _ _ _ _)]
theorem dlMem_zero (w : World) : DlMem w zDl none none := ⟨.inl rfl, .inl rfl, by simp, by simp, fun f hf => by simp at hf⟩
end Go.Proofs.YtmnblpjdiplioaaGreat

namespace Go.Proofs.YtmnblpjdiplioaaGreat
set_option maxRecDepth 100000
open Go.RowKit

def ics (l : Vc) : Array Value := (l.map (Value.int .i64)).toArray
theorem ics_size (l : Vc) : (ics l).size = l.length := by simp [ics]
theorem ics_get (l : Vc) (j : Nat) (h : j < l.length) : (ics l)[j]? = some (.int .i64 (l.getD j 0)) := by
  simp [ics, List.getD_eq_getElem?_getD, List.getElem?_eq_getElem h]
theorem ics_set (l : Vc) (j : Nat) (x : Int) : (ics l).setIfInBounds j (.int .i64 x) = ics (l.set j x) := by
  unfold ics
  apply Array.ext'
  simp [List.map_set]
theorem ics_one (l : Vc) : (ics l).all (·.oneCell') = true := by
  simp [ics]; intro x _; rfl

theorem vecArr : (Tryz.prog.info? 54).map (·.size) = some 16 := by kernel_rfl
theorem infoV {l : Vc} (h : l.length = 16) : (Tryz.prog.info? 54).map (·.size) = some (ics l).size := by rw [ics_size, h]; exact vecArr

/-- a block of sixteen numbers -/
def VRow (w : World) (b : Nat) (l : Vc) : Prop := w.heap[b]? = some (.cells (ics l) 54 (0, 0))
theorem VRow.cell {w : World} {b : Nat} {l : Vc} (h : VRow w b l) (j : Nat) (hj : j < l.length) : w.cell? ⟨b, j, none⟩ = some (.int .i64 (l.getD j 0)) := by
  rw [Joins.cell_of_block h, ics_get l j hj]
theorem VRow.free {w : World} {b : Nat} {l : Vc} (h : VRow w b l) (j : Nat) : w.frozen? ⟨b, j, none⟩ = false := Joins.unfrozen_of_block h j
theorem VRow.lt {w : World} {b : Nat} {l : Vc} (h : VRow w b l) : b < w.heap.size := (Array.getElem?_eq_some_iff.1 h).1
theorem VRow.set {w : World} {b : Nat} {l : Vc} (h : VRow w b l) (j : Nat) (x : Int) : VRow (w.setCell ⟨b, j, none⟩ (.int .i64 x)) b (l.set j x) := by
  have := Joins.block_setCell (i := j) h (.int .i64 x)
  rw [ics_set] at this
  exact this
theorem VRow.other {w : World} {b c : Nat} {l : Vc} (h : VRow w b l) (hc : b ≠ c) (j : Nat) (x : Value) : VRow (w.setCell ⟨c, j, none⟩ x) b l := by
  unfold VRow; rw [Below.heap_setCell _ _ _ _ hc]; exact h
theorem VRow.drew {w : World} {b : Nat} {l : Vc} (h : VRow w b l) : VRow w.drew b l := h
theorem VRow.drewN {w : World} {b : Nat} {l : Vc} (h : VRow w b l) (n : Nat) : VRow (w.drewN n) b l := h
theorem VRow.below {w w' : World} {b B : Nat} {l : Vc} (h : VRow w b l) (hb : Below B w w') (hB : b < B) : VRow w' b l := by
  unfold VRow; rw [hb.block b hB]; exact h
theorem VRow.keep {w w' : World} {b : Nat} {l : Vc} (h : VRow w b l) (hb : Below w.heap.size w w') : VRow w' b l := h.below hb h.lt
theorem VRow.alloc {w : World} {b : Nat} {l : Vc} (h : VRow w b l) (o : Obj) : VRow (w.alloc o) b l := by
  unfold VRow; rw [Below.heap_alloc _ _ _ h.lt]; exact h
theorem VRow.of_set {w : World} {b c : Nat} {l : Vc} (h : VRow w b l) (hc : b ≠ c) (C : Array Value) : VRow (w.setRow c C) b l := by
  unfold VRow; rw [setRow_other _ _ _ _ hc]; exact h
theorem VRow.of_put {w : World} {b : Nat} {old : Array Value} (h : w.heap[b]? = some (.cells old 54 (0, 0))) (l : Vc) : VRow (w.setRow b (ics l)) b l := setRow_heap _ _ _ _ _ _ h
theorem VRow.new (w : World) (l : Vc) : VRow (w.alloc (.cells (ics l) 54)) w.heap.size l := heap_alloc_new w _
theorem vl_store {ops : Array Oper} {rest : List Oper} {o : Oper} {a : Act} {w : World} {Q : Exit → Act → World → Prop} (hgd : o.guard = none) (x y : Operand) (ho : o.op = .store 54 x y) (g : Nat) (l : Vc)
    (hx : a.eval x = .pointer (some ⟨g, 0, none⟩)) (hy : a.eval y = .agg (ics l)) (hg : ∃ old : Vc, VRow w g old ∧ old.length = l.length) (hl : l.length = 16)
    (h : wpList Tryz.prog ops Q rest (a.put o.dst undef) (w.setRow g (ics l))) : wpList Tryz.prog ops Q (o :: rest) a w := by
  obtain ⟨old, hg, ho2⟩ := hg
  exact wpList_store_row hgd 54 x y ho g (ics l) hx hy 54 (ics old) hg (infoV hl) (by rw [ics_size, ics_size]; exact ho2) (ics_one _) h
theorem vl_load {ops : Array Oper} {rest : List Oper} {o : Oper} {a : Act} {w : World} {Q : Exit → Act → World → Prop} (hgd : o.guard = none) (x : Operand) (ho : o.op = .load 54 x) (g : Nat) (l : Vc)
    (hx : a.eval x = .pointer (some ⟨g, 0, none⟩)) (hg : VRow w g l) (hl : l.length = 16)
    (h : wpList Tryz.prog ops Q rest (a.put o.dst (.agg (ics l))) w) : wpList Tryz.prog ops Q (o :: rest) a w :=
  wpList_load_row hgd 54 x ho g hx 54 (ics l) (0, 0) _ hg Tryz.underlying54 rfl (infoV hl) h

end Go.Proofs.YtmnblpjdiplioaaGreat

namespace Go.Proofs.YtmnblpjdiplioaaGreat
set_option maxRecDepth 100000
open Go.RowKit Go.Sort

theorem vl_build {ops : Array Oper} {rest : List Oper} {o : Oper} {a : Act} {w : World} {Q : Exit → Act → World → Prop} (hw : Region.wanted o (yielded ops a.tmps) = true) (t : TypeId) (parts : Array (Nat × Operand)) (ho : o.op = .build t parts) (cs : Array Value)
    (hb : Tryz.prog.built t (parts.map fun (i, x) => (i, a.eval x)).toList = some cs)
    (h : wpList Tryz.prog ops Q rest (a.put o.dst (.agg cs)) w) : wpList Tryz.prog ops Q (o :: rest) a w := by
  unfold wpList
  rw [if_pos hw]
  refine .inl ?_
  refine wp_build t parts ho (by rw [hb]; rfl) ?_
  rw [hb]
  exact h
theorem VRow.load {w : World} {b : Nat} {l : Vc} (h : VRow w b l) (hl : l.length = 16) : (loadVar 54 ⟨b, 0, none⟩).run Tryz.prog w = .ok (.agg (ics l)) w :=
  run_loadVar_row w b 54 54 (ics l) (0, 0) _ h Tryz.underlying54 rfl (infoV hl)
theorem VRow.store {w : World} {b : Nat} {l m : Vc} (h : VRow w b l) (hl : l.length = 16) (hm : m.length = 16) : (storeVar 54 ⟨b, 0, none⟩ (.agg (ics m))).run Tryz.prog w = .ok () (w.setRow b (ics m)) :=
  run_storeVar_row w b 54 54 (ics l) (ics m) h (infoV hm) (by rw [ics_size, ics_size, hl, hm]) (ics_one _)
theorem VRow.regrown {W : World} {b : Nat} {l : Vc} (h : VRow W b l) : ∀ w, (∃ p : Regrown, w = grow (redrawn W p.d) p.os) → VRow w b l := by
  rintro w ⟨p, rfl⟩
  exact h.keep (below_regrown W p.d p.os)
end Go.Proofs.YtmnblpjdiplioaaGreat
