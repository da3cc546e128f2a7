/-
  fact, the document's: Check, Checks.
-/
import Derived.Test.YtkodololdjainaaGreatFactLst
import Derived.Test.YtkodololdjainaaGreatGDelQ
import Derived.Test.YtkodololdjainaaGreatGDelR
import Derived.Test.YtkodololdjainaaGreatGDelD
namespace Go.Proofs.YtkodololdjainaaGreat
set_option maxRecDepth 100000
open Go.RowKit Go.Sort

set_option maxHeartbeats 4000000 in
/-- Check, the document's -/
theorem fchkR (f : Ft) (hs : f.v.size ≤ 5000) (w : World) : Calls Tryz.prog 66 #[.agg (fcs f).toArray] w fun e w' => e = .returned (.int .i64 (chkFm f)) ∧ Below w.heap.size w w' := by
  have hcd := fun W => checkR f.d W
  have hcs := fun W => tchkR f.s W
  have hrd := fun W => readMR f.v (by omega) (rMan_short hs) W
  have hvsz := hs
  have hin := boxF_in w f
  have HB0 := Lib.hid (boxF_gr w f).below
  have HSZ := Lib.hid (boxF_size w f)
  have hch : chkFm f = if chkD f.d ≠ 0 then chkD f.d else if chkS f.s ≠ 0 then chkS f.s else if f.d.1 ≠ f.s.r then 5 else if f.k < 1 ∨ 4 < f.k then 1 else if f.n.size < 1 ∨ 64 < f.n.size then 14 else valE f.k f.v := rfl
  generalize chkFm f = R at *
  have HJ := Lib.hid hch
  clear hch
  obtain ⟨D, hDD⟩ : ∃ D, chkD f.d = D := ⟨_, rfl⟩
  obtain ⟨E, hEE⟩ : ∃ E, chkS f.s = E := ⟨_, rfl⟩
  rw [hDD] at HJ hcd
  rw [hEE] at HJ hcs
  clear hDD hEE
  unfold boxD at hcd
  unfold boxS at hcs
  have HCD := Lib.hid hcd
  have HCS := Lib.hid hcs
  have HRD := Lib.hid hrd
  have HVS := Lib.hid hvsz
  clear hcd hcs hrd hs hvsz
  have cells : ∀ U, Below (boxF w f).heap.size (boxF w f) U → ∀ j v, (fcs f)[j]? = some v → U.cell? ⟨w.heap.size, j, none⟩ = some v := fun U hU j v hv => by
    rw [hU.cell (p := ⟨w.heap.size, j, none⟩) (by show w.heap.size < _; rw [HSZ.out]; omega)]
    have := hin j v hv
    rwa [Nat.zero_add] at this
  have HC := Lib.hid cells
  have c0 := cells _ (Below.refl _ _) 0 _ rfl
  have c1 := cells _ (Below.refl _ _) 1 _ rfl
  clear cells hin
  unfold boxF at c0 c1 HC HB0
  go_enter Tryz.func66, Tryz.ntmps66
  go_wp2_with fail
  generalize w.alloc (.cells (fcs f).toArray 88) = W at *
  refine (HCD.out _).mono ?_
  rintro e w1 ⟨rfl, hw⟩
  have hb1 : Below W.heap.size W w1 := by rw [← hw]; exact (Below.refl _ _).alloc (Nat.le_refl _) _
  have HB1 := Lib.hid hb1
  clear hb1 hw c0 c1 HCD
  by_cases hD : D = 0
  case neg =>
    replace HJ := Lib.hid (HJ.out.trans (if_pos hD))
    have hne : (D != 0) = true := by simp [hD]
    clear hD
    go_wp2_with fail
    go_ret
    exact ⟨by rw [HJ.out]; rfl, HB0.out.trans (HB1.out.mono HB0.out.size)⟩
  replace HJ := Lib.hid (HJ.out.trans (if_neg (by simp [hD])))
  subst hD
  have c2 := HC.out w1 HB1.out 2 _ rfl
  have c3 := HC.out w1 HB1.out 3 _ rfl
  have c4 := HC.out w1 HB1.out 4 _ rfl
  go_wp2_with fail
  refine (HCS.out _).mono ?_
  rintro e w2 ⟨rfl, hw⟩
  have hb2 : Below w1.heap.size w1 w2 := by rw [← hw]; exact (Below.refl _ _).alloc (Nat.le_refl _) _
  have HB2 := Lib.hid (HB1.out.trans (hb2.mono HB1.out.size))
  clear hb2 hw c2 c3 c4 HCS
  by_cases hE : E = 0
  case neg =>
    replace HJ := Lib.hid (HJ.out.trans (if_pos hE))
    have hne : (E != 0) = true := by simp [hE]
    clear hE
    go_wp2_with fail
    go_ret
    exact ⟨by rw [HJ.out]; rfl, HB0.out.trans (HB2.out.mono HB0.out.size)⟩
  replace HJ := Lib.hid (HJ.out.trans (if_neg (by simp [hE])))
  subst hE
  have d0 := HC.out w2 HB2.out 0 _ rfl
  have d4 := HC.out w2 HB2.out 4 _ rfl
  have d5 := HC.out w2 HB2.out 5 _ rfl
  have d6 := HC.out w2 HB2.out 6 _ rfl
  have d7 := HC.out w2 HB2.out 7 _ rfl
  have HB3 := Lib.hid (HB0.out.trans (HB2.out.mono HB0.out.size))
  clear HC HB0 HB1 HB2 HSZ
  by_cases hR : f.d.1 = f.s.r
  case neg =>
    replace HJ := Lib.hid (HJ.out.trans (if_pos hR))
    have hne : (f.d.1 != f.s.r) = true := by simp [hR]
    clear hR
    go_wp2_with fail
    go_ret
    exact ⟨by rw [HJ.out]; rfl, HB3.out⟩
  replace HJ := Lib.hid (HJ.out.trans (if_neg (by simp [hR])))
  have hne : (f.d.1 != f.s.r) = false := by simp [hR]
  by_cases hK1 : f.k < 1
  · replace HJ := Lib.hid (HJ.out.trans (if_pos (.inl hK1)))
    have g : decide (f.k < 1) = true := by simp; omega
    clear hK1 hR
    go_wp2_with fail
    go_ret
    exact ⟨by rw [HJ.out]; rfl, HB3.out⟩
  have g1 : decide (f.k < 1) = false := by simp; omega
  by_cases hK2 : 4 < f.k
  · replace HJ := Lib.hid (HJ.out.trans (if_pos (.inr hK2)))
    have g : decide (4 < f.k) = true := by simp; omega
    clear hK1 hK2 hR
    go_wp2_with fail
    go_ret
    exact ⟨by rw [HJ.out]; rfl, HB3.out⟩
  have g2 : decide (4 < f.k) = false := by simp; omega
  replace HJ := Lib.hid (HJ.out.trans (if_neg (by omega)))
  by_cases hN1 : f.n.size < 1
  · replace HJ := Lib.hid (HJ.out.trans (if_pos (.inl hN1)))
    have g3 : decide ((f.n.size : Int) < 1) = true := by simp; omega
    clear hN1 hK1 hK2 hR
    go_wp2_with fail
    go_ret
    exact ⟨by rw [HJ.out]; rfl, HB3.out⟩
  have g3 : decide ((f.n.size : Int) < 1) = false := by simp; omega
  by_cases hN2 : 64 < f.n.size
  · replace HJ := Lib.hid (HJ.out.trans (if_pos (.inr hN2)))
    have g4 : decide ((64 : Int) < (f.n.size : Int)) = true := by simp; omega
    clear hN1 hN2 hK1 hK2 hR
    go_wp2_with fail
    go_ret
    exact ⟨by rw [HJ.out]; rfl, HB3.out⟩
  have g4 : decide ((64 : Int) < (f.n.size : Int)) = false := by simp; omega
  replace HJ := Lib.hid (HJ.out.trans (if_neg (by omega)))
  have hvs := HVS.out
  have hk : f.k = 1 ∨ f.k = 2 ∨ f.k = 3 ∨ f.k = 4 := by omega
  clear hN1 hN2 hK1 hK2 hR
  rcases hk with hk | hk | hk | hk
  · have q1 : (f.k == (1 : Int)) = true := by simp [hk]
    have g5 : decide ((16384 : Int) < (f.v.size : Int)) = false := by simp; omega
    have hv : valE f.k f.v = rdM f.v := by unfold valE; rw [if_pos hk, if_neg (by omega)]
    replace HJ := Lib.hid (HJ.out.trans hv)
    have e : rdM f.v = (readM f.v).2 := rfl
    rw [e] at HJ
    clear hv e hk hvs
    generalize readM f.v = M at *
    obtain ⟨⟨z, c, ids⟩, x⟩ := M
    unfold mv at HRD
    simp only at HRD HJ
    go_wp2_with fail
    refine (HRD.out _).mono ?_
    rintro e w4 ⟨mvv, rfl, hown, hb⟩
    obtain ⟨la, lc, rfl, -, -⟩ := ownS_row hown
    have H5 := Lib.hid (HB3.out.trans ((hb.alloc hb.size (.cells #[.int .i64 z, .int .i64 c, .slice la ids.length lc] 135)).mono HB3.out.size))
    clear hb hown
    go_wp2_with fail
    go_ret
    exact ⟨by rw [HJ.out]; rfl, H5.out⟩
  · have q1 : (f.k == (1 : Int)) = false := by simp [hk]
    have q2 : (f.k == (2 : Int)) = true := by simp [hk]
    have hv : valE f.k f.v = if 256 < f.v.size then 3 else 0 := by unfold valE; rw [if_neg (by omega), if_pos hk]
    replace HJ := Lib.hid (HJ.out.trans hv)
    clear hv
    by_cases h : 256 < f.v.size
    · replace HJ := Lib.hid (HJ.out.trans (if_pos h))
      have g5 : decide ((256 : Int) < (f.v.size : Int)) = true := by simp; omega
      clear h hk hvs
      go_wp2_with fail
      go_ret
      exact ⟨by rw [HJ.out]; rfl, HB3.out⟩
    · replace HJ := Lib.hid (HJ.out.trans (if_neg h))
      have q3 : (f.k == (3 : Int)) = false := by simp [hk]
      have q4 : (f.k == (4 : Int)) = false := by simp [hk]
      have g5 : decide ((256 : Int) < (f.v.size : Int)) = false := by simp; omega
      clear h hk hvs
      go_wp2_with fail
      go_ret
      exact ⟨by rw [HJ.out]; rfl, HB3.out⟩
  · have q1 : (f.k == (1 : Int)) = false := by simp [hk]
    have q2 : (f.k == (2 : Int)) = false := by simp [hk]
    have q3 : (f.k == (3 : Int)) = true := by simp [hk]
    have q4 : (f.k == (4 : Int)) = false := by simp [hk]
    have hv : valE f.k f.v = if f.v.size < 1 ∨ 64 < f.v.size then 14 else 0 := by unfold valE; rw [if_neg (by omega), if_neg (by omega), if_pos hk]
    replace HJ := Lib.hid (HJ.out.trans hv)
    clear hv
    by_cases h : f.v.size < 1
    · replace HJ := Lib.hid (HJ.out.trans (if_pos (.inl h)))
      have g5 : decide ((f.v.size : Int) < 1) = true := by simp; omega
      clear h hk hvs
      go_wp2_with fail
      go_ret
      exact ⟨by rw [HJ.out]; rfl, HB3.out⟩
    · have g5 : decide ((f.v.size : Int) < 1) = false := by simp; omega
      by_cases h2 : 64 < f.v.size
      · replace HJ := Lib.hid (HJ.out.trans (if_pos (.inr h2)))
        have g6 : decide ((64 : Int) < (f.v.size : Int)) = true := by simp; omega
        clear h h2 hk hvs
        go_wp2_with fail
        go_ret
        exact ⟨by rw [HJ.out]; rfl, HB3.out⟩
      · replace HJ := Lib.hid (HJ.out.trans (if_neg (by omega)))
        have g6 : decide ((64 : Int) < (f.v.size : Int)) = false := by simp; omega
        clear h h2 hk hvs
        go_wp2_with fail
        go_ret
        exact ⟨by rw [HJ.out]; rfl, HB3.out⟩
  · have q1 : (f.k == (1 : Int)) = false := by simp [hk]
    have q2 : (f.k == (2 : Int)) = false := by simp [hk]
    have q3 : (f.k == (3 : Int)) = false := by simp [hk]
    have q4 : (f.k == (4 : Int)) = true := by simp [hk]
    have hv : valE f.k f.v = if f.v.size ≠ 8 then 5 else 0 := by unfold valE; rw [if_neg (by omega), if_neg (by omega), if_neg (by omega)]
    replace HJ := Lib.hid (HJ.out.trans hv)
    clear hv
    by_cases h : f.v.size = 8
    · replace HJ := Lib.hid (HJ.out.trans (if_neg (by simp [h])))
      have g5 : ((f.v.size : Int) != 8) = false := by simp; omega
      clear h hk hvs
      go_wp2_with fail
      go_ret
      exact ⟨by rw [HJ.out]; rfl, HB3.out⟩
    · replace HJ := Lib.hid (HJ.out.trans (if_pos h))
      have g5 : ((f.v.size : Int) != 8) = true := by simp; omega
      clear h hk hvs
      go_wp2_with fail
      go_ret
      exact ⟨by rw [HJ.out]; rfl, HB3.out⟩


set_option maxHeartbeats 4000000 in
set_option maxRecDepth 100000 in
theorem chkFsR (l : List Ft) (a : Option Addr) (cap : Nat) (w : World) (h : FIn w a l) (hl : l.length ≤ maxLen) (hv : ∀ f ∈ l, f.v.size ≤ 5000) :
    Calls Tryz.prog 60 #[.slice a l.length cap] w fun e w' => e = .returned (.int .i64 (chkFs rdM l)) ∧ Go.RowKit.Below w.heap.size w w' := by
  have H := Lib.hid h
  clear h
  unfold maxLen at hl
  go_enter Tryz.func60, Tryz.ntmps60
  go_wp2_with fail
  go_loopw [3] (fun i wr => ∃ k : Nat, k ≤ l.length ∧ i = .int .i64 k ∧ Hid (∀ j d, j < k → l[j]? = some d → chkFm d = 0) ∧ Go.RowKit.Below w.heap.size w wr) (fun i _ => l.length - (intOf i).toNat)
  case atStart => exact ⟨0, Nat.zero_le _, rfl, Lib.hid (fun j d hj => by omega), Go.RowKit.Below.refl _ _⟩
  case round =>
    obtain ⟨k, hk, rfl, HK, hb⟩ := hrel
    have HB := Lib.hid hb
    have hbs := hb.size
    clear hb
    by_cases hlt : k < l.length
    · obtain ⟨d, hd⟩ : ∃ d, l[k]? = some d := ⟨_, List.getElem?_eq_getElem hlt⟩
      obtain ⟨b, off, rfl, hbl, c0⟩ := (H.out.below HB.out).at hd
      have c0 := Lib.hid c0
      have hi1 : (k : Int) < (l.length : Int) := by omega
      have hck := fun W => fchkR d (hv d (List.mem_of_getElem? hd)) W
      have HD := Lib.hid hd
      have hch : ∀ he : chkFm d ≠ 0, chkFs rdM l = chkFm d := fun he => firstF_atJ HK.out HD.out he
      have HCH := Lib.hid hch
      have HK3 := Lib.hid (show chkFm d = 0 → ∀ j d, j < k + 1 → l[j]? = some d → chkFm d = 0 from fun he j d hj hjd => by
        rcases Nat.lt_or_ge j k with h1 | h1
        · exact HK.out j d h1 hjd
        · obtain rfl : j = k := by omega
          rw [HD.out] at hjd
          rw [← Option.some.inj hjd]; exact he)
      generalize hE : chkFm d = E at hck HCH HK3
      clear hd hch hE
      by_cases he : E = 0
      · have HK2 := Lib.hid (HK3.out he)
        subst he
        clear HK3
        go_wp2_with ((with_reducible refine fl_load ?_ (.tmp 14) ?_ b (off + k * 8) d ?_ ?_ ?_); rfl; rfl; rfl; exact c0.out)
        refine (hck _).mono ?_
        rintro e w1 ⟨rfl, hb1⟩
        have HB1 := Lib.hid (HB.out.trans (hb1.mono hbs))
        clear hb1
        go_wp2_with fail
        go_roundw
        case rel => exact ⟨k + 1, by omega, by go_num, HK2, HB1.out⟩
        case measure => simp [intOf]; omega
      · have HF := Lib.hid (HCH.out he)
        have hne : (E != 0) = true := by simp [he]
        clear he HK3 HCH
        go_wp2_with ((with_reducible refine fl_load ?_ (.tmp 14) ?_ b (off + k * 8) d ?_ ?_ ?_); rfl; rfl; rfl; exact c0.out)
        refine (hck _).mono ?_
        rintro e w1 ⟨rfl, hb1⟩
        have HB1 := Lib.hid (HB.out.trans (hb1.mono hbs))
        clear hb1
        go_wp2_with fail
        go_ret
        exact ⟨by rw [HF.out]; rfl, HB1.out⟩
    · have hkn : k = l.length := by omega
      have HG := Lib.hid (show ∀ d ∈ l, chkFm d = 0 from fun d hd => by
        obtain ⟨j, hj, hjd⟩ := List.mem_iff_getElem.1 hd
        exact HK.out j d (by omega) (by rw [List.getElem?_eq_getElem hj, hjd]))
      clear hkn HK hk
      go_wp2_with fail
      go_loopw [5] (fun i wk => ∃ k : Nat, i = .int .i64 ((k : Int) + 1) ∧ k ≤ l.length ∧ Hid (∀ j, (h : j + 1 < l.length) → j < k → ltF l[j] l[j + 1] = true) ∧ Go.RowKit.Below w.heap.size w wk) (fun i _ => l.length + 1 - (intOf i).toNat)
      case atStart => exact ⟨0, by simp, Nat.zero_le _, Lib.hid (fun j _ hj => by omega), HB.out⟩
      case round =>
        obtain ⟨m, rfl, hm, HR, hb2⟩ := hrel
        have HB2 := Lib.hid hb2
        have hbs2 := hb2.size
        clear hb2
        by_cases hlt2 : m + 1 < l.length
        · obtain ⟨x, hx⟩ : ∃ x, l[m]? = some x := ⟨_, List.getElem?_eq_getElem (by omega)⟩
          obtain ⟨y, hy⟩ : ∃ y, l[m + 1]? = some y := ⟨_, List.getElem?_eq_getElem hlt2⟩
          obtain ⟨b, off, rfl, hbl, c0⟩ := (H.out.below HB2.out).at hx
          obtain ⟨b', off', hbe, hbl', p0⟩ := (H.out.below HB2.out).at hy
          have hbe2 := Option.some.inj hbe
          obtain ⟨rfl, rfl⟩ : b = b' ∧ off = off' := by injection hbe2 with h1 h2; exact ⟨h1, h2⟩
          have hxe : l[m]'(by omega) = x := by rw [List.getElem?_eq_getElem (by omega)] at hx; exact Option.some.inj hx
          have hye : l[m + 1] = y := by rw [List.getElem?_eq_getElem hlt2] at hy; exact Option.some.inj hy
          have HXE := Lib.hid hxe
          have HYE := Lib.hid hye
          have hi0 : (0 : Int) ≤ (m : Int) := by omega
          have hi1 : (m : Int) < (l.length : Int) := by omega
          have hi2 : (m : Int) + 1 < (l.length : Int) := by omega
          have hi3 : IntKind.i64.wrap (m : Int) = m := by simp [IntKind.wrap, IntKind.bits, IntKind.signed]; omega
          have hi4 : (0 : Int) ≤ (m : Int) + 1 := by omega
          have HR0 := Lib.hid (range_regrown c0 hbl)
          have HR1 := Lib.hid (range_regrown p0 hbl)
          have cX := fun d os => Calls.regrown_of (lessFR x y (grow (redrawn wr d) os))
          have HCX := Lib.hid cX
          have hno : ltF x y = true ∨ ltF x y = false := by cases ltF x y <;> simp
          have HNO := Lib.hid (show ltF x y = true → ∀ j, (h : j + 1 < l.length) → j < m + 1 → ltF l[j] l[j + 1] = true from fun hh j hj hjm => by
            rcases Nat.lt_or_ge j m with h1 | h1
            · exact HR.out j hj h1
            · obtain rfl : j = m := by omega
              rw [HXE.out, HYE.out]; exact hh)
          have HNF := Lib.hid (show ltF x y = false → chkFs rdM l = 5 from fun hh => chkFs_flatJ HG.out (fun hr => by have := hr.near m hlt2; rw [HXE.out, HYE.out, hh] at this; cases this))
          generalize ltF x y = t at HNO HNF HCX hno
          clear hx hy hxe hye cX hbe hbe2 hbl' c0 p0
          rcases hno with rfl | rfl
          · have HN := Lib.hid (HNO.out rfl)
            clear HNO HNF
            go_upto_region 10 with fail
            refine wp_region_quiet_below (by kernel_rfl) (by kernel_rfl) ?_
            repeat (first
              | ((with_reducible refine fq_load ?_ (.tmp 29) ?_ b (off + m * 8) x ?_ ?_ ?_); rfl; rfl; rfl; exact HR0.out; simp only [Act.put, List.setIfInBounds_toArray, List.set_cons_zero, List.set_cons_succ])
              | ((with_reducible refine fq_load ?_ (.tmp 33) ?_ b (off + (m + 1) * 8) y ?_ ?_ ?_); rfl; rfl; rfl; exact HR1.out; simp only [Act.put, List.setIfInBounds_toArray, List.set_cons_zero, List.set_cons_succ])
              | go_big_quiet_step ((go_at_call 82; with_reducible exact HCX.out _ _)) | quiet_step ((go_at_call 82; with_reducible exact HCX.out _ _)))
            refine wpQuiet_nil ?_
            intro _ hw'
            obtain ⟨⟨dq, osq⟩, hw''⟩ := hw'
            subst hw''
            have HB9 := Lib.hid (HB2.out.trans ((below_regrown wr dq osq).mono HB2.out.size))
            clear HCX HR0 HR1
            generalize grow (redrawn wr dq) osq = W at *
            go_wp2_with fail
            go_roundw
            case rel => exact ⟨m + 1, by go_num, by omega, HN, HB9.out⟩
            case measure => simp [intOf]; omega
          · have HN := Lib.hid (HNF.out rfl)
            clear HNO HNF
            go_upto_region 10 with fail
            refine wp_region_quiet_below (by kernel_rfl) (by kernel_rfl) ?_
            repeat (first
              | ((with_reducible refine fq_load ?_ (.tmp 29) ?_ b (off + m * 8) x ?_ ?_ ?_); rfl; rfl; rfl; exact HR0.out; simp only [Act.put, List.setIfInBounds_toArray, List.set_cons_zero, List.set_cons_succ])
              | ((with_reducible refine fq_load ?_ (.tmp 33) ?_ b (off + (m + 1) * 8) y ?_ ?_ ?_); rfl; rfl; rfl; exact HR1.out; simp only [Act.put, List.setIfInBounds_toArray, List.set_cons_zero, List.set_cons_succ])
              | go_big_quiet_step ((go_at_call 82; with_reducible exact HCX.out _ _)) | quiet_step ((go_at_call 82; with_reducible exact HCX.out _ _)))
            refine wpQuiet_nil ?_
            intro _ hw'
            obtain ⟨⟨dq, osq⟩, hw''⟩ := hw'
            subst hw''
            have HB9 := Lib.hid (HB2.out.trans ((below_regrown wr dq osq).mono HB2.out.size))
            clear HCX HR0 HR1
            generalize grow (redrawn wr dq) osq = W at *
            go_wp2_with fail
            go_ret
            exact ⟨by rw [HN.out]; rfl, HB9.out⟩
        · have hfin : chkFs rdM l = 0 := chkFs_goodJ HG.out (riseF_near l (fun j hj => HR.out j hj (by omega)))
          have HF := Lib.hid hfin
          have hi2 : ¬ (m : Int) + 1 < (l.length : Int) := by omega
          clear hfin
          go_wp2_with fail
          go_ret
          exact ⟨by rw [HF.out]; rfl, HB2.out⟩
end Go.Proofs.YtkodololdjainaaGreat
