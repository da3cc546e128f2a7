/-
  list.Check of facts: whether each may be, and whether they rise.
-/
import Derived.Test.YtkodololdjainaaGreatFactChk
import Derived.Lib.QuietBelow
import Derived.BigQuiet
import Derived.Deep.Cut
import Derived.Deep.DeepCutAuto
namespace Go.Proofs.YtkodololdjainaaGreat
set_option maxRecDepth 100000
open Go.RowKit Go.Sort

theorem firstF_atJ {rd : ByteArray → Int} {l : List Ft} {k : Nat} {d : Ft} (h : ∀ j d, j < k → l[j]? = some d → chkF rd d = 0) (hd : l[k]? = some d) (he : chkF rd d ≠ 0) : chkFs rd l = chkF rd d := by
  have h1 := firstF_at hd he (fun i g hi hg => h i g hi hg)
  rw [chkFs_bad (by rw [h1]; exact he), h1]
theorem chkFs_flatJ {rd : ByteArray → Int} {l : List Ft} (h : ∀ d ∈ l, chkF rd d = 0) (hr : ¬ RiseF l) : chkFs rd l = 5 := chkFs_flat (firstF_ok.2 h) hr
theorem chkFs_goodJ {rd : ByteArray → Int} {l : List Ft} (h : ∀ d ∈ l, chkF rd d = 0) (hr : RiseF l) : chkFs rd l = 0 := chkFs_good (firstF_ok.2 h) hr

set_option maxHeartbeats 4000000 in
set_option maxRecDepth 100000 in
theorem chkFsC (l : List Ft) (a : Option Addr) (cap : Nat) (w : World) (h : FIn w a l) (hl : l.length ≤ maxLen) (hv : ∀ f ∈ l, f.v.size ≤ 5000) :
    Calls Tryz.prog 63 #[.slice a l.length cap, .func (.func 53) #[] #[], .func (.func 54) #[] #[]] w fun e w' => e = .returned (.int .i64 (chkFs rdM l)) ∧ Go.RowKit.Below w.heap.size w w' := by
  have H := Lib.hid h
  clear h
  unfold maxLen at hl
  go_enter Tryz.func63, Tryz.ntmps63
  go_wp2_with fail
  go_loopw [13] (fun i wr => ∃ k : Nat, k ≤ l.length ∧ i = .int .i64 k ∧ Hid (∀ j d, j < k → l[j]? = some d → chkFm d = 0) ∧ Go.RowKit.Below w.heap.size w wr) (fun i _ => l.length - (intOf i).toNat)
  case atStart => exact ⟨0, Nat.zero_le _, rfl, Lib.hid (fun j d hj => by omega), Go.RowKit.Below.refl _ _⟩
  case round =>
    obtain ⟨k, hk, rfl, HK, hb⟩ := hrel
    have HB := Lib.hid hb
    have hbs := hb.size
    clear hb
    by_cases hlt : k < l.length
    · obtain ⟨d, hd⟩ : ∃ d, l[k]? = some d := ⟨_, List.getElem?_eq_getElem hlt⟩
      obtain ⟨b, off, rfl, hbl, c0⟩ := (H.out.below HB.out).at hd
      have c0 := Lib.hid c0
      have hi1 : (k : Int) < (l.length : Int) := by omega
      have hck := fun W => fchkC d (hv d (List.mem_of_getElem? hd)) W
      have HD := Lib.hid hd
      have hch : ∀ he : chkFm d ≠ 0, chkFs rdM l = chkFm d := fun he => firstF_atJ HK.out HD.out he
      have HCH := Lib.hid hch
      have HK3 := Lib.hid (show chkFm d = 0 → ∀ j d, j < k + 1 → l[j]? = some d → chkFm d = 0 from fun he j d hj hjd => by
        rcases Nat.lt_or_ge j k with h1 | h1
        · exact HK.out j d h1 hjd
        · obtain rfl : j = k := by omega
          rw [HD.out] at hjd
          rw [← Option.some.inj hjd]; exact he)
      generalize hE : chkFm d = E at hck HCH HK3
      clear hd hch hE
      by_cases he : E = 0
      · have HK2 := Lib.hid (HK3.out he)
        subst he
        clear HK3
        go_wp2_with (first
          | ((with_reducible refine fl_load ?_ (.tmp 15) ?_ b (off + k * 8) d ?_ ?_ ?_); rfl; rfl; rfl; exact c0.out)
          | ((with_reducible refine fl_store ?_ (.tmp 8) (.tmp 16) ?_ wr.heap.size d ?_ ?_ ?_ ?_); rfl; rfl; rfl; rfl; exact boxZ_old wr)
          | ((with_reducible refine fl_load ?_ (.tmp 8) ?_ wr.heap.size 0 d ?_ ?_ ?_); rfl; rfl; rfl; exact (boxZ_row wr d).range))
        refine (hck _).mono ?_
        rintro e w1 ⟨rfl, hb1⟩
        have HB1 := Lib.hid (HB.out.trans (((boxZ_below wr d).trans (hb1.mono (boxZ_below wr d).size)).mono hbs))
        clear hb1
        go_wp2_with fail
        go_roundw
        case rel => exact ⟨k + 1, by omega, by go_num, HK2, HB1.out⟩
        case measure => simp [intOf]; omega
      · have HF := Lib.hid (HCH.out he)
        have hne : (E != 0) = true := by simp [he]
        clear he HK3 HCH
        go_wp2_with (first
          | ((with_reducible refine fl_load ?_ (.tmp 15) ?_ b (off + k * 8) d ?_ ?_ ?_); rfl; rfl; rfl; exact c0.out)
          | ((with_reducible refine fl_store ?_ (.tmp 8) (.tmp 16) ?_ wr.heap.size d ?_ ?_ ?_ ?_); rfl; rfl; rfl; rfl; exact boxZ_old wr)
          | ((with_reducible refine fl_load ?_ (.tmp 8) ?_ wr.heap.size 0 d ?_ ?_ ?_); rfl; rfl; rfl; exact (boxZ_row wr d).range))
        refine (hck _).mono ?_
        rintro e w1 ⟨rfl, hb1⟩
        have HB1 := Lib.hid (HB.out.trans (((boxZ_below wr d).trans (hb1.mono (boxZ_below wr d).size)).mono hbs))
        clear hb1
        go_wp2_with fail
        go_ret
        exact ⟨by rw [HF.out]; rfl, HB1.out⟩
    · have hkn : k = l.length := by omega
      have HG := Lib.hid (show ∀ d ∈ l, chkFm d = 0 from fun d hd => by
        obtain ⟨j, hj, hjd⟩ := List.mem_iff_getElem.1 hd
        exact HK.out j d (by omega) (by rw [List.getElem?_eq_getElem hj, hjd]))
      clear hkn HK hk
      go_wp2_with fail
      go_loopw [10] (fun i wk => ∃ k : Nat, i = .int .i64 ((k : Int) + 1) ∧ k ≤ l.length ∧ Hid (∀ j, (h : j + 1 < l.length) → j < k → ltF l[j] l[j + 1] = true) ∧ Go.RowKit.Below w.heap.size w wk) (fun i _ => l.length + 1 - (intOf i).toNat)
      case atStart => exact ⟨0, by simp, Nat.zero_le _, Lib.hid (fun j _ hj => by omega), HB.out⟩
      case round =>
        obtain ⟨m, rfl, hm, HR, hb2⟩ := hrel
        have HB2 := Lib.hid hb2
        have hbs2 := hb2.size
        clear hb2
        by_cases hlt2 : m + 1 < l.length
        · obtain ⟨x, hx⟩ : ∃ x, l[m]? = some x := ⟨_, List.getElem?_eq_getElem (by omega)⟩
          obtain ⟨y, hy⟩ : ∃ y, l[m + 1]? = some y := ⟨_, List.getElem?_eq_getElem hlt2⟩
          obtain ⟨b, off, rfl, hbl, c0⟩ := (H.out.below HB2.out).at hx
          obtain ⟨b', off', hbe, hbl', p0⟩ := (H.out.below HB2.out).at hy
          have hbe2 := Option.some.inj hbe
          obtain ⟨rfl, rfl⟩ : b = b' ∧ off = off' := by injection hbe2 with h1 h2; exact ⟨h1, h2⟩
          have hxe : l[m]'(by omega) = x := by rw [List.getElem?_eq_getElem (by omega)] at hx; exact Option.some.inj hx
          have hye : l[m + 1] = y := by rw [List.getElem?_eq_getElem hlt2] at hy; exact Option.some.inj hy
          have HXE := Lib.hid hxe
          have HYE := Lib.hid hye
          have hi0 : (0 : Int) ≤ (m : Int) := by omega
          have hi1 : (m : Int) < (l.length : Int) := by omega
          have hi2 : (m : Int) + 1 < (l.length : Int) := by omega
          have hi3 : IntKind.i64.wrap (m : Int) = m := by simp [IntKind.wrap, IntKind.bits, IntKind.signed]; omega
          have hi4 : (0 : Int) ≤ (m : Int) + 1 := by omega
          have HR0 := Lib.hid (range_regrown c0 hbl)
          have HR1 := Lib.hid (range_regrown p0 hbl)
          have cX := fun d os => Calls.regrown_of (lessFC x y (grow (redrawn wr d) os))
          have HCX := Lib.hid cX
          have hno : ltF x y = true ∨ ltF x y = false := by cases ltF x y <;> simp
          have HNO := Lib.hid (show ltF x y = true → ∀ j, (h : j + 1 < l.length) → j < m + 1 → ltF l[j] l[j + 1] = true from fun hh j hj hjm => by
            rcases Nat.lt_or_ge j m with h1 | h1
            · exact HR.out j hj h1
            · obtain rfl : j = m := by omega
              rw [HXE.out, HYE.out]; exact hh)
          have HNF := Lib.hid (show ltF x y = false → chkFs rdM l = 5 from fun hh => chkFs_flatJ HG.out (fun hr => by have := hr.near m hlt2; rw [HXE.out, HYE.out, hh] at this; cases this))
          generalize ltF x y = t at HNO HNF HCX hno
          clear hx hy hxe hye cX hbe hbe2 hbl' c0 p0
          rcases hno with rfl | rfl
          · have HN := Lib.hid (HNO.out rfl)
            clear HNO HNF
            go_upto_region 11 with fail
            refine wp_region_quiet_below (by kernel_rfl) (by kernel_rfl) ?_
            repeat (first
              | ((with_reducible refine fq_load ?_ (.tmp 34) ?_ b (off + m * 8) x ?_ ?_ ?_); rfl; rfl; rfl; exact HR0.out; simp only [Act.put, List.setIfInBounds_toArray, List.set_cons_zero, List.set_cons_succ])
              | ((with_reducible refine fq_load ?_ (.tmp 38) ?_ b (off + (m + 1) * 8) y ?_ ?_ ?_); rfl; rfl; rfl; exact HR1.out; simp only [Act.put, List.setIfInBounds_toArray, List.set_cons_zero, List.set_cons_succ])
              | go_big_quiet_step ((go_at_call 54; with_reducible exact HCX.out _ _)) | quiet_step ((go_at_call 54; with_reducible exact HCX.out _ _)))
            refine wpQuiet_nil ?_
            intro _ hw'
            obtain ⟨⟨dq, osq⟩, hw''⟩ := hw'
            subst hw''
            have HB9 := Lib.hid (HB2.out.trans ((below_regrown wr dq osq).mono HB2.out.size))
            clear HCX HR0 HR1
            generalize grow (redrawn wr dq) osq = W at *
            go_wp2_with fail
            go_roundw
            case rel => exact ⟨m + 1, by go_num, by omega, HN, HB9.out⟩
            case measure => simp [intOf]; omega
          · have HN := Lib.hid (HNF.out rfl)
            clear HNO HNF
            go_upto_region 11 with fail
            refine wp_region_quiet_below (by kernel_rfl) (by kernel_rfl) ?_
            repeat (first
              | ((with_reducible refine fq_load ?_ (.tmp 34) ?_ b (off + m * 8) x ?_ ?_ ?_); rfl; rfl; rfl; exact HR0.out; simp only [Act.put, List.setIfInBounds_toArray, List.set_cons_zero, List.set_cons_succ])
              | ((with_reducible refine fq_load ?_ (.tmp 38) ?_ b (off + (m + 1) * 8) y ?_ ?_ ?_); rfl; rfl; rfl; exact HR1.out; simp only [Act.put, List.setIfInBounds_toArray, List.set_cons_zero, List.set_cons_succ])
              | go_big_quiet_step ((go_at_call 54; with_reducible exact HCX.out _ _)) | quiet_step ((go_at_call 54; with_reducible exact HCX.out _ _)))
            refine wpQuiet_nil ?_
            intro _ hw'
            obtain ⟨⟨dq, osq⟩, hw''⟩ := hw'
            subst hw''
            have HB9 := Lib.hid (HB2.out.trans ((below_regrown wr dq osq).mono HB2.out.size))
            clear HCX HR0 HR1
            generalize grow (redrawn wr dq) osq = W at *
            go_wp2_with fail
            go_ret
            exact ⟨by rw [HN.out]; rfl, HB9.out⟩
        · have hfin : chkFs rdM l = 0 := chkFs_goodJ HG.out (riseF_near l (fun j hj => HR.out j hj (by omega)))
          have HF := Lib.hid hfin
          have hi2 : ¬ (m : Int) + 1 < (l.length : Int) := by omega
          clear hfin
          go_wp2_with fail
          go_ret
          exact ⟨by rw [HF.out]; rfl, HB2.out⟩
end Go.Proofs.YtkodololdjainaaGreat
