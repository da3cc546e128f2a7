/-
  almonrylaw15: the walk of FactSorts.
-/
import Derived.Test.YtlcjiodbdopcdabGreatFactAwk
import Derived.Test.YtlcjiodbdopcdabGreatFactFew
import Derived.Test.YtlcjiodbdopcdabGreatFactSortR
import Derived.Test.YtlcjiodbdopcdabGreatFactPutR
namespace Go.Proofs.YtlcjiodbdopcdabGreat
open Go.RowKit Go.Sort
set_option maxRecDepth 100000

theorem fself_str (s : ByteArray) : (s.toList == s.toList) = true := by simp

set_option maxHeartbeats 8000000 in
theorem fact_sorts_row (a : Option Addr) (len cap : Nat) (l : List Ft) (w : World) (h : FactArg w a len l) :
    Calls Tryz.prog 3 #[.slice a len cap] w fun e w' => e = .returned (.bool true) ∧ Go.RowKit.Below w.heap.size w w' := by
  obtain ⟨rfl, hl, hin, hsz⟩ := h
  have hlm := hl
  have HFW := Lib.hid (fun W hh => fewC l a cap W hh hl hsz)
  unfold maxLen at hl
  have H := Lib.hid hin
  clear hin hsz
  cases hfw : fewP l with
  | false =>
    rw [hfw] at HFW
    clear hfw
    go_enter Tryz.func3, Tryz.ntmps3
    go_wp2_with fail
    refine (HFW.out w H.out).mono ?_
    rintro e w1 ⟨rfl, rfl⟩
    go_wp2_with fail
    refine (factAwake w).mono ?_
    rintro e w1 ⟨rfl, hb⟩
    have HB := Lib.hid hb; clear hb
    go_wp2_with fail
    go_ret
    exact ⟨rfl, HB.out⟩
  | true =>
    rw [hfw] at HFW
    have hv := fewP_v hfw
    have hsm : l.length ≤ 30 := (fewP_ok hfw).1
    have HVV := Lib.hid hv
    have HPC := Lib.hid (fun W hh => putFC l a cap W hh hlm hv)
    have HPR := Lib.hid (fun W hh => putFR l a cap W hh hlm hv)
    have hstr := fself_str (putF rdM l).1
    have hint : ((putF rdM l).2 == (putF rdM l).2) = true := by simp
    generalize (putF rdM l).1 = P1 at *
    generalize (putF rdM l).2 = P2 at *
    clear hfw hv
    go_enter Tryz.func3, Tryz.ntmps3
    go_wp2_with fail
    refine (HFW.out w H.out).mono ?_
    rintro e w0 ⟨rfl, rfl⟩
    clear HFW
    go_wp2_with fail
    refine (HPC.out w H.out).mono ?_
    rintro e w1 ⟨rfl, hb1⟩
    have HB1 := Lib.hid hb1
    clear hb1 HPC
    go_wp2_with fail
    refine (HPR.out w1 (H.out.below HB1.out)).mono ?_
    rintro e w2 ⟨rfl, hb2⟩
    have HB2 := Lib.hid (HB1.out.trans (hb2.mono HB1.out.size))
    clear hb2 HPR
    go_wp2_with fail
    go_loopw [7] (fun i wk => ∃ k : Nat, i = .int .i64 (k : Int) ∧ k ≤ l.length ∧ Go.RowKit.Below w.heap.size w wk) (fun i _ => l.length + 1 - (intOf i).toNat)
    case atStart => exact ⟨0, by simp, Nat.zero_le _, HB2.out⟩
    case round =>
      obtain ⟨k, rfl, hk, hb2⟩ := hrel
      have HB := Lib.hid hb2
      have hbs := hb2.size
      clear hb2
      by_cases hlt2 : k < l.length
      · obtain ⟨y, hy⟩ : ∃ y, l[k]? = some y := ⟨_, List.getElem?_eq_getElem hlt2⟩
        have hvy := HVV.out y (List.mem_of_getElem? hy)
        obtain ⟨b, off, rfl, hbl, p0⟩ := (H.out.below HB.out).at hy
        have HY := Lib.hid (range_regrown p0 hbl)
        have HA := Lib.hid (fun d os => Calls.regrown_of (fchkC y hvy (grow (redrawn wr d) os)))
        have HBB := Lib.hid (fun d os => Calls.regrown_of (fchkR y hvy (grow (redrawn wr d) os)))
        have hE : (chkFm y != chkFm y) = false := by simp
        generalize chkFm y = E at *
        clear hvy p0
        by_cases hk0 : k = 0
        · subst hk0
          have hi1 : (0 : Int) < (l.length : Int) := by omega
          have HC := Lib.hid (fun d os => Calls.regrown_of (lessFC y y (grow (redrawn wr d) os)))
          have HD := Lib.hid (fun d os => Calls.regrown_of (lessFR y y (grow (redrawn wr d) os)))
          have HY0 := Lib.hid (show ∀ W, (∃ p : Regrown, W = grow (redrawn wr p.d) p.os) → W.rangeAt b off (fcs y) from fun W hW => by have h := HY.out W hW; rwa [Nat.zero_mul, Nat.add_zero] at h)
          clear hy
          go_upto_region 8 with fail
          refine wp_region_quiet_below (by kernel_rfl) (by kernel_rfl) ?_
          repeat (first
            | ((with_reducible refine fq_load ?_ (.tmp 30) ?_ b (off) y ?_ ?_ ?_); rfl; rfl; rfl; exact HY0.out; simp only [Act.put, List.setIfInBounds_toArray, List.set_cons_zero, List.set_cons_succ])
            | ((with_reducible refine fq_load ?_ (.tmp 35) ?_ b (off) y ?_ ?_ ?_); rfl; rfl; rfl; exact HY0.out; simp only [Act.put, List.setIfInBounds_toArray, List.set_cons_zero, List.set_cons_succ])
            | go_big_quiet_step (first | (go_at_call 9; with_reducible exact HA.out _ _) | (go_at_call 10; with_reducible exact HBB.out _ _) | (go_at_call 11; with_reducible exact HC.out _ _) | (go_at_call 12; with_reducible exact HD.out _ _))
            | quiet_step (first | (go_at_call 9; with_reducible exact HA.out _ _) | (go_at_call 10; with_reducible exact HBB.out _ _) | (go_at_call 11; with_reducible exact HC.out _ _) | (go_at_call 12; with_reducible exact HD.out _ _)))
          refine wpQuiet_nil ?_
          intro _ hw'
          obtain ⟨⟨dq, osq⟩, hw''⟩ := hw'
          subst hw''
          have HB9 := Lib.hid (HB.out.trans ((below_regrown wr dq osq).mono HB.out.size))
          clear HA HBB HC HD HY HY0
          generalize grow (redrawn wr dq) osq = W at *
          go_wp2_with fail
          go_roundw
          case rel => exact ⟨1, by go_num, by omega, HB9.out⟩
          case measure => simp [intOf]
        · obtain ⟨m, rfl⟩ : ∃ m, k = m + 1 := ⟨k - 1, by omega⟩
          obtain ⟨x, hx⟩ : ∃ x, l[m]? = some x := ⟨_, List.getElem?_eq_getElem (by omega)⟩
          obtain ⟨b', off', hbe, hbl', c0⟩ := (H.out.below HB.out).at hx
          have hbe2 := Option.some.inj hbe
          obtain ⟨rfl, rfl⟩ : b = b' ∧ off = off' := by injection hbe2 with h1 h2; exact ⟨h1, h2⟩
          have HX := Lib.hid (range_regrown c0 hbl')
          have hi0 : (0 : Int) ≤ (m : Int) := by omega
          have hi1 : (m : Int) < (l.length : Int) := by omega
          have hi2 : (m : Int) + 1 < (l.length : Int) := by omega
          have hi3 : IntKind.i64.wrap (m : Int) = m := by simp [IntKind.wrap, IntKind.bits, IntKind.signed]; omega
          have hi4 : (0 : Int) ≤ (m : Int) + 1 := by omega
          have hi5 : (0 : Int) < (m : Int) + 1 := by omega
          have HC := Lib.hid (fun d os => Calls.regrown_of (lessFC y x (grow (redrawn wr d) os)))
          have HD := Lib.hid (fun d os => Calls.regrown_of (lessFR y x (grow (redrawn wr d) os)))
          have hT : (ltF y x != ltF y x) = false := by simp
          generalize ltF y x = T at *
          clear hx hy hbe hbe2 hbl' c0
          go_upto_region 8 with fail
          refine wp_region_quiet_below (by kernel_rfl) (by kernel_rfl) ?_
          repeat (first
            | ((with_reducible refine fq_load ?_ (.tmp 30) ?_ b (off + (m + 1) * 8) y ?_ ?_ ?_); rfl; rfl; rfl; exact HY.out; simp only [Act.put, List.setIfInBounds_toArray, List.set_cons_zero, List.set_cons_succ])
            | ((with_reducible refine fq_load ?_ (.tmp 35) ?_ b (off + (m + 1) * 8) y ?_ ?_ ?_); rfl; rfl; rfl; exact HY.out; simp only [Act.put, List.setIfInBounds_toArray, List.set_cons_zero, List.set_cons_succ])
            | ((with_reducible refine fq_load ?_ (.tmp 45) ?_ b (off + (m + 1) * 8) y ?_ ?_ ?_); rfl; rfl; rfl; exact HY.out; simp only [Act.put, List.setIfInBounds_toArray, List.set_cons_zero, List.set_cons_succ])
            | ((with_reducible refine fq_load ?_ (.tmp 50) ?_ b (off + m * 8) x ?_ ?_ ?_); rfl; rfl; rfl; exact HX.out; simp only [Act.put, List.setIfInBounds_toArray, List.set_cons_zero, List.set_cons_succ])
            | ((with_reducible refine fq_load ?_ (.tmp 55) ?_ b (off + (m + 1) * 8) y ?_ ?_ ?_); rfl; rfl; rfl; exact HY.out; simp only [Act.put, List.setIfInBounds_toArray, List.set_cons_zero, List.set_cons_succ])
            | ((with_reducible refine fq_load ?_ (.tmp 60) ?_ b (off + m * 8) x ?_ ?_ ?_); rfl; rfl; rfl; exact HX.out; simp only [Act.put, List.setIfInBounds_toArray, List.set_cons_zero, List.set_cons_succ])
            | go_big_quiet_step (first | (go_at_call 9; with_reducible exact HA.out _ _) | (go_at_call 10; with_reducible exact HBB.out _ _) | (go_at_call 11; with_reducible exact HC.out _ _) | (go_at_call 12; with_reducible exact HD.out _ _))
            | quiet_step (first | (go_at_call 9; with_reducible exact HA.out _ _) | (go_at_call 10; with_reducible exact HBB.out _ _) | (go_at_call 11; with_reducible exact HC.out _ _) | (go_at_call 12; with_reducible exact HD.out _ _)))
          refine wpQuiet_nil ?_
          intro _ hw'
          obtain ⟨⟨dq, osq⟩, hw''⟩ := hw'
          subst hw''
          have HB9 := Lib.hid (HB.out.trans ((below_regrown wr dq osq).mono HB.out.size))
          clear HA HBB HC HD HY HX
          generalize grow (redrawn wr dq) osq = W at *
          go_wp2_with fail
          go_roundw
          case rel => exact ⟨m + 1 + 1, by go_num, by omega, HB9.out⟩
          case measure => simp [intOf]; omega
      · have hi2 : ¬ (k : Int) < (l.length : Int) := by omega
        have HSC := Lib.hid (fun W hh => sortFC l a cap W hh (by omega))
        have HSR := Lib.hid (fun W hh => sortFR l a cap W hh (by omega))
        have hsl := sortF_len l
        go_wp2_with fail
        refine (HSC.out _ (H.out.below HB.out)).mono ?_
        rintro e w3 ⟨a3, c3, rfl, hin3, hb3⟩
        have HD3 := Lib.hid hin3
        have HB3 := Lib.hid (HB.out.trans (hb3.mono hbs))
        clear HSC hin3 hb3
        go_wp2_with fail
        refine (HSR.out _ (H.out.below HB3.out)).mono ?_
        rintro e w4 ⟨v4, rfl, hown4, hb4⟩
        obtain ⟨a4, c4, rfl, hin4, -⟩ := hown4.fin
        have HD4 := Lib.hid (And.intro (HD3.out.below hb4) hin4)
        have HB4 := Lib.hid (HB3.out.trans (hb4.mono HB3.out.size))
        clear HSR hown4 hin4 hb4 HD3
        have HSM := Lib.hid (same_anyF (sortF l) (sortF l) (sortF l).length (sortF l).length rfl rfl a3 a4 c3 c4 w4 HD4.out.1 HD4.out.2 (by unfold maxLen; omega) true (by simp))
        generalize (sortF l).length = n at *
        go_wp2_with fail
        refine HSM.out.mono ?_
        rintro e w5 ⟨rfl, hb5⟩
        have HB5 := Lib.hid (HB4.out.trans (hb5.mono HB4.out.size))
        clear hb5 HSM
        go_wp2_with fail
        refine (factAwake w5).mono ?_
        rintro e w6 ⟨rfl, hb6⟩
        have HB6 := Lib.hid (HB5.out.trans (hb6.mono HB5.out.size))
        clear hb6
        go_wp2_with fail
        go_ret
        exact ⟨rfl, HB6.out⟩
end Go.Proofs.YtlcjiodbdopcdabGreat
