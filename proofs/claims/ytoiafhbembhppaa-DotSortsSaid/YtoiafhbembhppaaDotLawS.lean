/-
  almonrylaw11: the walk of DotSorts.
-/
import Derived.Test.YtoiafhbembhppaaDotAwake
import Derived.Test.YtoiafhbembhppaaDotKit
namespace Go.Proofs.Ytoiafhbembhppaa
open Go.RowKit Go.Sort

theorem self_str (s : ByteArray) : (s.toList == s.toList) = true := by simp

set_option maxHeartbeats 4000000 in
set_option maxRecDepth 100000 in
theorem sorts_row (a : Option Addr) (len cap : Nat) (l : List Dt) (w : World) (h : DotArg w a len l) :
    Calls Try.prog 3 #[.slice a len cap] w fun e w' => e = .returned (.bool true) ∧ Go.RowKit.Below w.heap.size w w' := by
  obtain ⟨rfl, hl, hin⟩ := h
  have hlm := hl
  unfold maxLen at hl
  have H := Lib.hid hin
  clear hin
  by_cases hbig : 100 < l.length
  · have hbi : (100 : Int) < (l.length : Int) := by omega
    go_enter Try.func3, Try.ntmps3
    go_wp2_with fail
    refine (dotAwake w).mono ?_
    rintro e w1 ⟨rfl, hb⟩
    have HB := Lib.hid hb; clear hb
    go_wp2_with fail
    go_ret
    exact ⟨rfl, HB.out⟩
  · have hbi : ¬ (100 : Int) < (l.length : Int) := by omega
    have hsm : l.length ≤ 100 := by omega
    have hpc := fun W hh => putDC l a cap W hh hlm
    have hpr := fun W hh => putDR l a cap W hh hlm
    have hstr := self_str (putD l).1
    have hint : ((putD l).2 == (putD l).2) = true := by simp
    generalize (putD l).1 = P1 at *
    generalize (putD l).2 = P2 at *
    have HPR := Lib.hid hpr
    clear hbig hpr
    go_enter Try.func3, Try.ntmps3
    go_wp2_with fail
    refine (hpc w H.out).mono ?_
    rintro e w1 ⟨rfl, hb1⟩
    have HB1 := Lib.hid hb1
    clear hb1 hpc
    go_wp2_with fail
    refine (HPR.out w1 (H.out.below HB1.out)).mono ?_
    rintro e w2 ⟨rfl, hb2⟩
    have HB2 := Lib.hid (HB1.out.trans (hb2.mono HB1.out.size))
    clear hb2 HPR
    go_wp2_with fail
    go_loopw [7] (fun i wk => ∃ m : Nat, i = .int .i64 ((m : Int) + 1) ∧ m ≤ l.length ∧ Go.RowKit.Below w.heap.size w wk) (fun i _ => l.length + 1 - (intOf i).toNat)
    case atStart => exact ⟨0, by simp, Nat.zero_le _, HB2.out⟩
    case round =>
      obtain ⟨m, rfl, hm, hb2⟩ := hrel
      have HB := Lib.hid hb2
      have hbs := hb2.size
      clear hb2
      by_cases hlt2 : m + 1 < l.length
      · obtain ⟨x, hx⟩ : ∃ x, l[m]? = some x := ⟨_, List.getElem?_eq_getElem (by omega)⟩
        obtain ⟨y, hy⟩ : ∃ y, l[m + 1]? = some y := ⟨_, List.getElem?_eq_getElem hlt2⟩
        obtain ⟨b, off, rfl, hbl, c0, c1⟩ := (H.out.below HB.out).at hx
        obtain ⟨b', off', hbe, hbl', p0, p1⟩ := (H.out.below HB.out).at hy
        have hbe2 := Option.some.inj hbe
        obtain ⟨rfl, rfl⟩ : b = b' ∧ off = off' := by injection hbe2 with h1 h2; exact ⟨h1, h2⟩
        have hi0 : (0 : Int) ≤ (m : Int) := by omega
        have hi1 : (m : Int) < (l.length : Int) := by omega
        have hi2 : (m : Int) + 1 < (l.length : Int) := by omega
        have hi3 : IntKind.i64.wrap (m : Int) = m := by simp [IntKind.wrap, IntKind.bits, IntKind.signed]; omega
        have hi4 : (0 : Int) ≤ (m : Int) + 1 := by omega
        have r0 := fun d os => cell_regrown c0 d os
        have r1 := fun d os => cell_regrown c1 d os
        have r2 := fun d os => cell_regrown p0 d os
        have r3 := fun d os => cell_regrown p1 d os
        have cA := fun d os => Calls.regrown_of (checkCb y (grow (redrawn wr d) os))
        have cB := fun d os => Calls.regrown_of (checkRb y (grow (redrawn wr d) os))
        have cC := fun d os => Calls.regrown_of (lessCb y x (grow (redrawn wr d) os))
        have cD := fun d os => Calls.regrown_of (lessRb y x (grow (redrawn wr d) os))
        have hE : (chkD y != chkD y) = false := by simp
        have hT : (ltD y x != ltD y x) = false := by simp
        have hT2 : (ltD y x == ltD y x) = true := by simp
        generalize chkD y = E at *
        generalize ltD y x = T at *
        have HA := Lib.hid cA
        have HBB := Lib.hid cB
        have HC := Lib.hid cC
        have HD := Lib.hid cD
        obtain ⟨xr, xq⟩ := x
        obtain ⟨yr, yq⟩ := y
        clear hx hy cA cB cC cD hbe hbe2 hbl'
        simp only at c0 c1 p0 p1 r0 r1 r2 r3 HA HBB HC HD
        go_upto_region 8 with fail
        clear c0 c1 p0 p1
        refine wp_region_quiet_below (by kernel_rfl) (by kernel_rfl) ?_
        repeat (first | go_big_quiet_step (first | (go_at_call 10; with_reducible exact HA.out _ _) | (go_at_call 11; with_reducible exact HBB.out _ _) | (go_at_call 12; with_reducible exact HC.out _ _) | (go_at_call 13; with_reducible exact HD.out _ _)) | quiet_step (first | (go_at_call 10; with_reducible exact HA.out _ _) | (go_at_call 11; with_reducible exact HBB.out _ _) | (go_at_call 12; with_reducible exact HC.out _ _) | (go_at_call 13; with_reducible exact HD.out _ _)))
        refine wpQuiet_nil ?_
        intro _ hw'
        obtain ⟨⟨dq, osq⟩, hw''⟩ := hw'
        subst hw''
        have HB9 := Lib.hid (HB.out.trans ((below_regrown wr dq osq).mono HB.out.size))
        clear HA HBB HC HD r0 r1 r2 r3
        generalize grow (redrawn wr dq) osq = W at *
        go_wp2_with fail
        go_roundw
        case rel => exact ⟨m + 1, by go_num, by omega, HB9.out⟩
        case measure => simp [intOf]; omega
      · have hi2 : ¬ (m : Int) + 1 < (l.length : Int) := by omega
        have hsc := fun W hh => sortC l a cap W hh (by omega)
        have hsr := fun W hh => sortR l a cap W hh (by omega)
        have hsl := sortD_len l
        have HSR := Lib.hid hsr
        clear hsr
        go_wp2_with fail
        refine (hsc _ (H.out.below HB.out)).mono ?_
        rintro e w3 ⟨v3, rfl, hown3, hb3⟩
        obtain ⟨a3, c3, rfl, hdin3, -⟩ := hown3.din
        have HD3 := Lib.hid hdin3
        have HB3 := Lib.hid (HB.out.trans (hb3.mono hbs))
        clear hsc hown3 hdin3 hb3
        go_wp2_with fail
        refine (HSR.out _ (H.out.below HB3.out)).mono ?_
        rintro e w4 ⟨v4, rfl, hown4, hb4⟩
        obtain ⟨a4, c4, rfl, hdin4, -⟩ := hown4.din
        have HD4 := Lib.hid (And.intro (HD3.out.below hb4) hdin4)
        have HB4 := Lib.hid (HB3.out.trans (hb4.mono HB3.out.size))
        clear HSR hown4 hdin4 hb4 HD3
        have hsame := same_any (sortD l) (sortD l) (sortD l).length (sortD l).length rfl rfl a3 a4 c3 c4 w4 HD4.out.1 HD4.out.2 (by unfold maxLen; omega) (by unfold maxLen; omega) true (by simp)
        have HSM := Lib.hid hsame
        clear hsame
        generalize (sortD l).length = n at *
        go_wp2_with fail
        refine HSM.out.mono ?_
        rintro e w5 ⟨rfl, hb5⟩
        have HB5 := Lib.hid (HB4.out.trans (hb5.mono HB4.out.size))
        clear hb5 HSM
        go_wp2_with fail
        refine (dotAwake w5).mono ?_
        rintro e w6 ⟨rfl, hb6⟩
        have HB6 := Lib.hid (HB5.out.trans (hb6.mono HB5.out.size))
        clear hb6
        go_wp2_with fail
        go_ret
        exact ⟨rfl, HB6.out⟩
end Go.Proofs.Ytoiafhbembhppaa
