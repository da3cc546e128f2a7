/-
  Same of facts, the document's; a slice of facts laid.
-/
import Derived.Test.YtpcelgmcbfjmbaaFactRow
import Derived.Deep.Cut
import Derived.Deep.DeepCutAuto
import Derived.BigQuiet
import Derived.Great.BuildSlice
namespace Go.Proofs.Ytpcelgmcbfjmbaa
set_option maxRecDepth 100000
open Go.RowKit Go.Sort

set_option maxHeartbeats 4000000 in
theorem sameRF (x y : List Ft) (a b : Option Addr) (ca cb : Nat) (w : World) (hx : FIn w a x) (hy : FIn w b y) (hlx : x.length ≤ maxLen) :
    Calls Try.prog 10 #[.slice a x.length ca, .slice b y.length cb] w fun e w' => e = .returned (.bool (decide (x = y))) ∧ Below w.heap.size w w' := by
  unfold maxLen at hlx
  by_cases hl : x.length = y.length
  · have hn : ((x.length : Int) != (y.length : Int)) = false := by simp [hl]
    have HX := Lib.hid hx
    have HY := Lib.hid hy
    have HL := Lib.hid hl
    clear hx hy hl
    go_enter Try.func10, Try.ntmps10
    go_wp2_with fail
    go_loopw [5] (fun i wr => ∃ k : Nat, k ≤ x.length ∧ i = .int .i64 k ∧ Hid (∀ j, j < k → x[j]? = y[j]?) ∧ Hid (Below w.heap.size w wr)) (fun i _ => x.length - (intOf i).toNat)
    case atStart => exact ⟨0, Nat.zero_le _, rfl, Lib.hid (fun j hj => by omega), Lib.hid (Below.refl _ _)⟩
    case round =>
      obtain ⟨k, hk, rfl, HK, HB⟩ := hrel
      by_cases hlt : k < x.length
      · obtain ⟨d, hd⟩ : ∃ d, x[k]? = some d := ⟨_, List.getElem?_eq_getElem hlt⟩
        obtain ⟨f, hf⟩ : ∃ d, y[k]? = some d := ⟨_, List.getElem?_eq_getElem (by have := HL.out; omega)⟩
        obtain ⟨b1, o1, rfl, hb1, c0⟩ := (HX.out.below HB.out).at hd
        obtain ⟨b2, o2, rfl, hb2, p0⟩ := (HY.out.below HB.out).at hf
        have hi1 : (k : Int) < (x.length : Int) := by omega
        have hi2 : (k : Int) < (y.length : Int) := by have := HL.out; omega
        have HD := Lib.hid (And.intro hd hf)
        have HR0 := Lib.hid (range_regrown c0 hb1)
        have HR1 := Lib.hid (range_regrown p0 hb2)
        clear hd hf c0 p0 hb1 hb2
        by_cases he : d = f
        · have hnq := fun W => neqF d f W
          rw [decide_eq_true he] at hnq
          have HK2 := Lib.hid (show ∀ j, j < k + 1 → x[j]? = y[j]? from fun j hj => by
            rcases Nat.lt_or_ge j k with h1 | h1
            · exact HK.out j h1
            · obtain rfl : j = k := by omega
              rw [HD.out.1, HD.out.2, he])
          clear he
          go_upto_region 6 with fail
          refine wp_region_quiet_below (by kernel_rfl) (by kernel_rfl) ?_
          repeat (first
            | ((with_reducible refine fq_load ?_ (.tmp 19) ?_ b1 (o1 + k * 8) d ?_ ?_ ?_); rfl; rfl; rfl; exact HR0.out; simp only [Act.put, List.setIfInBounds_toArray, List.set_cons_zero, List.set_cons_succ])
            | ((with_reducible refine fq_load ?_ (.tmp 23) ?_ b2 (o2 + k * 8) f ?_ ?_ ?_); rfl; rfl; rfl; exact HR1.out; simp only [Act.put, List.setIfInBounds_toArray, List.set_cons_zero, List.set_cons_succ])
            | go_big_quiet_step (fail) | quiet_step (fail))
          refine wpQuiet_nil ?_
          intro _ hw'
          obtain ⟨⟨dq, osq⟩, hw''⟩ := hw'
          subst hw''
          have HB9 := Lib.hid (HB.out.trans ((below_regrown wr dq osq).mono HB.out.size))
          clear HR0 HR1 hnq HB
          generalize grow (redrawn wr dq) osq = W at *
          go_wp2_with fail
          go_roundw
          case rel => exact ⟨k + 1, by omega, by go_num, HK2, HB9⟩
          case measure => simp [intOf]; omega
        · have hnq := fun W => neqF d f W
          rw [decide_eq_false he] at hnq
          have hfin : decide (x = y) = false := by
            refine decide_eq_false fun hxy => he ?_
            have h := HD.out.1
            rw [hxy, HD.out.2] at h
            exact (Option.some.inj h).symm
          have HF := Lib.hid hfin
          clear he hfin
          go_upto_region 6 with fail
          refine wp_region_quiet_below (by kernel_rfl) (by kernel_rfl) ?_
          repeat (first
            | ((with_reducible refine fq_load ?_ (.tmp 19) ?_ b1 (o1 + k * 8) d ?_ ?_ ?_); rfl; rfl; rfl; exact HR0.out; simp only [Act.put, List.setIfInBounds_toArray, List.set_cons_zero, List.set_cons_succ])
            | ((with_reducible refine fq_load ?_ (.tmp 23) ?_ b2 (o2 + k * 8) f ?_ ?_ ?_); rfl; rfl; rfl; exact HR1.out; simp only [Act.put, List.setIfInBounds_toArray, List.set_cons_zero, List.set_cons_succ])
            | go_big_quiet_step (fail) | quiet_step (fail))
          refine wpQuiet_nil ?_
          intro _ hw'
          obtain ⟨⟨dq, osq⟩, hw''⟩ := hw'
          subst hw''
          have HB9 := Lib.hid (HB.out.trans ((below_regrown wr dq osq).mono HB.out.size))
          clear HR0 HR1 hnq HB
          generalize grow (redrawn wr dq) osq = W at *
          go_wp2_with fail
          go_ret
          exact ⟨by rw [HF.out]; rfl, HB9.out⟩
      · have hfin : decide (x = y) = true := by
          refine decide_eq_true (List.ext_getElem? fun j => ?_)
          rcases Nat.lt_or_ge j k with h1 | h1
          · exact HK.out j h1
          · rw [List.getElem?_eq_none (by omega), List.getElem?_eq_none (by have := HL.out; omega)]
        have HF := Lib.hid hfin
        have hi1 : ¬ (k : Int) < (x.length : Int) := by omega
        clear hfin
        go_wp2_with fail
        go_ret
        exact ⟨by rw [HF.out]; rfl, HB.out⟩
  · have hn : ((x.length : Int) != (y.length : Int)) = true := by simp; omega
    have hfin : decide (x = y) = false := decide_eq_false fun h => hl (by rw [h])
    rw [hfin]
    clear hfin hl
    go_enter Try.func10, Try.ntmps10
    go_wp2_with fail
    go_ret
    exact ⟨rfl, Below.refl _ _⟩

theorem same_anyF (x y : List Ft) (n m : Nat) (hn : x.length = n) (hm : y.length = m) (a b : Option Addr) (ca cb : Nat) (w : World) (hx : FIn w a x) (hy : FIn w b y) (hlx : n ≤ maxLen) (t : Bool) (ht : decide (x = y) = t) :
    Calls Try.prog 10 #[.slice a n ca, .slice b m cb] w fun e w' => e = .returned (.bool t) ∧ Below w.heap.size w w' := by
  subst hn hm ht
  exact sameRF x y a b ca cb w hx hy hlx

/-! a slice of some facts -/
theorem fin_cells (w : World) (l : List Ft) : FIn (w.alloc (.cells (rowF l).toArray 39)) (some ⟨w.heap.size, 0, none⟩) l := by
  refine .inr ⟨w.heap.size, 0, rfl, by simp, fun j f hj i u hu => ?_⟩
  have h1 := rowF_at l j f hj i u hu
  rw [Nat.zero_add, Joins.cell_of_block (heap_alloc_new w _)]
  simpa using h1
theorem build2F (a b : Ft) (w : World) : (Instr.buildSlice 22 2 #[(0, .agg (fcs a).toArray), (1, .agg (fcs b).toArray)]).run Try.prog w = .ok (.slice (some ⟨w.heap.size, 0, none⟩) 2 2) (w.alloc (.cells (rowF [a, b]).toArray 39)) := by
  obtain ⟨i0, hi, hz0, hz1, hz2⟩ := info_parts factInfo
  refine run_buildSlice w 22 39 2 _ (rowF [a, b]).toArray i0 zeroF Try.underlying22 hi hz0 (by rw [hz1]; decide) (by rw [hz1]; decide) ?_
  rw [hz1]
  kernel_rfl
theorem build3F (a b c : Ft) (w : World) : (Instr.buildSlice 22 3 #[(0, .agg (fcs a).toArray), (1, .agg (fcs b).toArray), (2, .agg (fcs c).toArray)]).run Try.prog w = .ok (.slice (some ⟨w.heap.size, 0, none⟩) 3 3) (w.alloc (.cells (rowF [a, b, c]).toArray 39)) := by
  obtain ⟨i0, hi, hz0, hz1, hz2⟩ := info_parts factInfo
  refine run_buildSlice w 22 39 3 _ (rowF [a, b, c]).toArray i0 zeroF Try.underlying22 hi hz0 (by rw [hz1]; decide) (by rw [hz1]; decide) ?_
  rw [hz1]
  kernel_rfl
end Go.Proofs.Ytpcelgmcbfjmbaa
