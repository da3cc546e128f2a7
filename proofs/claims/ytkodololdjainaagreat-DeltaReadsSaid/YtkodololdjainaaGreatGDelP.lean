/-
  Same, In, Sort, of the document.
  Names new in memory; the document's Same of any two rows.
-/
import Derived.Test.YtkodololdjainaaGreatGDelD
namespace Go.Proofs.YtkodololdjainaaGreat
set_option maxRecDepth 100000
open Go.RowKit Go.Sort

theorem DIn.drewN {w : World} {a : Option Addr} {l : List Dt} (h : DIn w a l) (n : Nat) : DIn (w.drewN n) a l := h

set_option maxHeartbeats 4000000 in
set_option maxRecDepth 100000 in
theorem sameR (x y : List Dt) (a b : Option Addr) (ca cb : Nat) (w : World) (hx : DIn w a x) (hy : DIn w b y) (hlx : x.length ≤ maxLen) (_hly : y.length ≤ maxLen) :
    Calls Tryz.prog 48 #[.slice a x.length ca, .slice b y.length cb] w fun e w' => e = .returned (.bool (decide (x = y))) ∧ ∃ n, w' = w.drewN n := by
  unfold maxLen at hlx
  by_cases hl : x.length = y.length
  · have hn : ((x.length : Int) != (y.length : Int)) = false := by simp [hl]
    have HX := Lib.hid hx
    have HY := Lib.hid hy
    have HL := Lib.hid hl
    clear hx hy hl
    go_enter Tryz.func48, Tryz.ntmps48
    go_wp2_with fail
    go_loopw [5] (fun i wr => ∃ k n : Nat, k ≤ x.length ∧ i = .int .i64 k ∧ Hid (∀ j, j < k → x[j]? = y[j]?) ∧ wr = w.drewN n) (fun i _ => x.length - (intOf i).toNat)
    case atStart => exact ⟨0, 0, Nat.zero_le _, rfl, Lib.hid (fun j hj => by omega), rfl⟩
    case round =>
      obtain ⟨k, n, hk, rfl, HK, rfl⟩ := hrel
      by_cases hlt : k < x.length
      · obtain ⟨d, hd⟩ : ∃ d, x[k]? = some d := ⟨_, List.getElem?_eq_getElem hlt⟩
        obtain ⟨f, hf⟩ : ∃ d, y[k]? = some d := ⟨_, List.getElem?_eq_getElem (by have := HL.out; omega)⟩
        obtain ⟨b1, o1, rfl, hb1, c0, c1⟩ := HX.out.at hd
        obtain ⟨b2, o2, rfl, hb2, p0, p1⟩ := HY.out.at hf
        have hi1 : (k : Int) < (x.length : Int) := by omega
        have hi2 : (k : Int) < (y.length : Int) := by have := HL.out; omega
        have HD := Lib.hid (And.intro hd hf)
        obtain ⟨r, q⟩ := d
        obtain ⟨r', q'⟩ := f
        simp only at c0 c1 p0 p1
        clear hd hf
        by_cases he : (r, q) = (r', q')
        · have hnq := fun W => neqD (r, q) (r', q') W
          rw [decide_eq_true he] at hnq
          have HK2 := Lib.hid (show ∀ j, j < k + 1 → x[j]? = y[j]? from fun j hj => by
            rcases Nat.lt_or_ge j k with h1 | h1
            · exact HK.out j h1
            · obtain rfl : j = k := by omega
              rw [HD.out.1, HD.out.2, he])
          clear he
          go_upto_region 6 with fail
          go_quiet (fail)
          go_wp2_with fail
          go_roundw
          case rel => exact ⟨k + 1, _, by omega, by go_num, HK2, rfl⟩
          case measure => simp [intOf]; omega
        · have hnq := fun W => neqD (r, q) (r', q') W
          rw [decide_eq_false he] at hnq
          have hfin : decide (x = y) = false := by
            refine decide_eq_false fun hxy => he ?_
            have h := HD.out.1
            rw [hxy, HD.out.2] at h
            exact (Option.some.inj h).symm
          have HF := Lib.hid hfin
          clear he hfin
          go_upto_region 6 with fail
          go_quiet (fail)
          go_wp2_with fail
          go_ret
          exact ⟨by rw [HF.out]; rfl, _, rfl⟩
      · have hfin : decide (x = y) = true := by
          refine decide_eq_true (List.ext_getElem? fun j => ?_)
          rcases Nat.lt_or_ge j k with h1 | h1
          · exact HK.out j h1
          · rw [List.getElem?_eq_none (by omega), List.getElem?_eq_none (by have := HL.out; omega)]
        have HF := Lib.hid hfin
        have hi1 : ¬ (k : Int) < (x.length : Int) := by omega
        clear hfin
        go_wp2_with fail
        go_ret
        exact ⟨by rw [HF.out]; rfl, _, rfl⟩
  · have hn : ((x.length : Int) != (y.length : Int)) = true := by simp; omega
    have hfin : decide (x = y) = false := decide_eq_false fun h => hl (by rw [h])
    rw [hfin]
    clear hfin hl
    go_enter Tryz.func48, Tryz.ntmps48
    go_wp2_with fail
    go_ret
    exact ⟨rfl, 0, rfl⟩

set_option maxHeartbeats 4000000 in
set_option maxRecDepth 100000 in
theorem inR (l : List Dt) (d : Dt) (a : Option Addr) (cap : Nat) (w : World) (h : DIn w a l) (hl : l.length ≤ maxLen) :
    Calls Tryz.prog 34 #[.slice a l.length cap, .agg #[.int .i64 d.1, .int .i64 d.2]] w fun e w' => e = .returned (.bool (decide (d ∈ l))) ∧ Go.RowKit.Below w.heap.size w w' := by
  unfold maxLen at hl
  have H := Lib.hid h
  have HB0 := Lib.hid (boxD_below w d)
  unfold boxD at HB0
  clear h
  obtain ⟨dr, dq⟩ := d
  simp only at HB0 ⊢
  go_enter Tryz.func34, Tryz.ntmps34
  go_wp2_with fail
  go_loopw [5] (fun i wr => ∃ k n : Nat, k ≤ l.length ∧ i = .int .i64 k ∧ Hid (∀ j, j < k → l[j]? ≠ some (dr, dq)) ∧ wr = (w.alloc (.cells #[.int .i64 dr, .int .i64 dq] 23)).drewN n) (fun i _ => l.length - (intOf i).toNat)
  case atStart => exact ⟨0, 0, Nat.zero_le _, rfl, Lib.hid (fun j hj => by omega), rfl⟩
  case round =>
    obtain ⟨k, n, hk, rfl, HK, rfl⟩ := hrel
    have HB := Lib.hid (belowN HB0.out n)
    by_cases hlt : k < l.length
    · obtain ⟨f, hf⟩ : ∃ d, l[k]? = some d := ⟨_, List.getElem?_eq_getElem hlt⟩
      obtain ⟨b, off, rfl, hbl, c0, c1⟩ := H.out.at hf
      have hi1 : (k : Int) < (l.length : Int) := by omega
      have HF := Lib.hid hf
      have hm : f ∈ l := List.mem_of_getElem? hf
      obtain ⟨r, q⟩ := f
      simp only at c0 c1
      clear hf
      by_cases he : (r, q) = (dr, dq)
      · have hnq := fun W => eqlD (r, q) (dr, dq) W
        rw [decide_eq_true he] at hnq
        have hfin : decide ((dr, dq) ∈ l) = true := decide_eq_true (he ▸ hm)
        have HFN := Lib.hid hfin
        clear he hfin hm
        go_upto_region 4 with fail
        go_quiet (fail)
        go_wp2_with fail
        go_ret
        exact ⟨by rw [HFN.out]; rfl, by first | exact belowN HB.out _ | exact belowN HB0.out _ | exact belowN (belowN HB0.out _) _⟩
      · have hnq := fun W => eqlD (r, q) (dr, dq) W
        rw [decide_eq_false he] at hnq
        have HK2 := Lib.hid (show ∀ j, j < k + 1 → l[j]? ≠ some (dr, dq) from fun j hj hj2 => by
          rcases Nat.lt_or_ge j k with h1 | h1
          · exact HK.out j h1 hj2
          · obtain rfl : j = k := by omega
            rw [HF.out] at hj2
            exact he (Option.some.inj hj2))
        clear he hm
        go_upto_region 4 with fail
        go_quiet (fail)
        go_wp2_with fail
        go_roundw
        case rel => exact ⟨k + 1, _, by omega, by go_num, HK2, by first | rfl | exact World.drewN_drewN _ _ _⟩
        case measure => simp [intOf]; omega
    · have hfin : decide ((dr, dq) ∈ l) = false := by
        refine decide_eq_false fun hm => ?_
        obtain ⟨j, hj, hjd⟩ := List.mem_iff_getElem.1 hm
        exact HK.out j (by omega) (by rw [List.getElem?_eq_getElem hj, hjd])
      have HFN := Lib.hid hfin
      have hi1 : ¬ (k : Int) < (l.length : Int) := by omega
      clear hfin
      go_wp2_with fail
      go_ret
      exact ⟨by rw [HFN.out]; rfl, HB.out⟩
end Go.Proofs.YtkodololdjainaaGreat

namespace Go.Proofs.YtkodololdjainaaGreat
open Go.RowKit Go.Sort

theorem din_cells (w : World) (l : List Dt) : DIn (w.alloc (.cells (rowD l).toArray 23)) (some ⟨w.heap.size, 0, none⟩) l := by
  refine .inr ⟨w.heap.size, 0, rfl, by simp, fun j d hj => ?_⟩
  obtain ⟨h1, h2⟩ := rowD_at l j d hj
  refine ⟨?_, ?_⟩
  · rw [Joins.cell_of_block (heap_alloc_new w _)]; simpa using h1
  · rw [Joins.cell_of_block (heap_alloc_new w _)]; simpa using h2

/-- two rows of one's own, told apart, or the same -/
theorem same_any (x y : List Dt) (n m : Nat) (hn : x.length = n) (hm : y.length = m) (a b : Option Addr) (ca cb : Nat) (w : World) (hx : DIn w a x) (hy : DIn w b y) (hlx : n ≤ maxLen) (hly : m ≤ maxLen) (t : Bool) (ht : decide (x = y) = t) :
    Calls Tryz.prog 48 #[.slice a n ca, .slice b m cb] w fun e w' => e = .returned (.bool t) ∧ Below w.heap.size w w' := by
  subst hn hm ht
  exact (sameR x y a b ca cb w hx hy hlx hly).mono fun e w' ⟨h1, k, h2⟩ => ⟨h1, by rw [h2]; exact belowN (Below.refl _ _) k⟩
end Go.Proofs.YtkodololdjainaaGreat
