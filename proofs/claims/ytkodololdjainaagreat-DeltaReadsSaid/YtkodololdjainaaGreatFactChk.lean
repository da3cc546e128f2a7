/-
  fact: whether a fact may be; Check.
-/
import Derived.Test.YtkodololdjainaaGreatFactOrd
import Derived.Test.YtkodololdjainaaGreatChunkRd
namespace Go.Proofs.YtkodololdjainaaGreat
open Go.RowKit Go.Sort
set_option maxRecDepth 100000

/-- 9's Read's error of a text -/
def rdM (s : ByteArray) : Int := (readM s).2
/-- the document's answer on one -/
abbrev chkFm (f : Ft) : Int := chkF rdM f

theorem isNameC (s : ByteArray) (w : World) : Calls Tryz.prog 78 #[.string s] w fun e w' => e = .returned (.bool (decide (1 ≤ s.size ∧ s.size ≤ 64))) ∧ w = w' := by
  by_cases h1 : 1 ≤ s.size
  · have g1 : decide ((1 : Int) ≤ (s.size : Int)) = true := by simp; omega
    by_cases h2 : s.size ≤ 64
    · rw [decide_eq_true ⟨h1, h2⟩]
      have g2 : decide ((s.size : Int) ≤ 64) = true := by simp; omega
      clear h1 h2
      go_enter Tryz.func78, Tryz.ntmps78
      go_wp2
      go_ret
      exact ⟨rfl, rfl⟩
    · rw [decide_eq_false (fun h => h2 h.2)]
      have g2 : decide ((s.size : Int) ≤ 64) = false := by simp; omega
      clear h1 h2
      go_enter Tryz.func78, Tryz.ntmps78
      go_wp2
      go_ret
      exact ⟨rfl, rfl⟩
  · rw [decide_eq_false (fun h => h1 h.1)]
    have g1 : decide ((1 : Int) ≤ (s.size : Int)) = false := by simp; omega
    clear h1
    go_enter Tryz.func78, Tryz.ntmps78
    go_wp2
    go_ret
    exact ⟨rfl, rfl⟩

theorem rMan_short' {s : ByteArray} (hs : s.size ≤ 5000) : ∀ x ∈ (rMan s).ids, x.size ≤ 5000 := rMan_short hs

set_option maxHeartbeats 1000000 in
theorem chkManC (s : ByteArray) (hs : s.size ≤ 5000) (w : World) : Calls Tryz.prog 90 #[.string s] w fun e w' => e = .returned (.int .i64 (if 16384 < s.size then 3 else rdM s)) ∧ Below w.heap.size w w' := by
  have H := Lib.hid (fun W => readMC s (by omega) (rMan_short hs) W)
  rw [if_neg (by omega)]
  have hi : decide ((16384 : Int) < (s.size : Int)) = false := by simp; omega
  have e : rdM s = (readM s).2 := rfl
  rw [e]
  clear e hs
  generalize readM s = M at *
  obtain ⟨⟨z, c, ids⟩, x⟩ := M
  unfold mv at H
  simp only at H ⊢
  go_enter Tryz.func90, Tryz.ntmps90
  go_wp2_with fail
  refine (H.out _).mono ?_
  rintro e w1 ⟨v, rfl, hown, hb⟩
  obtain ⟨la, lc, rfl, -, -⟩ := ownS_row hown
  have HB := Lib.hid (And.intro hb (hb.alloc hb.size (.cells #[.int .i64 z, .int .i64 c, .slice la ids.length lc] 135)))
  clear hb hown
  go_wp2_with fail
  go_ret
  exact ⟨rfl, HB.out.2⟩

/-- what a value's error is -/
def valE (k : Int) (v : ByteArray) : Int :=
  if k = 1 then (if 16384 < v.size then 3 else rdM v)
  else if k = 2 then (if 256 < v.size then 3 else 0)
  else if k = 3 then (if v.size < 1 ∨ 64 < v.size then 14 else 0)
  else (if v.size ≠ 8 then 5 else 0)

set_option maxHeartbeats 2000000 in
theorem chkValC (k : Int) (v : ByteArray) (h1 : 1 ≤ k) (h4 : k ≤ 4) (hs : v.size ≤ 5000) (w : World) : Calls Tryz.prog 79 #[.int .i64 k, .string v] w fun e w' => e = .returned (.int .i64 (valE k v)) ∧ Below w.heap.size w w' := by
  have HM := Lib.hid (fun W => chkManC v hs W)
  have HN := Lib.hid (fun W => isNameC v W)
  obtain rfl | rfl | rfl | rfl : k = 1 ∨ k = 2 ∨ k = 3 ∨ k = 4 := by omega
  · have e : valE 1 v = if 16384 < v.size then 3 else rdM v := rfl
    rw [e]
    clear e HN
    generalize (if 16384 < v.size then 3 else rdM v) = x at *
    go_enter Tryz.func79, Tryz.ntmps79
    go_wp2_with fail
    refine (HM.out _).mono ?_
    rintro e w1 ⟨rfl, hb⟩
    have HB := Lib.hid hb
    clear hb
    go_wp2_with fail
    go_ret
    exact ⟨rfl, HB.out⟩
  · have e : valE 2 v = if 256 < v.size then 3 else 0 := rfl
    rw [e]
    clear e HN HM
    by_cases h : 256 < v.size
    · rw [if_pos h]
      have g : decide ((256 : Int) < (v.size : Int)) = true := by simp; omega
      clear h
      go_enter Tryz.func79, Tryz.ntmps79
      go_wp2_with fail
      go_ret
      exact ⟨rfl, Below.refl _ _⟩
    · rw [if_neg h]
      have g : decide ((256 : Int) < (v.size : Int)) = false := by simp; omega
      clear h
      go_enter Tryz.func79, Tryz.ntmps79
      go_wp2_with fail
      go_ret
      exact ⟨rfl, Below.refl _ _⟩
  · have e : valE 3 v = if v.size < 1 ∨ 64 < v.size then 14 else 0 := rfl
    rw [e]
    clear e HM
    by_cases h : 1 ≤ v.size ∧ v.size ≤ 64
    · rw [if_neg (by omega)]
      rw [decide_eq_true h] at HN
      clear h
      go_enter Tryz.func79, Tryz.ntmps79
      go_wp2_with (go_at_call 78; refine (HN.out _).mono ?_; rintro e w1 ⟨rfl, rfl⟩)
      go_ret
      exact ⟨rfl, Below.refl _ _⟩
    · rw [if_pos (by omega)]
      rw [decide_eq_false h] at HN
      clear h
      go_enter Tryz.func79, Tryz.ntmps79
      go_wp2_with (go_at_call 78; refine (HN.out _).mono ?_; rintro e w1 ⟨rfl, rfl⟩)
      go_ret
      exact ⟨rfl, Below.refl _ _⟩
  · have e : valE 4 v = if v.size ≠ 8 then 5 else 0 := rfl
    rw [e]
    clear e HM HN
    by_cases h : v.size = 8
    · rw [if_neg (by simp [h])]
      have g : ((v.size : Int) != 8) = false := by simp; omega
      clear h
      go_enter Tryz.func79, Tryz.ntmps79
      go_wp2_with fail
      go_ret
      exact ⟨rfl, Below.refl _ _⟩
    · rw [if_pos h]
      have g : ((v.size : Int) != 8) = true := by simp; omega
      clear h
      go_enter Tryz.func79, Tryz.ntmps79
      go_wp2_with fail
      go_ret
      exact ⟨rfl, Below.refl _ _⟩

theorem chkF_val (f : Ft) (h1 : chkD f.d = 0) (h2 : chkS f.s = 0) (h3 : f.d.1 = f.s.r) (h4 : 1 ≤ f.k) (h5 : f.k ≤ 4) (h6 : 1 ≤ f.n.size ∧ f.n.size ≤ 64) : chkFm f = valE f.k f.v := by
  show chkF rdM f = _
  unfold chkF valE
  rw [if_neg (by simp [h1]), if_neg (by simp [h2]), if_neg (by simp [h3]), if_neg (by omega), if_neg (by omega)]

set_option maxHeartbeats 4000000 in
/-- Check, the program's -/
theorem fchkC (f : Ft) (hs : f.v.size ≤ 5000) (w : World) : Calls Tryz.prog 53 #[.agg (fcs f).toArray] w fun e w' => e = .returned (.int .i64 (chkFm f)) ∧ Below w.heap.size w w' := by
  have hcd := fun W => checkC f.d W
  have hcs := fun W => tchkC f.s W
  have hval := fun (h1 : 1 ≤ f.k) (h2 : f.k ≤ 4) W => chkValC f.k f.v h1 h2 hs W
  have hnm := fun W => isNameC f.n W
  have hin := boxF_in w f
  have HB0 := Lib.hid (boxF_gr w f).below
  have HSZ := Lib.hid (boxF_size w f)
  have hch : chkFm f = if chkD f.d ≠ 0 then chkD f.d else if chkS f.s ≠ 0 then chkS f.s else if f.d.1 ≠ f.s.r then 5 else if f.k < 1 ∨ 4 < f.k then 1 else if f.n.size < 1 ∨ 64 < f.n.size then 14 else valE f.k f.v := rfl
  generalize chkFm f = R at *
  have HJ := Lib.hid hch
  clear hch
  have HVAL := Lib.hid hval
  obtain ⟨V, hV⟩ : ∃ V, valE f.k f.v = V := ⟨_, rfl⟩
  rw [hV] at HJ HVAL
  clear hV
  obtain ⟨D, hDD⟩ : ∃ D, chkD f.d = D := ⟨_, rfl⟩
  obtain ⟨E, hEE⟩ : ∃ E, chkS f.s = E := ⟨_, rfl⟩
  rw [hDD] at HJ hcd
  rw [hEE] at HJ hcs
  clear hDD hEE
  clear hval hs
  unfold boxD at hcd
  unfold boxS at hcs
  have HCD := Lib.hid hcd
  have HCS := Lib.hid hcs
  have HNM := Lib.hid hnm
  clear hcd hcs hnm
  have cells : ∀ U, Below (boxF w f).heap.size (boxF w f) U → ∀ j v, (fcs f)[j]? = some v → U.cell? ⟨w.heap.size, j, none⟩ = some v := fun U hU j v hv => by
    rw [hU.cell (p := ⟨w.heap.size, j, none⟩) (by show w.heap.size < _; rw [HSZ.out]; omega)]
    have := hin j v hv
    rwa [Nat.zero_add] at this
  have HC := Lib.hid cells
  have c0 := cells _ (Below.refl _ _) 0 _ rfl
  have c1 := cells _ (Below.refl _ _) 1 _ rfl
  clear cells hin
  unfold boxF at c0 c1 HC HB0
  go_enter Tryz.func53, Tryz.ntmps53
  go_wp2_with fail
  generalize w.alloc (.cells (fcs f).toArray 88) = W at *
  refine (HCD.out _).mono ?_
  rintro e w1 ⟨rfl, hw⟩
  have hb1 : Below W.heap.size W w1 := by rw [← hw]; exact (Below.refl _ _).alloc (Nat.le_refl _) _
  have HB1 := Lib.hid hb1
  clear hb1 hw c0 c1 HCD
  by_cases hD : D = 0
  case neg =>
    replace HJ := Lib.hid (HJ.out.trans (if_pos hD))
    have hne : (D != 0) = true := by simp [hD]
    clear hD
    go_wp2_with fail
    go_ret
    exact ⟨by rw [HJ.out]; rfl, HB0.out.trans (HB1.out.mono HB0.out.size)⟩
  replace HJ := Lib.hid (HJ.out.trans (if_neg (by simp [hD])))
  subst hD
  have c2 := HC.out w1 HB1.out 2 _ rfl
  have c3 := HC.out w1 HB1.out 3 _ rfl
  have c4 := HC.out w1 HB1.out 4 _ rfl
  go_wp2_with fail
  refine (HCS.out _).mono ?_
  rintro e w2 ⟨rfl, hw⟩
  have hb2 : Below w1.heap.size w1 w2 := by rw [← hw]; exact (Below.refl _ _).alloc (Nat.le_refl _) _
  have HB2 := Lib.hid (HB1.out.trans (hb2.mono HB1.out.size))
  clear hb2 hw c2 c3 c4 HCS
  by_cases hE : E = 0
  case neg =>
    replace HJ := Lib.hid (HJ.out.trans (if_pos hE))
    have hne : (E != 0) = true := by simp [hE]
    clear hE
    go_wp2_with fail
    go_ret
    exact ⟨by rw [HJ.out]; rfl, HB0.out.trans (HB2.out.mono HB0.out.size)⟩
  replace HJ := Lib.hid (HJ.out.trans (if_neg (by simp [hE])))
  subst hE
  have d0 := HC.out w2 HB2.out 0 _ rfl
  have d4 := HC.out w2 HB2.out 4 _ rfl
  have d5 := HC.out w2 HB2.out 5 _ rfl
  have d6 := HC.out w2 HB2.out 6 _ rfl
  have d7 := HC.out w2 HB2.out 7 _ rfl
  have HB3 := Lib.hid (HB0.out.trans (HB2.out.mono HB0.out.size))
  clear HC HB0 HB1 HB2 HSZ
  by_cases hR : f.d.1 = f.s.r
  case neg =>
    replace HJ := Lib.hid (HJ.out.trans (if_pos hR))
    have hne : (f.d.1 != f.s.r) = true := by simp [hR]
    clear hR
    go_wp2_with fail
    go_ret
    exact ⟨by rw [HJ.out]; rfl, HB3.out⟩
  replace HJ := Lib.hid (HJ.out.trans (if_neg (by simp [hR])))
  have hne : (f.d.1 != f.s.r) = false := by simp [hR]
  by_cases hK1 : f.k < 1
  · replace HJ := Lib.hid (HJ.out.trans (if_pos (.inl hK1)))
    have g : decide (f.k < 1) = true := by simp; omega
    clear hK1 hR
    go_wp2_with fail
    go_ret
    exact ⟨by rw [HJ.out]; rfl, HB3.out⟩
  have g1 : decide (f.k < 1) = false := by simp; omega
  by_cases hK2 : 4 < f.k
  · replace HJ := Lib.hid (HJ.out.trans (if_pos (.inr hK2)))
    have g : decide (4 < f.k) = true := by simp; omega
    clear hK1 hK2 hR
    go_wp2_with fail
    go_ret
    exact ⟨by rw [HJ.out]; rfl, HB3.out⟩
  have g2 : decide (4 < f.k) = false := by simp; omega
  replace HJ := Lib.hid (HJ.out.trans (if_neg (by omega)))
  have HV := Lib.hid (HVAL.out (by omega) (by omega))
  clear HVAL
  by_cases hN : 1 ≤ f.n.size ∧ f.n.size ≤ 64
  case neg =>
    replace HJ := Lib.hid (HJ.out.trans (if_pos (by omega)))
    rw [decide_eq_false hN] at HNM
    clear hN hK1 hK2 hR
    go_wp2_with (go_at_call 78; refine (HNM.out _).mono ?_; rintro e w3 ⟨rfl, rfl⟩)
    go_ret
    exact ⟨by rw [HJ.out]; rfl, HB3.out⟩
  replace HJ := Lib.hid (HJ.out.trans (if_neg (by omega)))
  rw [decide_eq_true hN] at HNM
  clear hN hK1 hK2 hR
  go_wp2_with (go_at_call 78; refine (HNM.out _).mono ?_; rintro e w3 ⟨rfl, rfl⟩)
  refine (HV.out _).mono ?_
  rintro e w3 ⟨rfl, hb3⟩
  have H4 := Lib.hid (HB3.out.trans (hb3.mono HB3.out.size))
  clear hb3
  go_wp2_with fail
  go_ret
  exact ⟨by rw [HJ.out]; rfl, H4.out⟩
end Go.Proofs.YtkodololdjainaaGreat
