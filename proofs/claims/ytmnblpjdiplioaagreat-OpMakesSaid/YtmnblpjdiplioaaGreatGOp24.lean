/-
  Read, the document's.
  fact, the document's: Check, Checks.
-/
import Derived.Test.YtmnblpjdiplioaaGreatGOp11
import Derived.Test.YtmnblpjdiplioaaGreatGOp23
import Derived.Test.YtmnblpjdiplioaaGreatGOp22
import Derived.Test.YtmnblpjdiplioaaGreatGOp14
import Derived.Test.YtmnblpjdiplioaaGreatGOp20
namespace Go.Proofs.YtmnblpjdiplioaaGreat
open Go.RowKit Go.Sort

theorem mdone_q (st : ByteArray × Int) : doneS (qListSt st) = doneS (sList st).2 := by
  unfold qListSt qSt doneS
  by_cases h : (sList st).2.2 = 0
  · rw [if_pos h]
  · rw [if_neg h]; simp only; rw [if_pos h, if_pos h]

set_option maxHeartbeats 4000000 in
set_option maxRecDepth 100000 in
theorem readMR (s : ByteArray) (hs : s.size ≤ 9223372036854775807) (hsh : ∀ x ∈ (rMan s).ids, x.size ≤ 5000) (w : World) :
    Calls Tryz.prog 65 #[.string s] w fun e w' => ∃ v, e = .returned (.tuple #[mv (readM s).1 v, .int .i64 (readM s).2]) ∧ OwnS w.heap.size v (readM s).1.ids w' ∧ Below w.heap.size w w' := by
  have r0 := MBox.new w ⟨0, 0, []⟩ (.slice none 0 0)
  have hb0 : Below w.heap.size w (w.alloc (.cells #[.int .i64 0, .int .i64 0, .slice none 0 0] 86)) := (Below.refl _ w).alloc (Nat.le_refl _) _
  have R0 := Lib.hid r0
  have HB0 := Lib.hid hb0
  have hlt0 := r0.lt
  clear r0 hb0
  go_enter Tryz.func65, Tryz.ntmps65
  go_wp2_with fail
  refine (refR_num s 0 hs _).mono ?_
  rintro e w1 ⟨rfl, hb1⟩
  have r1 := R0.out.below hb1 hlt0
  have hl1 := r1.lt
  have z1 : (sNum (s, 0)).2.1.size ≤ s.size := sNum_size (s, 0)
  have H1 := Lib.hid (And.intro r1 (HB0.out.trans (hb1.mono HB0.out.size)))
  clear r1 hb1 R0 HB0
  have hR : (rMan s).size = ((sNum (s, 0)).1 : Nat) ∧ (rMan s).chunk = ((sNum (sNum (s, 0)).2).1 : Nat) ∧ (rMan s).ids = (sList (sNum (sNum (s, 0)).2).2).1 ∧ doneS (rSt s) = doneS (qListSt (sNum (sNum (s, 0)).2).2) := ⟨rfl, rfl, rfl, (mdone_q _).symm⟩
  have HRM := Lib.hid (show readM s = if doneS (rSt s) ≠ 0 then (⟨0, 0, []⟩, doneS (rSt s)) else if manE (rMan s) ≠ 0 then (⟨0, 0, []⟩, manE (rMan s)) else (rMan s, 0) from rfl)
  generalize rMan s = M at *
  generalize doneS (rSt s) = D at *
  generalize hp1 : sNum (s, 0) = p1 at *
  obtain ⟨n1, s1, e1⟩ := p1
  clear hp1
  simp only at z1 hR ⊢
  have z2 : (sNum (s1, e1)).2.1.size ≤ s1.size := sNum_size (s1, e1)
  have hq1 := Qd.made (s1, e1) w1
  have hrA := H1.out.1.alloc (.cells #[.string s1, .int .i64 e1] 120)
  have hs1 := H1.out.2.size
  have hbA := H1.out.2.alloc hs1 (.cells #[.string s1, .int .i64 e1] 120)
  have HQ1 := Lib.hid hq1
  have HA1 := Lib.hid (And.intro hrA hbA)
  have hql1 := hq1.lt
  have hra1 := hrA.lt
  clear hq1 hrA hbA H1
  go_wp2_with fail
  generalize w1.alloc (.cells #[.string s1, .int .i64 e1] 120) = wa at *
  refine (refR_num s1 e1 (by omega) _).mono ?_
  rintro e w2 ⟨rfl, hb2⟩
  generalize hp2 : sNum (s1, e1) = p2 at *
  obtain ⟨n2, s2, e2⟩ := p2
  clear hp2
  simp only at z2 hR ⊢
  have hq2 := HQ1.out.below hb2 hql1
  have hr2 := HA1.out.1.below hb2 hra1
  have hsa := HA1.out.2.size
  have hb2' := HA1.out.2.trans (hb2.mono hsa)
  have c20 := hq2.left
  have c21 := hq2.err
  have f20 := hq2.free 0
  have f21 := hq2.free 1
  have hq3 := hq2.set s2 e2
  have hbS := (hb2'.setCell (p := ⟨w1.heap.size, 0, none⟩) hs1 (.string s2)).setCell (p := ⟨w1.heap.size, 1, none⟩) hs1 (.int .i64 e2)
  have hrS := (hr2.kept (grownBy_setCell w2 w1.heap.size 0 (.string s2)) (fun e => by have := Option.some.inj e; omega)).kept (grownBy_setCell _ w1.heap.size 1 (.int .i64 e2)) (fun e => by have := Option.some.inj e; omega)
  have HS := Lib.hid (And.intro hrS hbS)
  have HQ3 := Lib.hid hq3
  have c30 := hq3.left
  have c31 := hq3.err
  have hql3 := hq3.lt
  have hrl3 := hrS.lt
  clear hb2 hb2' hq2 hr2 hrS hbS hq3 HQ1 HA1
  simp only at c20 c21 c30 c31
  go_wp2_with fail
  generalize (w2.setCell ⟨w1.heap.size, 0, none⟩ (.string s2)).setCell ⟨w1.heap.size, 1, none⟩ (.int .i64 e2) = wb at *
  refine (refR_list s2 e2 (by omega) _).mono ?_
  rintro e w3 ⟨v, rfl, hown, hb3⟩
  generalize hp3 : (sList (s2, e2)).1 = l3 at *
  generalize hp4 : qListSt (s2, e2) = p4 at *
  obtain ⟨s3, e3⟩ := p4
  clear hp3 hp4
  simp only at hR ⊢
  have hq3 := HQ3.out.below hb3 hql3
  have hr3 := HS.out.1.below hb3 hrl3
  have hsb := HS.out.2.size
  have hb3' := HS.out.2.trans (hb3.mono hsb)
  have d20 := hq3.left
  have d21 := hq3.err
  have g20 := hq3.free 0
  have g21 := hq3.free 1
  have hq4 := hq3.set s3 e3
  have hbT := (hb3'.setCell (p := ⟨w1.heap.size, 0, none⟩) hs1 (.string s3)).setCell (p := ⟨w1.heap.size, 1, none⟩) hs1 (.int .i64 e3)
  have hrT := (hr3.kept (grownBy_setCell w3 w1.heap.size 0 (.string s3)) (fun e => by have := Option.some.inj e; omega)).kept (grownBy_setCell _ w1.heap.size 1 (.int .i64 e3)) (fun e => by have := Option.some.inj e; omega)
  have ho : some w1.heap.size ≠ v.ownBlock := fun e => by have := (World.ownsRow.lt hown _ e.symm).1; omega
  have hoT := (World.ownsRow.kept hown (grownBy_setCell w3 w1.heap.size 0 (.string s3)) (.inr ho.symm)).kept (grownBy_setCell _ w1.heap.size 1 (.int .i64 e3)) (.inr ho.symm)
  obtain ⟨hR1, hR2, hR3, hR4⟩ := hR
  obtain rfl : M = ⟨(n1 : Int), (n2 : Int), l3⟩ := by cases M; simp only at hR1 hR2 hR3; rw [hR1, hR2, hR3]
  obtain ⟨la, lc, rfl, hrow, hlm⟩ := ownS_row (show OwnS wb.heap.size v l3 _ from hoT)
  simp only at hsh
  have hg := MBox.new ((w3.setCell ⟨w1.heap.size, 0, none⟩ (.string s3)).setCell ⟨w1.heap.size, 1, none⟩ (.int .i64 e3)) ⟨(n1 : Int), (n2 : Int), l3⟩ (.slice la l3.length lc)
  have hbG := (Below.refl _ ((w3.setCell ⟨w1.heap.size, 0, none⟩ (.string s3)).setCell ⟨w1.heap.size, 1, none⟩ (.int .i64 e3))).alloc (Nat.le_refl _) (.cells #[.int .i64 (n1 : Int), .int .i64 (n2 : Int), .slice la l3.length lc] 86)
  have hq5 := hq4.alloc (.cells #[.int .i64 (n1 : Int), .int .i64 (n2 : Int), .slice la l3.length lc] 86)
  have c40 := hq5.left
  have c41 := hq5.err
  have hgl := hg.lt
  have hsT := hbT.size
  have r5 := hrT.below hbG hrT.lt
  have hrl5 := r5.lt
  have HG := Lib.hid hg
  have H5 := Lib.hid (And.intro r5 (hbT.trans (hbG.mono hsT)))
  have HA5 := Lib.hid (show MArg _ ⟨(n1 : Int), (n2 : Int), l3⟩ la from ⟨hrow.below hbG, by unfold maxLen at hlm; exact hlm, hsh⟩)
  have HO5 := Lib.hid (row_below hoT hbG)
  have hwb : w.heap.size < wb.heap.size := hrl3
  clear hb3 hb3' hq3 hr3 hrT hbT hq4 hq5 hg hbG r5 HQ3 HS hoT hrow hown ho c30 c31 c20 c21 f20 f21 hR1 hR2 hR3
  simp only at d20 d21 c40 c41
  have hdn := fun W => refR_done s3 e3 W
  rw [← hR4] at hdn
  clear hR4
  simp only [World.size_setCell] at c40 c41 hgl
  go_wp2_with fail
  have hgs : ((w3.setCell ⟨w1.heap.size, 0, none⟩ (.string s3)).setCell ⟨w1.heap.size, 1, none⟩ (.int .i64 e3)).heap.size = w3.heap.size := by simp
  rw [hgs] at HG
  clear hgs
  generalize ((w3.setCell ⟨w1.heap.size, 0, none⟩ (.string s3)).setCell ⟨w1.heap.size, 1, none⟩ (.int .i64 e3)).alloc (.cells #[.int .i64 (n1 : Int), .int .i64 (n2 : Int), .slice la l3.length lc] 86) = w5 at *
  refine (hdn w5).mono ?_
  rintro e w6 ⟨rfl, hw6⟩
  have hb6 : Below w5.heap.size w5 w6 := by rw [← hw6]; exact (Below.refl _ _).alloc (Nat.le_refl _) _
  have hs5 := H5.out.2.size
  have r6 := H5.out.1.below hb6 hrl5
  have g6 := HG.out.below hb6 HG.out.lt
  have HB6 := Lib.hid (H5.out.2.trans (hb6.mono hs5))
  have HA6 := Lib.hid (HA5.out.below hb6)
  have HO6 := Lib.hid (row_below HO5.out hb6)
  have l0 := r6.c0
  have l1 := r6.c1
  have l2 := r6.c2
  have u0 := r6.free 0
  have u1 := r6.free 1
  have u2 := r6.free 2
  have n0 := g6.c0
  have n1' := g6.c1
  have n2' := g6.c2
  have hrl6 := r6.lt
  have hgl6 := g6.lt
  have R6 := Lib.hid r6
  have G6 := Lib.hid g6
  clear hb6 hw6 HA5 HO5 H5 HG r6 g6 hdn
  by_cases hD : D = 0
  case neg =>
    have hj := HRM.out
    rw [if_pos hD] at hj
    have hne : (D == 0) = false := by simp [hD]
    have hne2 : (D != 0) = true := by simp [hD]
    have HJ := Lib.hid hj
    have hput := Lib.hid (R6.out.put ⟨0, 0, []⟩ (.slice none 0 0))
    clear hj hD
    go_wp2_with fail
    refine bodyPost_ret (results_man rfl _ _ w.heap.size 86 _ _ _ (0, 0) _ rfl hput.out Tryz.underlying86 rfl manInfo) rfl ?_
    rw [HJ.out]
    exact ⟨_, rfl, ownS_nil _ _, below_put3 HB6.out (Nat.le_refl _) _ _ _⟩
  case pos =>
    have hj := HRM.out
    rw [if_neg (fun hh => hh hD)] at hj
    have HJ := Lib.hid hj
    subst hD
    clear hj HRM
    have hck := fun W (hW : MArg W ⟨(n1 : Int), (n2 : Int), l3⟩ la) => checkMR ⟨(n1 : Int), (n2 : Int), l3⟩ la lc W hW
    go_wp2_with fail
    refine (hck _ HA6.out).mono ?_
    rintro e w7 ⟨rfl, hb7⟩
    have hs6 := HB6.out.size
    have r7 := R6.out.below hb7 hrl6
    have g7 := G6.out.below hb7 hgl6
    have m0 := r7.c0
    have m1 := r7.c1
    have m2 := r7.c2
    have v0 := r7.free 0
    have v1 := r7.free 1
    have v2 := r7.free 2
    have q0 := g7.c0
    have q1 := g7.c1
    have q2 := g7.c2
    have HB7 := Lib.hid (HB6.out.trans (hb7.mono hs6))
    by_cases hE : manE ⟨(n1 : Int), (n2 : Int), l3⟩ = 0
    · have hj := HJ.out
      rw [if_neg (fun hh => hh hE)] at hj
      have HJ2 := Lib.hid hj
      have hput := Lib.hid (r7.put ⟨(n1 : Int), (n2 : Int), l3⟩ (.slice la l3.length lc))
      have hO := Lib.hid (row_put3 (row_below HO6.out hb7) (G := w.heap.size) (by omega) (.int .i64 (n1 : Int)) (.int .i64 (n2 : Int)) (.slice la l3.length lc))
      clear hj HJ hb7 r7 g7 l0 l1 l2 u0 u1 u2 n0 n1' n2'
      go_wp2_with fail
      refine bodyPost_ret (results_man rfl _ _ w.heap.size 86 _ _ _ (0, 0) _ rfl hput.out Tryz.underlying86 rfl manInfo) rfl ?_
      rw [HJ2.out]
      exact ⟨_, rfl, row_mono hO.out (by omega), below_put3 HB7.out (Nat.le_refl _) _ _ _⟩
    · have hj := HJ.out
      rw [if_pos hE] at hj
      have hne : (manE ⟨(n1 : Int), (n2 : Int), l3⟩ != 0) = true := by simp [hE]
      have HJ2 := Lib.hid hj
      have hput := Lib.hid (r7.put ⟨0, 0, []⟩ (.slice none 0 0))
      clear hj hE HJ hb7 r7 g7 l0 l1 l2 u0 u1 u2 n0 n1' n2'
      generalize manE ⟨(n1 : Int), (n2 : Int), l3⟩ = E at *
      go_wp2_with fail
      refine bodyPost_ret (results_man rfl _ _ w.heap.size 86 _ _ _ (0, 0) _ rfl hput.out Tryz.underlying86 rfl manInfo) rfl ?_
      rw [HJ2.out]
      exact ⟨_, rfl, ownS_nil _ _, below_put3 HB7.out (Nat.le_refl _) _ _ _⟩
end Go.Proofs.YtmnblpjdiplioaaGreat

namespace Go.Proofs.YtmnblpjdiplioaaGreat
set_option maxRecDepth 100000
open Go.RowKit Go.Sort

set_option maxHeartbeats 4000000 in
/-- Check, the document's -/
theorem fchkR (f : Ft) (hs : f.v.size ≤ 5000) (w : World) : Calls Tryz.prog 42 #[.agg (fcs f).toArray] w fun e w' => e = .returned (.int .i64 (chkFm f)) ∧ Below w.heap.size w w' := by
  have hcd := fun W => checkR f.d W
  have hcs := fun W => tchkR f.s W
  have hrd := fun W => readMR f.v (by omega) (rMan_short hs) W
  have hvsz := hs
  have hin := boxF_in w f
  have HB0 := Lib.hid (boxF_gr w f).below
  have HSZ := Lib.hid (boxF_size w f)
  have hch : chkFm f = if chkD f.d ≠ 0 then chkD f.d else if chkS f.s ≠ 0 then chkS f.s else if f.d.1 ≠ f.s.r then 5 else if f.k < 1 ∨ 4 < f.k then 1 else if f.n.size < 1 ∨ 64 < f.n.size then 14 else valE f.k f.v := rfl
  generalize chkFm f = R at *
  have HJ := Lib.hid hch
  clear hch
  obtain ⟨D, hDD⟩ : ∃ D, chkD f.d = D := ⟨_, rfl⟩
  obtain ⟨E, hEE⟩ : ∃ E, chkS f.s = E := ⟨_, rfl⟩
  rw [hDD] at HJ hcd
  rw [hEE] at HJ hcs
  clear hDD hEE
  unfold boxD at hcd
  unfold boxS at hcs
  have HCD := Lib.hid hcd
  have HCS := Lib.hid hcs
  have HRD := Lib.hid hrd
  have HVS := Lib.hid hvsz
  clear hcd hcs hrd hs hvsz
  have cells : ∀ U, Below (boxF w f).heap.size (boxF w f) U → ∀ j v, (fcs f)[j]? = some v → U.cell? ⟨w.heap.size, j, none⟩ = some v := fun U hU j v hv => by
    rw [hU.cell (p := ⟨w.heap.size, j, none⟩) (by show w.heap.size < _; rw [HSZ.out]; omega)]
    have := hin j v hv
    rwa [Nat.zero_add] at this
  have HC := Lib.hid cells
  have c0 := cells _ (Below.refl _ _) 0 _ rfl
  have c1 := cells _ (Below.refl _ _) 1 _ rfl
  clear cells hin
  unfold boxF at c0 c1 HC HB0
  go_enter Tryz.func42, Tryz.ntmps42
  go_wp2_with fail
  generalize w.alloc (.cells (fcs f).toArray 63) = W at *
  refine (HCD.out _).mono ?_
  rintro e w1 ⟨rfl, hw⟩
  have hb1 : Below W.heap.size W w1 := by rw [← hw]; exact (Below.refl _ _).alloc (Nat.le_refl _) _
  have HB1 := Lib.hid hb1
  clear hb1 hw c0 c1 HCD
  by_cases hD : D = 0
  case neg =>
    replace HJ := Lib.hid (HJ.out.trans (if_pos hD))
    have hne : (D != 0) = true := by simp [hD]
    clear hD
    go_wp2_with fail
    go_ret
    exact ⟨by rw [HJ.out]; rfl, HB0.out.trans (HB1.out.mono HB0.out.size)⟩
  replace HJ := Lib.hid (HJ.out.trans (if_neg (by simp [hD])))
  subst hD
  have c2 := HC.out w1 HB1.out 2 _ rfl
  have c3 := HC.out w1 HB1.out 3 _ rfl
  have c4 := HC.out w1 HB1.out 4 _ rfl
  go_wp2_with fail
  refine (HCS.out _).mono ?_
  rintro e w2 ⟨rfl, hw⟩
  have hb2 : Below w1.heap.size w1 w2 := by rw [← hw]; exact (Below.refl _ _).alloc (Nat.le_refl _) _
  have HB2 := Lib.hid (HB1.out.trans (hb2.mono HB1.out.size))
  clear hb2 hw c2 c3 c4 HCS
  by_cases hE : E = 0
  case neg =>
    replace HJ := Lib.hid (HJ.out.trans (if_pos hE))
    have hne : (E != 0) = true := by simp [hE]
    clear hE
    go_wp2_with fail
    go_ret
    exact ⟨by rw [HJ.out]; rfl, HB0.out.trans (HB2.out.mono HB0.out.size)⟩
  replace HJ := Lib.hid (HJ.out.trans (if_neg (by simp [hE])))
  subst hE
  have d0 := HC.out w2 HB2.out 0 _ rfl
  have d4 := HC.out w2 HB2.out 4 _ rfl
  have d5 := HC.out w2 HB2.out 5 _ rfl
  have d6 := HC.out w2 HB2.out 6 _ rfl
  have d7 := HC.out w2 HB2.out 7 _ rfl
  have HB3 := Lib.hid (HB0.out.trans (HB2.out.mono HB0.out.size))
  clear HC HB0 HB1 HB2 HSZ
  by_cases hR : f.d.1 = f.s.r
  case neg =>
    replace HJ := Lib.hid (HJ.out.trans (if_pos hR))
    have hne : (f.d.1 != f.s.r) = true := by simp [hR]
    clear hR
    go_wp2_with fail
    go_ret
    exact ⟨by rw [HJ.out]; rfl, HB3.out⟩
  replace HJ := Lib.hid (HJ.out.trans (if_neg (by simp [hR])))
  have hne : (f.d.1 != f.s.r) = false := by simp [hR]
  by_cases hK1 : f.k < 1
  · replace HJ := Lib.hid (HJ.out.trans (if_pos (.inl hK1)))
    have g : decide (f.k < 1) = true := by simp; omega
    clear hK1 hR
    go_wp2_with fail
    go_ret
    exact ⟨by rw [HJ.out]; rfl, HB3.out⟩
  have g1 : decide (f.k < 1) = false := by simp; omega
  by_cases hK2 : 4 < f.k
  · replace HJ := Lib.hid (HJ.out.trans (if_pos (.inr hK2)))
    have g : decide (4 < f.k) = true := by simp; omega
    clear hK1 hK2 hR
    go_wp2_with fail
    go_ret
    exact ⟨by rw [HJ.out]; rfl, HB3.out⟩
  have g2 : decide (4 < f.k) = false := by simp; omega
  replace HJ := Lib.hid (HJ.out.trans (if_neg (by omega)))
  by_cases hN1 : f.n.size < 1
  · replace HJ := Lib.hid (HJ.out.trans (if_pos (.inl hN1)))
    have g3 : decide ((f.n.size : Int) < 1) = true := by simp; omega
    clear hN1 hK1 hK2 hR
    go_wp2_with fail
    go_ret
    exact ⟨by rw [HJ.out]; rfl, HB3.out⟩
  have g3 : decide ((f.n.size : Int) < 1) = false := by simp; omega
  by_cases hN2 : 64 < f.n.size
  · replace HJ := Lib.hid (HJ.out.trans (if_pos (.inr hN2)))
    have g4 : decide ((64 : Int) < (f.n.size : Int)) = true := by simp; omega
    clear hN1 hN2 hK1 hK2 hR
    go_wp2_with fail
    go_ret
    exact ⟨by rw [HJ.out]; rfl, HB3.out⟩
  have g4 : decide ((64 : Int) < (f.n.size : Int)) = false := by simp; omega
  replace HJ := Lib.hid (HJ.out.trans (if_neg (by omega)))
  have hvs := HVS.out
  have hk : f.k = 1 ∨ f.k = 2 ∨ f.k = 3 ∨ f.k = 4 := by omega
  clear hN1 hN2 hK1 hK2 hR
  rcases hk with hk | hk | hk | hk
  · have q1 : (f.k == (1 : Int)) = true := by simp [hk]
    have g5 : decide ((16384 : Int) < (f.v.size : Int)) = false := by simp; omega
    have hv : valE f.k f.v = rdM f.v := by unfold valE; rw [if_pos hk, if_neg (by omega)]
    replace HJ := Lib.hid (HJ.out.trans hv)
    have e : rdM f.v = (readM f.v).2 := rfl
    rw [e] at HJ
    clear hv e hk hvs
    generalize readM f.v = M at *
    obtain ⟨⟨z, c, ids⟩, x⟩ := M
    unfold mv at HRD
    simp only at HRD HJ
    go_wp2_with fail
    refine (HRD.out _).mono ?_
    rintro e w4 ⟨mvv, rfl, hown, hb⟩
    obtain ⟨la, lc, rfl, -, -⟩ := ownS_row hown
    have H5 := Lib.hid (HB3.out.trans ((hb.alloc hb.size (.cells #[.int .i64 z, .int .i64 c, .slice la ids.length lc] 86)).mono HB3.out.size))
    clear hb hown
    go_wp2_with fail
    go_ret
    exact ⟨by rw [HJ.out]; rfl, H5.out⟩
  · have q1 : (f.k == (1 : Int)) = false := by simp [hk]
    have q2 : (f.k == (2 : Int)) = true := by simp [hk]
    have hv : valE f.k f.v = if 256 < f.v.size then 3 else 0 := by unfold valE; rw [if_neg (by omega), if_pos hk]
    replace HJ := Lib.hid (HJ.out.trans hv)
    clear hv
    by_cases h : 256 < f.v.size
    · replace HJ := Lib.hid (HJ.out.trans (if_pos h))
      have g5 : decide ((256 : Int) < (f.v.size : Int)) = true := by simp; omega
      clear h hk hvs
      go_wp2_with fail
      go_ret
      exact ⟨by rw [HJ.out]; rfl, HB3.out⟩
    · replace HJ := Lib.hid (HJ.out.trans (if_neg h))
      have q3 : (f.k == (3 : Int)) = false := by simp [hk]
      have q4 : (f.k == (4 : Int)) = false := by simp [hk]
      have g5 : decide ((256 : Int) < (f.v.size : Int)) = false := by simp; omega
      clear h hk hvs
      go_wp2_with fail
      go_ret
      exact ⟨by rw [HJ.out]; rfl, HB3.out⟩
  · have q1 : (f.k == (1 : Int)) = false := by simp [hk]
    have q2 : (f.k == (2 : Int)) = false := by simp [hk]
    have q3 : (f.k == (3 : Int)) = true := by simp [hk]
    have q4 : (f.k == (4 : Int)) = false := by simp [hk]
    have hv : valE f.k f.v = if f.v.size < 1 ∨ 64 < f.v.size then 14 else 0 := by unfold valE; rw [if_neg (by omega), if_neg (by omega), if_pos hk]
    replace HJ := Lib.hid (HJ.out.trans hv)
    clear hv
    by_cases h : f.v.size < 1
    · replace HJ := Lib.hid (HJ.out.trans (if_pos (.inl h)))
      have g5 : decide ((f.v.size : Int) < 1) = true := by simp; omega
      clear h hk hvs
      go_wp2_with fail
      go_ret
      exact ⟨by rw [HJ.out]; rfl, HB3.out⟩
    · have g5 : decide ((f.v.size : Int) < 1) = false := by simp; omega
      by_cases h2 : 64 < f.v.size
      · replace HJ := Lib.hid (HJ.out.trans (if_pos (.inr h2)))
        have g6 : decide ((64 : Int) < (f.v.size : Int)) = true := by simp; omega
        clear h h2 hk hvs
        go_wp2_with fail
        go_ret
        exact ⟨by rw [HJ.out]; rfl, HB3.out⟩
      · replace HJ := Lib.hid (HJ.out.trans (if_neg (by omega)))
        have g6 : decide ((64 : Int) < (f.v.size : Int)) = false := by simp; omega
        clear h h2 hk hvs
        go_wp2_with fail
        go_ret
        exact ⟨by rw [HJ.out]; rfl, HB3.out⟩
  · have q1 : (f.k == (1 : Int)) = false := by simp [hk]
    have q2 : (f.k == (2 : Int)) = false := by simp [hk]
    have q3 : (f.k == (3 : Int)) = false := by simp [hk]
    have q4 : (f.k == (4 : Int)) = true := by simp [hk]
    have hv : valE f.k f.v = if f.v.size ≠ 8 then 5 else 0 := by unfold valE; rw [if_neg (by omega), if_neg (by omega), if_neg (by omega)]
    replace HJ := Lib.hid (HJ.out.trans hv)
    clear hv
    by_cases h : f.v.size = 8
    · replace HJ := Lib.hid (HJ.out.trans (if_neg (by simp [h])))
      have g5 : ((f.v.size : Int) != 8) = false := by simp; omega
      clear h hk hvs
      go_wp2_with fail
      go_ret
      exact ⟨by rw [HJ.out]; rfl, HB3.out⟩
    · replace HJ := Lib.hid (HJ.out.trans (if_pos h))
      have g5 : ((f.v.size : Int) != 8) = true := by simp; omega
      clear h hk hvs
      go_wp2_with fail
      go_ret
      exact ⟨by rw [HJ.out]; rfl, HB3.out⟩


set_option maxHeartbeats 4000000 in
set_option maxRecDepth 100000 in
theorem chkFsR (l : List Ft) (a : Option Addr) (cap : Nat) (w : World) (h : FIn w a l) (hl : l.length ≤ maxLen) (hv : ∀ f ∈ l, f.v.size ≤ 5000) :
    Calls Tryz.prog 17 #[.slice a l.length cap] w fun e w' => e = .returned (.int .i64 (chkFs rdM l)) ∧ Go.RowKit.Below w.heap.size w w' := by
  have H := Lib.hid h
  clear h
  unfold maxLen at hl
  go_enter Tryz.func17, Tryz.ntmps17
  go_wp2_with fail
  go_loopw [3] (fun i wr => ∃ k : Nat, k ≤ l.length ∧ i = .int .i64 k ∧ Hid (∀ j d, j < k → l[j]? = some d → chkFm d = 0) ∧ Go.RowKit.Below w.heap.size w wr) (fun i _ => l.length - (intOf i).toNat)
  case atStart => exact ⟨0, Nat.zero_le _, rfl, Lib.hid (fun j d hj => by omega), Go.RowKit.Below.refl _ _⟩
  case round =>
    obtain ⟨k, hk, rfl, HK, hb⟩ := hrel
    have HB := Lib.hid hb
    have hbs := hb.size
    clear hb
    by_cases hlt : k < l.length
    · obtain ⟨d, hd⟩ : ∃ d, l[k]? = some d := ⟨_, List.getElem?_eq_getElem hlt⟩
      obtain ⟨b, off, rfl, hbl, c0⟩ := (H.out.below HB.out).at hd
      have c0 := Lib.hid c0
      have hi1 : (k : Int) < (l.length : Int) := by omega
      have hck := fun W => fchkR d (hv d (List.mem_of_getElem? hd)) W
      have HD := Lib.hid hd
      have hch : ∀ he : chkFm d ≠ 0, chkFs rdM l = chkFm d := fun he => firstF_atJ HK.out HD.out he
      have HCH := Lib.hid hch
      have HK3 := Lib.hid (show chkFm d = 0 → ∀ j d, j < k + 1 → l[j]? = some d → chkFm d = 0 from fun he j d hj hjd => by
        rcases Nat.lt_or_ge j k with h1 | h1
        · exact HK.out j d h1 hjd
        · obtain rfl : j = k := by omega
          rw [HD.out] at hjd
          rw [← Option.some.inj hjd]; exact he)
      generalize hE : chkFm d = E at hck HCH HK3
      clear hd hch hE
      by_cases he : E = 0
      · have HK2 := Lib.hid (HK3.out he)
        subst he
        clear HK3
        go_wp2_with ((with_reducible refine fl_load ?_ (.tmp 14) ?_ b (off + k * 8) d ?_ ?_ ?_); rfl; rfl; rfl; exact c0.out)
        refine (hck _).mono ?_
        rintro e w1 ⟨rfl, hb1⟩
        have HB1 := Lib.hid (HB.out.trans (hb1.mono hbs))
        clear hb1
        go_wp2_with fail
        go_roundw
        case rel => exact ⟨k + 1, by omega, by go_num, HK2, HB1.out⟩
        case measure => simp [intOf]; omega
      · have HF := Lib.hid (HCH.out he)
        have hne : (E != 0) = true := by simp [he]
        clear he HK3 HCH
        go_wp2_with ((with_reducible refine fl_load ?_ (.tmp 14) ?_ b (off + k * 8) d ?_ ?_ ?_); rfl; rfl; rfl; exact c0.out)
        refine (hck _).mono ?_
        rintro e w1 ⟨rfl, hb1⟩
        have HB1 := Lib.hid (HB.out.trans (hb1.mono hbs))
        clear hb1
        go_wp2_with fail
        go_ret
        exact ⟨by rw [HF.out]; rfl, HB1.out⟩
    · have hkn : k = l.length := by omega
      have HG := Lib.hid (show ∀ d ∈ l, chkFm d = 0 from fun d hd => by
        obtain ⟨j, hj, hjd⟩ := List.mem_iff_getElem.1 hd
        exact HK.out j d (by omega) (by rw [List.getElem?_eq_getElem hj, hjd]))
      clear hkn HK hk
      go_wp2_with fail
      go_loopw [5] (fun i wk => ∃ k : Nat, i = .int .i64 ((k : Int) + 1) ∧ k ≤ l.length ∧ Hid (∀ j, (h : j + 1 < l.length) → j < k → ltF l[j] l[j + 1] = true) ∧ Go.RowKit.Below w.heap.size w wk) (fun i _ => l.length + 1 - (intOf i).toNat)
      case atStart => exact ⟨0, by simp, Nat.zero_le _, Lib.hid (fun j _ hj => by omega), HB.out⟩
      case round =>
        obtain ⟨m, rfl, hm, HR, hb2⟩ := hrel
        have HB2 := Lib.hid hb2
        have hbs2 := hb2.size
        clear hb2
        by_cases hlt2 : m + 1 < l.length
        · obtain ⟨x, hx⟩ : ∃ x, l[m]? = some x := ⟨_, List.getElem?_eq_getElem (by omega)⟩
          obtain ⟨y, hy⟩ : ∃ y, l[m + 1]? = some y := ⟨_, List.getElem?_eq_getElem hlt2⟩
          obtain ⟨b, off, rfl, hbl, c0⟩ := (H.out.below HB2.out).at hx
          obtain ⟨b', off', hbe, hbl', p0⟩ := (H.out.below HB2.out).at hy
          have hbe2 := Option.some.inj hbe
          obtain ⟨rfl, rfl⟩ : b = b' ∧ off = off' := by injection hbe2 with h1 h2; exact ⟨h1, h2⟩
          have hxe : l[m]'(by omega) = x := by rw [List.getElem?_eq_getElem (by omega)] at hx; exact Option.some.inj hx
          have hye : l[m + 1] = y := by rw [List.getElem?_eq_getElem hlt2] at hy; exact Option.some.inj hy
          have HXE := Lib.hid hxe
          have HYE := Lib.hid hye
          have hi0 : (0 : Int) ≤ (m : Int) := by omega
          have hi1 : (m : Int) < (l.length : Int) := by omega
          have hi2 : (m : Int) + 1 < (l.length : Int) := by omega
          have hi3 : IntKind.i64.wrap (m : Int) = m := by simp [IntKind.wrap, IntKind.bits, IntKind.signed]; omega
          have hi4 : (0 : Int) ≤ (m : Int) + 1 := by omega
          have HR0 := Lib.hid (range_regrown c0 hbl)
          have HR1 := Lib.hid (range_regrown p0 hbl)
          have cX := fun d os => Calls.regrown_of (lessFR x y (grow (redrawn wr d) os))
          have HCX := Lib.hid cX
          have hno : ltF x y = true ∨ ltF x y = false := by cases ltF x y <;> simp
          have HNO := Lib.hid (show ltF x y = true → ∀ j, (h : j + 1 < l.length) → j < m + 1 → ltF l[j] l[j + 1] = true from fun hh j hj hjm => by
            rcases Nat.lt_or_ge j m with h1 | h1
            · exact HR.out j hj h1
            · obtain rfl : j = m := by omega
              rw [HXE.out, HYE.out]; exact hh)
          have HNF := Lib.hid (show ltF x y = false → chkFs rdM l = 5 from fun hh => chkFs_flatJ HG.out (fun hr => by have := hr.near m hlt2; rw [HXE.out, HYE.out, hh] at this; cases this))
          generalize ltF x y = t at HNO HNF HCX hno
          clear hx hy hxe hye cX hbe hbe2 hbl' c0 p0
          rcases hno with rfl | rfl
          · have HN := Lib.hid (HNO.out rfl)
            clear HNO HNF
            go_upto_region 10 with fail
            refine wp_region_quiet_below (by kernel_rfl) (by kernel_rfl) ?_
            repeat (first
              | ((with_reducible refine fq_load ?_ (.tmp 29) ?_ b (off + m * 8) x ?_ ?_ ?_); rfl; rfl; rfl; exact HR0.out; simp only [Act.put, List.setIfInBounds_toArray, List.set_cons_zero, List.set_cons_succ])
              | ((with_reducible refine fq_load ?_ (.tmp 33) ?_ b (off + (m + 1) * 8) y ?_ ?_ ?_); rfl; rfl; rfl; exact HR1.out; simp only [Act.put, List.setIfInBounds_toArray, List.set_cons_zero, List.set_cons_succ])
              | go_big_quiet_step ((go_at_call 43; with_reducible exact HCX.out _ _)) | quiet_step ((go_at_call 43; with_reducible exact HCX.out _ _)))
            refine wpQuiet_nil ?_
            intro _ hw'
            obtain ⟨⟨dq, osq⟩, hw''⟩ := hw'
            subst hw''
            have HB9 := Lib.hid (HB2.out.trans ((below_regrown wr dq osq).mono HB2.out.size))
            clear HCX HR0 HR1
            generalize grow (redrawn wr dq) osq = W at *
            go_wp2_with fail
            go_roundw
            case rel => exact ⟨m + 1, by go_num, by omega, HN, HB9.out⟩
            case measure => simp [intOf]; omega
          · have HN := Lib.hid (HNF.out rfl)
            clear HNO HNF
            go_upto_region 10 with fail
            refine wp_region_quiet_below (by kernel_rfl) (by kernel_rfl) ?_
            repeat (first
              | ((with_reducible refine fq_load ?_ (.tmp 29) ?_ b (off + m * 8) x ?_ ?_ ?_); rfl; rfl; rfl; exact HR0.out; simp only [Act.put, List.setIfInBounds_toArray, List.set_cons_zero, List.set_cons_succ])
              | ((with_reducible refine fq_load ?_ (.tmp 33) ?_ b (off + (m + 1) * 8) y ?_ ?_ ?_); rfl; rfl; rfl; exact HR1.out; simp only [Act.put, List.setIfInBounds_toArray, List.set_cons_zero, List.set_cons_succ])
              | go_big_quiet_step ((go_at_call 43; with_reducible exact HCX.out _ _)) | quiet_step ((go_at_call 43; with_reducible exact HCX.out _ _)))
            refine wpQuiet_nil ?_
            intro _ hw'
            obtain ⟨⟨dq, osq⟩, hw''⟩ := hw'
            subst hw''
            have HB9 := Lib.hid (HB2.out.trans ((below_regrown wr dq osq).mono HB2.out.size))
            clear HCX HR0 HR1
            generalize grow (redrawn wr dq) osq = W at *
            go_wp2_with fail
            go_ret
            exact ⟨by rw [HN.out]; rfl, HB9.out⟩
        · have hfin : chkFs rdM l = 0 := chkFs_goodJ HG.out (riseF_near l (fun j hj => HR.out j hj (by omega)))
          have HF := Lib.hid hfin
          have hi2 : ¬ (m : Int) + 1 < (l.length : Int) := by omega
          clear hfin
          go_wp2_with fail
          go_ret
          exact ⟨by rw [HF.out]; rfl, HB2.out⟩
end Go.Proofs.YtmnblpjdiplioaaGreat
