/-
  Check, the document's.
  Read, the document's.
-/
import Derived.Test.YtchnklekeinhiaaGreatGV07
import Derived.Test.YtchnklekeinhiaaGreatGV10
namespace Go.Proofs.YtchnklekeinhiaaGreat
open Go.RowKit Go.Sort

set_option maxHeartbeats 4000000 in
set_option maxRecDepth 100000 in
theorem checkMR (m : Man) (a : Option Addr) (cap : Nat) (w : World) (h : MArg w m a) :
    Calls Tryz.prog 43 #[mv m (.slice a m.ids.length cap)] w fun e w' => e = .returned (.int .i64 (manE m)) ∧ Below w.heap.size w w' := by
  obtain ⟨hbx, hbw⟩ := box_man w m (.slice a m.ids.length cap)
  have ha := h.below hbw
  have hlen := h.len
  obtain ⟨z, c, ids⟩ := m
  have h0 := hbx.c0
  have h1 := hbx.c1
  have h2 := hbx.c2
  simp only at h0 h1 h2 hlen
  by_cases hc : c < 1
  · have e : manE ⟨z, c, ids⟩ = 2 := by unfold manE; rw [if_pos (.inl (by simp only; omega))]
    rw [e]
    have hd : decide (c < 1) = true := decide_eq_true hc
    have HB := Lib.hid hbw
    clear hbx hbw ha h e hc
    go_enter Tryz.func43, Tryz.ntmps43
    go_wp2_with fail
    go_ret
    exact ⟨rfl, HB.out⟩
  have hdc : decide (c < 1) = false := decide_eq_false hc
  by_cases hc2 : 4096 < c
  · have e : manE ⟨z, c, ids⟩ = 2 := by unfold manE; rw [if_pos (.inl (by simp only; omega))]
    rw [e]
    have hd : decide (4096 < c) = true := decide_eq_true hc2
    have HB := Lib.hid hbw
    clear hbx hbw ha h e hc hc2
    go_enter Tryz.func43, Tryz.ntmps43
    go_wp2_with fail
    go_ret
    exact ⟨rfl, HB.out⟩
  have hdc2 : decide (4096 < c) = false := decide_eq_false hc2
  by_cases hz : z < 0
  · have e : manE ⟨z, c, ids⟩ = 2 := by unfold manE; rw [if_pos (.inr (.inl hz))]
    rw [e]
    have hd : decide (z < 0) = true := decide_eq_true hz
    have HB := Lib.hid hbw
    clear hbx hbw ha h e hc hc2 hz
    go_enter Tryz.func43, Tryz.ntmps43
    go_wp2_with fail
    go_ret
    exact ⟨rfl, HB.out⟩
  have hdz : decide (z < 0) = false := decide_eq_false hz
  by_cases hz2 : 32768 < z
  · have e : manE ⟨z, c, ids⟩ = 2 := by unfold manE; rw [if_pos (.inr (.inr hz2))]
    rw [e]
    have hd : decide (32768 < z) = true := decide_eq_true hz2
    have HB := Lib.hid hbw
    clear hbx hbw ha h e hc hc2 hz hz2
    go_enter Tryz.func43, Tryz.ntmps43
    go_wp2_with fail
    go_ret
    exact ⟨rfl, HB.out⟩
  have hdz2 : decide (32768 < z) = false := decide_eq_false hz2
  obtain ⟨zn, rfl⟩ : ∃ n : Nat, z = n := ⟨z.toNat, by omega⟩
  obtain ⟨cn, rfl⟩ : ∃ n : Nat, c = n := ⟨c.toNat, by omega⟩
  have hk := hbx.lt
  have e0 : manE ⟨(zn : Int), (cn : Int), ids⟩ = if ids.length ≠ nP zn cn ∨ ¬(∀ s ∈ ids, ckE s = 0) then 5 else if 4096 < ids.length then 3 else 0 := by
    unfold manE
    simp only [Int.toNat_natCast]
    rw [if_neg (by omega)]
  have hcn1 : 1 ≤ cn := by omega
  have hcn2 : cn ≤ 4096 := by omega
  have hzn : zn ≤ 32768 := by omega
  have E0 := Lib.hid e0
  have HB := Lib.hid hbw
  have HA := Lib.hid ha
  clear e0 hc hc2 hz hz2 h hbw ha
  go_enter Tryz.func43, Tryz.ntmps43
  go_upto_region 3 with fail
  generalize w.alloc (.cells #[.int .i64 (zn : Int), .int .i64 (cn : Int), .slice a ids.length cap] 27) = w1 at *
  have r0 := fun d os => cell_regrown h0 d os
  have r1 := fun d os => cell_regrown h1 d os
  have r2 := fun d os => cell_regrown h2 d os
  have cN := fun d os => Calls.regrown_of ((manyR zn cn (by omega) hcn1 hcn2 (grow (redrawn w1 d) os)).mono fun e w' ⟨he, hw⟩ => ⟨he, hw ▸ Below.refl _ _⟩)
  have HN := Lib.hid cN
  clear cN h0 h1
  generalize nP zn cn = N at *
  by_cases hN : ids.length = N
  case neg =>
    have hdn : ((ids.length : Int) != (N : Int)) = true := by simp; omega
    have EE : manE ⟨(zn : Int), (cn : Int), ids⟩ = 5 := by rw [E0.out, if_pos (.inl hN)]
    clear hN E0
    refine wp_region_quiet_below (by kernel_rfl) (by kernel_rfl) ?_
    repeat (first | go_big_quiet_step ((go_at_call 73; with_reducible exact HN.out _ _)) | quiet_step ((go_at_call 73; with_reducible exact HN.out _ _)))
    refine wpQuiet_nil ?_
    intro _ hw'
    obtain ⟨⟨dq, osq⟩, hw''⟩ := hw'
    subst hw''
    have HBq := Lib.hid (HB.out.trans ((below_regrown w1 dq osq).mono HB.out.size))
    clear HN r0 r1 r2
    go_wp2_with fail
    go_ret
    first | (rw [EE]; exact ⟨rfl, HBq.out⟩) | exact ⟨rfl, HBq.out⟩
  case pos =>
    have hdn : ((ids.length : Int) != (N : Int)) = false := by simp [hN]
    have HEQ := Lib.hid hN
    clear hN
    refine wp_region_quiet_below (by kernel_rfl) (by kernel_rfl) ?_
    repeat (first | go_big_quiet_step ((go_at_call 73; with_reducible exact HN.out _ _)) | quiet_step ((go_at_call 73; with_reducible exact HN.out _ _)))
    refine wpQuiet_nil ?_
    intro _ hw'
    obtain ⟨⟨dq, osq⟩, hw''⟩ := hw'
    subst hw''
    have hbq := below_regrown w1 dq osq
    have k2 := r2 dq osq
    have hbx2 : MBox (grow (redrawn w1 dq) osq) w.heap.size ⟨(zn : Int), (cn : Int), ids⟩ (.slice a ids.length cap) := hbx.below hbq hk
    clear HN r0 r1 r2 h2 hbx
    have HB2 := Lib.hid (HB.out.trans (hbq.mono HB.out.size))
    have HA2 := Lib.hid (HA.out.below hbq)
    have hk2 := hbx2.lt
    clear hbq HB HA hk
    generalize grow (redrawn w1 dq) osq = w2 at *
    go_wp2_with fail
    go_loopw [3] (fun i wr => ∃ k : Nat, i = .int .i64 k ∧ k ≤ ids.length ∧ (∀ j, j < k → ckE (ids.getD j ByteArray.empty) = 0) ∧ Below w2.heap.size w2 wr) (fun i _ => ids.length - (intOf i).toNat)
    case atStart => exact ⟨0, rfl, Nat.zero_le _, fun j hj => absurd hj (by omega), Below.refl _ _⟩
    case round =>
      obtain ⟨k, rfl, hkl, hzz, hb⟩ := hrel
      have kc := (hbx2.below hb hk2).c2
      by_cases hlt : k < ids.length
      · obtain ⟨b, off, rfl, hbl, hcc⟩ := str_at (HA2.out.row.below hb) hlt
        have hmem : ids.getD k ByteArray.empty ∈ ids := by rw [List.getD_eq_getElem?_getD, List.getElem?_eq_getElem hlt]; exact List.getElem_mem hlt
        have hck := hchkR (ids.getD k ByteArray.empty) wr (HA2.out.short _ hmem)
        have HZ := Lib.hid hzz
        have HBr := Lib.hid hb
        have HM := Lib.hid hmem
        clear hzz hb hmem
        simp only at hcc
        generalize hsk : ids.getD k ByteArray.empty = s at hcc hck HM
        by_cases hs0 : ckE s = 0
        · rw [hs0] at hck
          go_wp2_with fail
          refine hck.mono ?_
          rintro e w3 ⟨rfl, hb3⟩
          have HB3 := Lib.hid (HBr.out.trans (hb3.mono HBr.out.size))
          clear hb3
          go_wp2_with fail
          go_roundw
          case rel =>
            refine ⟨k + 1, by go_num, by omega, fun j hj => ?_, HB3.out⟩
            by_cases hjk : j < k
            · exact HZ.out j hjk
            · obtain rfl : j = k := by omega
              rw [hsk]; exact hs0
          case measure => simp [intOf]; omega
        · have hne : (ckE s != 0) = true := by simp [hs0]
          have hall : ¬ ∀ s ∈ ids, ckE s = 0 := fun h => hs0 (h s HM.out)
          have EE : manE ⟨(zn : Int), (cn : Int), ids⟩ = 5 := by rw [E0.out, if_pos (.inr hall)]
          clear hall
          generalize ckE s = E at hck hne
          go_wp2_with fail
          refine hck.mono ?_
          rintro e w3 ⟨rfl, hb3⟩
          have HB3 := Lib.hid (HB2.out.trans ((HBr.out.trans (hb3.mono HBr.out.size)).mono HB2.out.size))
          clear hb3
          go_wp2_with fail
          go_ret
          first | (rw [EE]; exact ⟨rfl, HB3.out⟩) | exact ⟨rfl, HB3.out⟩
      · obtain rfl : k = ids.length := by omega
        have hall : ∀ s ∈ ids, ckE s = 0 := fun s hs' => by
          obtain ⟨j, hj, rfl⟩ := List.getElem_of_mem hs'
          have := hzz j hj
          rw [List.getD_eq_getElem?_getD, List.getElem?_eq_getElem hj] at this
          exact this
        have HB3 := Lib.hid (HB2.out.trans (hb.mono HB2.out.size))
        by_cases h4 : 4096 < ids.length
        · have EE : manE ⟨(zn : Int), (cn : Int), ids⟩ = 3 := by rw [E0.out, if_neg (by rintro (h | h); exact h HEQ.out; exact h hall), if_pos h4]
          have hd4 : decide ((4096 : Int) < (ids.length : Int)) = true := by simp; omega
          clear hall hzz hb E0
          go_wp2_with fail
          go_ret
          first | (rw [EE]; exact ⟨rfl, HB3.out⟩) | exact ⟨rfl, HB3.out⟩
        · have EE : manE ⟨(zn : Int), (cn : Int), ids⟩ = 0 := by rw [E0.out, if_neg (by rintro (h | h); exact h HEQ.out; exact h hall), if_neg h4]
          have hd4 : decide ((4096 : Int) < (ids.length : Int)) = false := by simp; omega
          clear hall hzz hb E0
          go_wp2_with fail
          go_ret
          first | (rw [EE]; exact ⟨rfl, HB3.out⟩) | exact ⟨rfl, HB3.out⟩
end Go.Proofs.YtchnklekeinhiaaGreat

namespace Go.Proofs.YtchnklekeinhiaaGreat
open Go.RowKit Go.Sort

theorem mdone_q (st : ByteArray × Int) : doneS (qListSt st) = doneS (sList st).2 := by
  unfold qListSt qSt doneS
  by_cases h : (sList st).2.2 = 0
  · rw [if_pos h]
  · rw [if_neg h]; simp only; rw [if_pos h, if_pos h]

set_option maxHeartbeats 4000000 in
set_option maxRecDepth 100000 in
theorem readMR (s : ByteArray) (hs : s.size ≤ 9223372036854775807) (hsh : ∀ x ∈ (rMan s).ids, x.size ≤ 5000) (w : World) :
    Calls Tryz.prog 30 #[.string s] w fun e w' => ∃ v, e = .returned (.tuple #[mv (readM s).1 v, .int .i64 (readM s).2]) ∧ OwnS w.heap.size v (readM s).1.ids w' ∧ Below w.heap.size w w' := by
  have r0 := MBox.new w ⟨0, 0, []⟩ (.slice none 0 0)
  have hb0 : Below w.heap.size w (w.alloc (.cells #[.int .i64 0, .int .i64 0, .slice none 0 0] 27)) := (Below.refl _ w).alloc (Nat.le_refl _) _
  have R0 := Lib.hid r0
  have HB0 := Lib.hid hb0
  have hlt0 := r0.lt
  clear r0 hb0
  go_enter Tryz.func30, Tryz.ntmps30
  go_wp2_with fail
  refine (refR_num s 0 hs _).mono ?_
  rintro e w1 ⟨rfl, hb1⟩
  have r1 := R0.out.below hb1 hlt0
  have hl1 := r1.lt
  have z1 : (sNum (s, 0)).2.1.size ≤ s.size := sNum_size (s, 0)
  have H1 := Lib.hid (And.intro r1 (HB0.out.trans (hb1.mono HB0.out.size)))
  clear r1 hb1 R0 HB0
  have hR : (rMan s).size = ((sNum (s, 0)).1 : Nat) ∧ (rMan s).chunk = ((sNum (sNum (s, 0)).2).1 : Nat) ∧ (rMan s).ids = (sList (sNum (sNum (s, 0)).2).2).1 ∧ doneS (rSt s) = doneS (qListSt (sNum (sNum (s, 0)).2).2) := ⟨rfl, rfl, rfl, (mdone_q _).symm⟩
  have HRM := Lib.hid (show readM s = if doneS (rSt s) ≠ 0 then (⟨0, 0, []⟩, doneS (rSt s)) else if manE (rMan s) ≠ 0 then (⟨0, 0, []⟩, manE (rMan s)) else (rMan s, 0) from rfl)
  generalize rMan s = M at *
  generalize doneS (rSt s) = D at *
  generalize hp1 : sNum (s, 0) = p1 at *
  obtain ⟨n1, s1, e1⟩ := p1
  clear hp1
  simp only at z1 hR ⊢
  have z2 : (sNum (s1, e1)).2.1.size ≤ s1.size := sNum_size (s1, e1)
  have hq1 := Qd.made (s1, e1) w1
  have hrA := H1.out.1.alloc (.cells #[.string s1, .int .i64 e1] 91)
  have hs1 := H1.out.2.size
  have hbA := H1.out.2.alloc hs1 (.cells #[.string s1, .int .i64 e1] 91)
  have HQ1 := Lib.hid hq1
  have HA1 := Lib.hid (And.intro hrA hbA)
  have hql1 := hq1.lt
  have hra1 := hrA.lt
  clear hq1 hrA hbA H1
  go_wp2_with fail
  generalize w1.alloc (.cells #[.string s1, .int .i64 e1] 91) = wa at *
  refine (refR_num s1 e1 (by omega) _).mono ?_
  rintro e w2 ⟨rfl, hb2⟩
  generalize hp2 : sNum (s1, e1) = p2 at *
  obtain ⟨n2, s2, e2⟩ := p2
  clear hp2
  simp only at z2 hR ⊢
  have hq2 := HQ1.out.below hb2 hql1
  have hr2 := HA1.out.1.below hb2 hra1
  have hsa := HA1.out.2.size
  have hb2' := HA1.out.2.trans (hb2.mono hsa)
  have c20 := hq2.left
  have c21 := hq2.err
  have f20 := hq2.free 0
  have f21 := hq2.free 1
  have hq3 := hq2.set s2 e2
  have hbS := (hb2'.setCell (p := ⟨w1.heap.size, 0, none⟩) hs1 (.string s2)).setCell (p := ⟨w1.heap.size, 1, none⟩) hs1 (.int .i64 e2)
  have hrS := (hr2.kept (grownBy_setCell w2 w1.heap.size 0 (.string s2)) (fun e => by have := Option.some.inj e; omega)).kept (grownBy_setCell _ w1.heap.size 1 (.int .i64 e2)) (fun e => by have := Option.some.inj e; omega)
  have HS := Lib.hid (And.intro hrS hbS)
  have HQ3 := Lib.hid hq3
  have c30 := hq3.left
  have c31 := hq3.err
  have hql3 := hq3.lt
  have hrl3 := hrS.lt
  clear hb2 hb2' hq2 hr2 hrS hbS hq3 HQ1 HA1
  simp only at c20 c21 c30 c31
  go_wp2_with fail
  generalize (w2.setCell ⟨w1.heap.size, 0, none⟩ (.string s2)).setCell ⟨w1.heap.size, 1, none⟩ (.int .i64 e2) = wb at *
  refine (refR_list s2 e2 (by omega) _).mono ?_
  rintro e w3 ⟨v, rfl, hown, hb3⟩
  generalize hp3 : (sList (s2, e2)).1 = l3 at *
  generalize hp4 : qListSt (s2, e2) = p4 at *
  obtain ⟨s3, e3⟩ := p4
  clear hp3 hp4
  simp only at hR ⊢
  have hq3 := HQ3.out.below hb3 hql3
  have hr3 := HS.out.1.below hb3 hrl3
  have hsb := HS.out.2.size
  have hb3' := HS.out.2.trans (hb3.mono hsb)
  have d20 := hq3.left
  have d21 := hq3.err
  have g20 := hq3.free 0
  have g21 := hq3.free 1
  have hq4 := hq3.set s3 e3
  have hbT := (hb3'.setCell (p := ⟨w1.heap.size, 0, none⟩) hs1 (.string s3)).setCell (p := ⟨w1.heap.size, 1, none⟩) hs1 (.int .i64 e3)
  have hrT := (hr3.kept (grownBy_setCell w3 w1.heap.size 0 (.string s3)) (fun e => by have := Option.some.inj e; omega)).kept (grownBy_setCell _ w1.heap.size 1 (.int .i64 e3)) (fun e => by have := Option.some.inj e; omega)
  have ho : some w1.heap.size ≠ v.ownBlock := fun e => by have := (World.ownsRow.lt hown _ e.symm).1; omega
  have hoT := (World.ownsRow.kept hown (grownBy_setCell w3 w1.heap.size 0 (.string s3)) (.inr ho.symm)).kept (grownBy_setCell _ w1.heap.size 1 (.int .i64 e3)) (.inr ho.symm)
  obtain ⟨hR1, hR2, hR3, hR4⟩ := hR
  obtain rfl : M = ⟨(n1 : Int), (n2 : Int), l3⟩ := by cases M; simp only at hR1 hR2 hR3; rw [hR1, hR2, hR3]
  obtain ⟨la, lc, rfl, hrow, hlm⟩ := ownS_row (show OwnS wb.heap.size v l3 _ from hoT)
  simp only at hsh
  have hg := MBox.new ((w3.setCell ⟨w1.heap.size, 0, none⟩ (.string s3)).setCell ⟨w1.heap.size, 1, none⟩ (.int .i64 e3)) ⟨(n1 : Int), (n2 : Int), l3⟩ (.slice la l3.length lc)
  have hbG := (Below.refl _ ((w3.setCell ⟨w1.heap.size, 0, none⟩ (.string s3)).setCell ⟨w1.heap.size, 1, none⟩ (.int .i64 e3))).alloc (Nat.le_refl _) (.cells #[.int .i64 (n1 : Int), .int .i64 (n2 : Int), .slice la l3.length lc] 27)
  have hq5 := hq4.alloc (.cells #[.int .i64 (n1 : Int), .int .i64 (n2 : Int), .slice la l3.length lc] 27)
  have c40 := hq5.left
  have c41 := hq5.err
  have hgl := hg.lt
  have hsT := hbT.size
  have r5 := hrT.below hbG hrT.lt
  have hrl5 := r5.lt
  have HG := Lib.hid hg
  have H5 := Lib.hid (And.intro r5 (hbT.trans (hbG.mono hsT)))
  have HA5 := Lib.hid (show MArg _ ⟨(n1 : Int), (n2 : Int), l3⟩ la from ⟨hrow.below hbG, by unfold maxLen at hlm; exact hlm, hsh⟩)
  have HO5 := Lib.hid (row_below hoT hbG)
  have hwb : w.heap.size < wb.heap.size := hrl3
  clear hb3 hb3' hq3 hr3 hrT hbT hq4 hq5 hg hbG r5 HQ3 HS hoT hrow hown ho c30 c31 c20 c21 f20 f21 hR1 hR2 hR3
  simp only at d20 d21 c40 c41
  have hdn := fun W => refR_done s3 e3 W
  rw [← hR4] at hdn
  clear hR4
  simp only [World.size_setCell] at c40 c41 hgl
  go_wp2_with fail
  have hgs : ((w3.setCell ⟨w1.heap.size, 0, none⟩ (.string s3)).setCell ⟨w1.heap.size, 1, none⟩ (.int .i64 e3)).heap.size = w3.heap.size := by simp
  rw [hgs] at HG
  clear hgs
  generalize ((w3.setCell ⟨w1.heap.size, 0, none⟩ (.string s3)).setCell ⟨w1.heap.size, 1, none⟩ (.int .i64 e3)).alloc (.cells #[.int .i64 (n1 : Int), .int .i64 (n2 : Int), .slice la l3.length lc] 27) = w5 at *
  refine (hdn w5).mono ?_
  rintro e w6 ⟨rfl, hw6⟩
  have hb6 : Below w5.heap.size w5 w6 := by rw [← hw6]; exact (Below.refl _ _).alloc (Nat.le_refl _) _
  have hs5 := H5.out.2.size
  have r6 := H5.out.1.below hb6 hrl5
  have g6 := HG.out.below hb6 HG.out.lt
  have HB6 := Lib.hid (H5.out.2.trans (hb6.mono hs5))
  have HA6 := Lib.hid (HA5.out.below hb6)
  have HO6 := Lib.hid (row_below HO5.out hb6)
  have l0 := r6.c0
  have l1 := r6.c1
  have l2 := r6.c2
  have u0 := r6.free 0
  have u1 := r6.free 1
  have u2 := r6.free 2
  have n0 := g6.c0
  have n1' := g6.c1
  have n2' := g6.c2
  have hrl6 := r6.lt
  have hgl6 := g6.lt
  have R6 := Lib.hid r6
  have G6 := Lib.hid g6
  clear hb6 hw6 HA5 HO5 H5 HG r6 g6 hdn
  by_cases hD : D = 0
  case neg =>
    have hj := HRM.out
    rw [if_pos hD] at hj
    have hne : (D == 0) = false := by simp [hD]
    have hne2 : (D != 0) = true := by simp [hD]
    have HJ := Lib.hid hj
    have hput := Lib.hid (R6.out.put ⟨0, 0, []⟩ (.slice none 0 0))
    clear hj hD
    go_wp2_with fail
    refine bodyPost_ret (results_man rfl _ _ w.heap.size 27 _ _ _ (0, 0) _ rfl hput.out Tryz.underlying27 rfl manInfo) rfl ?_
    rw [HJ.out]
    exact ⟨_, rfl, ownS_nil _ _, below_put3 HB6.out (Nat.le_refl _) _ _ _⟩
  case pos =>
    have hj := HRM.out
    rw [if_neg (fun hh => hh hD)] at hj
    have HJ := Lib.hid hj
    subst hD
    clear hj HRM
    have hck := fun W (hW : MArg W ⟨(n1 : Int), (n2 : Int), l3⟩ la) => checkMR ⟨(n1 : Int), (n2 : Int), l3⟩ la lc W hW
    go_wp2_with fail
    refine (hck _ HA6.out).mono ?_
    rintro e w7 ⟨rfl, hb7⟩
    have hs6 := HB6.out.size
    have r7 := R6.out.below hb7 hrl6
    have g7 := G6.out.below hb7 hgl6
    have m0 := r7.c0
    have m1 := r7.c1
    have m2 := r7.c2
    have v0 := r7.free 0
    have v1 := r7.free 1
    have v2 := r7.free 2
    have q0 := g7.c0
    have q1 := g7.c1
    have q2 := g7.c2
    have HB7 := Lib.hid (HB6.out.trans (hb7.mono hs6))
    by_cases hE : manE ⟨(n1 : Int), (n2 : Int), l3⟩ = 0
    · have hj := HJ.out
      rw [if_neg (fun hh => hh hE)] at hj
      have HJ2 := Lib.hid hj
      have hput := Lib.hid (r7.put ⟨(n1 : Int), (n2 : Int), l3⟩ (.slice la l3.length lc))
      have hO := Lib.hid (row_put3 (row_below HO6.out hb7) (G := w.heap.size) (by omega) (.int .i64 (n1 : Int)) (.int .i64 (n2 : Int)) (.slice la l3.length lc))
      clear hj HJ hb7 r7 g7 l0 l1 l2 u0 u1 u2 n0 n1' n2'
      go_wp2_with fail
      refine bodyPost_ret (results_man rfl _ _ w.heap.size 27 _ _ _ (0, 0) _ rfl hput.out Tryz.underlying27 rfl manInfo) rfl ?_
      rw [HJ2.out]
      exact ⟨_, rfl, row_mono hO.out (by omega), below_put3 HB7.out (Nat.le_refl _) _ _ _⟩
    · have hj := HJ.out
      rw [if_pos hE] at hj
      have hne : (manE ⟨(n1 : Int), (n2 : Int), l3⟩ != 0) = true := by simp [hE]
      have HJ2 := Lib.hid hj
      have hput := Lib.hid (r7.put ⟨0, 0, []⟩ (.slice none 0 0))
      clear hj hE HJ hb7 r7 g7 l0 l1 l2 u0 u1 u2 n0 n1' n2'
      generalize manE ⟨(n1 : Int), (n2 : Int), l3⟩ = E at *
      go_wp2_with fail
      refine bodyPost_ret (results_man rfl _ _ w.heap.size 27 _ _ _ (0, 0) _ rfl hput.out Tryz.underlying27 rfl manInfo) rfl ?_
      rw [HJ2.out]
      exact ⟨_, rfl, ownS_nil _ _, below_put3 HB7.out (Nat.le_refl _) _ _ _⟩
end Go.Proofs.YtchnklekeinhiaaGreat
