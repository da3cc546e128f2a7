/-
  The document's Read of an update.
-/
import Derived.Test.YtkodololdjainaaGreatDlRd
import Derived.Test.YtkodololdjainaaGreatDlChkR
import Derived.Test.YtkodololdjainaaGreatGDelS
import Derived.Test.YtkodololdjainaaGreatGDelT
namespace Go.Proofs.YtkodololdjainaaGreat
set_option linter.unusedSimpArgs false
set_option linter.unusedVariables false
set_option maxRecDepth 100000
open Go.RowKit Go.Sort

theorem ddone_q (st st' : ByteArray × Int) : doneS (qSt st st') = doneS st' := by
  unfold qSt
  split
  · rfl
  · rename_i h; simp [doneS, h]
/-- where the document's reader stands behind the first text, and behind the second -/
def m5Dl (s : ByteArray) : ByteArray × Int := qSt (s4Dl s).2 (s5Dl s).2
def m6Dl (s : ByteArray) : ByteArray × Int := qSt (m5Dl s) (sText (m5Dl s)).2
theorem m6_done (s : ByteArray) : doneS (m6Dl s) = doneS (s6Dl s).2 := by
  unfold m6Dl
  rw [ddone_q]
  by_cases h : (s5Dl s).2.2 = 0
  · have h1 : m5Dl s = (s5Dl s).2 := qSt_ok h
    rw [h1]; rfl
  · have h1 : (m5Dl s).2 ≠ 0 := by unfold m5Dl; rw [qSt_err]; exact h
    have h2 : s6Dl s = sText (s5Dl s).2 := rfl
    rw [text_bad h1, h2, text_bad h]
    unfold m5Dl
    exact ddone_q _ _
theorem m6_text {s : ByteArray} (hd : doneS (s6Dl s).2 = 0) : (sText (m5Dl s)).1 = (s6Dl s).1 := by
  by_cases h : (s5Dl s).2.2 = 0
  · have h1 : m5Dl s = (s5Dl s).2 := qSt_ok h
    rw [h1]; rfl
  · have h2 : s6Dl s = sText (s5Dl s).2 := rfl
    rw [h2, text_bad h] at hd
    simp [doneS, h] at hd

/-- what lies there while an update is read: the answer's block, the reader -/
structure QK (w : World) (st : ByteArray × Int) (U : World) : Prop where
  res : DBlk U w.heap.size zDl none 0 none 0
  r : Qd (w.heap.size + 1) st U
  low : Go.RowKit.Below w.heap.size w U
theorem QK.below {w : World} {st : ByteArray × Int} {U V : World} (h : QK w st U) (hb : Go.RowKit.Below U.heap.size U V) : QK w st V :=
  ⟨h.res.keep hb, h.r.below hb h.r.lt, h.low.trans (hb.mono h.low.size)⟩
theorem QK.put {w : World} {st : ByteArray × Int} {U : World} (h : QK w st U) (st' : ByteArray × Int) : QK w st' (U.setRow (w.heap.size + 1) (qcs st')) :=
  ⟨h.res.other (by omega) _, h.r.of_put st', belowRow h.low (by omega) _⟩

set_option maxHeartbeats 8000000 in
theorem readDlR (s : ByteArray) (hs : s.size ≤ 5000) (w : World) :
    Calls Tryz.prog 13 #[.string s] w fun v w' => (∃ (la : Option Addr) (lk : Nat) (ga : Option Addr) (gk : Nat), v = .returned (.tuple #[.agg (dlc (readDl rdM s).1 la lk ga gk), .int .i64 (readDl rdM s).2]) ∧ DlMem w' (readDl rdM s).1 la ga) ∧ Go.RowKit.Below w.heap.size w w' := by
  have a1 : (s1Dl s).2.1.size ≤ s.size := sNum_size (s, 0)
  have a2 : (s2Dl s).2.1.size ≤ s.size := Nat.le_trans (sNum_size (s1Dl s).2) a1
  have a3 : (s3Dl s).2.1.size ≤ s.size := Nat.le_trans (sNum_size (s2Dl s).2) a2
  have a4 : (s4Dl s).2.1.size ≤ s.size := Nat.le_trans (sNum_size (s3Dl s).2) a3
  have a5 : (m5Dl s).1.size ≤ s.size := Nat.le_trans (qSt_size (sText_size (s4Dl s).2)) a4
  have v5 : (s5Dl s).1.size ≤ s.size := Nat.le_trans (sText_val (s4Dl s).2) a4
  have v6 : (sText (m5Dl s)).1.size ≤ s.size := Nat.le_trans (sText_val (m5Dl s)) a5
  have hv : ∀ f ∈ (rdF (s5Dl s).1).1, f.v.size ≤ 5000 := fun f hf => Nat.le_trans (rdF_val _ f hf) (by omega)
  have HRL := Lib.hid (show readDl rdM s = if doneS (s6Dl s).2 ≠ 0 then (zDl, doneS (s6Dl s).2) else if (readF rdM (s5Dl s).1).2 ≠ 0 then (zDl, (readF rdM (s5Dl s).1).2) else if (readD (s6Dl s).1).2 ≠ 0 then (zDl, (readD (s6Dl s).1).2)
    else if chkDm ⟨(((s1Dl s).1 : Nat), ((s2Dl s).1 : Nat)), ⟨((s3Dl s).1 : Nat), ((s4Dl s).1 : Nat), ((s1Dl s).1 : Nat)⟩, (readF rdM (s5Dl s).1).1, (readD (s6Dl s).1).1⟩ ≠ 0 then (zDl, chkDm ⟨(((s1Dl s).1 : Nat), ((s2Dl s).1 : Nat)), ⟨((s3Dl s).1 : Nat), ((s4Dl s).1 : Nat), ((s1Dl s).1 : Nat)⟩, (readF rdM (s5Dl s).1).1, (readD (s6Dl s).1).1⟩) else (⟨(((s1Dl s).1 : Nat), ((s2Dl s).1 : Nat)), ⟨((s3Dl s).1 : Nat), ((s4Dl s).1 : Nat), ((s1Dl s).1 : Nat)⟩, (readF rdM (s5Dl s).1).1, (readD (s6Dl s).1).1⟩, 0) from rfl)
  have c1 := fun W => refR_num s 0 (by omega) W
  have c2 := fun W => refR_num (s1Dl s).2.1 (s1Dl s).2.2 (by omega) W
  have c3 := fun W => refR_num (s2Dl s).2.1 (s2Dl s).2.2 (by omega) W
  have c4 := fun W => refR_num (s3Dl s).2.1 (s3Dl s).2.2 (by omega) W
  have c5 := fun W => refR_text (s4Dl s).2.1 (s4Dl s).2.2 (by omega) W
  have c6 := fun W => refR_text (m5Dl s).1 (m5Dl s).2 (by omega) W
  have c7 := fun W => refR_done (m6Dl s).1 (m6Dl s).2 W
  have g1 : sNum (s, 0) = s1Dl s := rfl
  have g2 : sNum ((s1Dl s).2.1, (s1Dl s).2.2) = s2Dl s := rfl
  have g3 : sNum ((s2Dl s).2.1, (s2Dl s).2.2) = s3Dl s := rfl
  have g4 : sNum ((s3Dl s).2.1, (s3Dl s).2.2) = s4Dl s := rfl
  have g5 : sText ((s4Dl s).2.1, (s4Dl s).2.2) = s5Dl s := rfl
  have g5' : qSt ((s4Dl s).2.1, (s4Dl s).2.2) (s5Dl s).2 = m5Dl s := rfl
  have g6 : sText ((m5Dl s).1, (m5Dl s).2) = sText (m5Dl s) := rfl
  have g6' : qSt ((m5Dl s).1, (m5Dl s).2) (sText (m5Dl s)).2 = m6Dl s := rfl
  have g7 : doneS ((m6Dl s).1, (m6Dl s).2) = doneS (s6Dl s).2 := m6_done s
  rw [g1] at c1
  rw [g2] at c2
  rw [g3] at c3
  rw [g4] at c4
  rw [g5, g5'] at c5
  rw [g6, g6'] at c6
  rw [g7] at c7
  have HV6 := Lib.hid (fun h => m6_text (s := s) h)
  have HF := Lib.hid (fun W => readFR (s5Dl s).1 (by omega) W)
  have HG := Lib.hid (fun W => readDR (sText (m5Dl s)).1 (by omega) W)
  have HFL := Lib.hid (fun h => readF_len (s := (s5Dl s).1) h)
  have HGL := Lib.hid (fun h => readD_len (s := (s6Dl s).1) h)
  have HFV := Lib.hid (fun h => readF_rd (s := (s5Dl s).1) h 5000 hv)
  have C1 := Lib.hid c1
  have C2 := Lib.hid c2
  have C3 := Lib.hid c3
  have C4 := Lib.hid c4
  have C5 := Lib.hid c5
  have C6 := Lib.hid c6
  have C7 := Lib.hid c7
  clear a1 a2 a3 a4 a5 v5 v6 hv c1 c2 c3 c4 c5 c6 c7 g1 g2 g3 g4 g5 g5' g6 g6' g7 hs
  generalize readDl rdM s = RS at *
  generalize s1Dl s = S1 at *
  generalize s2Dl s = S2 at *
  generalize s3Dl s = S3 at *
  generalize s4Dl s = S4 at *
  generalize s5Dl s = S5 at *
  generalize (sText (m5Dl s)).1 = X6 at *
  generalize m5Dl s = M5 at *
  generalize m6Dl s = M6 at *
  generalize s6Dl s = S6 at *
  obtain ⟨n1, t1⟩ := S1
  obtain ⟨n2, t2⟩ := S2
  obtain ⟨n3, t3⟩ := S3
  obtain ⟨n4, t4⟩ := S4
  obtain ⟨x5, t5⟩ := S5
  obtain ⟨x6, t6⟩ := S6
  simp only at HRL HV6 HF HG HFL HGL HFV C1 C2 C3 C4 C5 C6 C7
  generalize hRF : readF rdM x5 = RF at *
  obtain ⟨fl, fe⟩ := RF
  simp only at HRL HF HFL HFV
  generalize doneS t6 = D at *
  have r0 := Blk.new w 29 (dlc zDl none 0 none 0)
  have b0 := lowA w (.cells (dlc zDl none 0 none 0) 29)
  have s0 : (w.alloc (.cells (dlc zDl none 0 none 0) 29)).heap.size = w.heap.size + 1 := World.size_alloc _ _
  have q0 := Qd.made (s, 0) (w.alloc (.cells (dlc zDl none 0 none 0) 29))
  rw [s0] at q0
  have K : Hid (QK w (s, 0) ((w.alloc (.cells (dlc zDl none 0 none 0) 29)).alloc (.cells #[.string s, .int .i64 0] 75))) :=
    Lib.hid ⟨r0.alloc _, q0, b0.alloc (by rw [s0]; omega) _⟩
  clear r0 b0 s0 q0 hRF
  go_enter Tryz.func13, Tryz.ntmps13
  go_upto_region 2 with fail
  change Code.wp _ _ _ _ ((w.alloc (.cells (dlc zDl none 0 none 0) 29)).alloc (.cells #[.string s, .int .i64 0] 75))
  generalize (w.alloc (.cells (dlc zDl none 0 none 0) 29)).alloc (.cells #[.string s, .int .i64 0] 75) = W at *
  go_wp2_with ((with_reducible refine ql_load ?_ (.tmp 4) ?_ (w.heap.size + 1) (s, 0) ?_ ?_ ?_); rfl; rfl; rfl; exact K.out.r)
  refine (C1.out W).mono ?_
  rintro v w1 ⟨rfl, hb⟩
  have HX := Lib.hid (K.out.below hb)
  have K1 := Lib.hid (HX.out.put t1)
  clear hb K C1
  go_upto_region 3 with ((with_reducible refine ql_store ?_ (.tmp 4) (.tmp 22) ?_ (w.heap.size + 1) t1 ?_ ?_ ?_ ?_); rfl; rfl; rfl; rfl; exact ⟨_, HX.out.r⟩)
  change Code.wp _ _ _ _ (w1.setRow (w.heap.size + 1) (qcs t1))
  generalize w1.setRow (w.heap.size + 1) (qcs t1) = W1 at *
  clear HX
  go_wp2_with ((with_reducible refine ql_load ?_ (.tmp 4) ?_ (w.heap.size + 1) t1 ?_ ?_ ?_); rfl; rfl; rfl; exact K1.out.r)
  refine (C2.out W1).mono ?_
  rintro v w2 ⟨rfl, hb⟩
  have HX := Lib.hid (K1.out.below hb)
  have K2 := Lib.hid (HX.out.put t2)
  clear hb K1 C2
  go_upto_region 4 with ((with_reducible refine ql_store ?_ (.tmp 4) (.tmp 27) ?_ (w.heap.size + 1) t2 ?_ ?_ ?_ ?_); rfl; rfl; rfl; rfl; exact ⟨_, HX.out.r⟩)
  change Code.wp _ _ _ _ (w2.setRow (w.heap.size + 1) (qcs t2))
  generalize w2.setRow (w.heap.size + 1) (qcs t2) = W2 at *
  clear HX
  go_wp2_with ((with_reducible refine ql_load ?_ (.tmp 4) ?_ (w.heap.size + 1) t2 ?_ ?_ ?_); rfl; rfl; rfl; exact K2.out.r)
  refine (C3.out W2).mono ?_
  rintro v w3 ⟨rfl, hb⟩
  have HX := Lib.hid (K2.out.below hb)
  have K3 := Lib.hid (HX.out.put t3)
  clear hb K2 C3
  go_upto_region 5 with ((with_reducible refine ql_store ?_ (.tmp 4) (.tmp 32) ?_ (w.heap.size + 1) t3 ?_ ?_ ?_ ?_); rfl; rfl; rfl; rfl; exact ⟨_, HX.out.r⟩)
  change Code.wp _ _ _ _ (w3.setRow (w.heap.size + 1) (qcs t3))
  generalize w3.setRow (w.heap.size + 1) (qcs t3) = W3 at *
  clear HX
  go_wp2_with ((with_reducible refine ql_load ?_ (.tmp 4) ?_ (w.heap.size + 1) t3 ?_ ?_ ?_); rfl; rfl; rfl; exact K3.out.r)
  refine (C4.out W3).mono ?_
  rintro v w4 ⟨rfl, hb⟩
  have HX := Lib.hid (K3.out.below hb)
  have K4 := Lib.hid (HX.out.put t4)
  clear hb K3 C4
  go_upto_region 6 with ((with_reducible refine ql_store ?_ (.tmp 4) (.tmp 37) ?_ (w.heap.size + 1) t4 ?_ ?_ ?_ ?_); rfl; rfl; rfl; rfl; exact ⟨_, HX.out.r⟩)
  change Code.wp _ _ _ _ (w4.setRow (w.heap.size + 1) (qcs t4))
  generalize w4.setRow (w.heap.size + 1) (qcs t4) = W4 at *
  clear HX
  go_wp2_with ((with_reducible refine ql_load ?_ (.tmp 4) ?_ (w.heap.size + 1) t4 ?_ ?_ ?_); rfl; rfl; rfl; exact K4.out.r)
  refine (C5.out W4).mono ?_
  rintro v w5 ⟨rfl, hb⟩
  have HX := Lib.hid (K4.out.below hb)
  have K5 := Lib.hid (HX.out.put M5)
  clear hb K4 C5
  go_upto_region 7 with ((with_reducible refine ql_store ?_ (.tmp 4) (.tmp 42) ?_ (w.heap.size + 1) M5 ?_ ?_ ?_ ?_); rfl; rfl; rfl; rfl; exact ⟨_, HX.out.r⟩)
  change Code.wp _ _ _ _ (w5.setRow (w.heap.size + 1) (qcs M5))
  generalize w5.setRow (w.heap.size + 1) (qcs M5) = W5 at *
  clear HX
  go_wp2_with ((with_reducible refine ql_load ?_ (.tmp 4) ?_ (w.heap.size + 1) M5 ?_ ?_ ?_); rfl; rfl; rfl; exact K5.out.r)
  refine (C6.out W5).mono ?_
  rintro v w6 ⟨rfl, hb⟩
  have HX := Lib.hid (K5.out.below hb)
  have K6 := Lib.hid (HX.out.put M6)
  clear hb K5 C6
  go_upto_region 8 with ((with_reducible refine ql_store ?_ (.tmp 4) (.tmp 47) ?_ (w.heap.size + 1) M6 ?_ ?_ ?_ ?_); rfl; rfl; rfl; rfl; exact ⟨_, HX.out.r⟩)
  change Code.wp _ _ _ _ (w6.setRow (w.heap.size + 1) (qcs M6))
  generalize w6.setRow (w.heap.size + 1) (qcs M6) = W6 at *
  clear HX
  go_wp2_with ((with_reducible refine ql_load ?_ (.tmp 4) ?_ (w.heap.size + 1) M6 ?_ ?_ ?_); rfl; rfl; rfl; exact K6.out.r)
  refine (C7.out W6).mono ?_
  rintro v w7 ⟨rfl, hw7⟩
  have K7 := Lib.hid (show QK w M6 w7 from K6.out.below (by rw [← hw7]; exact lowA _ _))
  clear hw7 K6 C7
  by_cases hD : D = 0
  case neg =>
    have hne : (D != 0) = true := by simp [hD]
    have HV := Lib.hid (show RS = (zDl, D) by rw [HRL.out, if_pos hD])
    have HP := Lib.hid (K7.out.res.put (dlc zDl none 0 none 0))
    have HB := Lib.hid (belowRow K7.out.low (Nat.le_refl _) (dlc zDl none 0 none 0))
    clear hD
    go_wp2_with ((with_reducible refine bl_store ?_ 29 (.tmp 2) (.tmp 53) ?_ w.heap.size (dlc zDl none 0 none 0) ?_ ?_ ?_ ?_ ?_ ?_); rfl; rfl; rfl; rfl; exact ⟨_, K7.out.res, rfl⟩; exact infoD _ _ _ _ _; exact dl_one _ _ _ _ _; simp only [Act.put, List.setIfInBounds_toArray, List.set_cons_zero, List.set_cons_succ])
    refine bodyPost_ret (retDl rfl _ _ w.heap.size zDl none 0 none 0 _ rfl rfl HP.out) rfl ?_
    rw [HV.out]
    exact ⟨⟨none, 0, none, 0, rfl, dlMem_zero _⟩, HB.out⟩
  case pos =>
  subst hD
  have hx6 : X6 = x6 := HV6.out (by simp)
  subst hx6
  have HRL1 := Lib.hid (show RS = _ from HRL.out.trans (if_neg (by simp)))
  clear HRL HV6
  generalize readD X6 = RG at *
  obtain ⟨gl, ge⟩ := RG
  simp only at HRL1 HG HGL
  go_wp2_with fail
  refine (HF.out w7).mono ?_
  rintro v w8 ⟨v8, rfl, hown, hb8⟩
  obtain ⟨la, lk, rfl, -, -⟩ := hown.fin
  have HLO := Lib.hid (show w.heap.size < w7.heap.size from K7.out.res.lt)
  have HFI8 := Lib.hid hown
  have K8 := Lib.hid (K7.out.below hb8)
  clear hown hb8 K7 HF
  by_cases hE : fe = 0
  case neg =>
    have hne : (fe != 0) = true := by simp [hE]
    have HV := Lib.hid (show RS = (zDl, fe) by rw [HRL1.out, if_pos hE])
    have HP := Lib.hid (K8.out.res.put (dlc zDl none 0 none 0))
    have HB := Lib.hid (belowRow K8.out.low (Nat.le_refl _) (dlc zDl none 0 none 0))
    clear hE
    go_wp2_with ((with_reducible refine bl_store ?_ 29 (.tmp 2) (.tmp 62) ?_ w.heap.size (dlc zDl none 0 none 0) ?_ ?_ ?_ ?_ ?_ ?_); rfl; rfl; rfl; rfl; exact ⟨_, K8.out.res, rfl⟩; exact infoD _ _ _ _ _; exact dl_one _ _ _ _ _; simp only [Act.put, List.setIfInBounds_toArray, List.set_cons_zero, List.set_cons_succ])
    refine bodyPost_ret (retDl rfl _ _ w.heap.size zDl none 0 none 0 _ rfl rfl HP.out) rfl ?_
    rw [HV.out]
    exact ⟨⟨none, 0, none, 0, rfl, dlMem_zero _⟩, HB.out⟩
  case pos =>
  subst hE
  have HRL2 := Lib.hid (show RS = _ from HRL1.out.trans (if_neg (by simp)))
  clear HRL1
  go_wp2_with fail
  refine (HG.out w8).mono ?_
  rintro v w9 ⟨v9, rfl, hown, hb9⟩
  obtain ⟨ga, gk, rfl, -, -⟩ := hown.din
  have HLO8 := Lib.hid (show w.heap.size < w8.heap.size from K8.out.res.lt)
  have HFI9 := Lib.hid (HFI8.out.below hb9 (Nat.le_refl _))
  have HDI9 := Lib.hid hown
  have K9 := Lib.hid (K8.out.below hb9)
  clear hown hb9 K8 HG HFI8
  by_cases hE : ge = 0
  case neg =>
    have hne : (ge != 0) = true := by simp [hE]
    have HV := Lib.hid (show RS = (zDl, ge) by rw [HRL2.out, if_pos hE])
    have HP := Lib.hid (K9.out.res.put (dlc zDl none 0 none 0))
    have HB := Lib.hid (belowRow K9.out.low (Nat.le_refl _) (dlc zDl none 0 none 0))
    clear hE
    go_wp2_with ((with_reducible refine bl_store ?_ 29 (.tmp 2) (.tmp 71) ?_ w.heap.size (dlc zDl none 0 none 0) ?_ ?_ ?_ ?_ ?_ ?_); rfl; rfl; rfl; rfl; exact ⟨_, K9.out.res, rfl⟩; exact infoD _ _ _ _ _; exact dl_one _ _ _ _ _; simp only [Act.put, List.setIfInBounds_toArray, List.set_cons_zero, List.set_cons_succ])
    refine bodyPost_ret (retDl rfl _ _ w.heap.size zDl none 0 none 0 _ rfl rfl HP.out) rfl ?_
    rw [HV.out]
    exact ⟨⟨none, 0, none, 0, rfl, dlMem_zero _⟩, HB.out⟩
  case pos =>
  subst hE
  have HRL3 := Lib.hid (show RS = _ from HRL2.out.trans (if_neg (by simp)))
  clear HRL2
  have hQ : ∃ Q : Dl, Q = ⟨((n1 : Nat), (n2 : Nat)), ⟨(n3 : Nat), (n4 : Nat), (n1 : Nat)⟩, fl, gl⟩ := ⟨_, rfl⟩
  have hla := lowA w9 (.cells (dlc zDl none 0 none 0) 29)
  have HDZ := Lib.hid (Blk.new w9 29 (dlc zDl none 0 none 0))
  have hlb := belowRow hla (Nat.le_refl _) (dlc ⟨((n1 : Int), (n2 : Int)), ⟨(n3 : Int), (n4 : Int), (n1 : Int)⟩, fl, gl⟩ la lk ga gk)
  have HD10 := Lib.hid (HDZ.out.put (dlc ⟨((n1 : Int), (n2 : Int)), ⟨(n3 : Int), (n4 : Int), (n1 : Int)⟩, fl, gl⟩ la lk ga gk))
  have K10 := Lib.hid (K9.out.below hlb)
  have HFI10 := Lib.hid (HFI9.out.below hlb (Nat.le_refl _))
  have HDI10 := Lib.hid (HDI9.out.below hlb (Nat.le_refl _))
  clear hQ hla hlb K9 HFI9 HDI9
  go_upto_region 18 with ((with_reducible refine bl_store ?_ 29 (.tmp 15) (.tmp 82) ?_ w9.heap.size (dlc ⟨((n1 : Int), (n2 : Int)), ⟨(n3 : Int), (n4 : Int), (n1 : Int)⟩, fl, gl⟩ la lk ga gk) ?_ ?_ ?_ ?_ ?_ ?_); rfl; rfl; rfl; rfl; exact ⟨_, HDZ.out, rfl⟩; exact infoD _ _ _ _ _; exact dl_one _ _ _ _ _; simp only [Act.put, List.setIfInBounds_toArray, List.set_cons_zero, List.set_cons_succ])
  change Code.wp _ _ _ _ ((w9.alloc (.cells (dlc zDl none 0 none 0) 29)).setRow w9.heap.size (dlc ⟨((n1 : Int), (n2 : Int)), ⟨(n3 : Int), (n4 : Int), (n1 : Int)⟩, fl, gl⟩ la lk ga gk))
  clear HDZ
  generalize (w9.alloc (.cells (dlc zDl none 0 none 0) 29)).setRow w9.heap.size (dlc ⟨((n1 : Int), (n2 : Int)), ⟨(n3 : Int), (n4 : Int), (n1 : Int)⟩, fl, gl⟩ la lk ga gk) = W10 at *
  generalize w9.heap.size = g at *
  have HM : Hid (DlMem W10 ⟨((n1 : Int), (n2 : Int)), ⟨(n3 : Int), (n4 : Int), (n1 : Int)⟩, fl, gl⟩ la ga) := Lib.hid ⟨HFI10.out.fin1, HDI10.out.din1, HFL.out (by simp), HGL.out (by simp), HFV.out (by simp)⟩
  have HC := Lib.hid (fun W (hW : DlMem W ⟨((n1 : Int), (n2 : Int)), ⟨(n3 : Int), (n4 : Int), (n1 : Int)⟩, fl, gl⟩ la ga) => chkDR ⟨((n1 : Int), (n2 : Int)), ⟨(n3 : Int), (n4 : Int), (n1 : Int)⟩, fl, gl⟩ la lk ga gk W hW)
  generalize chkDm ⟨((n1 : Int), (n2 : Int)), ⟨(n3 : Int), (n4 : Int), (n1 : Int)⟩, fl, gl⟩ = E at *
  go_wp2_with ((with_reducible refine bl_load ?_ 29 (.tmp 15) ?_ g 0 (dlc ⟨((n1 : Int), (n2 : Int)), ⟨(n3 : Int), (n4 : Int), (n1 : Int)⟩, fl, gl⟩ la lk ga gk) ?_ ?_ Tryz.underlying29 ?_ ?_ ?_); rfl; rfl; rfl; exact HD10.out.all; rfl; exact infoD _ _ _ _ _; simp only [Act.put, List.setIfInBounds_toArray, List.set_cons_zero, List.set_cons_succ])
  refine (HC.out W10 HM.out).mono ?_
  rintro v w11 ⟨rfl, hb11⟩
  have K11 := Lib.hid (K10.out.below hb11)
  have HD11 := Lib.hid (HD10.out.keep hb11)
  have HFI11 := Lib.hid (HFI10.out.below hb11 (Nat.le_refl _))
  have HDI11 := Lib.hid (HDI10.out.below hb11 (Nat.le_refl _))
  clear hb11 HC K10 HD10 HM HFI10 HDI10
  by_cases hE : E = 0
  case neg =>
    have hne : (E != 0) = true := by simp [hE]
    have HV := Lib.hid (show RS = (zDl, E) by rw [HRL3.out, if_pos hE])
    have HP := Lib.hid (K11.out.res.put (dlc zDl none 0 none 0))
    have HB := Lib.hid (belowRow K11.out.low (Nat.le_refl _) (dlc zDl none 0 none 0))
    clear hE
    go_wp2_with ((with_reducible refine bl_store ?_ 29 (.tmp 2) (.tmp 87) ?_ w.heap.size (dlc zDl none 0 none 0) ?_ ?_ ?_ ?_ ?_ ?_); rfl; rfl; rfl; rfl; exact ⟨_, K11.out.res, rfl⟩; exact infoD _ _ _ _ _; exact dl_one _ _ _ _ _; simp only [Act.put, List.setIfInBounds_toArray, List.set_cons_zero, List.set_cons_succ])
    refine bodyPost_ret (retDl rfl _ _ w.heap.size zDl none 0 none 0 _ rfl rfl HP.out) rfl ?_
    rw [HV.out]
    exact ⟨⟨none, 0, none, 0, rfl, dlMem_zero _⟩, HB.out⟩
  case pos =>
  subst hE
  have HV := Lib.hid (show RS = (⟨((n1 : Int), (n2 : Int)), ⟨(n3 : Int), (n4 : Int), (n1 : Int)⟩, fl, gl⟩, 0) by rw [HRL3.out]; exact if_neg (by simp))
  have HP := Lib.hid (K11.out.res.put (dlc ⟨((n1 : Int), (n2 : Int)), ⟨(n3 : Int), (n4 : Int), (n1 : Int)⟩, fl, gl⟩ la lk ga gk))
  have HB := Lib.hid (belowRow K11.out.low (Nat.le_refl _) (dlc ⟨((n1 : Int), (n2 : Int)), ⟨(n3 : Int), (n4 : Int), (n1 : Int)⟩, fl, gl⟩ la lk ga gk))
  have HMF : Hid (DlMem (w11.setRow w.heap.size (dlc ⟨((n1 : Int), (n2 : Int)), ⟨(n3 : Int), (n4 : Int), (n1 : Int)⟩, fl, gl⟩ la lk ga gk)) ⟨((n1 : Int), (n2 : Int)), ⟨(n3 : Int), (n4 : Int), (n1 : Int)⟩, fl, gl⟩ la ga) :=
    Lib.hid ⟨(HFI11.out.ofRow HLO.out _).fin1, (HDI11.out.ofRow HLO8.out _).din1, HFL.out (by simp), HGL.out (by simp), HFV.out (by simp)⟩
  go_wp2_with (first
    | ((with_reducible refine bl_load ?_ 29 (.tmp 15) ?_ g 0 (dlc ⟨((n1 : Int), (n2 : Int)), ⟨(n3 : Int), (n4 : Int), (n1 : Int)⟩, fl, gl⟩ la lk ga gk) ?_ ?_ Tryz.underlying29 ?_ ?_ ?_); rfl; rfl; rfl; exact HD11.out.all; rfl; exact infoD _ _ _ _ _; simp only [Act.put, List.setIfInBounds_toArray, List.set_cons_zero, List.set_cons_succ])
    | ((with_reducible refine bl_store ?_ 29 (.tmp 2) (.tmp 89) ?_ w.heap.size (dlc ⟨((n1 : Int), (n2 : Int)), ⟨(n3 : Int), (n4 : Int), (n1 : Int)⟩, fl, gl⟩ la lk ga gk) ?_ ?_ ?_ ?_ ?_ ?_); rfl; rfl; rfl; rfl; exact ⟨_, K11.out.res, rfl⟩; exact infoD _ _ _ _ _; exact dl_one _ _ _ _ _; simp only [Act.put, List.setIfInBounds_toArray, List.set_cons_zero, List.set_cons_succ]))
  refine bodyPost_ret (retDl rfl _ _ w.heap.size ⟨((n1 : Int), (n2 : Int)), ⟨(n3 : Int), (n4 : Int), (n1 : Int)⟩, fl, gl⟩ la lk ga gk _ rfl rfl HP.out) rfl ?_
  rw [HV.out]
  exact ⟨⟨la, lk, ga, gk, rfl, HMF.out⟩, HB.out⟩
end Go.Proofs.YtkodololdjainaaGreat
