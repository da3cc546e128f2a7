/-
  Read: the document's.
-/
import Derived.Test.YtcedliaeipabnaaCauRd
import Derived.Test.YtcedliaeipabnaaGCauO
namespace Go.Proofs.Ytcedliaeipabnaa
set_option maxRecDepth 100000
open Go.RowKit Go.Sort

theorem done_q (st st' : ByteArray × Int) : doneS (qSt st st') = doneS st' := by
  unfold qSt
  split
  · rfl
  · rename_i h
    unfold doneS
    rw [if_pos h, if_pos h]

set_option maxHeartbeats 8000000 in
theorem readRC (s : ByteArray) (hs : s.size ≤ 9223372036854775807) (w : World) : Calls Try.prog 28 #[.string s] w fun e w' => (∃ (p : Option Addr) (k : Nat), e = .returned (.tuple #[.agg (ccs (readC s).1.v (.slice p (readC s).1.l.length k)), .int .i64 (readC s).2]) ∧ Made w.heap.size w' (readC s).1 p) ∧ Go.RowKit.Below w.heap.size w w' := by
  have H0 := Lib.hid (And.intro (CRow.new w zV nilS) (boxC_below w zV nilS))
  have HT := Lib.hid (fun W => takeR (s, 0) hs W)
  have HLV := Lib.hid (vecN_len 16 (s, 0))
  have hsz := stN_size (s, 0) 16
  have hrz := rdC_size s
  have htx1 : (sText (stN 16 (s, 0))).1 = (rdC s).1 := rfl
  have htx2 : (sText (stN 16 (s, 0))).2 = (rdC s).2 := rfl
  have HP1 := Lib.hid (fun h => readC_done (s := s) h)
  have HP2 := Lib.hid (fun h h2 => readC_vec (s := s) h h2)
  have HP3 := Lib.hid (fun h h2 h3 => readC_list (s := s) h h2 h3)
  have HP4 := Lib.hid (fun h h2 h3 h4 => readC_chk (s := s) h h2 h3 h4)
  have HP5 := Lib.hid (fun h h2 h3 h4 => readC_ok (s := s) h h2 h3 h4)
  have hdq := done_q (stN 16 (s, 0)) (rdC s).2
  generalize hst : stN 16 (s, 0) = st at *
  generalize vecN 16 (s, 0) = vec at *
  generalize rdC s = q at *
  obtain ⟨t, st2⟩ := q
  obtain ⟨s', e'⟩ := st
  simp only at HP1 HP2 HP3 HP4 HP5 hrz hsz htx1 htx2 hdq
  have hrt := fun W => refR_text s' e' (by omega) W
  rw [htx1, htx2] at hrt
  obtain ⟨qs, hqs⟩ : ∃ qs, qSt (s', e') st2 = qs := ⟨_, rfl⟩
  rw [hqs] at hrt hdq
  have HRT := Lib.hid hrt
  obtain ⟨sq, eq⟩ := qs
  have hdn := fun W => refR_done sq eq W
  rw [hdq] at hdn
  have HDN := Lib.hid hdn
  clear hrt hdn hdq hqs htx1 htx2 hst
  generalize doneS st2 = dn at *
  go_enter Try.func28, Try.ntmps28
  go_wp2_with fail
  refine (HT.out _).mono ?_
  rintro e w2 ⟨rfl, hb2⟩
  have H2 := Lib.hid (And.intro (H0.out.1.keep hb2) (H0.out.2.trans (hb2.mono H0.out.2.size)))
  have hz2 : w.heap.size < w2.heap.size := H2.out.1.lt
  clear hb2 H0 HT
  obtain ⟨X, hX, x0, x1, x2, x3, xB⟩ : ∃ X, ((w2.alloc (.cells (qcs (s', e')) 82)).alloc (.cells (ics zV) 23)).setRow (w2.heap.size + 1) (ics vec) = X ∧ Qd w2.heap.size (s', e') X ∧ VRow X (w2.heap.size + 1) vec ∧ CRow X w.heap.size zV nilS ∧ w2.heap.size + 1 < X.heap.size ∧ Go.RowKit.Below w.heap.size w X := by
    have q0 := Qd.made (s', e') w2
    have v0 := VRow.new (w2.alloc (.cells (qcs (s', e')) 82)) zV
    rw [World.size_alloc] at v0
    refine ⟨_, rfl, (q0.alloc _).of_set (by omega) _, VRow.of_put v0 vec, ((H2.out.1.alloc _).alloc _).of_set (by omega) _, by simp, belowRow ((H2.out.2.alloc H2.out.2.size _).alloc (by have := H2.out.2.size; simp; omega) _) (by have := H2.out.2.size; omega) _⟩
  have HX := Lib.hid hX
  have HV1 := Lib.hid (And.intro x1 (And.intro x2 (And.intro xB x0)))
  have c0 := x0.left
  have c1 := x0.err
  have zv := VRow.new (w2.alloc (.cells (qcs (s', e')) 82)) zV
  rw [World.size_alloc] at zv
  have HZV := Lib.hid zv
  simp only at c0 c1
  clear hX x0 x1 x2 xB H2 zv
  go_wp2_with (
    (with_reducible refine vl_store ?_ (.tmp 5) (.tmp 18) ?_ (w2.heap.size + 1) vec ?_ ?_ ?_ ?_ ?_)
    rfl
    rfl
    rfl
    rfl
    exact ⟨zV, HZV.out, by rw [HLV.out]; rfl⟩
    exact HLV.out
    show wpList _ _ _ _ _ (((w2.alloc (.cells (qcs (s', e')) 82)).alloc (.cells (ics zV) 23)).setRow (w2.heap.size + 1) (ics vec))
    rw [HX.out])
  refine (HRT.out _).mono ?_
  rintro e w3 ⟨rfl, hb3⟩
  have hq3 : Qd w2.heap.size (s', e') w3 := HV1.out.2.2.2.below hb3 (by omega)
  have d0 := hq3.left
  have d1 := hq3.err
  have df0 := hq3.free 0
  have df1 := hq3.free 1
  have hz3 : w2.heap.size + 1 < w3.heap.size := Nat.lt_of_lt_of_le x3 hb3.size
  have H3 := Lib.hid (And.intro (HV1.out.1.keep hb3) (And.intro (HV1.out.2.1.keep hb3) (And.intro (HV1.out.2.2.1.trans (hb3.mono HV1.out.2.2.1.size)) hq3)))
  clear hb3 hq3 c0 c1 HX HV1 HZV HRT
  simp only at d0 d1
  have h4v := (H3.out.1.other (show w2.heap.size + 1 ≠ w2.heap.size by omega) 0 (.string sq)).other (show w2.heap.size + 1 ≠ w2.heap.size by omega) 1 (.int .i64 eq)
  have h4c := (H3.out.2.1.other (show w.heap.size ≠ w2.heap.size by omega) 0 (.string sq)).other (show w.heap.size ≠ w2.heap.size by omega) 1 (.int .i64 eq)
  have h4b : Go.RowKit.Below w.heap.size w ((w3.setCell ⟨w2.heap.size, 0, none⟩ (.string sq)).setCell ⟨w2.heap.size, 1, none⟩ (.int .i64 eq)) := (H3.out.2.2.1.setCell (show w.heap.size ≤ w2.heap.size by omega) _).setCell (show w.heap.size ≤ w2.heap.size by omega) _
  have h4q := H3.out.2.2.2.set sq eq
  have H4 := Lib.hid (And.intro h4v (And.intro h4c h4b))
  have hs4 : ((w3.setCell ⟨w2.heap.size, 0, none⟩ (.string sq)).setCell ⟨w2.heap.size, 1, none⟩ (.int .i64 eq)).heap.size = w3.heap.size := by simp
  have g0 := h4q.left
  have g1 := h4q.err
  simp only at g0 g1
  clear h4v h4c h4b h4q H3
  go_upto_region 3 with fail
  generalize (w3.setCell ⟨w2.heap.size, 0, none⟩ (.string sq)).setCell ⟨w2.heap.size, 1, none⟩ (.int .i64 eq) = W4 at *
  clear d0 d1 df0 df1
  go_wp2_with fail
  refine (HDN.out _).mono ?_
  rintro e w5 ⟨rfl, hw5⟩
  have hb5 : Go.RowKit.Below W4.heap.size W4 w5 := by rw [← hw5]; exact (Below.refl _ _).alloc (Nat.le_refl _) _
  have H5 := Lib.hid (And.intro (H4.out.2.1.keep hb5) (And.intro (H4.out.1.keep hb5) (H4.out.2.2.trans (hb5.mono H4.out.2.2.size))))
  have hs5 := hb5.size
  clear hb5 hw5 HDN H4 g0 g1
  have hbz := buildZ
  by_cases hD : dn = 0
  · subst hD
    have hcv := fun W => vchkR vec HLV.out W
    by_cases hE : chkV vec = 0
    · rw [hE] at hcv
      have HE := Lib.hid hE
      have HCV := Lib.hid hcv
      clear hE hcv hbz
      go_wp2_with ((with_reducible refine vl_load ?_ (.tmp 5) ?_ (w2.heap.size + 1) vec ?_ ?_ ?_ ?_); rfl; rfl; rfl; exact H5.out.2.1; exact HLV.out)
      refine (HCV.out w5).mono ?_
      rintro e w6 ⟨rfl, hb6⟩
      have H6 := Lib.hid (And.intro (H5.out.1.keep hb6) (And.intro (H5.out.2.1.keep hb6) (H5.out.2.2.trans (hb6.mono H5.out.2.2.size))))
      have hs6 := hb6.size
      have HRD := Lib.hid (readDR t (by omega) w6)
      clear hb6 HCV H5
      go_wp2_with fail
      refine HRD.out.mono ?_
      rintro e w7 ⟨v7, rfl, hown7, hb7⟩
      obtain ⟨qa, qc, rfl, hfr7, -⟩ := hown7.from
      have H7 := Lib.hid (And.intro (H6.out.1.keep hb7) (And.intro (H6.out.2.1.keep hb7) (And.intro (H6.out.2.2.trans (hb7.mono H6.out.2.2.size)) (hfr7.mono (show w.heap.size + 1 ≤ w6.heap.size by omega)))))
      have hs7 := hb7.size
      have hrl := readD_len (t := t)
      clear hown7 hb7 hfr7 HRD H6
      generalize readD t = rr at *
      obtain ⟨l, er⟩ := rr
      simp only at HP3 HP4 HP5 hrl H7 ⊢
      by_cases hR : er = 0
      · subst hR
        have hll := hrl rfl
        have h8 := new_ctx w7 vec (.slice qa l.length qc)
        have H8 := Lib.hid (And.intro (H7.out.1.keep h8.2) (And.intro h8.1 (And.intro (H7.out.2.2.1.trans (h8.2.mono H7.out.2.2.1.size)) (H7.out.2.2.2.below h8.2))))
        clear hrl h8
        go_upto_region 13 with (first
          | ((with_reducible refine vl_load ?_ (.tmp 5) ?_ (w2.heap.size + 1) vec ?_ ?_ ?_ ?_); rfl; rfl; rfl; exact H7.out.2.1; exact HLV.out)
          | ((with_reducible refine cl_build ?_ (.tmp 45) (.tmp 46) ?_ vec qa l.length qc ?_ ?_ ?_ ?_); rfl; rfl; rfl; rfl; exact HLV.out)
          | ((with_reducible refine cl_store ?_ (.tmp 11) (.tmp 47) ?_ w7.heap.size vec qa l.length qc ?_ ?_ ?_ ?_ ?_); rfl; rfl; rfl; rfl; exact ⟨_, _, CRow.new w7 zV nilS, rfl⟩; exact HLV.out))
        change Code.wp _ _ _ _ ((w7.alloc (.cells (ccs zV nilS) 26)).setRow w7.heap.size (ccs vec (.slice qa l.length qc)))
        generalize (w7.alloc (.cells (ccs zV nilS) 26)).setRow w7.heap.size (ccs vec (.slice qa l.length qc)) = W8 at *
        have hck := chkRC ⟨vec, l⟩ qa qc W8 ⟨HLV.out, H8.out.2.2.2.din, by simp only; omega⟩
        have HCK := Lib.hid hck
        clear hck
        go_wp2_with ((with_reducible refine cl_load ?_ (.tmp 11) ?_ w7.heap.size vec (.slice qa l.length qc) ?_ ?_ ?_ ?_); rfl; rfl; rfl; exact H8.out.2.1; exact HLV.out)
        refine HCK.out.mono ?_
        rintro e w9 ⟨rfl, hb9⟩
        have H9 := Lib.hid (And.intro (H8.out.1.keep hb9) (And.intro (H8.out.2.1.keep hb9) (And.intro (H8.out.2.2.1.trans (hb9.mono H8.out.2.2.1.size)) (H8.out.2.2.2.below hb9))))
        clear hb9 HCK H8
        by_cases hK : chkC ⟨vec, l⟩ = 0
        · have HPP := Lib.hid (HP5.out (by first | rfl | trivial) HE.out (by first | rfl | trivial) hK)
          rw [hK]
          clear hK
          go_wp2_with (first
            | ((with_reducible refine cl_load ?_ (.tmp 11) ?_ w7.heap.size vec (.slice qa l.length qc) ?_ ?_ ?_ ?_); rfl; rfl; rfl; exact H9.out.2.1; exact HLV.out)
            | ((with_reducible refine cl_store ?_ (.tmp 2) (.tmp 54) ?_ w.heap.size vec qa l.length qc ?_ ?_ ?_ ?_ ?_); rfl; rfl; rfl; rfl; exact ⟨_, _, H9.out.1, rfl⟩; exact HLV.out))
          refine bodyPost_ret (retCx rfl _ _ w.heap.size vec (.slice qa l.length qc) _ rfl rfl (CRow.of_put H9.out.1 vec _) HLV.out) rfl ⟨⟨qa, qc, ?_⟩, belowRow H9.out.2.2.1 (Nat.le_refl _) _⟩
          rw [HPP.out]
          exact ⟨rfl, HLV.out, (H9.out.2.2.2.setRow (show w.heap.size < w.heap.size + 1 by omega) _).mono (by omega), by simp only; omega⟩
        · have HPP := Lib.hid (HP4.out (by first | rfl | trivial) HE.out (by first | rfl | trivial) hK)
          have hne : (chkC ⟨vec, l⟩ != 0) = true := by simp [hK]
          have hbz := buildZ
          clear hK
          generalize chkC ⟨vec, l⟩ = n at *
          go_wp2_with ((with_reducible refine cl_store ?_ (.tmp 2) (.tmp 52) ?_ w.heap.size zV none 0 0 ?_ ?_ ?_ ?_ ?_); rfl; rfl; rfl; rfl; exact ⟨_, _, H9.out.1, rfl⟩; rfl)
          refine bodyPost_ret (retCx rfl _ _ w.heap.size zV nilS _ rfl rfl (CRow.of_put H9.out.1 zV _) rfl) rfl ⟨⟨none, 0, ?_⟩, belowRow H9.out.2.2.1 (Nat.le_refl _) _⟩
          rw [HPP.out]
          exact ⟨rfl, made_z _ _⟩
      · have HPP := Lib.hid (HP3.out (by first | rfl | trivial) HE.out hR)
        have hne : (er != 0) = true := by simp [hR]
        have hbz := buildZ
        clear hR
        go_wp2_with ((with_reducible refine cl_store ?_ (.tmp 2) (.tmp 43) ?_ w.heap.size zV none 0 0 ?_ ?_ ?_ ?_ ?_); rfl; rfl; rfl; rfl; exact ⟨_, _, H7.out.1, rfl⟩; rfl)
        refine bodyPost_ret (retCx rfl _ _ w.heap.size zV nilS _ rfl rfl (CRow.of_put H7.out.1 zV _) rfl) rfl ⟨⟨none, 0, ?_⟩, belowRow H7.out.2.2.1 (Nat.le_refl _) _⟩
        rw [HPP.out]
        exact ⟨rfl, made_z _ _⟩
    · have h2 := (chkV_cases vec).resolve_left hE
      have HPP := Lib.hid (HP2.out (by first | rfl | trivial) hE)
      rw [h2] at hcv
      clear hE h2
      go_wp2_with ((with_reducible refine vl_load ?_ (.tmp 5) ?_ (w2.heap.size + 1) vec ?_ ?_ ?_ ?_); rfl; rfl; rfl; exact H5.out.2.1; exact HLV.out)
      refine (hcv w5).mono ?_
      rintro e w6 ⟨rfl, hb6⟩
      have H6 := Lib.hid (And.intro (H5.out.1.keep hb6) (H5.out.2.2.trans (hb6.mono H5.out.2.2.size)))
      clear hb6
      go_wp2_with ((with_reducible refine cl_store ?_ (.tmp 2) (.tmp 34) ?_ w.heap.size zV none 0 0 ?_ ?_ ?_ ?_ ?_); rfl; rfl; rfl; rfl; exact ⟨_, _, H6.out.1, rfl⟩; rfl)
      refine bodyPost_ret (retCx rfl _ _ w.heap.size zV nilS _ rfl rfl (CRow.of_put H6.out.1 zV _) rfl) rfl ⟨⟨none, 0, ?_⟩, belowRow H6.out.2 (Nat.le_refl _) _⟩
      rw [HPP.out]
      exact ⟨rfl, made_z _ _⟩
  · have HPP := Lib.hid (HP1.out hD)
    have hne : (dn != 0) = true := by simp [hD]
    clear hD
    go_wp2_with ((with_reducible refine cl_store ?_ (.tmp 2) (.tmp 28) ?_ w.heap.size zV none 0 0 ?_ ?_ ?_ ?_ ?_); rfl; rfl; rfl; rfl; exact ⟨_, _, H5.out.1, rfl⟩; rfl)
    refine bodyPost_ret (retCx rfl _ _ w.heap.size zV nilS _ rfl rfl (CRow.of_put H5.out.1 zV _) rfl) rfl ⟨⟨none, 0, ?_⟩, belowRow H5.out.2.2 (Nat.le_refl _) _⟩
    rw [HPP.out]
    exact ⟨rfl, made_z _ _⟩
end Go.Proofs.Ytcedliaeipabnaa
