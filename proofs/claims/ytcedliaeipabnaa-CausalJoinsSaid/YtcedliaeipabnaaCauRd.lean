/-
  Read: the program's.
-/
import Derived.Test.YtcedliaeipabnaaCauPut
import Derived.Test.YtcedliaeipabnaaVecRd
import Derived.Test.YtcedliaeipabnaaDotRd
namespace Go.Proofs.Ytcedliaeipabnaa
set_option maxRecDepth 100000
open Go.RowKit Go.Sort

/-- the parts of what is read -/
theorem readC_done {s : ByteArray} (h : doneS (rdC s).2 ≠ 0) : readC s = (zC, doneS (rdC s).2) := by unfold readC; rw [if_pos h]
theorem readC_vec {s : ByteArray} (h : doneS (rdC s).2 = 0) (h2 : chkV (vecN 16 (s, 0)) ≠ 0) : readC s = (zC, 2) := by unfold readC; rw [if_neg (by rw [h]; simp), if_pos h2]
theorem readC_list {s : ByteArray} (h : doneS (rdC s).2 = 0) (h2 : chkV (vecN 16 (s, 0)) = 0) (h3 : (readD (rdC s).1).2 ≠ 0) : readC s = (zC, (readD (rdC s).1).2) := by unfold readC; rw [if_neg (by rw [h]; simp), if_neg (by rw [h2]; simp), if_pos h3]
theorem readC_chk {s : ByteArray} (h : doneS (rdC s).2 = 0) (h2 : chkV (vecN 16 (s, 0)) = 0) (h3 : (readD (rdC s).1).2 = 0) (h4 : chkC ⟨vecN 16 (s, 0), (readD (rdC s).1).1⟩ ≠ 0) : readC s = (zC, chkC ⟨vecN 16 (s, 0), (readD (rdC s).1).1⟩) := by unfold readC; rw [if_neg (by rw [h]; simp), if_neg (by rw [h2]; simp), if_neg (by rw [h3]; simp), if_pos h4]
theorem readC_ok {s : ByteArray} (h : doneS (rdC s).2 = 0) (h2 : chkV (vecN 16 (s, 0)) = 0) (h3 : (readD (rdC s).1).2 = 0) (h4 : chkC ⟨vecN 16 (s, 0), (readD (rdC s).1).1⟩ = 0) : readC s = (⟨vecN 16 (s, 0), (readD (rdC s).1).1⟩, 0) := by unfold readC; rw [if_neg (by rw [h]; simp), if_neg (by rw [h2]; simp), if_neg (by rw [h3]; simp), if_neg (by rw [h4]; simp)]
theorem readD_len {t : ByteArray} (h : (readD t).2 = 0) : (readD t).1.length ≤ 4096 := by
  have h1 := put_read (s := t) (l := (readD t).1) (Prod.ext rfl h)
  refine Nat.not_lt.1 fun hl => ?_
  unfold putD at h1
  rw [if_pos hl] at h1
  cases h1
theorem rdC_size (s : ByteArray) : (rdC s).1.size ≤ s.size ∧ (rdC s).2.1.size ≤ s.size := by
  have h0 := stN_size (s, 0) 16
  have h1 := sText_size (stN 16 (s, 0))
  have h2 : (sText (stN 16 (s, 0))).1.size ≤ (stN 16 (s, 0)).1.size := by
    generalize stN 16 (s, 0) = st at *
    unfold sText
    split
    · exact Nat.zero_le _
    · split
      · exact Nat.zero_le _
      · have := sCount_size 65536 st
        simp only
        rw [ByteArray.size_extract]
        omega
  exact ⟨Nat.le_trans h2 h0, Nat.le_trans h1 h0⟩
theorem made_z (B : Nat) (w : World) : Made B w zC none := ⟨rfl, .inl rfl, Nat.zero_le _⟩

set_option maxHeartbeats 8000000 in
theorem readCC (s : ByteArray) (hs : s.size ≤ 9223372036854775807) (w : World) : Calls Try.prog 27 #[.string s] w fun e w' => (∃ (p : Option Addr) (k : Nat), e = .returned (.tuple #[.agg (ccs (readC s).1.v (.slice p (readC s).1.l.length k)), .int .i64 (readC s).2]) ∧ Made w.heap.size w' (readC s).1 p) ∧ Go.RowKit.Below w.heap.size w w' := by
  have H0 := Lib.hid (CRow.new w zV nilS)
  have HB0 := Lib.hid (boxC_below w zV nilS)
  go_enter Try.func27, Try.ntmps27
  go_wp2_with fail
  refine (new_any s _).mono ?_
  rintro e w1 ⟨rfl, hw1⟩
  have hrd1 : Rd (w.heap.size + 1) (s, 0) w1 := by rw [← hw1]; have := Rd.made s (boxC w zV nilS); rw [boxC_size] at this; exact this
  have hv1 : CRow w1 w.heap.size zV nilS := by rw [← hw1]; exact H0.out.alloc _
  have hB1 : Go.RowKit.Below w.heap.size w w1 := by rw [← hw1]; exact HB0.out.alloc HB0.out.size _
  have hs1 : w.heap.size + 1 < w1.heap.size := by rw [← hw1]; simp
  have H2 := Lib.hid (And.intro (hrd1.below (boxC_below w1 zV nilS) hrd1.lt) (And.intro (hv1.alloc (.cells (ccs zV nilS) 26)) (And.intro (CRow.new w1 zV nilS) (hB1.alloc hB1.size (.cells (ccs zV nilS) 26)))))
  clear hw1 hrd1 hv1 hB1 H0 HB0
  go_wp2_with fail
  go_loopw [15] (fun i wr => ∃ k : Nat, i = .int .i64 k ∧ k ≤ 16 ∧ Rd (w.heap.size + 1) (stN k (s, 0)) wr ∧ CRow wr w.heap.size zV nilS ∧ CRow wr w1.heap.size (vecN k (s, 0)) nilS ∧ Go.RowKit.Below w.heap.size w wr) (fun i _ => 16 - (intOf i).toNat)
  case atStart => exact ⟨0, rfl, by omega, H2.out.1, H2.out.2.1, by rw [vecN_zero]; exact H2.out.2.2.1, H2.out.2.2.2⟩
  case round =>
    obtain ⟨k, rfl, hk, hrd, hv, hn, hB⟩ := hrel
    have hsz : (stN k (s, 0)).1.size ≤ 9223372036854775807 := Nat.le_trans (stN_size (s, 0) k) hs
    have H3 := Lib.hid (And.intro hrd (And.intro hv (And.intro hn hB)))
    clear hrd hv hn hB H2
    by_cases hlt : k < 16
    · have HRN := Lib.hid (rnum_any (w.heap.size + 1) (stN k (s, 0)) wr H3.out.1 hsz)
      go_wp2_with fail
      refine HRN.out.mono ?_
      rintro e w3 ⟨rfl, hrd3, hg3⟩
      have hn3 := H3.out.2.2.1.grown hg3 (fun h => by have := Option.some.inj h; omega)
      have hcell := hn3.cell k (by rw [vecN_len]; exact hlt)
      have hfree := hn3.free k
      have hz3 := hn3.lt
      have HS := Lib.hid (vecN_succ k (s, 0))
      have HNN := Lib.hid (show (sNum (stN k (s, 0))).1 = numN k (s, 0) from rfl)
      have HST := Lib.hid (show (sNum (stN k (s, 0))).2 = stN (k + 1) (s, 0) from rfl)
      have H4 := Lib.hid (And.intro hrd3 (And.intro (H3.out.2.1.grown hg3 (fun h => by have := Option.some.inj h; omega)) (And.intro hn3 (H3.out.2.2.2.grown hg3 H3.out.2.2.2.size (fun j hj => by have := Option.some.inj hj; omega)))))
      clear hrd3 hg3 hn3 H3 HRN
      go_wp2_with fail
      go_roundw
      case rel =>
        refine ⟨k + 1, by go_num, by omega, ?_, H4.out.2.1.other (by omega) _ _, ?_, H4.out.2.2.2.setCell (by simp; omega) _⟩
        · rw [← HST.out]
          exact H4.out.1.other (grownBy_setCell w3 w1.heap.size k _) (by omega)
        · rw [HS.out, ← HNN.out]; exact H4.out.2.2.1.set k _ (by rw [vecN_len]; exact hlt)
      case measure => simp [intOf]; omega
    · obtain rfl : k = 16 := by omega
      have HLV := Lib.hid (vecN_len 16 (s, 0))
      have HRT := Lib.hid (rtext_any (w.heap.size + 1) (stN 16 (s, 0)) wr H3.out.1 hsz)
      have hrz := rdC_size s
      have htx1 : (sText (stN 16 (s, 0))).1 = (rdC s).1 := rfl
      have htx2 : (sText (stN 16 (s, 0))).2 = (rdC s).2 := rfl
      rw [htx1, htx2] at HRT
      have HP1 := Lib.hid (fun h => readC_done (s := s) h)
      have HP2 := Lib.hid (fun h h2 => readC_vec (s := s) h h2)
      have HP3 := Lib.hid (fun h h2 h3 => readC_list (s := s) h h2 h3)
      have HP4 := Lib.hid (fun h h2 h3 h4 => readC_chk (s := s) h h2 h3 h4)
      have HP5 := Lib.hid (fun h h2 h3 h4 => readC_ok (s := s) h h2 h3 h4)
      clear htx1 htx2 hsz
      generalize vecN 16 (s, 0) = vec at *
      generalize rdC s = q at *
      obtain ⟨t, st⟩ := q
      simp only at HRT HP1 HP2 HP3 HP4 HP5 hrz
      go_wp2_with fail
      refine HRT.out.mono ?_
      rintro e w4 ⟨rfl, hrd4, hg4⟩
      have hdn := done_any (w.heap.size + 1) st w4 hrd4 (by omega)
      have hd2 : (if st.2 ≠ 0 then st.2 else if 0 < st.1.size then (5 : Int) else 0) = doneS st := rfl
      rw [hd2] at hdn
      have HDN := Lib.hid hdn
      have H4 := Lib.hid (And.intro (H3.out.2.1.grown hg4 (fun h => by have := Option.some.inj h; omega)) (And.intro (H3.out.2.2.1.grown hg4 (fun h => by have := Option.some.inj h; omega)) (H3.out.2.2.2.grown hg4 H3.out.2.2.2.size (fun j hj => by have := Option.some.inj hj; omega))))
      have hs4 : w1.heap.size < w4.heap.size := H4.out.2.1.lt
      clear hrd4 hg4 hdn hd2 H3 HRT
      generalize doneS st = dn at *
      have hbz := buildZ
      go_wp2_with fail
      refine HDN.out.mono ?_
      rintro e w5 ⟨rfl, rfl⟩
      by_cases hD : dn = 0
      · subst hD
        have hcv := fun W => vchkC vec HLV.out W
        by_cases hE : chkV vec = 0
        · rw [hE] at hcv
          have HE := Lib.hid hE
          have HCV := Lib.hid hcv
          clear hE hcv hbz
          go_wp2_with ((with_reducible refine cl_loadV ?_ (.tmp 32) ?_ w1.heap.size vec nilS ?_ ?_ ?_ ?_); rfl; rfl; rfl; exact H4.out.2.1; exact HLV.out)
          refine (HCV.out w4).mono ?_
          rintro e w6 ⟨rfl, hb6⟩
          have H6 := Lib.hid (And.intro (H4.out.1.keep hb6) (And.intro (H4.out.2.1.keep hb6) (H4.out.2.2.trans (hb6.mono H4.out.2.2.size))))
          have hs6 : w1.heap.size < w6.heap.size := H6.out.2.1.lt
          have HRD := Lib.hid (readDC t (by omega) w6)
          clear hb6 HCV H4
          go_wp2_with fail
          refine HRD.out.mono ?_
          rintro e w7 ⟨v7, rfl, hown7, hb7⟩
          obtain ⟨qa, qc, rfl, hfr7, -⟩ := hown7.from
          have H7 := Lib.hid (And.intro (H6.out.1.keep hb7) (And.intro (H6.out.2.1.keep hb7) (And.intro (H6.out.2.2.trans (hb7.mono H6.out.2.2.size)) (hfr7.mono (show w1.heap.size + 1 ≤ w6.heap.size by omega)))))
          have hs7 : w1.heap.size < w7.heap.size := H7.out.2.1.lt
          have hrl := readD_len (t := t)
          clear hown7 hb7 hfr7 HRD H6
          generalize readD t = rr at *
          obtain ⟨l, er⟩ := rr
          simp only at HP3 HP4 HP5 hrl H7 ⊢
          by_cases hR : er = 0
          · subst hR
            have hll := hrl rfl
            have ccl := H7.out.2.1.cloud HLV.out
            have cfr := H7.out.2.1.free 16
            have hr8 := H7.out.2.1.setS (.slice qa l.length qc) HLV.out
            have h8 := H7.out.1.other (show w.heap.size ≠ w1.heap.size by omega) 16 (.slice qa l.length qc)
            have hb8 : Go.RowKit.Below w.heap.size w (w7.setCell ⟨w1.heap.size, 16, none⟩ (.slice qa l.length qc)) := H7.out.2.2.1.setCell (show w.heap.size ≤ w1.heap.size by omega) _
            have hf8 := H7.out.2.2.2.set (show w1.heap.size < w1.heap.size + 1 by omega) 16 (.slice qa l.length qc)
            have H8 := Lib.hid (And.intro h8 (And.intro hr8 (And.intro hb8 hf8)))
            clear hrl h8 hr8 hb8 hf8
            have hsz8 : (w7.setCell ⟨w1.heap.size, 16, none⟩ (.slice qa l.length qc)).heap.size = w7.heap.size := by simp
            go_upto_region 19 with fail
            generalize w7.setCell ⟨w1.heap.size, 16, none⟩ (.slice qa l.length qc) = W8 at *
            have hck := chkCC ⟨vec, l⟩ qa qc W8 ⟨HLV.out, H8.out.2.2.2.din, by simp only; omega⟩
            have HCK := Lib.hid hck
            clear hck ccl cfr
            go_wp2_with ((with_reducible refine cl_load ?_ (.tmp 5) ?_ w1.heap.size vec (.slice qa l.length qc) ?_ ?_ ?_ ?_); rfl; rfl; rfl; exact H8.out.2.1; exact HLV.out)
            refine HCK.out.mono ?_
            rintro e w9 ⟨rfl, hb9⟩
            have H9 := Lib.hid (And.intro (H8.out.1.keep hb9) (And.intro (H8.out.2.1.keep hb9) (And.intro (H8.out.2.2.1.trans (hb9.mono H8.out.2.2.1.size)) (H8.out.2.2.2.below hb9))))
            clear hb9 HCK H8
            by_cases hK : chkC ⟨vec, l⟩ = 0
            · have HPP := Lib.hid (HP5.out (by first | rfl | trivial) HE.out (by first | rfl | trivial) hK)
              rw [hK]
              clear hK
              go_wp2_with (first
                | ((with_reducible refine cl_load ?_ (.tmp 5) ?_ w1.heap.size vec (.slice qa l.length qc) ?_ ?_ ?_ ?_); rfl; rfl; rfl; exact H9.out.2.1; exact HLV.out)
                | ((with_reducible refine cl_store ?_ (.tmp 2) (.tmp 56) ?_ w.heap.size vec qa l.length qc ?_ ?_ ?_ ?_ ?_); rfl; rfl; rfl; rfl; exact ⟨_, _, H9.out.1, rfl⟩; exact HLV.out))
              refine bodyPost_ret (retCx rfl _ _ w.heap.size vec (.slice qa l.length qc) _ rfl rfl (CRow.of_put H9.out.1 vec _) HLV.out) rfl ⟨⟨qa, qc, ?_⟩, belowRow H9.out.2.2.1 (Nat.le_refl _) _⟩
              rw [HPP.out]
              exact ⟨rfl, HLV.out, (H9.out.2.2.2.setRow (show w.heap.size < w1.heap.size + 1 by omega) _).mono (by omega), by simp only; omega⟩
            · have HPP := Lib.hid (HP4.out (by first | rfl | trivial) HE.out (by first | rfl | trivial) hK)
              have hne : (chkC ⟨vec, l⟩ != 0) = true := by simp [hK]
              have hbz := buildZ
              clear hK
              generalize chkC ⟨vec, l⟩ = n at *
              go_wp2_with ((with_reducible refine cl_store ?_ (.tmp 2) (.tmp 54) ?_ w.heap.size zV none 0 0 ?_ ?_ ?_ ?_ ?_); rfl; rfl; rfl; rfl; exact ⟨_, _, H9.out.1, rfl⟩; rfl)
              refine bodyPost_ret (retCx rfl _ _ w.heap.size zV nilS _ rfl rfl (CRow.of_put H9.out.1 zV _) rfl) rfl ⟨⟨none, 0, ?_⟩, belowRow H9.out.2.2.1 (Nat.le_refl _) _⟩
              rw [HPP.out]
              exact ⟨rfl, made_z _ _⟩
          · have HPP := Lib.hid (HP3.out (by first | rfl | trivial) HE.out hR)
            have hne : (er != 0) = true := by simp [hR]
            have hbz := buildZ
            clear hR
            go_wp2_with ((with_reducible refine cl_store ?_ (.tmp 2) (.tmp 46) ?_ w.heap.size zV none 0 0 ?_ ?_ ?_ ?_ ?_); rfl; rfl; rfl; rfl; exact ⟨_, _, H7.out.1, rfl⟩; rfl)
            refine bodyPost_ret (retCx rfl _ _ w.heap.size zV nilS _ rfl rfl (CRow.of_put H7.out.1 zV _) rfl) rfl ⟨⟨none, 0, ?_⟩, belowRow H7.out.2.2.1 (Nat.le_refl _) _⟩
            rw [HPP.out]
            exact ⟨rfl, made_z _ _⟩
        · have h2 := (chkV_cases vec).resolve_left hE
          have HPP := Lib.hid (HP2.out (by first | rfl | trivial) hE)
          rw [h2] at hcv
          clear hE h2
          go_wp2_with ((with_reducible refine cl_loadV ?_ (.tmp 32) ?_ w1.heap.size vec nilS ?_ ?_ ?_ ?_); rfl; rfl; rfl; exact H4.out.2.1; exact HLV.out)
          refine (hcv w4).mono ?_
          rintro e w6 ⟨rfl, hb6⟩
          have H6 := Lib.hid (And.intro (H4.out.1.keep hb6) (H4.out.2.2.trans (hb6.mono H4.out.2.2.size)))
          clear hb6
          go_wp2_with ((with_reducible refine cl_store ?_ (.tmp 2) (.tmp 37) ?_ w.heap.size zV none 0 0 ?_ ?_ ?_ ?_ ?_); rfl; rfl; rfl; rfl; exact ⟨_, _, H6.out.1, rfl⟩; rfl)
          refine bodyPost_ret (retCx rfl _ _ w.heap.size zV nilS _ rfl rfl (CRow.of_put H6.out.1 zV _) rfl) rfl ⟨⟨none, 0, ?_⟩, belowRow H6.out.2 (Nat.le_refl _) _⟩
          rw [HPP.out]
          exact ⟨rfl, made_z _ _⟩
      · have HPP := Lib.hid (HP1.out hD)
        have hne : (dn != 0) = true := by simp [hD]
        clear hD
        go_wp2_with ((with_reducible refine cl_store ?_ (.tmp 2) (.tmp 30) ?_ w.heap.size zV none 0 0 ?_ ?_ ?_ ?_ ?_); rfl; rfl; rfl; rfl; exact ⟨_, _, H4.out.1, rfl⟩; rfl)
        refine bodyPost_ret (retCx rfl _ _ w.heap.size zV nilS _ rfl rfl (CRow.of_put H4.out.1 zV _) rfl) rfl ⟨⟨none, 0, ?_⟩, belowRow H4.out.2.2 (Nat.le_refl _) _⟩
        rw [HPP.out]
        exact ⟨rfl, made_z _ _⟩
end Go.Proofs.Ytcedliaeipabnaa
