/-
  almonryref06: Append.
-/
import Derived.Test.YtopigchjdegpeaaDoorDiskRefS
import Derived.Lib.QuietBelow
import Derived.Deep.DeepCutAuto
import Derived.Laws.Concat
namespace Go.Proofs.YtopigchjdegpeaaDoor
open Go.RowKit Go.Sort

theorem cat_bytes (a : List UInt8) (t : ByteArray) : (⟨a.toArray⟩ : ByteArray) ++ t = ⟨(a ++ t.data.toList).toArray⟩ := by
  have h : t = ⟨t.data.toList.toArray⟩ := by obtain ⟨⟨l⟩⟩ := t; rfl
  conv => lhs; rw [h]
  rw [ByteArray.mk_append_mk]
theorem body_le {l : List FS} {i : Nat} {f : FS} (hf : l[i]? = some f) : f.body.length ≤ stotal l := by rw [stotal_split hf]; omega

set_option maxHeartbeats 4000000 in
set_option maxRecDepth 100000 in
theorem refAppend_any (s : DS) (hfit : Fit s) (n t : ByteArray) (hsn : n.size ≤ 9223372036854775807) (hst : t.size ≤ 9223372036854775807) (p : Option Addr) (c : Nat) (w : World) (hr : RRow w p s.l) :
    Calls Tryd.prog 43 #[rv s p c, .string n, .string t] w (RActs p (appendS s n t) w) := by
  have hat : ∀ W, Below w.heap.size w W → Calls Tryd.prog 42 #[rv s p c, .string n] W fun e w' => e = .returned (.int .i64 (rAt s.l n)) ∧ Below W.heap.size W w' := fun W hb => refAt_any s n p c W (hr.below hb) hfit.len
  have hfu : ∀ W, Calls Tryd.prog 56 #[rv s p c] W fun e w' => e = .returned (.tuple #[rv s.fz p c, .int .i64 (if s.out then 10 else 0)]) ∧ Below W.heap.size W w' := fun W => refFuse_any s p c W hfit.left
  rw [rAt_pos hfit.rises] at hat
  have hl := hfit.len
  have HN := Lib.hid (fun W => named_any n W hsn)
  have hus : ∀ W, Below w.heap.size w W → Calls Tryd.prog 29 #[rv s p c] W fun e w' => e = .returned (.int .i64 (stotal s.l : Int)) ∧ Below W.heap.size W w' := fun W hb => refUsed_any s p c W (hr.below hb) hfit.len (Nat.le_trans hfit.total hfit.room)
  unfold rv at hat hfu hus ⊢
  have HUS := Lib.hid hus
  clear hus
  rw [(fz_room s).1, (fz_room s).2] at hfu
  have HAT := Lib.hid hat
  have HFU := Lib.hid hfu
  have HR := Lib.hid hr
  have h2m := two_made w (.int .i64 (s.room : Int)) (.slice p s.l.length c) (.bool s.off) (.int .i64 (fz s)) (.int .i64 0) (.slice none 0 0) (.bool false) (.int .i64 0)
  have hbm := below2 w (.cells #[.int .i64 (s.room : Int), .slice p s.l.length c, .bool s.off, .int .i64 (fz s)] 30) (.cells #[.int .i64 0, .slice none 0 0, .bool false, .int .i64 0] 30)
  have HB := Lib.hid hbm
  have H2 := Lib.hid h2m
  clear hat hfu hr h2m hbm
  go_enter Tryd.func43, Tryd.ntmps43
  go_wp2_with fail
  refine (HAT.out _ HB.out).mono ?_
  rintro e w1 ⟨rfl, hb1⟩
  have h2 := H2.out.below hb1
  have HB1 := Lib.hid (HB.out.trans (hb1.mono HB.out.size))
  have H2' := Lib.hid h2
  obtain ⟨x0, x1, x2, x3, y0, y1, y2, y3, f0, f1, f2, f3, g0, g1, g2, g3, hlt⟩ := h2.cells
  clear h2 hb1 H2 HB HAT
  cases ho : s.off
  · rw [ho] at x2 HFU HUS H2'
    have HO := Lib.hid ho
    have htot := hfit.total
    have hroom := hfit.room
    cases hnm : isNm n
    · have HRES := Lib.hid (show appendS s n t = (14, s) by simp [appendS, ho, hnm])
      rw [hnm] at HN
      generalize (if sthere s.l n = true then (spos s.l n : Int) else -1) = i
      clear ho hnm
      go_wp2_with fail
      refine (HN.out _).mono ?_
      rintro e w9 ⟨rfl, rfl⟩
      go_wp2_with fail
      (try simp only [Exit.inBlock, Exit.then])
      refine bodyPost_ret (results_D rfl _ _ (w.heap.size + 1) _ _ _ _ _ (0, 0) _ rfl (four_set H2'.out.2 _ _ _ _) rfl rfl refDInfo) rfl ?_
      rw [HRES.out]
      have hB := below_four HB1.out (b := w.heap.size + 1) (by omega) (.int .i64 (s.room : Int)) (.slice p s.l.length c) (.bool false) (.int .i64 (fz s))
      exact ⟨p, c, by simp only [rv, HO.out]; rfl, HR.out.below hB, hB, fun _ _ _ => .inl rfl⟩
    · rw [hnm] at HN
      obtain ⟨i, hi⟩ : ∃ i : Int, (if sthere s.l n = true then (spos s.l n : Int) else -1) = i := ⟨_, rfl⟩
      rw [hi]
      have hfu : ∃ b, sfull s n t.size = b := ⟨_, rfl⟩
      obtain ⟨full, hfull⟩ := hfu
      have HFULL := Lib.hid hfull
      rw [sfull] at hfull
      go_wp2_with fail
      refine (HN.out _).mono ?_
      rintro e w9 ⟨rfl, rfl⟩
      go_wp2_with fail
      have cU := fun d os => Calls.regrown_of (HUS.out (grow (redrawn w1 d) os) (HB1.out.trans ((below_regrown w1 d os).mono HB1.out.size)))
      have HCU := Lib.hid cU; clear cU
      have q0 := fun d os => cell_regrown x0 d os
      have q1 := fun d os => cell_regrown x1 d os
      have q2 := fun d os => cell_regrown x2 d os
      have q3 := fun d os => cell_regrown x3 d os
      have HI := Lib.hid hi
      have HNM := Lib.hid hnm
      have hw1 : IntKind.i64.wrap ((s.room : Int) - (stotal s.l : Int)) = (s.room : Int) - (stotal s.l : Int) := by rw [IntKind.wrap_i64]; omega
      go_cut [23] (fun v wc => v = .bool full ∧ Below w1.heap.size w1 wc)
      case first =>
        generalize stotal s.l = T at *
        generalize s.l.length = N at *
        cases hd : decide ((s.room : Int) - (T : Int) < (t.size : Int))
        · rw [hd, Bool.false_or] at hfull
          cases hth : sthere s.l n
          · rw [hth] at hfull hi
            rw [if_neg (by simp)] at hi
            subst hi
            cases hN : (N == 1024)
            · have hfull2 : full = false := by rw [hN] at hfull; simpa using hfull.symm
              have hl2 : decide ((1024 : Int) ≤ (N : Int)) = false := by simp at hN ⊢; omega
              subst hfull2
              clear hfull hN hth ho hnm
              refine wp_region_quiet_below (by kernel_rfl) (by kernel_rfl) ?_
              repeat (first | go_big_quiet_step ((go_at_call 29; with_reducible exact HCU.out _ _)) | quiet_step ((go_at_call 29; with_reducible exact HCU.out _ _)))
              refine wpQuiet_nil ?_
              intro _ hw'
              obtain ⟨⟨dq, osq⟩, hw''⟩ := hw'
              subst hw''
              clear HCU q0 q1 q2 q3
              go_wp2_with fail
              go_meet
              exact ⟨rfl, below_regrown w1 dq osq⟩
            · have hfull2 : full = true := by rw [hN] at hfull; simpa using hfull.symm
              have hl2 : decide ((1024 : Int) ≤ (N : Int)) = true := by simp at hN ⊢; omega
              subst hfull2
              clear hfull hN hth ho hnm
              refine wp_region_quiet_below (by kernel_rfl) (by kernel_rfl) ?_
              repeat (first | go_big_quiet_step ((go_at_call 29; with_reducible exact HCU.out _ _)) | quiet_step ((go_at_call 29; with_reducible exact HCU.out _ _)))
              refine wpQuiet_nil ?_
              intro _ hw'
              obtain ⟨⟨dq, osq⟩, hw''⟩ := hw'
              subst hw''
              clear HCU q0 q1 q2 q3
              go_wp2_with fail
              go_meet
              exact ⟨rfl, below_regrown w1 dq osq⟩
          · rw [hth] at hfull hi
            rw [if_pos rfl] at hi
            have hi0 : decide (i < 0) = false := by simp; omega
            have hfull2 : full = false := by simpa using hfull.symm
            subst hfull2
            clear hfull hth ho hnm hi
            refine wp_region_quiet_below (by kernel_rfl) (by kernel_rfl) ?_
            repeat (first | go_big_quiet_step ((go_at_call 29; with_reducible exact HCU.out _ _)) | quiet_step ((go_at_call 29; with_reducible exact HCU.out _ _)))
            refine wpQuiet_nil ?_
            intro _ hw'
            obtain ⟨⟨dq, osq⟩, hw''⟩ := hw'
            subst hw''
            clear HCU q0 q1 q2 q3
            go_wp2_with fail
            go_meet
            exact ⟨rfl, below_regrown w1 dq osq⟩
        · have hfull2 : full = true := by rw [hd] at hfull; simpa using hfull.symm
          subst hfull2
          clear hfull ho hnm hi
          refine wp_region_quiet_below (by kernel_rfl) (by kernel_rfl) ?_
          repeat (first | go_big_quiet_step ((go_at_call 29; with_reducible exact HCU.out _ _)) | quiet_step ((go_at_call 29; with_reducible exact HCU.out _ _)))
          refine wpQuiet_nil ?_
          intro _ hw'
          obtain ⟨⟨dq, osq⟩, hw''⟩ := hw'
          subst hw''
          clear HCU q0 q1 q2 q3
          go_wp2_with fail
          go_meet
          exact ⟨rfl, below_regrown w1 dq osq⟩
      case rest =>
        obtain ⟨rfl, hbc⟩ := hcut
        have HBc := Lib.hid (HB1.out.trans (hbc.mono HB1.out.size))
        have h2c := H2'.out.below hbc
        have H2c := Lib.hid h2c
        clear x0 x1 x2 x3 y0 y1 y2 y3 f0 f1 f2 f3 g0 g1 g2 g3 q0 q1 q2 q3 HCU hfull
        obtain ⟨x0, x1, x2, x3, y0, y1, y2, y3, f0, f1, f2, f3, g0, g1, g2, g3, hlt⟩ := h2c.cells
        clear h2c hbc
        cases full
        · cases hout : s.out
          · rw [hout] at HFU
            cases hth : sthere s.l n
            · have HRES := Lib.hid (show appendS s n t = (0, { s.fz with l := slay s.l ⟨n, t.data.toList, 0⟩ }) by unfold appendS slay; rw [if_neg (by simp [ho]), if_neg (by simp [hnm]), if_neg (by simp [HFULL.out]), if_neg (by simp [hth]), if_neg (by simp [hth]), act_pay hout])
              rw [hth, if_neg (by simp)] at hi
              subst hi
              clear ho hth hout hnm HI
              have hadd := fun W => run_string_add_sum (P := Tryd.prog) (w := W) ⟨#[]⟩ t (by have : (ByteArray.mk #[]).size = 0 := rfl; omega)
              rw [show (⟨#[]⟩ : ByteArray) = ⟨([] : List UInt8).toArray⟩ from rfl, cat_bytes, List.nil_append] at hadd
              go_wp2_with fail
              refine (HFU.out _).mono ?_
              rintro e w2 ⟨rfl, hb2⟩
              have HB2 := Lib.hid (HBc.out.trans (hb2.mono HBc.out.size))
              have h2 := H2c.out.below hb2
              have H22 := Lib.hid h2
              clear x0 x1 x2 x3 y0 y1 y2 y3 f0 f1 f2 f3 g0 g1 g2 g3
              obtain ⟨x0, x1, x2, x3, y0, y1, y2, y3, f0, f1, f2, f3, g0, g1, g2, g3, hlt2⟩ := h2.cells
              clear h2 hb2
              have hwl2 : w.heap.size < w2.heap.size := by omega
              have hB3 := below_four HB2.out (b := w.heap.size) (Nat.le_refl _) (.int .i64 (s.room : Int)) (.slice p s.l.length c) (.bool s.fz.off) (.int .i64 (fz s.fz))
              have hB4 := hB3.alloc hB3.size (.cells #[.string n, .string ⟨t.data.toList.toArray⟩, .int .i64 0] 66)
              have hT4 := (two_four H22.out (.int .i64 (s.room : Int)) (.slice p s.l.length c) (.bool s.fz.off) (.int .i64 (fz s.fz))).alloc (.cells #[.string n, .string ⟨t.data.toList.toArray⟩, .int .i64 0] 66)
              have HWC := Lib.hid (with_any s.l ⟨n, t.data.toList, 0⟩ p c _ (HR.out.below hB4) hl)
              have HB4 := Lib.hid hB4
              have HT4 := Lib.hid hT4
              clear hB3 hB4 hT4
              go_wp2_with fail
              refine HWC.out.mono ?_
              rintro e w5 ⟨v, rfl, hown, hb5⟩
              obtain ⟨q, cq, rfl, hrow5, hq⟩ := hown.parts
              have hT5 := HT4.out.below hb5
              have HB5 := Lib.hid (HB4.out.trans (hb5.mono HB4.out.size))
              have hqn : ∀ g off, q = some ⟨g, off, none⟩ → g ≠ w.heap.size ∧ g ≠ w.heap.size + 1 ∧ w.heap.size ≤ g ∧ g < w5.heap.size := fun g off he => by
                have h1 := hq g off he
                have h2 := lt_of_block HT4.out.2
                omega
              have HT5 := Lib.hid hT5
              have HR5 := Lib.hid (And.intro hrow5 hqn)
              clear x0 x1 x2 x3 y0 y1 y2 y3 f0 f1 f2 f3 g0 g1 g2 g3 HWC HT4 HB4
              obtain ⟨x0, x1, x2, x3, y0, y1, y2, y3, f0, f1, f2, f3, g0, g1, g2, g3, hlt5⟩ := hT5.cells
              clear hT5 hown hb5 hrow5 hqn hq
              rw [rwith_slay hfit.rises] at *
              generalize slay s.l ⟨n, t.data.toList, 0⟩ = L at *
              go_wp2_with fail
              (try simp only [Exit.inBlock, Exit.then])
              refine bodyPost_ret (results_D rfl _ _ (w.heap.size + 1) _ _ _ _ _ (0, 0) _ rfl (four_set (HT5.out.list _).2 _ _ _ _) rfl rfl refDInfo) rfl ?_
              rw [HRES.out]
              refine ⟨q, cq, by simp only [rv, (fz_room s).1]; rfl, ?_, ?_, ?_⟩
              · exact (HR5.out.1.set (fun g off he => (HR5.out.2 g off he).1) _).four (fun g off he => (HR5.out.2 g off he).2.1) _ _ _ _
              · exact below_four (HB5.out.setCell (Nat.le_refl _) _) (by omega) _ _ _ _
              · exact fun g off he => .inr ⟨(HR5.out.2 g off he).2.2.1, by simpa using (HR5.out.2 g off he).2.2.2⟩
            · obtain ⟨f, hf, hfn⟩ := sthere_at hth
              have HRES := Lib.hid (show appendS s n t = (0, { s.fz with l := slay s.l ⟨n, f.body ++ t.data.toList, f.sure⟩ }) by
                have e : ({ f with body := f.body ++ t.data.toList } : FS) = ⟨n, f.body ++ t.data.toList, f.sure⟩ := by rw [← hfn]
                unfold appendS; rw [if_neg (by simp [ho]), if_neg (by simp [hnm]), if_neg (by simp [HFULL.out]), if_pos hth, smod_slay (fun f => { f with body := f.body ++ t.data.toList }) hf hfn hfn, act_pay hout, e])
              rw [hth, if_pos rfl] at hi
              have hki : spos s.l n < s.l.length := (List.getElem?_eq_some_iff.1 hf).1
              have hbl0 := body_le hf
              clear ho hth hout hnm HI
              have HF := Lib.hid hf
              obtain ⟨k, hk⟩ : ∃ k, spos s.l n = k := ⟨_, rfl⟩
              rw [hk] at HF hki hi
              have HK := Lib.hid hk
              subst hi
              clear hf hk
              have hadd := fun W => run_string_add_sum (P := Tryd.prog) (w := W) ⟨f.body.toArray⟩ t (by rw [text_size]; have := HFULL.out; simp only [sfull, Bool.or_eq_false_iff, decide_eq_false_iff_not] at this; have := this.1; omega)
              rw [cat_bytes] at hadd
              obtain ⟨nb, hnb⟩ : ∃ nb, (⟨(f.body ++ t.data.toList).toArray⟩ : ByteArray) = nb := ⟨_, rfl⟩
              rw [hnb] at hadd
              have HNB := Lib.hid hnb
              clear hnb
              go_wp2_with fail
              refine (HFU.out _).mono ?_
              rintro e w2 ⟨rfl, hb2⟩
              have HB2 := Lib.hid (HBc.out.trans (hb2.mono HBc.out.size))
              have h2 := H2c.out.below hb2
              have H22 := Lib.hid h2
              clear x0 x1 x2 x3 y0 y1 y2 y3 f0 f1 f2 f3 g0 g1 g2 g3
              obtain ⟨x0, x1, x2, x3, y0, y1, y2, y3, f0, f1, f2, f3, g0, g1, g2, g3, hlt2⟩ := h2.cells
              clear h2 hb2
              obtain ⟨b, off, rfl, hbl, c0, c1, c2⟩ : ∃ b off, p = some ⟨b, off, none⟩ ∧ b < w.heap.size ∧ w2.cell? ⟨b, off + k * 3, none⟩ = some (.string f.name) ∧ w2.cell? ⟨b, off + k * 3 + 1, none⟩ = some (.string ⟨f.body.toArray⟩) ∧ w2.cell? ⟨b, off + k * 3 + 2, none⟩ = some (.int .i64 (f.sure : Int)) := by
                rcases HR.out with h | ⟨b, off, he, hb, hc⟩
                · have := HF.out; rw [h] at this; simp at this
                · obtain ⟨d0, d1, d2⟩ := hc k f HF.out
                  exact ⟨b, off, he, hb, by rw [HB2.out.cell hb]; exact d0, by rw [HB2.out.cell hb]; exact d1, by rw [HB2.out.cell hb]; exact d2⟩
              have hwl2 : w.heap.size < w2.heap.size := by omega
              have hi0 : (0 : Int) ≤ (k : Int) := by omega
              have hbl2 : b < w2.heap.size := by omega
              have hi1 : (k : Int) < (s.l.length : Int) := by omega
              have hB3 := below_four HB2.out (b := w.heap.size) (Nat.le_refl _) (.int .i64 (s.room : Int)) (.slice (some ⟨b, off, none⟩) s.l.length c) (.bool s.fz.off) (.int .i64 (fz s.fz))
              have hB4 := hB3.alloc hB3.size (.cells #[.string n, .string nb, .int .i64 (f.sure : Int)] 66)
              have hT4 := (two_four H22.out (.int .i64 (s.room : Int)) (.slice (some ⟨b, off, none⟩) s.l.length c) (.bool s.fz.off) (.int .i64 (fz s.fz))).alloc (.cells #[.string n, .string nb, .int .i64 (f.sure : Int)] 66)
              have hwc := with_any s.l ⟨n, f.body ++ t.data.toList, f.sure⟩ (some ⟨b, off, none⟩) c _ (HR.out.below hB4) hl
              simp only at hwc
              rw [HNB.out] at hwc
              have HWC := Lib.hid hwc
              clear hwc
              have HB4 := Lib.hid hB4
              have HT4 := Lib.hid hT4
              clear hB3 hB4 hT4
              go_wp2_with fail
              refine HWC.out.mono ?_
              rintro e w5 ⟨v, rfl, hown, hb5⟩
              obtain ⟨q, cq, rfl, hrow5, hq⟩ := hown.parts
              have hT5 := HT4.out.below hb5
              have HB5 := Lib.hid (HB4.out.trans (hb5.mono HB4.out.size))
              have hqn : ∀ g off, q = some ⟨g, off, none⟩ → g ≠ w.heap.size ∧ g ≠ w.heap.size + 1 ∧ w.heap.size ≤ g ∧ g < w5.heap.size := fun g off he => by
                have h1 := hq g off he
                have h2 := lt_of_block HT4.out.2
                omega
              have HT5 := Lib.hid hT5
              have HR5 := Lib.hid (And.intro hrow5 hqn)
              clear x0 x1 x2 x3 y0 y1 y2 y3 f0 f1 f2 f3 g0 g1 g2 g3 c0 c1 c2 HWC HT4 HB4
              obtain ⟨x0, x1, x2, x3, y0, y1, y2, y3, f0, f1, f2, f3, g0, g1, g2, g3, hlt5⟩ := hT5.cells
              clear hT5 hown hb5 hrow5 hqn hq
              rw [rwith_slay hfit.rises] at *
              generalize slay s.l ⟨n, f.body ++ t.data.toList, f.sure⟩ = L at *
              go_wp2_with fail
              (try simp only [Exit.inBlock, Exit.then])
              refine bodyPost_ret (results_D rfl _ _ (w.heap.size + 1) _ _ _ _ _ (0, 0) _ rfl (four_set (HT5.out.list _).2 _ _ _ _) rfl rfl refDInfo) rfl ?_
              rw [HRES.out]
              refine ⟨q, cq, by simp only [rv, (fz_room s).1]; rfl, ?_, ?_, ?_⟩
              · exact (HR5.out.1.set (fun g off he => (HR5.out.2 g off he).1) _).four (fun g off he => (HR5.out.2 g off he).2.1) _ _ _ _
              · exact below_four (HB5.out.setCell (Nat.le_refl _) _) (by omega) _ _ _ _
              · exact fun g off he => .inr ⟨(HR5.out.2 g off he).2.2.1, by simpa using (HR5.out.2 g off he).2.2.2⟩
          · have HRES := Lib.hid (show appendS s n t = (10, s.fz) by unfold appendS; rw [if_neg (by simp [ho]), if_neg (by simp [hnm]), if_neg (by simp [HFULL.out]), act_dark hout])
            rw [hout] at HFU
            clear ho hout hnm hi HI
            go_wp2_with fail
            refine (HFU.out _).mono ?_
            rintro e w2 ⟨rfl, hb2⟩
            have HB2 := Lib.hid (HBc.out.trans (hb2.mono HBc.out.size))
            have h2 := H2c.out.below hb2
            have H22 := Lib.hid h2
            clear x0 x1 x2 x3 y0 y1 y2 y3 f0 f1 f2 f3 g0 g1 g2 g3
            obtain ⟨x0, x1, x2, x3, y0, y1, y2, y3, f0, f1, f2, f3, g0, g1, g2, g3, hlt2⟩ := h2.cells
            clear h2 hb2
            have hwl2 : w.heap.size < w2.heap.size := by omega
            go_wp2_with fail
            (try simp only [Exit.inBlock, Exit.then])
            refine bodyPost_ret (results_D rfl _ _ (w.heap.size + 1) _ _ _ _ _ (0, 0) _ rfl (four_set (two_four H22.out _ _ _ _).2 _ _ _ _) rfl rfl refDInfo) rfl ?_
            rw [HRES.out]
            have hB := below_four (below_four HB2.out (b := w.heap.size) (Nat.le_refl _) (.int .i64 (s.room : Int)) (.slice p s.l.length c) (.bool s.fz.off) (.int .i64 (fz s.fz))) (b := w.heap.size + 1) (by omega) (.int .i64 (s.room : Int)) (.slice p s.l.length c) (.bool s.fz.off) (.int .i64 (fz s.fz))
            exact ⟨p, c, by simp only [rv, (fz_room s).1, (fz_room s).2]; rfl, by simp only [(fz_room s).2]; exact HR.out.below hB, hB, fun _ _ _ => .inl rfl⟩
        · have HRES := Lib.hid (show appendS s n t = (9, s) by unfold appendS; rw [if_neg (by simp [ho]), if_neg (by simp [hnm]), if_pos HFULL.out])
          clear ho hnm hi HI
          go_wp2_with fail
          (try simp only [Exit.inBlock, Exit.then])
          refine bodyPost_ret (results_D rfl _ _ (w.heap.size + 1) _ _ _ _ _ (0, 0) _ rfl (four_set H2c.out.2 _ _ _ _) rfl rfl refDInfo) rfl ?_
          rw [HRES.out]
          have hB := below_four HBc.out (b := w.heap.size + 1) (by omega) (.int .i64 (s.room : Int)) (.slice p s.l.length c) (.bool false) (.int .i64 (fz s))
          exact ⟨p, c, by simp only [rv, HO.out]; rfl, HR.out.below hB, hB, fun _ _ _ => .inl rfl⟩
  · have HRES := Lib.hid (show appendS s n t = (10, s) by simp [appendS, ho])
    have HO := Lib.hid ho
    rw [ho] at x2
    generalize (if sthere s.l n = true then (spos s.l n : Int) else -1) = i
    clear ho
    go_wp2_with fail
    (try simp only [Exit.inBlock, Exit.then])
    refine bodyPost_ret (results_D rfl _ _ (w.heap.size + 1) _ _ _ _ _ (0, 0) _ rfl (four_set H2'.out.2 _ _ _ _) rfl rfl refDInfo) rfl ?_
    rw [HRES.out]
    have hB := below_four HB1.out (b := w.heap.size + 1) (by omega) (.int .i64 (s.room : Int)) (.slice p s.l.length c) (.bool true) (.int .i64 (fz s))
    exact ⟨p, c, by simp only [rv, HO.out]; rfl, HR.out.below hB, hB, fun _ _ _ => .inl rfl⟩
end Go.Proofs.YtopigchjdegpeaaDoor
