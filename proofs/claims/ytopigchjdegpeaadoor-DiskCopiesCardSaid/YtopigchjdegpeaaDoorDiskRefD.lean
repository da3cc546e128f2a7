/-
  almonryref06: Remove.
-/
import Derived.Test.YtopigchjdegpeaaDoorDiskRefS
namespace Go.Proofs.YtopigchjdegpeaaDoor
open Go.RowKit

set_option maxHeartbeats 4000000 in
set_option maxRecDepth 100000 in
theorem refRemove_any (s : DS) (hfit : Fit s) (n : ByteArray) (p : Option Addr) (c : Nat) (w : World) (hr : RRow w p s.l) :
    Calls Tryd.prog 46 #[rv s p c, .string n] w (RActs p (removeS s n) w) := by
  have hat : ∀ W, Below w.heap.size w W → Calls Tryd.prog 42 #[rv s p c, .string n] W fun e w' => e = .returned (.int .i64 (rAt s.l n)) ∧ Below W.heap.size W w' := fun W hb => refAt_any s n p c W (hr.below hb) hfit.len
  have hfu : ∀ W, Calls Tryd.prog 56 #[rv s p c] W fun e w' => e = .returned (.tuple #[rv s.fz p c, .int .i64 (if s.out then 10 else 0)]) ∧ Below W.heap.size W w' := fun W => refFuse_any s p c W hfit.left
  rw [rAt_pos hfit.rises] at hat
  have hl := hfit.len
  unfold rv at hat hfu ⊢
  rw [(fz_room s).1, (fz_room s).2] at hfu
  have HAT := Lib.hid hat
  have HFU := Lib.hid hfu
  have HR := Lib.hid hr
  have h2m := two_made w (.int .i64 (s.room : Int)) (.slice p s.l.length c) (.bool s.off) (.int .i64 (fz s)) (.int .i64 0) (.slice none 0 0) (.bool false) (.int .i64 0)
  have hbm := below2 w (.cells #[.int .i64 (s.room : Int), .slice p s.l.length c, .bool s.off, .int .i64 (fz s)] 30) (.cells #[.int .i64 0, .slice none 0 0, .bool false, .int .i64 0] 30)
  have HB := Lib.hid hbm
  have H2 := Lib.hid h2m
  clear hat hfu hr h2m hbm
  go_enter Tryd.func46, Tryd.ntmps46
  cases ho : s.off
  · rw [ho] at HB H2 HAT HFU
    go_wp2_with fail
    refine (HAT.out _ HB.out).mono ?_
    rintro e w1 ⟨rfl, hb1⟩
    have h2 := H2.out.below hb1
    have HB1 := Lib.hid (HB.out.trans (hb1.mono HB.out.size))
    have H2' := Lib.hid h2
    obtain ⟨x0, x1, x2, x3, y0, y1, y2, y3, f0, f1, f2, f3, g0, g1, g2, g3, hlt⟩ := h2.cells
    clear h2 hb1 H2 HB HAT
    cases hth : sthere s.l n
    · have HRES := Lib.hid (show removeS s n = (7, s) by simp [removeS, ho, hth])
      have HO := Lib.hid ho
      rw [if_neg (by simp)]
      clear hth ho
      go_wp2_with fail
      (try simp only [Exit.inBlock, Exit.then])
      refine bodyPost_ret (results_D rfl _ _ (w.heap.size + 1) _ _ _ _ _ (0, 0) _ rfl (four_set H2'.out.2 _ _ _ _) rfl rfl refDInfo) rfl ?_
      rw [HRES.out]
      have hB := below_four HB1.out (b := w.heap.size + 1) (by omega) (.int .i64 (s.room : Int)) (.slice p s.l.length c) (.bool false) (.int .i64 (fz s))
      exact ⟨p, c, by simp only [rv, HO.out]; rfl, HR.out.below hB, hB, fun _ _ _ => .inl rfl⟩
    · obtain ⟨f, hf, hfn⟩ := sthere_at hth
      have HO := Lib.hid ho
      rw [if_pos rfl]
      cases hout : s.out
      · have HRES := Lib.hid (show removeS s n = (0, { s.fz with l := rwo s.l n }) by unfold removeS; rw [if_neg (by simp [ho]), if_neg (by simp [hth]), rwo_yes hfit.rises hf hfn, act_pay hout])
        rw [hout] at HFU
        have hki : spos s.l n < s.l.length := (List.getElem?_eq_some_iff.1 hf).1
        clear ho hth hout
        have HF := Lib.hid hf
        obtain ⟨k, hk⟩ : ∃ k, spos s.l n = k := ⟨_, rfl⟩
        rw [hk] at HF hki
        rw [hk]
        have HK := Lib.hid hk
        clear hf hk
        go_wp2_with fail
        refine (HFU.out _).mono ?_
        rintro e w2 ⟨rfl, hb2⟩
        have HB2 := Lib.hid (HB1.out.trans (hb2.mono HB1.out.size))
        have h2 := H2'.out.below hb2
        have H22 := Lib.hid h2
        clear x0 x1 x2 x3 y0 y1 y2 y3 f0 f1 f2 f3 g0 g1 g2 g3
        obtain ⟨x0, x1, x2, x3, y0, y1, y2, y3, f0, f1, f2, f3, g0, g1, g2, g3, hlt2⟩ := h2.cells
        clear h2 hb2
        have hwl2 : w.heap.size < w2.heap.size := by omega
        have hB4 := below_four HB2.out (b := w.heap.size) (Nat.le_refl _) (.int .i64 (s.room : Int)) (.slice p s.l.length c) (.bool s.fz.off) (.int .i64 (fz s.fz))
        have hT4 := two_four H22.out (.int .i64 (s.room : Int)) (.slice p s.l.length c) (.bool s.fz.off) (.int .i64 (fz s.fz))
        have HWC := Lib.hid (without_any s.l n p c _ (HR.out.below hB4) hl)
        have HB4 := Lib.hid hB4
        have HT4 := Lib.hid hT4
        clear hB4 hT4
        go_wp2_with fail
        refine HWC.out.mono ?_
        rintro e w5 ⟨v, rfl, hown, hb5⟩
        obtain ⟨q, cq, rfl, hrow5, hq⟩ := hown.parts
        have hT5 := HT4.out.below hb5
        have HB5 := Lib.hid (HB4.out.trans (hb5.mono HB4.out.size))
        have hqn : ∀ g off, q = some ⟨g, off, none⟩ → g ≠ w.heap.size ∧ g ≠ w.heap.size + 1 ∧ w.heap.size ≤ g ∧ g < w5.heap.size := fun g off he => by
          have h1 := hq g off he
          have h2 := lt_of_block HT4.out.2
          omega
        have HT5 := Lib.hid hT5
        have HR5 := Lib.hid (And.intro hrow5 hqn)
        clear x0 x1 x2 x3 y0 y1 y2 y3 f0 f1 f2 f3 g0 g1 g2 g3 HWC HT4 HB4
        obtain ⟨x0, x1, x2, x3, y0, y1, y2, y3, f0, f1, f2, f3, g0, g1, g2, g3, hlt5⟩ := hT5.cells
        clear hT5 hown hb5 hrow5 hqn hq
        generalize rwo s.l n = L at *
        go_wp2_with fail
        (try simp only [Exit.inBlock, Exit.then])
        refine bodyPost_ret (results_D rfl _ _ (w.heap.size + 1) _ _ _ _ _ (0, 0) _ rfl (four_set (HT5.out.list _).2 _ _ _ _) rfl rfl refDInfo) rfl ?_
        rw [HRES.out]
        refine ⟨q, cq, by simp only [rv, (fz_room s).1]; rfl, ?_, ?_, ?_⟩
        · exact (HR5.out.1.set (fun g off he => (HR5.out.2 g off he).1) _).four (fun g off he => (HR5.out.2 g off he).2.1) _ _ _ _
        · exact below_four (HB5.out.setCell (Nat.le_refl _) _) (by omega) _ _ _ _
        · exact fun g off he => .inr ⟨(HR5.out.2 g off he).2.2.1, by simpa using (HR5.out.2 g off he).2.2.2⟩
      · have HRES := Lib.hid (show removeS s n = (10, s.fz) by unfold removeS; rw [if_neg (by simp [ho]), if_neg (by simp [hth]), act_dark hout])
        rw [hout] at HFU
        generalize spos s.l n = k at *
        clear ho hth hout hf
        go_wp2_with fail
        refine (HFU.out _).mono ?_
        rintro e w2 ⟨rfl, hb2⟩
        have HB2 := Lib.hid (HB1.out.trans (hb2.mono HB1.out.size))
        have h2 := H2'.out.below hb2
        have H22 := Lib.hid h2
        clear x0 x1 x2 x3 y0 y1 y2 y3 f0 f1 f2 f3 g0 g1 g2 g3
        obtain ⟨x0, x1, x2, x3, y0, y1, y2, y3, f0, f1, f2, f3, g0, g1, g2, g3, hlt2⟩ := h2.cells
        clear h2 hb2
        have hwl2 : w.heap.size < w2.heap.size := by omega
        go_wp2_with fail
        (try simp only [Exit.inBlock, Exit.then])
        refine bodyPost_ret (results_D rfl _ _ (w.heap.size + 1) _ _ _ _ _ (0, 0) _ rfl (four_set (two_four H22.out _ _ _ _).2 _ _ _ _) rfl rfl refDInfo) rfl ?_
        rw [HRES.out]
        have hB := below_four (below_four HB2.out (b := w.heap.size) (Nat.le_refl _) (.int .i64 (s.room : Int)) (.slice p s.l.length c) (.bool s.fz.off) (.int .i64 (fz s.fz))) (b := w.heap.size + 1) (by omega) (.int .i64 (s.room : Int)) (.slice p s.l.length c) (.bool s.fz.off) (.int .i64 (fz s.fz))
        exact ⟨p, c, by simp only [rv, (fz_room s).1, (fz_room s).2]; rfl, by simp only [(fz_room s).2]; exact HR.out.below hB, hB, fun _ _ _ => .inl rfl⟩
  · have HRES := Lib.hid (show removeS s n = (10, s) by simp [removeS, ho])
    have HO := Lib.hid ho
    clear ho H2 HB HAT HFU
    go_wp2_with fail
    (try simp only [Exit.inBlock, Exit.then])
    refine bodyPost_ret (results_D rfl _ _ (w.heap.size + 1) _ _ _ _ _ (0, 0) _ rfl (heap_alloc2_new _ _ _) rfl rfl refDInfo) rfl ?_
    rw [HRES.out]
    have hB := below2 w (.cells #[.int .i64 (s.room : Int), .slice p s.l.length c, .bool true, .int .i64 (fz s)] 30) (.cells #[.int .i64 (s.room : Int), .slice p s.l.length c, .bool true, .int .i64 (fz s)] 30)
    exact ⟨p, c, by simp only [rv, HO.out]; rfl, HR.out.below hB, hB, fun _ _ _ => .inl rfl⟩
end Go.Proofs.YtopigchjdegpeaaDoor
