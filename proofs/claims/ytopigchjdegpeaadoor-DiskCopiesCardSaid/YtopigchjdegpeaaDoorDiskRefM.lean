/-
  almonryref06: Rename.
-/
import Derived.Test.YtopigchjdegpeaaDoorDiskRefS
namespace Go.Proofs.YtopigchjdegpeaaDoor
open Go.RowKit

theorem rren_eq {s : DS} (hfit : Fit s) {n t : ByteArray} {f : FS} (hf : s.l[spos s.l n]? = some f) (hn : f.name = n) : sren s.l n t = rwith (rwo s.l n) { f with name := t } := by
  unfold sren
  rw [hf, rwo_yes hfit.rises hf hn]
  exact (rwith_slay (hfit.rises.sublist (sdel_sub _ _)) _).symm

set_option maxHeartbeats 4000000 in
set_option maxRecDepth 100000 in
theorem refRename_any (s : DS) (hfit : Fit s) (n t : ByteArray) (hst : t.size ≤ 9223372036854775807) (p : Option Addr) (c : Nat) (w : World) (hr : RRow w p s.l) :
    Calls Tryd.prog 45 #[rv s p c, .string n, .string t] w (RActs p (renameS s n t) w) := by
  have hat : ∀ W, Below w.heap.size w W → Calls Tryd.prog 42 #[rv s p c, .string n] W fun e w' => e = .returned (.int .i64 (rAt s.l n)) ∧ Below W.heap.size W w' := fun W hb => refAt_any s n p c W (hr.below hb) hfit.len
  have hfu : ∀ W, Calls Tryd.prog 56 #[rv s p c] W fun e w' => e = .returned (.tuple #[rv s.fz p c, .int .i64 (if s.out then 10 else 0)]) ∧ Below W.heap.size W w' := fun W => refFuse_any s p c W hfit.left
  rw [rAt_pos hfit.rises] at hat
  have hl := hfit.len
  have HN := Lib.hid (fun W => named_any t W hst)
  unfold rv at hat hfu ⊢
  rw [(fz_room s).1, (fz_room s).2] at hfu
  have HAT := Lib.hid hat
  have HFU := Lib.hid hfu
  have HR := Lib.hid hr
  have h2m := two_made w (.int .i64 (s.room : Int)) (.slice p s.l.length c) (.bool s.off) (.int .i64 (fz s)) (.int .i64 0) (.slice none 0 0) (.bool false) (.int .i64 0)
  have hbm := below2 w (.cells #[.int .i64 (s.room : Int), .slice p s.l.length c, .bool s.off, .int .i64 (fz s)] 30) (.cells #[.int .i64 0, .slice none 0 0, .bool false, .int .i64 0] 30)
  have HB := Lib.hid hbm
  have H2 := Lib.hid h2m
  clear hat hfu hr h2m hbm
  go_enter Tryd.func45, Tryd.ntmps45
  go_wp2_with fail
  refine (HAT.out _ HB.out).mono ?_
  rintro e w1 ⟨rfl, hb1⟩
  have h2 := H2.out.below hb1
  have HB1 := Lib.hid (HB.out.trans (hb1.mono HB.out.size))
  have H2' := Lib.hid h2
  obtain ⟨x0, x1, x2, x3, y0, y1, y2, y3, f0, f1, f2, f3, g0, g1, g2, g3, hlt⟩ := h2.cells
  clear h2 hb1 H2 HB HAT
  cases ho : s.off
  · rw [ho] at x2 HFU
    cases hth : sthere s.l n
    · have HRES := Lib.hid (show renameS s n t = (7, s) by simp [renameS, ho, hth])
      have HO := Lib.hid ho
      rw [if_neg (by simp)]
      clear hth ho
      go_wp2_with fail
      (try simp only [Exit.inBlock, Exit.then])
      refine bodyPost_ret (results_D rfl _ _ (w.heap.size + 1) _ _ _ _ _ (0, 0) _ rfl (four_set H2'.out.2 _ _ _ _) rfl rfl refDInfo) rfl ?_
      rw [HRES.out]
      have hB := below_four HB1.out (b := w.heap.size + 1) (by omega) (.int .i64 (s.room : Int)) (.slice p s.l.length c) (.bool false) (.int .i64 (fz s))
      exact ⟨p, c, by simp only [rv, HO.out]; rfl, HR.out.below hB, hB, fun _ _ _ => .inl rfl⟩
    · obtain ⟨f, hf, hfn⟩ := sthere_at hth
      have HO := Lib.hid ho
      rw [if_pos rfl]
      cases hnm : isNm t
      · have HRES := Lib.hid (show renameS s n t = (14, s) by simp [renameS, ho, hth, hnm])
        rw [hnm] at HN
        generalize spos s.l n = k at *
        clear hth ho hf hnm
        go_wp2_with fail
        refine (HN.out _).mono ?_
        rintro e w9 ⟨rfl, rfl⟩
        go_wp2_with fail
        (try simp only [Exit.inBlock, Exit.then])
        refine bodyPost_ret (results_D rfl _ _ (w.heap.size + 1) _ _ _ _ _ (0, 0) _ rfl (four_set H2'.out.2 _ _ _ _) rfl rfl refDInfo) rfl ?_
        rw [HRES.out]
        have hB := below_four HB1.out (b := w.heap.size + 1) (by omega) (.int .i64 (s.room : Int)) (.slice p s.l.length c) (.bool false) (.int .i64 (fz s))
        exact ⟨p, c, by simp only [rv, HO.out]; rfl, HR.out.below hB, hB, fun _ _ _ => .inl rfl⟩
      · rw [hnm] at HN
        cases hout : s.out
        · have HRES := Lib.hid (show renameS s n t = (0, { s.fz with l := rwith (rwo s.l n) { f with name := t } }) by unfold renameS; rw [if_neg (by simp [ho]), if_neg (by simp [hth]), if_neg (by simp [hnm]), rren_eq hfit hf hfn, act_pay hout])
          rw [hout] at HFU
          have hki : spos s.l n < s.l.length := (List.getElem?_eq_some_iff.1 hf).1
          clear ho hth hout hnm
          have HF := Lib.hid hf
          obtain ⟨k, hk⟩ : ∃ k, spos s.l n = k := ⟨_, rfl⟩
          rw [hk] at HF hki
          rw [hk]
          have HK := Lib.hid hk
          clear hf hk
          go_wp2_with fail
          refine (HN.out _).mono ?_
          rintro e w9 ⟨rfl, rfl⟩
          go_wp2_with fail
          refine (HFU.out _).mono ?_
          rintro e w2 ⟨rfl, hb2⟩
          have HB2 := Lib.hid (HB1.out.trans (hb2.mono HB1.out.size))
          have h2 := H2'.out.below hb2
          have H22 := Lib.hid h2
          clear x0 x1 x2 x3 y0 y1 y2 y3 f0 f1 f2 f3 g0 g1 g2 g3
          obtain ⟨x0, x1, x2, x3, y0, y1, y2, y3, f0, f1, f2, f3, g0, g1, g2, g3, hlt2⟩ := h2.cells
          clear h2 hb2
          obtain ⟨b, off, rfl, hbl, c0, c1, c2⟩ : ∃ b off, p = some ⟨b, off, none⟩ ∧ b < w.heap.size ∧ w2.cell? ⟨b, off + k * 3, none⟩ = some (.string f.name) ∧ w2.cell? ⟨b, off + k * 3 + 1, none⟩ = some (.string ⟨f.body.toArray⟩) ∧ w2.cell? ⟨b, off + k * 3 + 2, none⟩ = some (.int .i64 (f.sure : Int)) := by
            rcases HR.out with h | ⟨b, off, he, hb, hc⟩
            · have := HF.out; rw [h] at this; simp at this
            · obtain ⟨d0, d1, d2⟩ := hc k f HF.out
              exact ⟨b, off, he, hb, by rw [HB2.out.cell hb]; exact d0, by rw [HB2.out.cell hb]; exact d1, by rw [HB2.out.cell hb]; exact d2⟩
          have hwl2 : w.heap.size < w2.heap.size := by omega
          have hi0 : (0 : Int) ≤ (k : Int) := by omega
          have hi1 : (k : Int) < (s.l.length : Int) := by omega
          have hB3 := below_four HB2.out (b := w.heap.size) (Nat.le_refl _) (.int .i64 (s.room : Int)) (.slice (some ⟨b, off, none⟩) s.l.length c) (.bool s.fz.off) (.int .i64 (fz s.fz))
          have hB4 := hB3.alloc hB3.size (.cells #[.string n, .string ⟨f.body.toArray⟩, .int .i64 (f.sure : Int)] 66)
          have hT4 := (two_four H22.out (.int .i64 (s.room : Int)) (.slice (some ⟨b, off, none⟩) s.l.length c) (.bool s.fz.off) (.int .i64 (fz s.fz))).alloc (.cells #[.string n, .string ⟨f.body.toArray⟩, .int .i64 (f.sure : Int)] 66)
          have HWC := Lib.hid (without_any s.l n (some ⟨b, off, none⟩) c _ (HR.out.below hB4) hl)
          have HB4 := Lib.hid hB4
          have HT4 := Lib.hid hT4
          have hF4 := heap_alloc_new (((((w2.setCell ⟨w.heap.size, 0, none⟩ (.int .i64 (s.room : Int))).setCell ⟨w.heap.size, 1, none⟩ (.slice (some ⟨b, off, none⟩) s.l.length c)).setCell ⟨w.heap.size, 2, none⟩ (.bool s.fz.off)).setCell ⟨w.heap.size, 3, none⟩ (.int .i64 (fz s.fz)))) (.cells #[.string n, .string ⟨f.body.toArray⟩, .int .i64 (f.sure : Int)] 66)
          simp only [World.size_setCell] at hF4
          have HF4 := Lib.hid hF4
          clear hB3 hB4 hT4 hF4
          go_wp2_with fail
          refine HWC.out.mono ?_
          rintro e w5 ⟨v, rfl, hown, hb5⟩
          obtain ⟨q, cq, rfl, hrow5, hq⟩ := hown.parts
          have hT5 := HT4.out.below hb5
          have hF5 : w5.heap[w2.heap.size]? = some (.cells #[.string n, .string ⟨f.body.toArray⟩, .int .i64 (f.sure : Int)] 66 (0, 0)) := by rw [hb5.block _ (lt_of_block HF4.out)]; exact HF4.out
          have HB5 := Lib.hid (HB4.out.trans (hb5.mono HB4.out.size))
          have hqn : ∀ g off, q = some ⟨g, off, none⟩ → g ≠ w.heap.size ∧ g ≠ w2.heap.size := fun g off he => by
            have h1 := hq g off he
            have h2 := lt_of_block HF4.out
            omega
          have HT5 := Lib.hid hT5
          have HR5 := Lib.hid (And.intro hrow5 hqn)
          have HF5 := Lib.hid hF5
          have e0 : w5.cell? ⟨w2.heap.size, 0, none⟩ = some (.string n) := by rw [Joins.cell_of_block hF5]; rfl
          have e1 : w5.cell? ⟨w2.heap.size, 1, none⟩ = some (.string ⟨f.body.toArray⟩) := by rw [Joins.cell_of_block hF5]; rfl
          have e2 : w5.cell? ⟨w2.heap.size, 2, none⟩ = some (.int .i64 (f.sure : Int)) := by rw [Joins.cell_of_block hF5]; rfl
          have e3 := Joins.unfrozen_of_block hF5 0
          have hFlt := lt_of_block hF5
          clear x0 x1 x2 x3 y0 y1 y2 y3 f0 f1 f2 f3 g0 g1 g2 g3 c0 c1 c2 HWC HT4 HB4 hF5
          obtain ⟨x0, x1, x2, x3, y0, y1, y2, y3, f0, f1, f2, f3, g0, g1, g2, g3, hlt5⟩ := hT5.cells
          clear hT5 hown hb5 hrow5 hqn hq
          have hne1 : w.heap.size ≠ w2.heap.size := by omega
          have hne2 : w2.heap.size ≠ w.heap.size := by omega
          have hls : (rwo s.l n).length ≤ 1024 := Nat.le_trans (rwo_len _ _) hl
          have hB6 := (HB5.out.setCell (p := ⟨w.heap.size, 1, none⟩) (Nat.le_refl _) (.slice q (rwo s.l n).length cq)).setCell (p := ⟨w2.heap.size, 0, none⟩) (Nat.le_of_lt hwl2) (.string t)
          have hT6 := (HT5.out.list (.slice q (rwo s.l n).length cq)).other (g := w2.heap.size) (i := 0) (by omega) (.string t)
          have hR6 := (HR5.out.1.set (b := w.heap.size) (i := 1) (fun g off he => (HR5.out.2 g off he).1) (.slice q (rwo s.l n).length cq)).set (b := w2.heap.size) (i := 0) (fun g off he => (HR5.out.2 g off he).2) (.string t)
          have HWC := Lib.hid (with_any (rwo s.l n) ⟨t, f.body, f.sure⟩ q cq _ hR6 hls)
          have HB6 := Lib.hid hB6
          have HT6 := Lib.hid hT6
          clear hB6 hT6 hR6
          go_wp2_with fail
          refine HWC.out.mono ?_
          rintro e w7 ⟨v, rfl, hown, hb7⟩
          obtain ⟨q7, cq7, rfl, hrow7, hq7⟩ := hown.parts
          have hT7 := HT6.out.below hb7
          have HB7 := Lib.hid (HB6.out.trans (hb7.mono HB6.out.size))
          have hqn : ∀ g off, q7 = some ⟨g, off, none⟩ → g ≠ w.heap.size ∧ g ≠ w.heap.size + 1 ∧ w.heap.size ≤ g ∧ g < w7.heap.size := fun g off he => by
            have h1 := hq7 g off he
            have h2 := lt_of_block HT6.out.2
            omega
          have HT7 := Lib.hid hT7
          have HR7 := Lib.hid (And.intro hrow7 hqn)
          clear x0 x1 x2 x3 y0 y1 y2 y3 f0 f1 f2 f3 g0 g1 g2 g3 e0 e1 e2 e3 HWC HT6 HB6
          obtain ⟨x0, x1, x2, x3, y0, y1, y2, y3, f0, f1, f2, f3, g0, g1, g2, g3, hlt7⟩ := hT7.cells
          clear hT7 hown hb7 hrow7 hqn hq7
          have hfe : ({ f with name := t } : FS) = ⟨t, f.body, f.sure⟩ := rfl
          rw [hfe] at HRES
          generalize rwith (rwo s.l n) ⟨t, f.body, f.sure⟩ = L at *
          clear hfe
          go_wp2_with fail
          (try simp only [Exit.inBlock, Exit.then])
          refine bodyPost_ret (results_D rfl _ _ (w.heap.size + 1) _ _ _ _ _ (0, 0) _ rfl (four_set (HT7.out.list _).2 _ _ _ _) rfl rfl refDInfo) rfl ?_
          rw [HRES.out]
          refine ⟨q7, cq7, by simp only [rv, (fz_room s).1]; rfl, ?_, ?_, ?_⟩
          · exact (HR7.out.1.set (fun g off he => (HR7.out.2 g off he).1) _).four (fun g off he => (HR7.out.2 g off he).2.1) _ _ _ _
          · exact below_four (HB7.out.setCell (Nat.le_refl _) _) (by omega) _ _ _ _
          · exact fun g off he => .inr ⟨(HR7.out.2 g off he).2.2.1, by simpa using (HR7.out.2 g off he).2.2.2⟩
        · have HRES := Lib.hid (show renameS s n t = (10, s.fz) by unfold renameS; rw [if_neg (by simp [ho]), if_neg (by simp [hth]), if_neg (by simp [hnm]), act_dark hout])
          rw [hout] at HFU
          generalize spos s.l n = k at *
          clear ho hth hout hf hnm
          go_wp2_with fail
          refine (HN.out _).mono ?_
          rintro e w9 ⟨rfl, rfl⟩
          go_wp2_with fail
          refine (HFU.out _).mono ?_
          rintro e w2 ⟨rfl, hb2⟩
          have HB2 := Lib.hid (HB1.out.trans (hb2.mono HB1.out.size))
          have h2 := H2'.out.below hb2
          have H22 := Lib.hid h2
          clear x0 x1 x2 x3 y0 y1 y2 y3 f0 f1 f2 f3 g0 g1 g2 g3
          obtain ⟨x0, x1, x2, x3, y0, y1, y2, y3, f0, f1, f2, f3, g0, g1, g2, g3, hlt2⟩ := h2.cells
          clear h2 hb2
          have hwl2 : w.heap.size < w2.heap.size := by omega
          go_wp2_with fail
          (try simp only [Exit.inBlock, Exit.then])
          refine bodyPost_ret (results_D rfl _ _ (w.heap.size + 1) _ _ _ _ _ (0, 0) _ rfl (four_set (two_four H22.out _ _ _ _).2 _ _ _ _) rfl rfl refDInfo) rfl ?_
          rw [HRES.out]
          have hB := below_four (below_four HB2.out (b := w.heap.size) (Nat.le_refl _) (.int .i64 (s.room : Int)) (.slice p s.l.length c) (.bool s.fz.off) (.int .i64 (fz s.fz))) (b := w.heap.size + 1) (by omega) (.int .i64 (s.room : Int)) (.slice p s.l.length c) (.bool s.fz.off) (.int .i64 (fz s.fz))
          exact ⟨p, c, by simp only [rv, (fz_room s).1, (fz_room s).2]; rfl, by simp only [(fz_room s).2]; exact HR.out.below hB, hB, fun _ _ _ => .inl rfl⟩
  · have HRES := Lib.hid (show renameS s n t = (10, s) by simp [renameS, ho])
    have HO := Lib.hid ho
    rw [ho] at x2
    generalize (if sthere s.l n = true then (spos s.l n : Int) else -1) = i
    clear ho
    go_wp2_with fail
    (try simp only [Exit.inBlock, Exit.then])
    refine bodyPost_ret (results_D rfl _ _ (w.heap.size + 1) _ _ _ _ _ (0, 0) _ rfl (four_set H2'.out.2 _ _ _ _) rfl rfl refDInfo) rfl ?_
    rw [HRES.out]
    have hB := below_four HB1.out (b := w.heap.size + 1) (by omega) (.int .i64 (s.room : Int)) (.slice p s.l.length c) (.bool true) (.int .i64 (fz s))
    exact ⟨p, c, by simp only [rv, HO.out]; rfl, HR.out.below hB, hB, fun _ _ _ => .inl rfl⟩
end Go.Proofs.YtopigchjdegpeaaDoor
