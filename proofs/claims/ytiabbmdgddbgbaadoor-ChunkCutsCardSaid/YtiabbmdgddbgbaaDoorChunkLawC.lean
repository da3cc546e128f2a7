/-
  ChunkCuts: the walk.
-/
import Derived.Test.YtiabbmdgddbgbaaDoorChunkAwake
import Derived.Test.YtiabbmdgddbgbaaDoorShaLaid
namespace Go.Proofs.YtiabbmdgddbgbaaDoor
open Go.RowKit Go.Sort

set_option maxHeartbeats 4000000 in
set_option maxRecDepth 100000 in
theorem cuts_law (s : ByteArray) (n : Int) (w : World) (ws : s.size ≤ maxLen) (hT : Tab w) :
    Calls Tryd.prog 3 #[.string s, .int .i64 n] w fun e w' => e = .returned (.bool true) ∧ Below w.heap.size w w' := by
  unfold maxLen at ws
  have HT := Lib.hid hT
  clear hT
  by_cases hs : 2000 < s.size ∧ s.size ≤ 32768
  · have h1 : decide ((2000 : Int) < (s.size : Int)) = true := by simp; omega
    have h2 : decide ((s.size : Int) ≤ (32768 : Int)) = true := by simp; omega
    clear hs
    go_enter Tryd.func3, Tryd.ntmps3
    go_wp2_with fail
    refine (chunkAwake w HT.out).mono ?_
    rintro e w1 ⟨rfl, hb1⟩
    have HB1 := Lib.hid hb1
    clear hb1
    go_wp2_with fail
    go_ret
    exact ⟨rfl, HB1.out⟩
  · have a1 := fun W => cutC s n W
    have a2 := fun W => cutR s n W
    have a3 := fun W hW => manC s n W hW
    have a4 := fun W => manR s n W
    have hML : (manOf s n).ids.length ≤ 9223372036854775807 := by
      unfold manOf
      split
      · rename_i h
        obtain ⟨m, rfl, _, _, _, h4⟩ := cutE_ok h
        rw [Int.toNat_natCast] at *
        simp only [List.length_map, parts_length]; omega
      · simp
    have hx : (cutE s.size n == cutE s.size n) = true := by simp
    generalize cutL s n = L at a1 a2
    generalize cutE s.size n = E at a1 a2 a3 a4 hx
    generalize manOf s n = M at a3 a4 hML
    have A1 := Lib.hid a1
    have A2 := Lib.hid a2
    have A3 := Lib.hid a3
    have A4 := Lib.hid a4
    have HML := Lib.hid hML
    clear a1 a2 a3 a4 hML
    have hcond : (decide ((2000 : Int) < (s.size : Int)) = false) ∨ (decide ((2000 : Int) < (s.size : Int)) = true ∧ decide ((s.size : Int) ≤ (32768 : Int)) = false) := by
      by_cases h : 2000 < s.size
      · right; constructor
        · simp; omega
        · simp; omega
      · left; simp; omega
    clear hs
    rcases hcond with h1 | ⟨h1, h2⟩
    all_goals
      go_enter Tryd.func3, Tryd.ntmps3
      go_wp2_with fail
      refine (A1.out _).mono ?_
      rintro e w1 ⟨v1, rfl, hown1, hb1⟩
      obtain ⟨la, lc, rfl, hrow1, hlm, -⟩ := ownS_rowC hown1
      have HB1 := Lib.hid hb1
      have HR1 := Lib.hid hrow1
      clear hown1 hb1 hrow1
      go_wp2_with fail
      refine (A2.out _).mono ?_
      rintro e w2 ⟨v2, rfl, hown2, hb2⟩
      obtain ⟨ra, rc, rfl, hrow2, -, -⟩ := ownS_rowC hown2
      have HB2 := Lib.hid (HB1.out.trans (hb2.mono HB1.out.size))
      have HR2 := Lib.hid (HR1.out.below hb2)
      have HS2 := Lib.hid hrow2
      clear hown2 hb2 hrow2 HB1 HR1
      have hlm' := hlm
      unfold maxLen at hlm'
      by_cases h60 : 60 < L.length
      · have hd : decide ((60 : Int) < (L.length : Int)) = true := by simp; omega
        clear h60
        go_wp2_with fail
        refine (texts_same la ra lc rc L w2 HR2.out HS2.out hlm).mono ?_
        rintro e w3 ⟨rfl, n3, rfl⟩
        have HB3 := Lib.hid (belowN HB2.out n3)
        generalize w2.drewN n3 = w3 at *
        go_wp2_with fail
        refine (chunkAwake w3 (HT.out.below HB3.out)).mono ?_
        rintro e w4 ⟨rfl, hb4⟩
        have HB4 := Lib.hid (HB3.out.trans (hb4.mono HB3.out.size))
        clear hb4
        go_wp2_with fail
        go_ret
        exact ⟨rfl, HB4.out⟩
      · have hd : decide ((60 : Int) < (L.length : Int)) = false := by simp; omega
        clear h60
        go_wp2_with fail
        refine (A3.out _ (HT.out.below HB2.out)).mono ?_
        rintro e w3 ⟨v3, rfl, hown3, hb3⟩
        obtain ⟨ma, mc, rfl, hrow3, -, -⟩ := ownS_rowC hown3
        have hbA := (Below.refl _ w3).alloc (Nat.le_refl _) (.cells #[.int .i64 M.size, .int .i64 M.chunk, .slice ma M.ids.length mc] 31)
        have hb3A := hb3.trans (hbA.mono hb3.size)
        have HG3 := Lib.hid (MBox.new w3 M (.slice ma M.ids.length mc))
        have HM3 := Lib.hid (hrow3.below hbA)
        have HB3 := Lib.hid (HB2.out.trans (hb3A.mono HB2.out.size))
        have HR3 := Lib.hid (HR2.out.below hb3A)
        have HS3 := Lib.hid (HS2.out.below hb3A)
        clear hown3 hb3 hrow3 hbA hb3A HB2 HR2 HS2
        go_wp2_with fail
        generalize w3.alloc (.cells #[.int .i64 M.size, .int .i64 M.chunk, .slice ma M.ids.length mc] 31) = wa at *
        refine (A4.out wa).mono ?_
        rintro e w4 ⟨v4, rfl, hown4, hb4⟩
        obtain ⟨na, nc, rfl, hrow4, -, -⟩ := ownS_rowC hown4
        have hbA := (Below.refl _ w4).alloc (Nat.le_refl _) (.cells #[.int .i64 M.size, .int .i64 M.chunk, .slice na M.ids.length nc] 31)
        have hb4A := hb4.trans (hbA.mono hb4.size)
        have HN4 := Lib.hid (MBox.new w4 M (.slice na M.ids.length nc))
        have HNR := Lib.hid (hrow4.below hbA)
        have HG4 := Lib.hid (HG3.out.below hb4A HG3.out.lt)
        have HM4 := Lib.hid (HM3.out.below hb4A)
        have HB4 := Lib.hid (HB3.out.trans (hb4A.mono HB3.out.size))
        have HR4 := Lib.hid (HR3.out.below hb4A)
        have HS4 := Lib.hid (HS3.out.below hb4A)
        clear hown4 hb4 hrow4 hbA hb4A HB3 HR3 HS3 HG3 HM3
        go_wp2_with fail
        generalize w4.alloc (.cells #[.int .i64 M.size, .int .i64 M.chunk, .slice na M.ids.length nc] 31) = wb at *
        refine (texts_same la ra lc rc L wb HR4.out HS4.out hlm).mono ?_
        rintro e w5 ⟨rfl, n5, rfl⟩
        have hb5 := belowN (Below.refl wb.heap.size wb) n5
        have HG5 := Lib.hid (HG4.out.below hb5 HG4.out.lt)
        have HN5 := Lib.hid (HN4.out.below hb5 HN4.out.lt)
        have HB5 := Lib.hid (HB4.out.trans (hb5.mono HB4.out.size))
        have HM5 := Lib.hid (HM4.out.below hb5)
        have HNR5 := Lib.hid (HNR.out.below hb5)
        clear hb5 HB4 HR4 HS4 HG4 HM4 HN4 HNR
        generalize wb.drewN n5 = w5 at *
        have g0 := HG5.out.c0
        have g1 := HG5.out.c1
        have g2 := HG5.out.c2
        have k0 := HN5.out.c0
        have k1 := HN5.out.c1
        have k2 := HN5.out.c2
        go_wp2_with fail
        refine (sameR M ma na mc nc w5 HM5.out HNR5.out (by have := HML.out; unfold maxLen; omega)).mono ?_
        rintro e w6 ⟨rfl, hb6⟩
        have HB6 := Lib.hid (HB5.out.trans (hb6.mono HB5.out.size))
        clear hb6 HB5 g0 g1 g2 k0 k1 k2 HG5 HN5
        go_wp2_with fail
        refine (chunkAwake w6 (HT.out.below HB6.out)).mono ?_
        rintro e w7 ⟨rfl, hb7⟩
        have HB7 := Lib.hid (HB6.out.trans (hb7.mono HB6.out.size))
        clear hb7
        go_wp2_with fail
        go_ret
        exact ⟨rfl, HB7.out⟩

theorem cuts_row (a0 : ByteArray) (a1 : Int) (w : World) (w0 : a0.size ≤ maxLen) (_w1 : (Lit.int .i64 a1).wf = true) (hL : laidMetH Tryd.prog Rows.chunkCutsRow.laid w) :
    Calls Tryd.prog 3 #[.string a0, .int .i64 a1] w fun e w' => e = .returned (.bool true) ∧ Below w.heap.size w w' :=
  cuts_law a0 a1 w w0 (tab_of hL (by kernel_rfl) (by kernel_rfl) (.head _))
end Go.Proofs.YtiabbmdgddbgbaaDoor
