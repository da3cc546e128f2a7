/-
  almonrylaw06: files.
-/
import Derived.Test.YtopigchjdegpeaaDoorDiskDo
namespace Go.Proofs.YtopigchjdegpeaaDoor
open Go.RowKit

set_option maxHeartbeats 4000000 in
set_option maxRecDepth 100000 in
theorem files_append {a : Addr} {w0 : World} {D : Nat} {s : DS} {bl : List Nat} {w : World} (h : AW a w0 D s bl w) (p : Option Addr) (c : Nat) (hrow : RowF w p s.l bl) (kd : Int) (nm bd ds : ByteArray) (n : Int) (hk : kd = 0) (hnm : nm.size ≤ 9223372036854775807) (hbd : bd.size ≤ 9223372036854775807) (hds : ds.size ≤ 9223372036854775807) :
    Calls Tryd.prog 28 #[.pointer (some ⟨D, 0, none⟩), rv s p c, .agg #[.int .i64 kd, .string nm, .string bd, .string ds, .int .i64 n]] w (DoPost a w0 D bl p (appendS s nm bd).2 w) := by
  have hfit := h.disk.fit
  have hlt := h.disk.lt
  unfold rv
  have HA := Lib.hid h
  have HROW := Lib.hid hrow
  have H3 := Lib.hid (three_made w (.int .i64 (s.room : Int)) (.slice p s.l.length c) (.bool s.off) (.int .i64 (fz s)) (.int .i64 kd) (.string nm) (.string bd) (.string ds) (.int .i64 n))
  have hb0 : Below w.heap.size w (((w.alloc (.cells #[.int .i64 (s.room : Int), .slice p s.l.length c, .bool s.off, .int .i64 (fz s)] 30)).alloc (.cells #[.int .i64 kd, .string nm, .string bd, .string ds, .int .i64 n] 34)).alloc (.cells #[.int .i64 0, .slice none 0 0, .bool false, .int .i64 0] 30)) := (below2 w _ _).alloc (below2 w _ _).size _
  have HB0 := Lib.hid hb0
  have href := refAppend_any s hfit nm bd hnm hbd p c _ (hrow.1.below hb0)
  unfold RActs rv at href
  obtain ⟨r, hr⟩ : ∃ r, appendS s nm bd = r := ⟨_, rfl⟩
  have HSP := Lib.hid hr
  rw [hr] at href
  have HREF := Lib.hid href
  have HLT := Lib.hid hlt
  clear h hrow hb0 href hlt hr
  subst hk
  go_enter Tryd.func28, Tryd.ntmps28
  go_wp2_with fail
  refine HREF.out.mono ?_
  rintro e w1 ⟨q, cq, rfl, hrow1, hb1, hfar⟩
  obtain ⟨r1, s2⟩ := r
  simp only at hrow1 hfar ⊢
  have HB1 := Lib.hid (HB0.out.trans (hb1.mono HB0.out.size))
  have HF1 := Lib.hid (row_of HROW.out (fun k hk => (HLT.out k hk).2) HB0.out HB0.out.size hrow1 hb1.size hfar)
  have H31 := Lib.hid (H3.out.below hb1)
  have h31 := H31.out
  have hlt1 := h31.lt
  obtain ⟨x0, x1, x2, x3, k0, k1, k2, k3, k4, z0, z1, z2, z3, _, gz⟩ := h31.cells
  have gz0 := gz 0
  have gz1 := gz 1
  have gz2 := gz 2
  have gz3 := gz 3
  have HQN := Lib.hid (fun g off (he : q = some ⟨g, off, none⟩) => (by
    rcases hfar g off he with h | h
    · have he' := he
      rw [h] at he'; have := (HROW.out.2 g off he').2; exact ⟨by omega, .inl h⟩
    · have := h.1; simp at this; exact ⟨by omega, .inr (by omega)⟩ : g ≠ w.heap.size + 2 ∧ (q = p ∨ w.heap.size ≤ g)))
  clear hrow1 hfar hb1 h31 gz HREF H3
  have HBW := Lib.hid (HB1.out.alloc HB1.out.size (.cells #[.int .i64 (s2.room : Int), .slice q s2.l.length cq, .bool s2.off, .int .i64 (fz s2)] 30))
  have HFW := Lib.hid (HF1.out.below (Joins.below_alloc1 w1 (.cells #[.int .i64 (s2.room : Int), .slice q s2.l.length cq, .bool s2.off, .int .i64 (fz s2)] 30)))
  have H3W := Lib.hid (H31.out.below (Joins.below_alloc1 w1 (.cells #[.int .i64 (s2.room : Int), .slice q s2.l.length cq, .bool s2.off, .int .i64 (fz s2)] 30)))
  have hyb := heap_alloc_new w1 (.cells #[.int .i64 (s2.room : Int), .slice q s2.l.length cq, .bool s2.off, .int .i64 (fz s2)] 30)
  have HYB := Lib.hid hyb
  clear hyb
  go_wp2_with fail
  obtain ⟨W, hW⟩ : ∃ W, w1.alloc (.cells #[.int .i64 (s2.room : Int), .slice q s2.l.length cq, .bool s2.off, .int .i64 (fz s2)] 30) = W := ⟨_, rfl⟩
  rw [hW] at HBW HFW H3W HYB ⊢
  clear hW x0 x1 x2 x3 k0 k1 k2 k3 k4 z0 z1 z2 z3 gz0 gz1 gz2 gz3
  have h3w := H3W.out
  have hltW := h3w.lt
  obtain ⟨x0, x1, x2, x3, k0, k1, k2, k3, k4, z0, z1, z2, z3, _, gz⟩ := h3w.cells
  have gz0 := gz 0
  have gz1 := gz 1
  have gz2 := gz 2
  have gz3 := gz 3
  have y0 : W.cell? ⟨w1.heap.size, 0, none⟩ = some (.int .i64 (s2.room : Int)) := by rw [Joins.cell_of_block HYB.out]; rfl
  have y1 : W.cell? ⟨w1.heap.size, 1, none⟩ = some (.slice q s2.l.length cq) := by rw [Joins.cell_of_block HYB.out]; rfl
  have y2 : W.cell? ⟨w1.heap.size, 2, none⟩ = some (.bool s2.off) := by rw [Joins.cell_of_block HYB.out]; rfl
  have y3 : W.cell? ⟨w1.heap.size, 3, none⟩ = some (.int .i64 (fz s2)) := by rw [Joins.cell_of_block HYB.out]; rfl
  clear h3w gz x0 x1 x2 x3
  have hAW : AW a w0 D s bl W.drew := (HA.out.keep HBW.out).keep (Below.refl _ _).drew
  have HCALL := Lib.hid (aAppend hAW nm bd (r1, s2) HSP.out hnm hbd)
  clear hAW
  go_cut [7] (fun v wc => v = .bool true ∧ ∃ bl', AW a w0 D s2 bl' wc ∧ RowF wc q s2.l bl' ∧ Fr bl bl' w wc ∧ wc.heap[w.heap.size + 2]? = some (.cells #[.int .i64 (s2.room : Int), .slice q s2.l.length cq, .bool s2.off, .int .i64 (fz s2)] 30 (0, 0)))
  case first =>
    have HKE := Lib.hid (fun (bl6 : List Nat) (w6 : World) (f6 : Fr bl bl6 W.drew w6) (k : Nat) (hk : w.heap.size ≤ k) (hkl : k < W.heap.size) => (f6.block k hkl (fun hb => by have := (HLT.out k hb).2; omega) : w6.heap[k]? = W.heap[k]?))
    have HNI := Lib.hid (fun (bl6 : List Nat) (w6 : World) (f6 : Fr bl bl6 W.drew w6) => (fun hin => by
      rcases f6.fresh _ hin with h | h
      · have := (HLT.out _ h).2; omega
      · have h' : W.heap.size ≤ w.heap.size + 2 := h
        omega : w.heap.size + 2 ∉ bl6))
    have hyl : w1.heap.size < W.heap.size := lt_of_block HYB.out
    have hyg : w.heap.size ≤ w1.heap.size := HB1.out.size
    have e1 : (r1 == r1) = true := by simp
    have hne1 : w1.heap.size ≠ w.heap.size + 1 + 1 := by omega
    have hne3 : w.heap.size + 1 ≠ w.heap.size + 1 + 1 := by omega
    have HE := Lib.hid (And.intro y0 (And.intro y1 (And.intro y2 (And.intro y3 (And.intro k1 k2)))))
    have HZ := Lib.hid (And.intro z0 (And.intro z1 (And.intro z2 z3)))
    go_region_held3 (fun V => V.cell? ⟨w1.heap.size, 0, none⟩ = some (.int .i64 (s2.room : Int)) ∧ V.cell? ⟨w1.heap.size, 1, none⟩ = some (.slice q s2.l.length cq) ∧ V.cell? ⟨w1.heap.size, 2, none⟩ = some (.bool s2.off) ∧ V.cell? ⟨w1.heap.size, 3, none⟩ = some (.int .i64 (fz s2)) ∧ V.cell? ⟨w.heap.size + 1, 1, none⟩ = some (.string nm) ∧ V.cell? ⟨w.heap.size + 1, 2, none⟩ = some (.string bd)) (first | exact hS6 | exact HE.out | exact ⟨cell_four hS6.1 hne1, cell_four hS6.2.1 hne1, cell_four hS6.2.2.1 hne1, cell_four hS6.2.2.2.1 hne1, cell_four hS6.2.2.2.2.1 hne3, cell_four hS6.2.2.2.2.2 hne3⟩ | go_keep)
      (first
       | ((with_reducible refine HCALL.out.mono ?_); rintro e w6 ⟨bl6, rfl, h6, f6⟩
          have hq1 := HKE.out bl6 w6 f6 w1.heap.size hyg hyl
          have hq2 := HKE.out bl6 w6 f6 (w.heap.size + 1) (by omega) (by omega)
          have hq3 := HKE.out bl6 w6 f6 (w.heap.size + 2) (by omega) (by omega)
          have hS6 := And.intro ((World.cell?_of_block (a := ⟨w1.heap.size, 0, none⟩) hq1).trans HE.out.1) (And.intro ((World.cell?_of_block (a := ⟨w1.heap.size, 1, none⟩) hq1).trans HE.out.2.1) (And.intro ((World.cell?_of_block (a := ⟨w1.heap.size, 2, none⟩) hq1).trans HE.out.2.2.1) (And.intro ((World.cell?_of_block (a := ⟨w1.heap.size, 3, none⟩) hq1).trans HE.out.2.2.2.1) (And.intro ((World.cell?_of_block (a := ⟨w.heap.size + 1, 1, none⟩) hq2).trans HE.out.2.2.2.2.1) ((World.cell?_of_block (a := ⟨w.heap.size + 1, 2, none⟩) hq2).trans HE.out.2.2.2.2.2)))))
          have u0 := (World.cell?_of_block (a := ⟨w.heap.size + 2, 0, none⟩) hq3).trans HZ.out.1
          have u1 := (World.cell?_of_block (a := ⟨w.heap.size + 2, 1, none⟩) hq3).trans HZ.out.2.1
          have u2 := (World.cell?_of_block (a := ⟨w.heap.size + 2, 2, none⟩) hq3).trans HZ.out.2.2.1
          have u3 := (World.cell?_of_block (a := ⟨w.heap.size + 2, 3, none⟩) hq3).trans HZ.out.2.2.2
          have hblk := hq3.trans H3W.out.2.2
          have g0 := Joins.unfrozen_of_block hblk 0
          have g1 := Joins.unfrozen_of_block hblk 1
          have g2 := Joins.unfrozen_of_block hblk 2
          have g3 := Joins.unfrozen_of_block hblk 3
          have H6 := Lib.hid (And.intro h6 (And.intro f6 hblk))
          clear h6 f6 hblk hq1 hq2 hq3)
       | fail)
    all_goals
      go_wp2_with fail
      go_meet
      exact ⟨rfl, _, H6.out.1.turn (fr_four _ _ _ _ _ _) (HNI.out _ _ H6.out.2.1) (by have := HA.out.below.size; omega), (HFW.out.fr (Fr.drews H6.out.2.1)).four (fun g off he => (HQN.out g off he).1) _ _ _ _, ((Fr.of_below HBW.out).trans (Fr.drews H6.out.2.1)).more (fr_four _ _ _ _ _ _) (by omega), four_set H6.out.2.2 _ _ _ _⟩
  case rest =>
    obtain ⟨rfl, bl', hA2, hR2, hF2, hz⟩ := hcut
    have HZ2 := Lib.hid hz
    have HA2 := Lib.hid hA2
    have HF2 := Lib.hid (And.intro hR2 hF2)
    clear hA2 hR2 hF2 hz y0 y1 y2 y3 k0 k1 k2 k3 k4 z0 z1 z2 z3 gz0 gz1 gz2 gz3
    go_wp2_with fail
    (try simp only [Exit.inBlock, Exit.then])
    refine bodyPost_ret (results_D rfl _ _ (w.heap.size + 2) _ _ _ _ _ (0, 0) _ rfl HZ2.out rfl rfl refDInfo) rfl ?_
    rw [HSP.out]
    exact ⟨bl', q, cq, rfl, HA2.out, HF2.out.1, HF2.out.2, fun g off he => (HQN.out g off he).2⟩
end Go.Proofs.YtopigchjdegpeaaDoor
