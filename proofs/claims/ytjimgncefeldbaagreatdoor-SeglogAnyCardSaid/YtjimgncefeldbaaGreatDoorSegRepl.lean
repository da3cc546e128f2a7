/-
  seglog: replace, begin.
-/
import Derived.Test.YtjimgncefeldbaaGreatDoorSegLay2
import Derived.Deep.RegionHeld3
namespace Go.Proofs.YtjimgncefeldbaaGreatDoor
open Go.RowKit Go.Sort

/-- the file of the generation ahead goes, if there is one -/
def AheadS (g : Nat) (s4 s5 : DS) : Prop := (g = 0 ∧ s5 = s4) ∨ (1 ≤ g ∧ dropS s4 (genB g) = (0, s5))

theorem genB_size {g : Nat} (hg : g < 12) : (genB g).size ≤ 1000 := by have := gen_size ⟨g, hg⟩; simp only at this; omega

set_option maxHeartbeats 2000000 in
set_option maxRecDepth 100000 in
theorem replace_any {a : Addr} {B D L g : Nat} {s : DS} {bl : List Nat} {base : ByteArray} {rv : Value} {en : Bool} (w : World) (h : LW a B D s bl L g base rv en w) (body base2 : ByteArray) (ra : Option Addr) (rn rc : Nat) (s4 s5 : DS) (hg : g + 1 < 12)
    (hs : LayS s body (genB (g + 1)) s4) (h5 : AheadS g s4 s5) (hb1 : body.size ≤ 1000000) :
    Calls Tryz.prog 69 #[.pointer (some ⟨L, 0, none⟩), .string body, .string base2, (.slice ra rn rc)] w (Turned a B D L (g + 1) base2 (.slice ra rn rc) en 0 s5 bl w) := by
  have c1 := h.log.c1
  have c2 := h.log.c2
  have c3 := h.log.c3
  have hlt := h.log.lt
  have hbd : Below w.heap.size w w.drew := (Below.refl _ _).drew
  have hly := segLay w.drew (h.keep hbd) body (g + 1) hg s4 hs hb1
  have e1 : ((g + 1 : Nat) : Int) = (g : Int) + 1 := rfl
  have hwr : IntKind.i64.wrap ((g : Int) + 1) = (g : Int) + 1 := by rw [IntKind.wrap_i64]; omega
  rw [e1] at hly
  have HLY := Lib.hid hly
  have H5 := Lib.hid h5
  have HBD := Lib.hid hbd
  clear h hs h5 hly hbd
  go_enter Tryz.func69, Tryz.ntmps69
  go_upto_region 1 with fail
  go_region_held3 (fun U => U.cell? ⟨L, 1, none⟩ = some (.pointer (some ⟨D, 0, none⟩)) ∧ U.cell? ⟨L, 2, none⟩ = some (.string logB) ∧ U.cell? ⟨L, 3, none⟩ = some (.int .i64 (g : Int))) (first | go_keep)
    (first
     | ((with_reducible refine HLY.out.mono ?_); rintro e w2 ⟨bl2, rfl, hl2, hf2'⟩
        have H2 := Lib.hid (show LW a B D s4 bl2 L g base rv en w2 ∧ Fr bl bl2 w w2 from ⟨hl2, (Fr.of_below HBD.out).tr hf2'⟩)
        have d1 := H2.out.1.log.c1
        have d2 := H2.out.1.log.c2
        have d3 := H2.out.1.log.c3
        clear hl2 hf2')
     | fail)
  obtain ⟨hl2, hf2⟩ := H2.out
  clear d1 d2 d3 c1 c2 c3
  have c3 := hl2.log.c3
  have f2 := hl2.log.free 3
  have f3 : (w2.setCell ⟨L, 3, none⟩ (.int .i64 ((g : Int) + 1))).frozen? ⟨L, 4, none⟩ = false := (hl2.log.setGen (g + 1)).free 4
  have k3 := (hl2.log.setGen (g + 1)).c4
  have f4 : ((w2.setCell ⟨L, 3, none⟩ (.int .i64 ((g : Int) + 1))).setCell ⟨L, 4, none⟩ (.string base2)).frozen? ⟨L, 5, none⟩ = false := ((hl2.log.setGen (g + 1)).setBase base2).free 5
  have k4 := ((hl2.log.setGen (g + 1)).setBase base2).c5
  rw [e1] at k3 k4
  have hlF := ((hl2.set 3 (.int .i64 ((g : Int) + 1)) (hl2.log.setGen (g + 1))).set 4 (.string base2) ((hl2.log.setGen (g + 1)).setBase base2)).set 5 (.slice ra rn rc) (((hl2.log.setGen (g + 1)).setBase base2).setRecs (.slice ra rn rc))
  have hfF := ((hf2.cons L).tr (((Fr.sets L bl2 3 (.int .i64 ((g : Int) + 1)) w2).tr (Fr.sets L bl2 4 (.string base2) _)).tr (Fr.sets L bl2 5 (.slice ra rn rc) _)))
  have HF := Lib.hid (And.intro hlF hfF)
  clear hl2 hf2 hlF hfF
  rcases H5.out with ⟨h0, rfl⟩ | ⟨hg1, hdr⟩
  · have hne : ((g : Int) == 0) = true := by simp; omega
    clear h0
    go_wp2_with fail
    go_ret
    exact ⟨bl2, rfl, HF.out⟩
  · have hne : ((g : Int) == 0) = false := by simp; omega
    obtain ⟨w3, hw3⟩ : ∃ w3, ((w2.setCell ⟨L, 3, none⟩ (.int .i64 ((g : Int) + 1))).setCell ⟨L, 4, none⟩ (.string base2)).setCell ⟨L, 5, none⟩ (.slice ra rn rc) = w3 := ⟨_, rfl⟩
    rw [hw3] at HF
    have d1 := HF.out.1.log.c1
    have d2 := HF.out.1.log.c2
    have dlt := HF.out.1.log.lt
    have hbd3 : Below w3.heap.size w3 w3.drew := (Below.refl _ _).drew
    have hld := HF.out.1.keep hbd3
    have HFL := Lib.hid (segFile D g (by omega) w3.drew hld.sw.tab (by have := hld.sw.size; have := hld.sw.g2; omega))
    have HDR := Lib.hid hdr
    have HBD3 := Lib.hid hbd3
    clear hdr hld hbd3
    go_upto_region 9 with fail
    go_region_held3 (fun U => U.cell? ⟨L, 1, none⟩ = some (.pointer (some ⟨D, 0, none⟩)) ∧ U.cell? ⟨L, 2, none⟩ = some (.string logB)) (first | go_keep)
      (first
       | ((with_reducible refine HFL.out.mono ?_); rintro e w4 ⟨rfl, hb4'⟩
          have hb4 : Below w3.heap.size w3 w4 := HBD3.out.trans hb4'
          have H4 := Lib.hid (HF.out.1.keep hb4)
          have HF4 := Lib.hid (HF.out.2.tr (Fr.of_below hb4))
          have HDP := Lib.hid (segDrop w4 H4.out (genB g) s5 HDR.out)
          have e3 := H4.out.log.c1
          have e4 := H4.out.log.c2
          clear hb4 hb4')
       | ((with_reducible refine HDP.out.mono ?_); rintro e w5 ⟨bl5, rfl, hl5, hf5⟩
          have H6 := Lib.hid (And.intro hl5 (HF4.out.tr (hf5.cons L)))
          have e5 := H6.out.1.log.c1
          have e6 := H6.out.1.log.c2
          clear hl5 hf5)
       | fail)
    all_goals
      go_wp2_with fail
      go_ret
      exact ⟨bl5, rfl, H6.out⟩

set_option maxHeartbeats 2000000 in
set_option maxRecDepth 100000 in
theorem begin_any {a : Addr} {B D L : Nat} {s : DS} {bl : List Nat} {base : ByteArray} {rv : Value} {en : Bool} (w : World) (h : LW a B D s bl L 0 base rv en w) (s4 : DS)
    (hs : LayS s (recB ⟨#[]⟩) (genB 1) s4) :
    Calls Tryz.prog 84 #[.pointer (some ⟨L, 0, none⟩)] w (Turned a B D L 1 ⟨#[]⟩ (.slice none 0 0) en 0 s4 bl w) := by
  have hp := fputC ⟨#[]⟩ (by decide) w
  have hsz : (recB ⟨#[]⟩).size ≤ 1000000 := by
    have h1 : (encT ⟨#[]⟩).length ≤ 65546 := encT_len ⟨#[]⟩ (by decide)
    show (recF ⟨#[]⟩).length ≤ _
    unfold recF
    rw [List.length_append, sumF_len]
    have : (ByteArray.mk #[]).size = 0 := rfl
    omega
  have HL := Lib.hid h
  have hlt := h.log.lt
  clear h
  go_enter Tryz.func84, Tryz.ntmps84
  go_wp2_with fail
  refine hp.mono ?_
  rintro e w1 ⟨rfl, hb⟩
  have hr := replace_any w1 (HL.out.keep hb) (recB ⟨#[]⟩) ⟨#[]⟩ none 0 0 s4 s4 (by decide) hs (.inl ⟨rfl, rfl⟩) hsz
  have HB := Lib.hid hb
  clear hp hb
  generalize recB ⟨#[]⟩ = R at *
  go_wp2_with fail
  refine hr.mono ?_
  rintro e w2 ⟨bl2, rfl, hl2, hf2⟩
  have H2 := Lib.hid (And.intro hl2 ((Fr.of_below HB.out).tr hf2))
  clear hl2 hf2 hr
  go_wp2_with fail
  go_ret
  exact ⟨bl2, rfl, H2.out⟩
end Go.Proofs.YtjimgncefeldbaaGreatDoor
