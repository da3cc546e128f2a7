/-
  Manifest, the document's.
-/
import Derived.Test.YtiabbmdgddbgbaaDoorGChunkB
import Derived.Test.YtiabbmdgddbgbaaDoorGWireB
namespace Go.Proofs.YtiabbmdgddbgbaaDoor
open Go.RowKit Go.Sort

attribute [-go_sem] Builtin.append_

theorem ownS_rowM {B : Nat} {v : Value} {ss : List ByteArray} {w : World} (h : OwnS B v ss w) : ∃ a cap, v = .slice a ss.length cap ∧ StrRow w a ss ∧ ss.length ≤ maxLen := ownS_row h

theorem part_size {s : ByteArray} {n : Nat} (hn : n ≤ 4096) : ∀ x ∈ parts s n, x.size ≤ 5000 := fun x hx => by
  unfold parts at hx
  obtain ⟨k, _, rfl⟩ := List.mem_map.1 hx
  have := piece_size_le s n k
  omega

theorem below_put3 {B G : Nat} {w W : World} (h : Below B w W) (hG : B ≤ G) (x y z : Value) : Below B w (((W.setCell ⟨G, 0, none⟩ x).setCell ⟨G, 1, none⟩ y).setCell ⟨G, 2, none⟩ z) :=
  ((h.setCell (p := ⟨G, 0, none⟩) hG _).setCell (p := ⟨G, 1, none⟩) hG _).setCell (p := ⟨G, 2, none⟩) hG _
theorem row_put3 {W : World} {base e size k G : Nat} {v : Value} {xs : List Value} (h : W.ownsRow base e size v k xs) (hG : G < base) (x y z : Value) : (((W.setCell ⟨G, 0, none⟩ x).setCell ⟨G, 1, none⟩ y).setCell ⟨G, 2, none⟩ z).ownsRow base e size v k xs := by
  have ho : some G ≠ v.ownBlock := fun e => by have := (World.ownsRow.lt h _ e.symm).1; omega
  exact ((h.kept (grownBy_setCell W G 0 _) (.inr ho.symm)).kept (grownBy_setCell _ G 1 _) (.inr ho.symm)).kept (grownBy_setCell _ G 2 _) (.inr ho.symm)

set_option maxHeartbeats 4000000 in
set_option maxRecDepth 100000 in
/-- Manifest, the document's -/
theorem manR (s : ByteArray) (n : Int) (w : World) :
    Calls Tryd.prog 12 #[.string s, .int .i64 n] w fun e w' => ∃ v, e = .returned (.tuple #[mv (manOf s n) v, .int .i64 (cutE s.size n)]) ∧ OwnS w.heap.size v (manOf s n).ids w' ∧ Below w.heap.size w w' := by
  obtain ⟨i0, hi, hz0, hz1, hz2⟩ := info_parts strInfo
  have r0 := MBox.new w ⟨0, 0, []⟩ (.slice none 0 0)
  have hbw : Below w.heap.size w (w.alloc (.cells #[.int .i64 0, .int .i64 0, .slice none 0 0] 31)) := (Below.refl _ w).alloc (Nat.le_refl _) _
  have hlt0 := r0.lt
  have hc := cutR s n (w.alloc (.cells #[.int .i64 0, .int .i64 0, .slice none 0 0] 31))
  simp only at r0
  by_cases h : cutE s.size n = 0
  case neg =>
    have hl : manOf s n = ⟨0, 0, []⟩ := by unfold manOf; rw [if_neg h]
    rw [hl]
    have hne : (cutE s.size n != 0) = true := by simp [h]
    generalize cutE s.size n = E at hc hne ⊢
    have R0 := Lib.hid r0
    have HB := Lib.hid hbw
    clear h hl r0 hbw
    go_enter Tryd.func12, Tryd.ntmps12
    go_wp2_with fail
    refine hc.mono ?_
    rintro e w1 ⟨v, rfl, hown, hb1⟩
    have r1 := R0.out.below hb1 hlt0
    have HB1 := Lib.hid (HB.out.trans (hb1.mono HB.out.size))
    have c0 := r1.c0
    have c1 := r1.c1
    have c2 := r1.c2
    have f0 := r1.free 0
    have f1 := r1.free 1
    have f2 := r1.free 2
    have hput := Lib.hid (r1.put ⟨0, 0, []⟩ (.slice none 0 0))
    clear hb1 r1 hown
    go_wp2_with fail
    refine bodyPost_ret (results_man rfl _ _ w.heap.size 31 _ _ _ (0, 0) _ rfl hput.out Tryd.underlying31 rfl manInfo) rfl ?_
    exact ⟨_, rfl, ownS_nil _ _, below_put3 HB1.out (Nat.le_refl _) _ _ _⟩
  case pos =>
    obtain ⟨m, rfl, h1, h2, h3, h4⟩ := cutE_ok h
    have hl : manOf s (m : Int) = ⟨s.size, m, (parts s m).map idS⟩ := by unfold manOf; rw [if_pos h, Int.toNat_natCast]
    have hcl : cutL s (m : Int) = parts s m := by unfold cutL; rw [if_pos h, Int.toNat_natCast]
    rw [h, hl]
    rw [h, hcl] at hc
    have hps := part_size (s := s) h2
    have hpl : (parts s m).length ≤ 4096 := by rw [parts_length]; exact h4
    generalize parts s m = L at hc hps hpl ⊢
    have R0 := Lib.hid r0
    have HB := Lib.hid hbw
    clear h hl hcl r0 hbw h1 h2 h4
    go_enter Tryd.func12, Tryd.ntmps12
    go_wp2_with fail
    refine hc.mono ?_
    rintro e w1 ⟨v, rfl, hown, hb1⟩
    obtain ⟨la, lc, rfl, hrow, hlm⟩ := ownS_rowM hown
    have r1 := R0.out.below hb1 hlt0
    have HB1 := Lib.hid (HB.out.trans (hb1.mono HB.out.size))
    have hg := MBox.new w1 ⟨s.size, m, []⟩ (.slice none 0 0)
    have hrow2 := hrow.below ((Below.refl _ w1).alloc (Nat.le_refl _) (.cells #[.int .i64 s.size, .int .i64 m, .slice none 0 0] 31))
    have R1 := Lib.hid r1
    have HR1 := Lib.hid hrow
    have HG := Lib.hid hg
    have hs1 := HB1.out.size
    have hlt1 := r1.lt
    clear hb1 r1 hown hrow hrow2 hg R0 HB
    go_wp2_with fail
    go_loopw [9] (fun i wr => ∃ (k : Nat) (v : Value), i = .int .i64 k ∧ k ≤ L.length ∧ MBox wr w1.heap.size ⟨s.size, m, []⟩ v ∧ wr.ownsRow (w1.heap.size + 1) 9 1 v k (((L.take k).map idS).map Value.string) ∧ Below w1.heap.size w1 wr) (fun i _ => L.length - (intOf i).toNat)
    case atStart => exact ⟨0, .slice none 0 0, rfl, Nat.zero_le _, HG.out, World.ownsRow_nil _ _ _ _, (Below.refl _ w1).alloc (Nat.le_refl _) _⟩
    case round =>
      obtain ⟨k, v, rfl, hk, hv, hown, hb⟩ := hrel
      have hWs := hb.size
      have hvl := hv.lt
      by_cases hlt : k < L.length
      · obtain ⟨b, off, rfl, hbl, hcc⟩ := str_at (HR1.out.below hb) hlt
        have hls := hps _ (getD_mem hlt)
        have htk := take_succ' L hlt
        have hrl := World.ownsRow.lt hown
        generalize L.getD k ByteArray.empty = x at *
        have cI := idR x wr.drew hls
        have c2 := hv.c2
        have f2 := hv.free 2
        have HBR := Lib.hid hb
        have HV := Lib.hid hv
        have HO := Lib.hid hown
        have HTK := Lib.hid htk
        have HCI := Lib.hid cI
        clear hb hv hown htk cI
        go_wp2_with fail
        go_region_with (go_at_call 28; refine HCI.out.mono ?_; rintro e w2 ⟨rfl, hb2⟩; have hb2' : Below wr.heap.size wr w2 := undrew hb2; clear hb2; have hv2 : MBox w2 w1.heap.size ⟨s.size, m, []⟩ v := HV.out.below hb2' hvl; have c2' := hv2.c2; have c2a := (hv2.alloc (.cells #[.string (idS x)] 9)).c2; have hrow2 := row_below HO.out hb2'; obtain ⟨v', w3, hrun, hown3, hg3, _⟩ := run_append_own (P := Tryd.prog) (w2.alloc (.cells #[.string (idS x)] 9)) (w1.heap.size + 1) 23 23 9 i0 (.string ByteArray.empty) 1 16 Tryd.underlying23 hi hz0 hz1 hz2 rfl (by decide) v k _ (hrow2.alloc _) ⟨w2.heap.size, 0, none⟩ 1 1 [.string (idS x)] rfl (cell_one_new _ _ _) (by simp [Value.oneCell']) (by unfold maxLen; omega) (by omega) (by have := hb2'.size; simp; omega); obtain ⟨g', cap', rfl⟩ := ownsRow_succ hown3; have hv3 : MBox w3 w1.heap.size ⟨s.size, m, []⟩ v := (hv2.alloc _).kept hg3 (fun e => by have := (hrl _ e.symm).1; omega); have hc3 := hv3.c2; have hf3 := hv3.free 2)
        all_goals
          have hg' : w1.heap.size + 1 ≤ g' := (World.ownsRow.lt hown3 g' rfl).1
          have hz2' := hb2'.size
          have hN1 : MBox (w3.setCell ⟨w1.heap.size, 2, none⟩ (.slice (some ⟨g', 0, none⟩) (k + 1) cap')) w1.heap.size ⟨s.size, m, []⟩ (.slice (some ⟨g', 0, none⟩) (k + 1) cap') := hv3.set _
          have hN2 : (w3.setCell ⟨w1.heap.size, 2, none⟩ (.slice (some ⟨g', 0, none⟩) (k + 1) cap')).ownsRow (w1.heap.size + 1) 9 1 (.slice (some ⟨g', 0, none⟩) (k + 1) cap') (k + 1) (((L.take (k + 1)).map idS).map Value.string) := by
            rw [HTK.out, List.map_append, List.map_append]
            exact hown3.kept (grownBy_setCell w3 w1.heap.size 2 _) (.inr (fun e => by have : g' = w1.heap.size := Option.some.inj e; omega))
          have hN3 : Below w1.heap.size w1 (w3.setCell ⟨w1.heap.size, 2, none⟩ (.slice (some ⟨g', 0, none⟩) (k + 1) cap')) :=
            (((HBR.out.trans (hb2'.mono hWs)).alloc (by omega) _).grown hg3 (by simp; omega) (fun j ej => by have := (hrl _ ej).1; omega)).setCell (p := ⟨w1.heap.size, 2, none⟩) (Nat.le_refl _) _
          have HN := Lib.hid (And.intro hN1 (And.intro hN2 hN3))
          clear hN1 hN2 hN3 hown3 hg3 hrun hrow2 hv2 hv3 c2' c2a hc3 hf3 hb2'
          go_wp2_with fail
          exact ⟨⟨k + 1, _, by go_num, by omega, HN.out.1, HN.out.2.1, HN.out.2.2⟩, by simp [intOf]; omega⟩
      · obtain rfl : k = L.length := by omega
        rw [List.take_length] at hown
        obtain ⟨av, cv, rfl⟩ := row_form hown
        have d0 := hv.c0
        have d1 := hv.c1
        have d2 := hv.c2
        have hr := R1.out.below hb hlt1
        have hr0 := hr.c0
        have hr1 := hr.c1
        have hr2 := hr.c2
        have hf0 := hr.free 0
        have hf1 := hr.free 1
        have hf2 := hr.free 2
        have HP := Lib.hid (hr.put ⟨s.size, m, []⟩ (.slice av L.length cv))
        have HRW := Lib.hid (row_put3 hown (G := w.heap.size) (by omega) (.int .i64 s.size) (.int .i64 m) (.slice av L.length cv))
        have HBF := Lib.hid (below_put3 (HB1.out.trans (hb.mono hs1)) (Nat.le_refl _) (.int .i64 s.size) (.int .i64 m) (.slice av L.length cv))
        clear hv hown hr hb
        go_wp2_with fail
        refine bodyPost_ret (results_man rfl _ _ w.heap.size 31 _ _ _ (0, 0) _ rfl HP.out Tryd.underlying31 rfl manInfo) rfl ?_
        refine ⟨_, rfl, ?_, HBF.out⟩
        have hr' := HRW.out
        unfold OwnS
        rw [List.length_map]
        exact row_mono hr' (by omega)
end Go.Proofs.YtiabbmdgddbgbaaDoor
