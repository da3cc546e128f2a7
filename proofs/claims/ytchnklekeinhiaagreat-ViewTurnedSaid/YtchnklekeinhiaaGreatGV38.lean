/-
  Manifest, the document's.
  What a manifest without fault is like.
  almonryref01's Num, Text and List: what each call answers.
  A manifest as bytes; the document's Put.
-/
import Derived.Test.YtchnklekeinhiaaGreatGV37
import Derived.Test.YtchnklekeinhiaaGreatGV07
import Derived.Test.YtchnklekeinhiaaGreatGV04
import Derived.Test.YtchnklekeinhiaaGreatGV26
import Derived.Test.YtchnklekeinhiaaGreatGV01
namespace Go.Proofs.YtchnklekeinhiaaGreat
open Go.RowKit Go.Sort

attribute [-go_sem] Builtin.append_

theorem ownS_rowM {B : Nat} {v : Value} {ss : List ByteArray} {w : World} (h : OwnS B v ss w) : ∃ a cap, v = .slice a ss.length cap ∧ StrRow w a ss ∧ ss.length ≤ maxLen := ownS_row h

theorem take_succM (l : List ByteArray) {k : Nat} (hk : k < l.length) : l.take (k + 1) = l.take k ++ [l.getD k ByteArray.empty] := by
  rw [List.take_succ_eq_append_getElem hk, List.getD_eq_getElem?_getD, List.getElem?_eq_getElem hk]; rfl
theorem getD_memM {l : List ByteArray} {k : Nat} (h : k < l.length) : l.getD k ByteArray.empty ∈ l := by
  rw [List.getD_eq_getElem?_getD, List.getElem?_eq_getElem h]
  exact List.getElem_mem h
theorem part_size {s : ByteArray} {n : Nat} (hn : n ≤ 4096) : ∀ x ∈ parts s n, x.size ≤ 5000 := fun x hx => by
  unfold parts at hx
  obtain ⟨k, _, rfl⟩ := List.mem_map.1 hx
  have := piece_size_le s n k
  omega

set_option maxHeartbeats 4000000 in
set_option maxRecDepth 100000 in
/-- Manifest, the document's -/
theorem manR (s : ByteArray) (n : Int) (w : World) :
    Calls Tryz.prog 18 #[.string s, .int .i64 n] w fun e w' => ∃ v, e = .returned (.tuple #[mv (manOf s n) v, .int .i64 (cutE s.size n)]) ∧ OwnS w.heap.size v (manOf s n).ids w' ∧ Below w.heap.size w w' := by
  obtain ⟨i0, hi, hz0, hz1, hz2⟩ := info_parts strInfo
  have r0 := MBox.new w ⟨0, 0, []⟩ (.slice none 0 0)
  have hbw : Below w.heap.size w (w.alloc (.cells #[.int .i64 0, .int .i64 0, .slice none 0 0] 27)) := (Below.refl _ w).alloc (Nat.le_refl _) _
  have hlt0 := r0.lt
  have hc := cutR s n (w.alloc (.cells #[.int .i64 0, .int .i64 0, .slice none 0 0] 27))
  simp only at r0
  by_cases h : cutE s.size n = 0
  case neg =>
    have hl : manOf s n = ⟨0, 0, []⟩ := by unfold manOf; rw [if_neg h]
    rw [hl]
    have hne : (cutE s.size n != 0) = true := by simp [h]
    generalize cutE s.size n = E at hc hne ⊢
    have R0 := Lib.hid r0
    have HB := Lib.hid hbw
    clear h hl r0 hbw
    go_enter Tryz.func18, Tryz.ntmps18
    go_wp2_with fail
    refine hc.mono ?_
    rintro e w1 ⟨v, rfl, hown, hb1⟩
    have r1 := R0.out.below hb1 hlt0
    have HB1 := Lib.hid (HB.out.trans (hb1.mono HB.out.size))
    have c0 := r1.c0
    have c1 := r1.c1
    have c2 := r1.c2
    have f0 := r1.free 0
    have f1 := r1.free 1
    have f2 := r1.free 2
    have hput := Lib.hid (r1.put ⟨0, 0, []⟩ (.slice none 0 0))
    clear hb1 r1 hown
    go_wp2_with fail
    refine bodyPost_ret (results_man rfl _ _ w.heap.size 27 _ _ _ (0, 0) _ rfl hput.out Tryz.underlying27 rfl manInfo) rfl ?_
    exact ⟨_, rfl, ownS_nil _ _, below_put3 HB1.out (Nat.le_refl _) _ _ _⟩
  case pos =>
    obtain ⟨m, rfl, h1, h2, h3, h4⟩ := cutE_ok h
    have hl : manOf s (m : Int) = ⟨s.size, m, (parts s m).map idS⟩ := by unfold manOf; rw [if_pos h, Int.toNat_natCast]
    have hcl : cutL s (m : Int) = parts s m := by unfold cutL; rw [if_pos h, Int.toNat_natCast]
    rw [h, hl]
    rw [h, hcl] at hc
    have hps := part_size (s := s) h2
    have hpl : (parts s m).length ≤ 4096 := by rw [parts_length]; exact h4
    generalize parts s m = L at hc hps hpl ⊢
    have R0 := Lib.hid r0
    have HB := Lib.hid hbw
    clear h hl hcl r0 hbw h1 h2 h4
    go_enter Tryz.func18, Tryz.ntmps18
    go_wp2_with fail
    refine hc.mono ?_
    rintro e w1 ⟨v, rfl, hown, hb1⟩
    obtain ⟨la, lc, rfl, hrow, hlm⟩ := ownS_rowM hown
    have r1 := R0.out.below hb1 hlt0
    have HB1 := Lib.hid (HB.out.trans (hb1.mono HB.out.size))
    have hg := MBox.new w1 ⟨s.size, m, []⟩ (.slice none 0 0)
    have hrow2 := hrow.below ((Below.refl _ w1).alloc (Nat.le_refl _) (.cells #[.int .i64 s.size, .int .i64 m, .slice none 0 0] 27))
    have R1 := Lib.hid r1
    have HR1 := Lib.hid hrow
    have HG := Lib.hid hg
    have hs1 := HB1.out.size
    have hlt1 := r1.lt
    clear hb1 r1 hown hrow hrow2 hg R0 HB
    go_wp2_with fail
    go_loopw [9] (fun i wr => ∃ (k : Nat) (v : Value), i = .int .i64 k ∧ k ≤ L.length ∧ MBox wr w1.heap.size ⟨s.size, m, []⟩ v ∧ wr.ownsRow (w1.heap.size + 1) 9 1 v k (((L.take k).map idS).map Value.string) ∧ Below w1.heap.size w1 wr) (fun i _ => L.length - (intOf i).toNat)
    case atStart => exact ⟨0, .slice none 0 0, rfl, Nat.zero_le _, HG.out, World.ownsRow_nil _ _ _ _, (Below.refl _ w1).alloc (Nat.le_refl _) _⟩
    case round =>
      obtain ⟨k, v, rfl, hk, hv, hown, hb⟩ := hrel
      have hWs := hb.size
      have hvl := hv.lt
      by_cases hlt : k < L.length
      · obtain ⟨b, off, rfl, hbl, hcc⟩ := str_at (HR1.out.below hb) hlt
        have hls := hps _ (getD_memM hlt)
        have htk := take_succM L hlt
        have hrl := World.ownsRow.lt hown
        generalize L.getD k ByteArray.empty = x at *
        have cI := idR x wr.drew hls
        have c2 := hv.c2
        have f2 := hv.free 2
        have HBR := Lib.hid hb
        have HV := Lib.hid hv
        have HO := Lib.hid hown
        have HTK := Lib.hid htk
        have HCI := Lib.hid cI
        clear hb hv hown htk cI
        go_wp2_with fail
        go_region_with (go_at_call 47; refine HCI.out.mono ?_; rintro e w2 ⟨rfl, hb2⟩; have hb2' : Below wr.heap.size wr w2 := undrew hb2; clear hb2; have hv2 : MBox w2 w1.heap.size ⟨s.size, m, []⟩ v := HV.out.below hb2' hvl; have c2' := hv2.c2; have c2a := (hv2.alloc (.cells #[.string (idS x)] 9)).c2; have hrow2 := row_below HO.out hb2'; obtain ⟨v', w3, hrun, hown3, hg3, _⟩ := run_append_own (P := Tryz.prog) (w2.alloc (.cells #[.string (idS x)] 9)) (w1.heap.size + 1) 25 25 9 i0 (.string ByteArray.empty) 1 16 Tryz.underlying25 hi hz0 hz1 hz2 rfl (by decide) v k _ (hrow2.alloc _) ⟨w2.heap.size, 0, none⟩ 1 1 [.string (idS x)] rfl (cell_one_new _ _ _) (by simp [Value.oneCell']) (by unfold maxLen; omega) (by omega) (by have := hb2'.size; simp; omega); obtain ⟨g', cap', rfl⟩ := ownsRow_succ hown3; have hv3 : MBox w3 w1.heap.size ⟨s.size, m, []⟩ v := (hv2.alloc _).kept hg3 (fun e => by have := (hrl _ e.symm).1; omega); have hc3 := hv3.c2; have hf3 := hv3.free 2)
        all_goals
          have hg' : w1.heap.size + 1 ≤ g' := (World.ownsRow.lt hown3 g' rfl).1
          have hz2' := hb2'.size
          have hN1 : MBox (w3.setCell ⟨w1.heap.size, 2, none⟩ (.slice (some ⟨g', 0, none⟩) (k + 1) cap')) w1.heap.size ⟨s.size, m, []⟩ (.slice (some ⟨g', 0, none⟩) (k + 1) cap') := hv3.set _
          have hN2 : (w3.setCell ⟨w1.heap.size, 2, none⟩ (.slice (some ⟨g', 0, none⟩) (k + 1) cap')).ownsRow (w1.heap.size + 1) 9 1 (.slice (some ⟨g', 0, none⟩) (k + 1) cap') (k + 1) (((L.take (k + 1)).map idS).map Value.string) := by
            rw [HTK.out, List.map_append, List.map_append]
            exact hown3.kept (grownBy_setCell w3 w1.heap.size 2 _) (.inr (fun e => by have : g' = w1.heap.size := Option.some.inj e; omega))
          have hN3 : Below w1.heap.size w1 (w3.setCell ⟨w1.heap.size, 2, none⟩ (.slice (some ⟨g', 0, none⟩) (k + 1) cap')) :=
            (((HBR.out.trans (hb2'.mono hWs)).alloc (by omega) _).grown hg3 (by simp; omega) (fun j ej => by have := (hrl _ ej).1; omega)).setCell (p := ⟨w1.heap.size, 2, none⟩) (Nat.le_refl _) _
          have HN := Lib.hid (And.intro hN1 (And.intro hN2 hN3))
          clear hN1 hN2 hN3 hown3 hg3 hrun hrow2 hv2 hv3 c2' c2a hc3 hf3 hb2'
          go_wp2_with fail
          exact ⟨⟨k + 1, _, by go_num, by omega, HN.out.1, HN.out.2.1, HN.out.2.2⟩, by simp [intOf]; omega⟩
      · obtain rfl : k = L.length := by omega
        rw [List.take_length] at hown
        obtain ⟨av, cv, rfl⟩ := row_form hown
        have d0 := hv.c0
        have d1 := hv.c1
        have d2 := hv.c2
        have hr := R1.out.below hb hlt1
        have hr0 := hr.c0
        have hr1 := hr.c1
        have hr2 := hr.c2
        have hf0 := hr.free 0
        have hf1 := hr.free 1
        have hf2 := hr.free 2
        have HP := Lib.hid (hr.put ⟨s.size, m, []⟩ (.slice av L.length cv))
        have HRW := Lib.hid (row_put3 hown (G := w.heap.size) (by omega) (.int .i64 s.size) (.int .i64 m) (.slice av L.length cv))
        have HBF := Lib.hid (below_put3 (HB1.out.trans (hb.mono hs1)) (Nat.le_refl _) (.int .i64 s.size) (.int .i64 m) (.slice av L.length cv))
        clear hv hown hr hb
        go_wp2_with fail
        refine bodyPost_ret (results_man rfl _ _ w.heap.size 27 _ _ _ (0, 0) _ rfl HP.out Tryz.underlying27 rfl manInfo) rfl ?_
        refine ⟨_, rfl, ?_, HBF.out⟩
        have hr' := HRW.out
        unfold OwnS
        rw [List.length_map]
        exact row_mono hr' (by omega)
end Go.Proofs.YtchnklekeinhiaaGreat

namespace Go.Proofs.YtchnklekeinhiaaGreat
open Go.RowKit Go.Sort

theorem manE_ok {m : Man} (h : manE m = 0) : 0 ≤ m.size ∧ m.size ≤ 32768 ∧ m.ids.length ≤ 4096 ∧ 1 ≤ m.chunk ∧ m.chunk ≤ 4096 ∧ (∀ s ∈ m.ids, ckE s = 0) ∧ m.ids.length = nP m.size.toNat m.chunk.toNat := by
  unfold manE at h
  split at h
  · cases h
  · rename_i h1
    split at h
    · cases h
    · rename_i h2
      split at h
      · cases h
      · rename_i h3
        have hc : 1 ≤ m.chunk ∧ m.chunk ≤ 4096 := Classical.byContradiction fun hc => h1 (.inl hc)
        exact ⟨by omega, by omega, by omega, hc.1, hc.2, Classical.byContradiction fun hc => h2 (.inr hc), Classical.byContradiction fun hc => h2 (.inl hc)⟩
end Go.Proofs.YtchnklekeinhiaaGreat

namespace Go.Proofs.YtchnklekeinhiaaGreat
open Go.RowKit

/-- 'string([]byte{c})' of a row that has just been made. -/
theorem one_string {w : World} {c : Nat} (hc : c < 256) : (convert 107 9 (.slice (some ⟨w.heap.size, 0, none⟩) 1 1)).run Tryz.prog (w.alloc (.cells #[.int .u8 (c : Int)] 5)) = .ok (.string ⟨#[c.toUInt8]⟩) (w.alloc (.cells #[.int .u8 (c : Int)] 5)) := by
  have h : (w.alloc (.cells #[.int .u8 (c : Int)] 5)).ownsRow 0 5 1 (.slice (some ⟨w.heap.size, 0, none⟩) 1 1) [c.toUInt8].length (Lib.byteCells [c.toUInt8]) := by
    refine ⟨rfl, .inr ⟨w.heap.size, 1, #[.int .u8 (c : Int)], rfl, Nat.zero_le _, ?_, Nat.le_refl _, by simp [maxLen], rfl, ?_⟩⟩
    · simp [World.alloc, -World.alloc_eq]
    · simp [Lib.byteCells, Lib.toUInt8_toNat hc]
  exact own_string (l := [c.toUInt8]) Tryz.underlying107 Tryz.underlying5 Tryz.underlying9 h

theorem append_str (a b : List UInt8) : (⟨a.toArray⟩ : ByteArray) ++ ⟨b.toArray⟩ = ⟨(a ++ b).toArray⟩ := by
  rw [ByteArray.mk_append_mk]

set_option maxHeartbeats 1000000 in
set_option maxRecDepth 100000 in
theorem refnum_ok (x : Nat) (hx : x ≤ 9007199254740992) (w : World) :
    Calls Tryz.prog 44 #[.int .i64 x] w fun e w' => e = .returned (.tuple #[.string ⟨(Lib.uvarint x).toArray⟩, .int .i64 0]) ∧ Below w.heap.size w w' := by
  have hlen := Lib.uvarint_length64 (x := x) (by omega)
  go_enter Tryz.func44, Tryz.ntmps44
  go_wp2
  go_loopw [0, 4] (fun n s wr => ∃ (y : Nat) (pre : List UInt8), n = .int .i64 y ∧ s = .string ⟨pre.toArray⟩ ∧ y ≤ x ∧ Lib.uvarint x = pre ++ Lib.uvarint y ∧ Below w.heap.size w wr) (fun n _ _ => (intOf n).toNat)
  case atStart => exact ⟨x, [], rfl, rfl, Nat.le_refl _, rfl, Below.refl _ _⟩
  case round =>
    obtain ⟨y, pre, rfl, rfl, hy, hsplit, hb⟩ := hrel
    have hsum : pre.length + (Lib.uvarint y).length ≤ 10 := by have h2 := congrArg List.length hsplit; rw [List.length_append] at h2; omega
    have hpos := Lib.uvarint_pos y
    have hB := hb.size
    have HS := Lib.hid hsplit
    clear hsplit
    by_cases h128 : 128 ≤ y
    · have hadd := run_string_add_sum (P := Tryz.prog) (w := wr.alloc (.cells #[.int .u8 ((y : Int) % 128 + 128)] 5)) ⟨pre.toArray⟩ ⟨[(y % 128 + 128).toUInt8].toArray⟩ (by have h1 : (ByteArray.mk pre.toArray).size = pre.length := rfl; have h2 : (ByteArray.mk [(y % 128 + 128).toUInt8].toArray).size = 1 := rfl; omega)
      rw [append_str] at hadd
      have hcv := one_string (w := wr) (c := y % 128 + 128) (by omega)
      have hcast : (((y % 128 + 128 : Nat)) : Int) = (y : Int) % 128 + 128 := by omega
      rw [hcast] at hcv
      have hcl : (⟨#[(y % 128 + 128).toUInt8]⟩ : ByteArray) = ⟨[(y % 128 + 128).toUInt8].toArray⟩ := rfl
      rw [hcl] at hcv
      clear hcast hcl
      generalize (⟨[(y % 128 + 128).toUInt8].toArray⟩ : ByteArray) = piece at hadd hcv
      generalize hnx : (⟨(pre ++ [(y % 128 + 128).toUInt8]).toArray⟩ : ByteArray) = nx at hadd
      have HN := Lib.hid hnx
      clear hnx
      go_wp2
      go_roundw
      case rel => exact ⟨y / 128, pre ++ [(y % 128 + 128).toUInt8], by go_num, by rw [HN.out], by omega, by rw [HS.out, Lib.uvarint_big h128]; simp, hb.alloc hB _⟩
      case measure => simp [intOf]; omega
    · have hadd := run_string_add_sum (P := Tryz.prog) (w := wr.alloc (.cells #[.int .u8 (y : Int)] 5)) ⟨pre.toArray⟩ ⟨[y.toUInt8].toArray⟩ (by have h1 : (ByteArray.mk pre.toArray).size = pre.length := rfl; have h2 : (ByteArray.mk [y.toUInt8].toArray).size = 1 := rfl; omega)
      rw [append_str] at hadd
      have hcv := one_string (w := wr) (c := y) (by omega)
      have hcl : (⟨#[y.toUInt8]⟩ : ByteArray) = ⟨[y.toUInt8].toArray⟩ := rfl
      rw [hcl] at hcv
      clear hcl
      generalize (⟨[y.toUInt8].toArray⟩ : ByteArray) = piece at hadd hcv
      generalize hnx : (⟨(pre ++ [y.toUInt8]).toArray⟩ : ByteArray) = nx at hadd
      have HN := Lib.hid hnx
      clear hnx
      go_wp2
      go_ret2
      refine ⟨?_, hb.alloc hB _⟩
      rw [HS.out, Lib.uvarint_small (x := y) (by omega), HN.out]; rfl

set_option maxHeartbeats 1000000 in
set_option maxRecDepth 100000 in
theorem reftext_ok (s : ByteArray) (hs : s.size ≤ 65536) (w : World) :
    Calls Tryz.prog 75 #[.string s] w fun e w' => e = .returned (.tuple #[.string ⟨(Lib.uvarint s.size ++ s.data.toList).toArray⟩, .int .i64 0]) ∧ Below w.heap.size w w' := by
  have hlen := Lib.uvarint_length64 (x := s.size) (by omega)
  go_enter Tryz.func75, Tryz.ntmps75
  go_wp2_with fail
  refine (refnum_ok s.size (by omega) w).mono ?_
  rintro e w1 ⟨rfl, hb1⟩
  have hadd := run_string_add_sum (P := Tryz.prog) (w := w1) ⟨(Lib.uvarint s.size).toArray⟩ s (by have h1 : (ByteArray.mk (Lib.uvarint s.size).toArray).size = (Lib.uvarint s.size).length := rfl; omega)
  have hj : (⟨(Lib.uvarint s.size).toArray⟩ : ByteArray) ++ s = ⟨(Lib.uvarint s.size ++ s.data.toList).toArray⟩ := append_str _ s.data.toList
  rw [hj] at hadd
  clear hj
  go_wp2
  go_ret2
  exact ⟨rfl, hb1⟩

set_option maxHeartbeats 1000000 in
set_option maxRecDepth 100000 in
theorem reftext_err (s : ByteArray) (hs : 65536 < s.size) (w : World) :
    Calls Tryz.prog 75 #[.string s] w fun e w' => e = .returned (.tuple #[.string ⟨#[]⟩, .int .i64 3]) ∧ w = w' := by
  go_enter Tryz.func75, Tryz.ntmps75
  go_wp2
  go_ret2
  exact ⟨rfl, rfl⟩

set_option maxHeartbeats 1000000 in
set_option maxRecDepth 100000 in
theorem reflist_any (a : Option Addr) (cap : Nat) (ss : List ByteArray) (h : ss.length ≤ 4096) (w : World) (hrow : StrRow w a ss) :
    Calls Tryz.prog 45 #[.slice a ss.length cap] w fun e w' => ListEnd ss e ∧ Below w.heap.size w w' := by
  have hlen := Lib.uvarint_length64 (x := ss.length) (by omega)
  go_enter Tryz.func45, Tryz.ntmps45
  go_wp2_with fail
  refine (refnum_ok ss.length (by omega) w).mono ?_
  rintro e w1 ⟨rfl, hb1⟩
  go_wp2
  go_loopw [4, 6] (fun o i wr => ∃ k : Nat, k ≤ ss.length ∧ i = .int .i64 k ∧ (∀ s ∈ ss.take k, s.size ≤ 65536) ∧ o = .string ⟨(Lib.uvarint ss.length ++ encTexts (ss.take k)).toArray⟩ ∧ Below w.heap.size w wr) (fun _ i _ => ss.length - (intOf i).toNat)
  case atStart => exact ⟨0, Nat.zero_le _, rfl, by simp, by simp [encTexts], hb1⟩
  case round =>
    obtain ⟨k, hk, rfl, hall, rfl, hb⟩ := hrel
    have hsz := hb.size
    by_cases hlt : k < ss.length
    · obtain ⟨b, off, rfl, hbl, hcells⟩ : ∃ b off, a = some ⟨b, off, none⟩ ∧ b < w.heap.size ∧ ∀ j, j < ss.length → w.cell? ⟨b, off + j, none⟩ = some (.string (ss.getD j ByteArray.empty)) := by
        rcases hrow with h0 | h1
        · subst h0; simp at hlt
        · exact h1
      have hck := (hb.cell (p := ⟨b, off + k, none⟩) hbl).trans (hcells k hlt)
      have hmem : ss.getD k ByteArray.empty ∈ ss := by rw [List.getD_eq_getElem?_getD, List.getElem?_eq_getElem hlt]; exact List.getElem_mem hlt
      have htk := encTexts_take ss k hlt
      have htl := encTexts_len (ss.take k) hall
      have hkl : (ss.take k).length = k := by simp; omega
      rw [hkl] at htl
      have hall' : (ss.getD k ByteArray.empty).size ≤ 65536 → ∀ s ∈ ss.take (k + 1), s.size ≤ 65536 := by
        intro h1 s hs
        rw [List.take_add_one, List.getElem?_eq_getElem hlt] at hs
        rcases List.mem_append.1 hs with hs | hs
        · exact hall s hs
        · simp at hs; subst hs; rw [List.getD_eq_getElem?_getD, List.getElem?_eq_getElem hlt] at h1; exact h1
      generalize ss.getD k ByteArray.empty = sk at hck hmem htk hall'
      have HTK := Lib.hid htk
      clear htk hkl
      have hsum : (ByteArray.mk (Lib.uvarint ss.length ++ encTexts (ss.take k)).toArray).size = (Lib.uvarint ss.length).length + (encTexts (ss.take k)).length := by
        show (Lib.uvarint ss.length ++ encTexts (ss.take k)).length = _
        rw [List.length_append]
      have hj : (⟨(Lib.uvarint ss.length ++ encTexts (ss.take k)).toArray⟩ : ByteArray) ++ ⟨(Lib.uvarint sk.size ++ sk.data.toList).toArray⟩ = ⟨(Lib.uvarint ss.length ++ encTexts (ss.take (k + 1))).toArray⟩ := by
        rw [append_str, List.append_assoc, ← HTK.out]
      generalize (⟨(Lib.uvarint ss.length ++ encTexts (ss.take k)).toArray⟩ : ByteArray) = o at hsum hj ⊢
      have HJ := Lib.hid hj
      have hos : o.size ≤ 500000000 := by omega
      clear hsum hj
      by_cases hbig : 65536 < sk.size
      · go_wp2_with fail
        refine (reftext_err sk hbig wr).mono ?_
        rintro e w2 ⟨rfl, rfl⟩
        go_wp2
        go_ret2
        exact ⟨.inl ⟨⟨sk, hmem, hbig⟩, rfl⟩, hb⟩
      · have hul := Lib.uvarint_length64 (x := sk.size) (by omega)
        go_wp2_with fail
        refine (reftext_ok sk (by omega) wr).mono ?_
        rintro e w2 ⟨rfl, hb2⟩
        have hps : (ByteArray.mk (Lib.uvarint sk.size ++ sk.data.toList).toArray).size ≤ 70000 := by
          show (Lib.uvarint sk.size ++ sk.data.toList).length ≤ _
          have h4 : sk.data.toList.length = sk.size := by simp
          rw [List.length_append, h4]; omega
        have HJ2 := HJ.out
        generalize (⟨(Lib.uvarint sk.size ++ sk.data.toList).toArray⟩ : ByteArray) = piece at hps HJ2 ⊢
        have HJ3 := Lib.hid HJ2
        clear HJ2
        have hadd := run_string_add_sum (P := Tryz.prog) (w := w2) o piece (by omega)
        go_wp2
        go_roundw
        case rel => exact ⟨k + 1, by omega, by go_num, hall' (by omega), by rw [HJ3.out], hb.trans (hb2.mono (by omega))⟩
        case measure => simp [intOf]; omega
    · obtain rfl : k = ss.length := by omega
      rw [List.take_length] at hall ⊢
      go_wp2
      go_ret2
      exact ⟨.inr ⟨hall, rfl⟩, hb⟩
end Go.Proofs.YtchnklekeinhiaaGreat

namespace Go.Proofs.YtchnklekeinhiaaGreat
open Go.RowKit Go.Sort

/-- a manifest's bytes -/
def encL (m : Man) : List UInt8 := Lib.uvarint m.size.toNat ++ Lib.uvarint m.chunk.toNat ++ (Lib.uvarint m.ids.length ++ encTexts m.ids)
def putM (m : Man) : ByteArray × Int := if manE m = 0 then (⟨(encL m).toArray⟩, 0) else (⟨#[]⟩, manE m)

theorem ck_size {s : ByteArray} (h : ckE s = 0) : s.size = 64 := by
  unfold ckE at h
  split at h
  · assumption
  · cases h

theorem mk_app (a b : List UInt8) : (⟨a.toArray⟩ : ByteArray) ++ ⟨b.toArray⟩ = ⟨(a ++ b).toArray⟩ := by
  apply tl_inj
  simp [tl]

theorem encTexts_size {l : List ByteArray} (h : ∀ s ∈ l, s.size ≤ 5000) : (encTexts l).length ≤ l.length * 5010 := by
  induction l with
  | nil => simp [encTexts]
  | cons x r ih =>
    have h1 := h x (by simp)
    have h2 := ih (fun s hs => h s (by simp [hs]))
    have h3 := Lib.uvarint_length64 (x := x.size) (by omega)
    have e : x.data.toList.length = x.size := by simp
    simp only [encTexts, List.length_append, List.length_cons]
    omega

set_option maxHeartbeats 4000000 in
set_option maxRecDepth 100000 in
theorem putMR (m : Man) (a : Option Addr) (cap : Nat) (w : World) (h : MArg w m a) :
    Calls Tryz.prog 17 #[mv m (.slice a m.ids.length cap)] w fun e w' => e = .returned (.tuple #[.string (putM m).1, .int .i64 (putM m).2]) ∧ Below w.heap.size w w' := by
  obtain ⟨hbx, hbw⟩ := box_man w m (.slice a m.ids.length cap)
  have ha := h.below hbw
  have hmlen := h.len
  have h0 := hbx.c0
  have h1 := hbx.c1
  have h2 := hbx.c2
  have hk := hbx.lt
  have hck := fun W (hW : MArg W m a) => checkMR m a cap W hW
  have hsh := h.short
  have HA := Lib.hid ha
  have HB := Lib.hid hbw
  have HBX := Lib.hid hbx
  clear h ha hbw hbx
  by_cases he : manE m = 0
  case neg =>
    have hj : putM m = (⟨#[]⟩, manE m) := by unfold putM; rw [if_neg he]
    rw [hj]
    have hne : (manE m != 0) = true := by simp [he]
    generalize manE m = E at hck hne
    clear hj he HBX
    go_enter Tryz.func17, Tryz.ntmps17
    go_wp2_with fail
    refine (hck _ HA.out).mono ?_
    rintro e w1 ⟨rfl, hb1⟩
    have HB1 := Lib.hid (HB.out.trans (hb1.mono HB.out.size))
    clear hb1
    go_wp2_with fail
    go_ret2
    exact ⟨rfl, HB1.out⟩
  case pos =>
    obtain ⟨hz0, hz1, hil, hc0, hc1, hids, -⟩ := manE_ok he
    have hj : putM m = (⟨(encL m).toArray⟩, 0) := by unfold putM; rw [if_pos he]
    have HJ := Lib.hid hj
    rw [he] at hck
    have h64 : ∀ s ∈ m.ids, s.size ≤ 65536 := fun s hs => by have := ck_size (hids s hs); omega
    have hes := encTexts_size hsh
    obtain ⟨z, c, ids⟩ := m
    simp only at *
    obtain ⟨zn, rfl⟩ : ∃ n : Nat, z = n := ⟨z.toNat, by omega⟩
    obtain ⟨cn, rfl⟩ : ∃ n : Nat, c = n := ⟨c.toNat, by omega⟩
    have HH := Lib.hid h64
    have hu1 := Lib.uvarint_length64 (x := zn) (by omega)
    have hu2 := Lib.uvarint_length64 (x := cn) (by omega)
    have hu3 := Lib.uvarint_length64 (x := ids.length) (by omega)
    clear hj he hids hsh h64
    go_enter Tryz.func17, Tryz.ntmps17
    go_wp2_with fail
    refine (hck _ HA.out).mono ?_
    rintro e w1 ⟨rfl, hb1⟩
    have hbx1 := HBX.out.below hb1 hk
    have k0 := hbx1.c0
    have hk1 := hbx1.lt
    have HB1 := Lib.hid (HB.out.trans (hb1.mono HB.out.size))
    have HA1 := Lib.hid (HA.out.below hb1)
    have HBX1 := Lib.hid hbx1
    clear hb1 hbx1 HA HBX HB h0 h1 h2 hck
    go_wp2_with fail
    refine (refnum_ok zn (by omega) _).mono ?_
    rintro e w2 ⟨rfl, hb2⟩
    have hbx2 := HBX1.out.below hb2 hk1
    have k1 := hbx2.c1
    have hk2 := hbx2.lt
    have HB2 := Lib.hid (HB1.out.trans (hb2.mono HB1.out.size))
    have HA2 := Lib.hid (HA1.out.below hb2)
    have HBX2 := Lib.hid hbx2
    clear hb2 hbx2 HA1 HBX1 HB1 k0
    go_wp2_with fail
    refine (refnum_ok cn (by omega) _).mono ?_
    rintro e w3 ⟨rfl, hb3⟩
    have hbx3 := HBX2.out.below hb3 hk2
    have k2 := hbx3.c2
    have HB3 := Lib.hid (HB2.out.trans (hb3.mono HB2.out.size))
    have HA3 := Lib.hid (HA2.out.below hb3)
    clear hb3 hbx3 HA2 HBX2 HB2 k1
    go_wp2_with fail
    refine (reflist_any a cap ids hil _ HA3.out.row).mono ?_
    rintro e w4 ⟨hle, hb4⟩
    obtain rfl : e = .returned (.tuple #[.string ⟨(Lib.uvarint ids.length ++ encTexts ids).toArray⟩, .int .i64 0]) := by
      rcases hle with ⟨⟨s, hs, hh⟩, _⟩ | ⟨_, he⟩
      · have := HH.out s hs; omega
      · exact he
    have HB4 := Lib.hid (HB3.out.trans (hb4.mono HB3.out.size))
    clear hb4 hle
    have hle1 : (⟨(Lib.uvarint zn).toArray⟩ : ByteArray).size ≤ 10 := by simpa [ByteArray.size] using hu1
    have hle2 : (⟨(Lib.uvarint cn).toArray⟩ : ByteArray).size ≤ 10 := by simpa [ByteArray.size] using hu2
    have hle3 : (⟨(Lib.uvarint ids.length ++ encTexts ids).toArray⟩ : ByteArray).size ≤ 20530000 := by simp only [ByteArray.size, List.size_toArray, List.length_append]; omega
    have hle4 : ((⟨(Lib.uvarint zn).toArray⟩ : ByteArray) ++ ⟨(Lib.uvarint cn).toArray⟩).size ≤ 20 := by rw [ByteArray.size_append]; omega
    have hfin : (⟨(Lib.uvarint zn).toArray⟩ : ByteArray) ++ ⟨(Lib.uvarint cn).toArray⟩ ++ ⟨(Lib.uvarint ids.length ++ encTexts ids).toArray⟩ = (putM ⟨(zn : Int), (cn : Int), ids⟩).1 := by
      rw [HJ.out, mk_app, mk_app]; unfold encL; simp only [Int.toNat_natCast]
    have HF := Lib.hid hfin
    clear hfin
    generalize (⟨(Lib.uvarint zn).toArray⟩ : ByteArray) = x1 at *
    generalize (⟨(Lib.uvarint cn).toArray⟩ : ByteArray) = x2 at *
    generalize (⟨(Lib.uvarint ids.length ++ encTexts ids).toArray⟩ : ByteArray) = x3 at *
    go_wp2_with fail
    go_ret2
    exact ⟨by rw [HF.out, HJ.out]; rfl, HB4.out⟩
end Go.Proofs.YtchnklekeinhiaaGreat
