/-
  blob: Delete, Segments.
  blob: replace.
  blob: Compact.
-/
import Derived.Test.YtjimgncefeldbaaGreatDoorGBlobE
namespace Go.Proofs.YtjimgncefeldbaaGreatDoor
open Go.Shelf Go.RowKit Go.Sort Go.Maps

theorem wentB_size (b : ByteArray) : (wentB b).size = b.size + 1 := by rw [← ba_len]; simp [wentB]

section
variable {a : Addr} {B D S seg m N vc : Nat} {s : DS} {bl : List Nat} {M : DU} {va : Option Addr} {zs : List Nat} {torn en : Bool}

set_option maxHeartbeats 1000000 in
theorem segs_any (w : World) (h : ST a B D s bl S seg m N M va vc zs torn en w) :
    Calls Tryz.prog 47 #[.pointer (some ⟨S, 0, none⟩)] w fun e w' => e = .returned (.int .i64 (zs.length : Nat)) ∧ w = w' := by
  have c5 := h.blk.c5
  clear h
  go_enter Tryz.func47, Tryz.ntmps47
  go_wp2_with fail
  go_ret
  exact ⟨rfl, rfl⟩

set_option maxHeartbeats 1000000 in
set_option maxRecDepth 100000 in
theorem del_none (w : World) (h : ST a B D s bl S seg m N M va vc zs torn false w) (id : ByteArray) (hid : id.size ≤ 1000) (hh : hasC M id = false) :
    Calls Tryz.prog 21 #[.pointer (some ⟨S, 0, none⟩), .string id] w fun e w' => e = .returned (.int .i64 7) ∧ Below w.heap.size w w' := by
  have hr := blobReady w h
  have hs := has_any w h id (by unfold maxLen; omega)
  rw [hh] at hs
  clear h hh
  go_enter Tryz.func21, Tryz.ntmps21
  go_wp2_with fail
  refine hr.mono ?_
  rintro e w1 ⟨rfl, rfl⟩
  go_wp2_with fail
  refine hs.mono ?_
  rintro e w1 ⟨rfl, hb⟩
  have HB := Lib.hid hb
  clear hb
  go_wp2_with fail
  go_ret
  exact ⟨rfl, HB.out⟩

set_option maxHeartbeats 4000000 in
set_option maxRecDepth 100000 in
theorem del_some (w : World) (h : ST a B D s bl S seg m N M va vc zs false false w) (hz : zs.length ≤ 1000) (hl : lastN zs < 30) (id : ByteArray) (hid : id.size ≤ 1000) (hh : hasC M id = true) :
    Calls Tryz.prog 21 #[.pointer (some ⟨S, 0, none⟩), .string id] w (Wrote a B D S seg m (extendS s (genN blobB (numS seg zs s)) (recsB [wentB id])) N (M.del (kL id)) (addN zs (numS seg zs s)) (sal S m va bl) w) := by
  have hr := blobReady w h
  have hs := has_any w h id (by unfold maxLen; omega)
  rw [hh] at hs
  have H := Lib.hid h
  have hadd := fun W => run_string_add_sum (P := Tryz.prog) (w := W) ⟨#[1]⟩ id (by show 1 + id.size ≤ _; omega)
  have hcm : (⟨#[1]⟩ : ByteArray) ++ id = wentB id := ba_eq (by simp [wentB])
  rw [hcm] at hadd
  have hws : (wentB id).size ≤ 1001 := by rw [wentB_size]; omega
  have hkey := strKey (show id.size ≤ maxLen by unfold maxLen; omega)
  obtain ⟨wb, hwb⟩ : ∃ wb, wentB id = wb := ⟨_, rfl⟩
  rw [hwb] at hadd hws
  rw [hwb]
  have hel : (encRecs [wb]).length ≤ 1 * (1001 + 14) := encRecs_le [wb] 1001 (by omega) (fun t ht => by simp at ht; subst ht; exact hws)
  have hwr := fun W (hW : ST a B D s bl S seg m N M va vc zs false false W) => write_any (W.alloc (.cells #[.string wb] 9)) (hW.keep ((Below.refl _ _).alloc (Nat.le_refl _) _)) hz hl (some ⟨W.heap.size, 0, none⟩) 1 [wb] (strRow_one W wb) (by simp) (fun t ht => by simp at ht; subst ht; omega) (by omega)
  have HWR := Lib.hid hwr
  clear hcm hwb h hh hwr hel
  obtain ⟨r, s', hr'⟩ : ∃ r s', extendS s (genN blobB (numS seg zs s)) (recsB [wb]) = (r, s') := ⟨_, _, rfl⟩
  rw [hr'] at HWR
  rw [hr']
  clear hr'
  generalize addN zs (numS seg zs s) = zs' at *
  by_cases hr0 : r = 0
  · subst hr0
    go_enter Tryz.func21, Tryz.ntmps21
    go_wp2_with fail
    refine hr.mono ?_
    rintro e w1 ⟨rfl, rfl⟩
    go_wp2_with fail
    refine hs.mono ?_
    rintro e w1 ⟨rfl, hb⟩
    have HB := Lib.hid hb
    have HC := Lib.hid (HWR.out w1 (H.out.keep hb))
    clear hb hs hr
    go_wp2_with fail
    refine HC.out.mono ?_
    rintro e w2 ⟨al2, rfl, hf, hok, -⟩
    obtain ⟨bl2, va2, vc2, rfl, hst⟩ := hok rfl
    have H2 := Lib.hid (And.intro hst (((Fr.of_below HB.out).tr (Fr.of_below ((Below.refl _ w1).alloc (Nat.le_refl _) (.cells #[.string wb] 9)))).tr hf))
    have c4 := hst.blk.c4
    have hlt := hst.blk.lt
    have hown := hst.map
    clear hst hf hok HC
    go_wp2_with (at_delete; refine wpList_delete_own _ rfl _ _ 77 9 rfl 83 strKeyed Tryz.underlying77 pieceE m N M rfl hown _ (kL id) rfl hkey ?_; intro w3 hown3 hturn3)
    go_ret
    exact ⟨_, rfl, H2.out.2.tr (H2.out.1.fr_map hturn3.grown), fun _ => ⟨bl2, va2, vc2, rfl, H2.out.1.setMap hown3 hturn3.grown⟩, fun e => absurd rfl e⟩
  · have hne : (r != 0) = true := by simp [hr0]
    go_enter Tryz.func21, Tryz.ntmps21
    go_wp2_with fail
    refine hr.mono ?_
    rintro e w1 ⟨rfl, rfl⟩
    go_wp2_with fail
    refine hs.mono ?_
    rintro e w1 ⟨rfl, hb⟩
    have HB := Lib.hid hb
    have HC := Lib.hid (HWR.out w1 (H.out.keep hb))
    clear hb hs hr
    go_wp2_with fail
    refine HC.out.mono ?_
    rintro e w2 ⟨al2, rfl, hf, -, hbad⟩
    have H2 := Lib.hid (And.intro (hbad hr0) (((Fr.of_below HB.out).tr (Fr.of_below ((Below.refl _ w1).alloc (Nat.le_refl _) (.cells #[.string wb] 9)))).tr hf))
    clear hf hbad HC
    go_wp2_with fail
    go_ret
    exact ⟨al2, rfl, H2.out.2, fun e => absurd e hr0, fun _ => H2.out.1⟩
end
end Go.Proofs.YtjimgncefeldbaaGreatDoor

namespace Go.Proofs.YtjimgncefeldbaaGreatDoor
open Go.Shelf Go.RowKit Go.Sort Go.Maps

/-- files are removed, one behind the other, till an error -/
def remsS : DS → List ByteArray → Int × DS
  | s, [] => (0, s)
  | s, n :: t => if (removeS s n).1 = 0 then remsS (removeS s n).2 t else removeS s n
/-- a segment is put in the place of all -/
def repO (zs : List Nat) (s : DS) (body : ByteArray) : Int × DS :=
  if (layS s (newN blobB) body (genN blobB (lastN zs + 1))).1 ≠ 0 then layS s (newN blobB) body (genN blobB (lastN zs + 1)) else
  remsS (layS s (newN blobB) body (genN blobB (lastN zs + 1))).2 (zs.map (genN blobB))

theorem own_new (w : World) {B : Nat} (hB : B ≤ w.heap.size) (n : Nat) : OwnI B (.slice (some ⟨w.heap.size, 0, none⟩) [n].length 1) [n] (w.alloc (.cells #[.int .i64 (n : Int)] 3)) :=
  ⟨by simp, .inr ⟨w.heap.size, 1, _, rfl, hB, heap_alloc_new w _, by simp, by simp [maxLen], by simp, by simp⟩⟩

theorem ne_ba' {x y : ByteArray} (h : x ≠ y) : (x.toList == y.toList) = false := by
  rw [ByteArray.toList_eq, ByteArray.toList_eq]
  have h3 : x.data ≠ y.data := fun e => h (ByteArray.ext e)
  simp [h3]

section
variable {a : Addr} {B D S seg m N vc : Nat} {s : DS} {bl : List Nat} {M : DU} {va : Option Addr} {zs : List Nat} {torn en : Bool}

set_option maxHeartbeats 16000000 in
set_option maxRecDepth 100000 in
theorem replace_any (w : World) (h : ST a B D s bl S seg m N M va vc zs torn false w) (hz : zs.length ≤ 1000) (hl : lastN zs < 30) (hzs : ∀ z ∈ zs, z ≤ lastN zs) (body : ByteArray) (hb : body.size ≤ 1000000) :
    Calls Tryz.prog 63 #[.pointer (some ⟨S, 0, none⟩), .string body] w (Wrote a B D S seg m (repO zs s body) N M [lastN zs + 1] (sal S m va bl) w) := by
  have c1 := h.blk.c1
  have c2 := h.blk.c2
  have hlt := h.blk.lt
  have H := Lib.hid h
  have hla := last_any w h hz
  have hw1 : IntKind.i64.wrap ((lastN zs : Int) + 1) = (lastN zs : Int) + 1 := by rw [IntKind.wrap_i64]; omega
  obtain ⟨r, s1, hr⟩ : ∃ r s1, layS s (newN blobB) body (genN blobB (lastN zs + 1)) = (r, s1) := ⟨_, _, rfl⟩
  have hrep : repO zs s body = if r ≠ 0 then (r, s1) else remsS s1 (zs.map (genN blobB)) := by unfold repO; rw [hr]
  have hlay := fun W (hW : SW a B D s bl W) => lay_any blobB blob_ok W hW body (lastN zs + 1) (by omega) hb
  rw [hr] at hlay
  rw [hrep]
  have hfile := fun W (hW : SW a B D s bl W) => True
  have HLY := Lib.hid hlay
  have HZ := Lib.hid hzs
  have HLL := Lib.hid hl
  have e1 : ((lastN zs + 1 : Nat) : Int) = (lastN zs : Int) + 1 := rfl
  obtain ⟨Z, hZ⟩ : ∃ Z, lastN zs = Z := ⟨_, rfl⟩
  rw [hZ] at hla hw1 HLY HZ HLL e1 ⊢
  clear hr hrep hlay h hl hZ hfile hzs
  obtain ⟨nmB, hnm⟩ : ∃ x, blobB = x := ⟨_, rfl⟩
  have HNM := Lib.hid hnm
  rw [hnm] at HLY c2
  by_cases hr0 : r = 0
  case neg =>
    rw [if_pos hr0]
    have hne : (r != 0) = true := by simp [hr0]
    go_enter Tryz.func63, Tryz.ntmps63
    go_wp2_with fail
    refine hla.mono ?_
    rintro e w1 ⟨rfl, hb1⟩
    have H1 := Lib.hid (And.intro (H.out.keep hb1) (Fr.of_below (bl := sal S m va bl) hb1))
    have d1 := H1.out.1.blk.c1
    have d2 := H1.out.1.blk.c2
    rw [hnm] at d2
    have dlt := H1.out.1.blk.lt
    have HL1 := Lib.hid (HLY.out w1 H1.out.1.sw)
    rw [e1] at HL1
    clear hb1 hla c1 c2
    go_wp2_with fail
    refine HL1.out.mono ?_
    rintro e w2 ⟨bl2, rfl, hd, hf⟩
    have H2 := Lib.hid (And.intro (H1.out.1.step hd hf) (H1.out.2.tr (H1.out.1.stepFr hf)))
    clear hd hf
    go_wp2_with fail
    go_ret
    exact ⟨_, rfl, H2.out.2, fun e => absurd e hr0, fun _ => ⟨bl2, N, M, va, vc, zs, torn, false, rfl, H2.out.1⟩⟩
  case pos =>
    subst hr0
    rw [if_neg (by simp)]
    obtain ⟨rf, sf, hrf⟩ : ∃ rf sf, remsS s1 (zs.map (genN blobB)) = (rf, sf) := ⟨_, _, rfl⟩
    rw [hrf]
    have HRF := Lib.hid hrf
    clear hrf
    go_enter Tryz.func63, Tryz.ntmps63
    go_wp2_with fail
    refine hla.mono ?_
    rintro e w1 ⟨rfl, hb1⟩
    have H1 := Lib.hid (And.intro (H.out.keep hb1) (Fr.of_below (bl := sal S m va bl) hb1))
    have d1 := H1.out.1.blk.c1
    have d2 := H1.out.1.blk.c2
    rw [hnm] at d2
    have dlt := H1.out.1.blk.lt
    have HL1 := Lib.hid (HLY.out w1 H1.out.1.sw)
    rw [e1] at HL1
    clear hb1 hla c1 c2
    go_wp2_with fail
    refine HL1.out.mono ?_
    rintro e w2 ⟨bl2, rfl, hd, hf⟩
    have hst2 := H1.out.1.step hd hf
    have hfr2 := H1.out.2.tr (H1.out.1.stepFr hf)
    have hbn : Below w2.heap.size w2 (w2.alloc (.cells #[.int .i64 ((Z : Int) + 1)] 3)) := (Below.refl _ _).alloc (Nat.le_refl _) _
    have hst3 := hst2.keep hbn
    have hlt2 := hst2.lt
    have hv3 : ∀ g, (some (⟨w2.heap.size, 0, none⟩ : Addr)) = some ⟨g, 0, none⟩ → g ∉ bl2 ∧ g ≠ S ∧ g ≠ m := fun g e => by
      cases e
      refine ⟨fun hin => ?_, fun e => ?_, fun e => ?_⟩
      · have := (hst2.sw.disk.lt _ hin).2; omega
      · have := hst2.blk.lt; omega
      · have := hst2.map.lt; omega
    have hst4 : ST a B D s1 bl2 S seg m N M (some ⟨w2.heap.size, 0, none⟩) 1 [Z + 1] torn false ((w2.alloc (.cells #[.int .i64 ((Z : Int) + 1)] 3)).setCell ⟨S, 5, none⟩ (.slice (some ⟨w2.heap.size, 0, none⟩) 1 1)) := hst3.setSegs (own_new w2 hst2.size (Z + 1)) hv3
    have hst5 := hst4.setTorn false
    have c5 := hst2.blk.c5
    have hown2 := hst2.own
    have hvo2 := hst2.vo
    have f5 := hst2.blk.free 5
    have k6 := hst2.blk.c6
    have f6 := hst2.blk.free 6
    have hltS := hst2.blk.lt
    have hfr25 : Fr (sal S m va bl2) (sal S m (some ⟨w2.heap.size, 0, none⟩) bl2) w2 (((w2.alloc (.cells #[.int .i64 ((Z : Int) + 1)] 3)).setCell ⟨S, 5, none⟩ (.slice (some ⟨w2.heap.size, 0, none⟩) 1 1)).setCell ⟨S, 6, none⟩ (.bool false)) := by
      refine (((Fr.of_below (bl := [S]) hbn).tr (Fr.set S 5 _ _)).tr (Fr.set S 6 _ _)).wide (fun k hk => mem_sal.2 (.inl (by simpa using hk))) (fun k hk => ?_)
      rcases mem_sal.1 hk with e | e | ⟨ad, e, e2⟩ | e
      · exact .inl (mem_sal.2 (.inl e))
      · exact .inl (mem_sal.2 (.inr (.inl e)))
      · cases e; exact .inr (.inr (by rw [e2]; exact Nat.le_refl _))
      · exact .inl (mem_sal.2 (.inr (.inr (.inr e))))
    obtain ⟨a', cap', ee, hrow2, -, -⟩ := ownI_row hown2
    obtain ⟨rfl, -⟩ : va = a' ∧ vc = cap' := by simpa using ee
    have hrow5 : IntRow (((w2.alloc (.cells #[.int .i64 ((Z : Int) + 1)] 3)).setCell ⟨S, 5, none⟩ (.slice (some ⟨w2.heap.size, 0, none⟩) 1 1)).setCell ⟨S, 6, none⟩ (.bool false)) va zs ∧ ∀ g, va = some ⟨g, 0, none⟩ → g ∉ sal S m (some ⟨w2.heap.size, 0, none⟩) bl2 ∧ g < (((w2.alloc (.cells #[.int .i64 ((Z : Int) + 1)] 3)).setCell ⟨S, 5, none⟩ (.slice (some ⟨w2.heap.size, 0, none⟩) 1 1)).setCell ⟨S, 6, none⟩ (.bool false)).heap.size := by
      refine ⟨?_, fun g e => ?_⟩
      · rcases hrow2 with h | ⟨g, e, hg, hc⟩
        · exact .inl h
        · refine .inr ⟨g, e, by simp; omega, fun j hj => ?_⟩
          rw [← hc j hj]
          refine World.cell?_of_block ?_
          have hnS : g ≠ S := (hvo2 g e).2.1
          rw [Below.heap_setCell _ _ _ _ (by simpa using hnS), Below.heap_setCell _ _ _ _ (by simpa using hnS)]
          exact hbn.block g hg
      · have hg : g < w2.heap.size := by subst e; exact (ownI_lt hown2).2
        refine ⟨fun hin => ?_, by simp; omega⟩
        rcases mem_sal.1 hin with e1 | e1 | ⟨ad, e1, e2⟩ | e1
        · exact (hvo2 g e).2.1 e1
        · exact (hvo2 g e).2.2 e1
        · cases e1; simp at e2; omega
        · exact (hvo2 g e).1 e1
    have h5 := And.intro hst5 (And.intro (hfr2.tr hfr25) hrow5)
    have eW : (((w2.alloc (.cells #[.int .i64 ((Z : Int) + 1)] 3)).setCell ⟨S, 5, none⟩ (.slice (some ⟨w2.heap.size, 0, none⟩) 1 1)).setCell ⟨S, 6, none⟩ (.bool false)) = (((w2.setCell ⟨S, 5, none⟩ (.slice (some ⟨w2.heap.size, 0, none⟩) 1 1)).setCell ⟨S, 6, none⟩ (.bool false)).alloc (.cells #[.int .i64 ((Z : Int) + 1)] 3)) := by
      rw [World.setCell_alloc_past _ _ _ _ hltS, World.setCell_alloc_past _ _ _ _ (by simpa using hltS)]
    rw [eW] at h5
    have H5 := Lib.hid h5
    clear h5 eW
    clear hd hf hst2 hfr2 hbn hst3 hlt2 hv3 hst4 hst5 hown2 hvo2 hfr25 hrow2 hrow5 ee
    go_wp2_with fail
    go_loopw [38] (fun i wr => ∃ (k : Nat) (sk : DS) (bk : List Nat), k ≤ zs.length ∧ i = .int .i64 k ∧ Hid (ST a B D sk bk S seg m N M (some ⟨w2.heap.size, 0, none⟩) 1 [Z + 1] false false wr ∧ Fr (sal S m va bl) (sal S m (some ⟨w2.heap.size, 0, none⟩) bk) w wr ∧ IntRow wr va zs ∧ (∀ g, va = some ⟨g, 0, none⟩ → g ∉ sal S m (some ⟨w2.heap.size, 0, none⟩) bk ∧ g < wr.heap.size) ∧ remsS sk ((zs.drop k).map (genN blobB)) = (rf, sf))) (fun i _ => zs.length - (intOf i).toNat)
    case atStart => exact ⟨0, s1, bl2, Nat.zero_le _, rfl, ⟨H5.out.1, H5.out.2.1, H5.out.2.2.1, H5.out.2.2.2, by rw [List.drop_zero]; exact HRF.out⟩⟩
    case round =>
      obtain ⟨k, sk, bk, hk, rfl, hh⟩ := hrel
      by_cases hlk : k < zs.length
      · obtain ⟨g, rfl, hg, hc⟩ : ∃ g, va = some ⟨g, 0, none⟩ ∧ g < wr.heap.size ∧ ∀ j, j < zs.length → wr.cell? ⟨g, j, none⟩ = some (.int .i64 (zs.getD j 0 : Nat)) := by
          rcases hh.out.2.2.1 with h | h
          · rw [h] at hlk; simp at hlk
          · exact h
        have hck := hc k hlk
        have hxm : zs.getD k 0 ∈ zs := by rw [List.getD_eq_getElem?_getD, List.getElem?_eq_getElem hlk]; exact List.getElem_mem hlk
        have hxz := HZ.out _ hxm
        have hdr : zs.drop k = zs.getD k 0 :: zs.drop (k + 1) := by rw [List.drop_eq_getElem_cons hlk, List.getD_eq_getElem?_getD, List.getElem?_eq_getElem hlk]; rfl
        have HRM := Lib.hid (show remsS sk (genN blobB (zs.getD k 0) :: (zs.drop (k + 1)).map (genN blobB)) = (rf, sf) by have := hh.out.2.2.2.2; rw [hdr, List.map_cons] at this; exact this)
        clear hc hxm hdr
        generalize zs.getD k 0 = x at *
        have hlr := HLL.out
        have b1 := hh.out.1.blk.c1
        have b2 := hh.out.1.blk.c2
        have b0 := hh.out.1.blk.c0
        have hkp := fun d os => hh.out.1.keep (below_regrown wr d os)
        have r1 := fun d os => cell_regrown b1 d os
        have r2 := fun d os => cell_regrown b2 d os
        have cF := fun d os => Calls.regrown_of (file_any D blobB blob_ok (grow (redrawn wr d) os) (hkp d os).sw.tab (by have := (hkp d os).sw.g2; have := (hkp d os).size; omega) x (by omega))
        have cG := fun d os => Calls.regrown_of (file_any D blobB blob_ok (grow (redrawn wr d) os) (hkp d os).sw.tab (by have := (hkp d os).sw.g2; have := (hkp d os).size; omega) (Z + 1) (by omega))
        have hgne : genN blobB x ≠ genN blobB (Z + 1) := fun e => by have := genN_inj blobB (by omega) (by omega) e; omega
        have hq : ((genN blobB x).toList == (genN blobB (Z + 1)).toList) = false := by
          have := ne_ba' hgne
          exact this
        have hfi := fun W (hW : SW a B D sk bk W) => file_any D blobB blob_ok W hW.tab (by have := hW.g2; have := hW.size; omega) x (by omega)
        rw [e1] at cG
        rw [hnm] at cF cG hfi b2 r2 HRM hq
        obtain ⟨rr, s2, hrr⟩ : ∃ rr s2, removeS sk (genN nmB x) = (rr, s2) := ⟨_, _, rfl⟩
        have hrv := fun W (hW : SW a B D sk bk W) => dRemove hW.disk (genN nmB x) a hW.pow hW.g1
        rw [hrr] at hrv
        have HR2 := Lib.hid (show (if rr = 0 then remsS s2 ((zs.drop (k + 1)).map (genN nmB)) else (rr, s2)) = (rf, sf) by have := HRM.out; unfold remsS at this; rw [hrr] at this; exact this)
        have HRV := Lib.hid hrv
        have HCF := Lib.hid cF
        have HCG := Lib.hid cG
        have HFI := Lib.hid hfi
        clear cF cG hfi hrv hrr HRM hkp hgne hlr hxz
        generalize genN nmB x = gx at *
        generalize genN nmB (Z + 1) = gz at *
        go_upto_region 10 with fail
        refine wp_region_quiet_below (by kernel_rfl) (by kernel_rfl) ?_
        repeat (first | go_big_quiet_step ((go_at_call 67; first | (with_reducible exact HCF.out _ _) | (with_reducible exact HCG.out _ _))) | quiet_step ((go_at_call 67; first | (with_reducible exact HCF.out _ _) | (with_reducible exact HCG.out _ _))))
        refine wpQuiet_nil ?_
        intro _ hw'
        obtain ⟨⟨dq, osq⟩, hw''⟩ := hw'
        subst hw''
        have hb9 := below_regrown wr dq osq
        generalize grow (redrawn wr dq) osq = W at *
        have H9 := Lib.hid (show ST a B D sk bk S seg m N M (some ⟨w2.heap.size, 0, none⟩) 1 [Z + 1] false false W ∧ Fr (sal S m (some ⟨g, 0, none⟩) bl) (sal S m (some ⟨w2.heap.size, 0, none⟩) bk) w W ∧ IntRow W (some ⟨g, 0, none⟩) zs ∧ (∀ q, (some (⟨g, 0, none⟩ : Addr)) = some ⟨q, 0, none⟩ → q ∉ sal S m (some ⟨w2.heap.size, 0, none⟩) bk ∧ q < W.heap.size) from
          ⟨hh.out.1.keep hb9, hh.out.2.1.tr (Fr.of_below hb9), hh.out.2.2.1.below hb9, fun g e => ⟨(hh.out.2.2.2.1 g e).1, Nat.lt_of_lt_of_le (hh.out.2.2.2.1 g e).2 hb9.size⟩⟩)
        clear HCF HCG r1 r2 hb9 b0 b1 b2 hck
        have b0 := H9.out.1.blk.c0
        have b1 := H9.out.1.blk.c1
        have b2 := H9.out.1.blk.c2
        rw [hnm] at b2
        have blt := H9.out.1.blk.lt
        have hbd : Below W.heap.size W W.drew := (Below.refl _ W).drew
        have HFD := Lib.hid (HFI.out W.drew (H9.out.1.keep hbd).sw)
        clear hbd
        go_upto_region 11 with fail
        go_region_held3 (fun U => U.cell? ⟨S, 0, none⟩ = some (.pointer (some ⟨D, 0, none⟩)) ∧ U.cell? ⟨S, 1, none⟩ = some (.pointer (some ⟨D, 0, none⟩)) ∧ U.cell? ⟨S, 2, none⟩ = some (.string nmB)) (first | go_keep)
          (first
           | ((with_reducible refine HFD.out.mono ?_); rintro e w5 ⟨rfl, hb5⟩
              have hb5' : Below W.heap.size W w5 := ((Below.refl _ W).drew).trans hb5
              have H5' := Lib.hid (And.intro (H9.out.1.keep hb5') hb5')
              have b0 := H5'.out.1.blk.c0
              have b1 := H5'.out.1.blk.c1
              have b2 := H5'.out.1.blk.c2
              rw [hnm] at b2
              have HRX := Lib.hid (HRV.out w5 H5'.out.1.sw)
              clear hb5 hb5')
           | ((with_reducible refine HRX.out.mono ?_); rintro e w6 ⟨bl6, rfl, hd6, hf6⟩
              have H6 := Lib.hid (And.intro (H5'.out.1.step hd6 hf6) (And.intro (H5'.out.1.stepFr hf6) hf6))
              have b0 := H6.out.1.blk.c0
              have b1 := H6.out.1.blk.c1
              have b2 := H6.out.1.blk.c2
              rw [hnm] at b2
              clear hd6 hf6)
           | fail)
        all_goals
          have H7 := Lib.hid (show ST a B D s2 bl6 S seg m N M (some ⟨w2.heap.size, 0, none⟩) 1 [Z + 1] false false w6 ∧ Fr (sal S m (some ⟨g, 0, none⟩) bl) (sal S m (some ⟨w2.heap.size, 0, none⟩) bl6) w w6 ∧ IntRow w6 (some ⟨g, 0, none⟩) zs ∧ (∀ q, (some (⟨g, 0, none⟩ : Addr)) = some ⟨q, 0, none⟩ → q ∉ sal S m (some ⟨w2.heap.size, 0, none⟩) bl6 ∧ q < w6.heap.size) from by
            refine ⟨H6.out.1, (H9.out.2.1.tr (Fr.of_below H5'.out.2)).tr H6.out.2.1, ?_, fun g e => ⟨H6.out.2.1.out (Nat.lt_of_lt_of_le (H9.out.2.2.2 g e).2 H5'.out.2.size) (H9.out.2.2.2 g e).1, Nat.lt_of_lt_of_le (Nat.lt_of_lt_of_le (H9.out.2.2.2 g e).2 H5'.out.2.size) H6.out.2.1.size⟩⟩
            rcases H9.out.2.2.1.below H5'.out.2 with h | ⟨q, e, hg, hc⟩
            · exact .inl h
            · exact .inr ⟨q, e, Nat.lt_of_lt_of_le hg H6.out.2.1.size, fun j hj => by
                rw [← hc j hj]; exact World.cell?_of_block (H6.out.2.1.block q hg (H9.out.2.2.2 q e).1)⟩)
          by_cases h0 : rr = 0
          · subst h0
            have HNX := Lib.hid (show remsS s2 ((zs.drop (k + 1)).map (genN blobB)) = (rf, sf) by have := HR2.out; rw [if_pos rfl] at this; rw [hnm]; exact this)
            go_wp2_with fail
            go_roundw
            case rel => exact ⟨k + 1, s2, bl6, by omega, by go_num, ⟨H7.out.1, H7.out.2.1, H7.out.2.2.1, H7.out.2.2.2, HNX.out⟩⟩
            case measure => simp [intOf]; omega
          · have hne : (rr != 0) = true := by simp [h0]
            have HE := Lib.hid (show rf = rr ∧ sf = s2 by have := HR2.out; rw [if_neg h0] at this; simp at this; exact ⟨this.1.symm, this.2.symm⟩)
            go_wp2_with fail
            go_ret
            refine ⟨_, by rw [HE.out.1]; rfl, H7.out.2.1, fun e => absurd (by have := HE.out.1; simp only at e; omega) h0, fun _ => ⟨bl6, N, M, _, _, _, _, _, rfl, by rw [HE.out.2]; exact H7.out.1⟩⟩
      · obtain rfl : k = zs.length := by omega
        have HE := Lib.hid (show rf = 0 ∧ sf = sk by have := hh.out.2.2.2.2; rw [List.drop_length] at this; simp [remsS] at this; exact ⟨this.1.symm, this.2.symm⟩)
        go_wp2_with fail
        go_ret
        refine ⟨_, by rw [HE.out.1]; rfl, hh.out.2.1, fun _ => ⟨bk, _, _, rfl, by rw [HE.out.2]; exact hh.out.1⟩, fun e => absurd (by rw [HE.out.1]) e⟩
end
end Go.Proofs.YtjimgncefeldbaaGreatDoor

namespace Go.Proofs.YtjimgncefeldbaaGreatDoor
open Go.Shelf Go.RowKit Go.Sort Go.Maps

/-- the records of the chunks of these IDs -/
def compT (M : DU) (L : List ByteArray) : List ByteArray := L.map fun id => cameB (strAt M id)
theorem compT_take (M : DU) (L : List ByteArray) {k : Nat} (hk : k < L.length) : compT M (L.take (k + 1)) = compT M (L.take k) ++ [cameB (strAt M (L.getD k ByteArray.empty))] := by
  unfold compT
  rw [List.take_succ_eq_append_getElem hk, List.map_append, List.getD_eq_getElem?_getD, List.getElem?_eq_getElem hk]; rfl
set_option maxRecDepth 100000 in
theorem field_piece (s : ByteArray) (W : World) : (Instr.field 83 (.agg #[.string s]) 0).run Tryz.prog W = .ok (.string s) W := by
  have hu := run_underlying (P := Tryz.prog) (w := W) Tryz.underlying83
  first | rfl | (simp [Instr.field, hu, Result.andThen])
/-- what Compact leaves -/
def CompPost (a : Addr) (B D S seg m N : Nat) (M : DU) (zs : List Nat) (s : DS) (al : List Nat) (w : World) (e : Ending) (w' : World) : Prop :=
  ∃ L, IdsOf M L ∧ Wrote a B D S seg m (repO zs s (recsB (compT M L))) N M [lastN zs + 1] al w e w'

section
variable {a : Addr} {B D S seg m N vc : Nat} {s : DS} {bl : List Nat} {M : DU} {va : Option Addr} {zs : List Nat} {torn en : Bool}

set_option maxHeartbeats 8000000 in
set_option maxRecDepth 100000 in
theorem compact_any (w : World) (h : ST a B D s bl S seg m N M va vc zs torn false w) (hz : zs.length ≤ 1000) (hl : lastN zs < 30) (hzs : ∀ z ∈ zs, z ≤ lastN zs) (hN : N ≤ 1000) (hM : ∀ id, hasC M id = true → (strAt M id).size ≤ 200) :
    Calls Tryz.prog 24 #[.pointer (some ⟨S, 0, none⟩)] w (CompPost a B D S seg m N M zs s (sal S m va bl) w) := by
  obtain ⟨i0, hi, hz0, hz1, hz2⟩ := info_parts strInfo8
  have hr := blobReady w h
  have hids := ids_any w h (by omega)
  have H := Lib.hid h
  have HM := Lib.hid hM
  have hsz := h.map.size_le
  have HREP := Lib.hid (fun W (hW : ST a B D s bl S seg m N M va vc zs torn false W) body (hb : body.size ≤ 1000000) => replace_any W hW hz hl hzs body hb)
  clear h hM hzs
  go_enter Tryz.func24, Tryz.ntmps24
  go_wp2_with fail
  refine hr.mono ?_
  rintro e w0 ⟨rfl, rfl⟩
  go_wp2_with fail
  refine hids.mono ?_
  rintro e w1 ⟨v, L, rfl, hown, hL, hb1⟩
  obtain ⟨rl, cl, rfl, hrow, hbase, hmax⟩ := ownS_from hown
  have hLl : L.length ≤ N := by rw [hL.len]; exact hsz
  have H1 := Lib.hid (And.intro (H.out.keep hb1) hb1)
  have HL := Lib.hid hL
  have HROW := Lib.hid hrow
  have hlt1 := H1.out.1.blk.lt
  clear hown hL hb1 hrow hbase hmax hids hr
  go_wp2_with fail
  go_loopw [4, 18] (fun u i wr => ∃ k : Nat, k ≤ L.length ∧ i = .int .i64 k ∧ OwnS w1.heap.size u (compT M (L.take k)) wr ∧ Below w1.heap.size w1 wr) (fun _ i _ => L.length - (intOf i).toNat)
  case atStart => exact ⟨0, Nat.zero_le _, rfl, ownS_nil _ _, Below.refl _ _⟩
  case round =>
    obtain ⟨k, hk, rfl, hown, hb⟩ := hrel
    have hbs := hb.size
    have HST := Lib.hid (H1.out.1.keep hb)
    by_cases hlk : k < L.length
    · obtain ⟨b, off, rfl, hlb, hc⟩ : ∃ b off, rl = some ⟨b, off, none⟩ ∧ b < wr.heap.size ∧ ∀ j, j < L.length → wr.cell? ⟨b, off + j, none⟩ = some (.string (L.getD j ByteArray.empty)) := by
        rcases HROW.out.below hb with h | h
        · rw [h] at hlk; simp at hlk
        · exact h
      have hck := hc k hlk
      have hxm := getD_mem hlk
      have hxs := HL.out.small _ hxm
      have hxh := (HL.out.mem _).1 hxm
      have hss := HM.out _ hxh
      have HE := Lib.hid (compT_take M L hlk)
      have hnl : (compT M (L.take k)).length ≤ k := by unfold compT; rw [List.length_map, List.length_take]; omega
      generalize compT M (L.take k) = T at *
      clear hc hxm
      generalize L.getD k ByteArray.empty = x at *
      have c4 := HST.out.blk.c4
      have hltr := HST.out.blk.lt
      obtain ⟨v0, ps, hrun, hv0⟩ := HST.out.map.lookup strKeyed Tryz.underlying77 (zeroPiece wr) (pieceE_mk ByteArray.empty) (strKey hxs)
      obtain ⟨sx, rfl, hsx⟩ := pieceE_inv hv0
      have hsa : strAt M x = sx := strAt_eq (Prod.mk.inj hsx).1
      rw [hsa] at hss HE
      have hfl := fun W => field_piece sx W
      have hadd := fun W => run_string_add_sum (P := Tryz.prog) (w := W) ⟨#[0]⟩ sx (by show 1 + sx.size ≤ _; omega)
      have hcm : (⟨#[0]⟩ : ByteArray) ++ sx = cameB sx := ba_eq (by simp [cameB])
      rw [hcm] at hadd
      clear hcm hv0 hsx hsa hxh hxs
      generalize cameB sx = cx at *
      have HB := Lib.hid hb
      clear hb
      go_wp2_with (at_builtin; refine wpList_append_own _ rfl _ _ 40 rfl w1.heap.size 9 i0 (.string ByteArray.empty) 1 16 Tryz.underlying40 hi hz0 hz1 hz2 rfl (by decide) _ _ _ rfl (World.ownsRow.alloc hown _) ⟨wr.heap.size, 0, none⟩ 1 1 [Value.string cx] rfl rfl ?c1 ?c2 ?c3 ?c4 ?c5 ?_)
      case c1 =>
        intro j u hj
        match j, hj with
        | 0, hj => simp at hj; subst hj; simp [Addr.add]
      case c2 => intro u hu; simp at hu; subst hu; rfl
      case c3 => unfold maxLen; omega
      case c4 => omega
      case c5 => simp; omega
      intro v' w3 hown3 hg3 _
      have H3 := Lib.hid (show OwnS w1.heap.size v' (compT M (L.take (k + 1))) w3 ∧ Below w1.heap.size w1 w3 from
        ⟨by rw [HE.out]; unfold OwnS; rw [List.length_append, List.map_append]; exact hown3,
         (HB.out.alloc (by omega) _).grown hg3 (by simp; omega) (fun j hj => (World.ownsRow.lt hown j hj).1)⟩)
      clear hown3 hown hg3
      go_wp2
      go_roundw
      case rel => exact ⟨k + 1, by omega, by go_num, H3.out⟩
      case measure => simp [intOf]; omega
    · obtain rfl : k = L.length := by omega
      rw [List.take_length] at hown
      obtain ⟨rt, ct, rfl, hrow2, -, hmax2⟩ := ownS_from hown
      have hTl : (compT M L).length ≤ L.length := by unfold compT; rw [List.length_map]; exact Nat.le_refl _
      have hsz2 : ∀ t ∈ compT M L, t.size ≤ 201 := fun t ht => by
        obtain ⟨id, hid, rfl⟩ := List.mem_map.1 ht
        rw [cameB_size]; have := HM.out id ((HL.out.mem id).1 hid); omega
      have hel := encRecs_le (compT M L) 201 (by omega) hsz2
      have hel2 : (encRecs (compT M L)).length ≤ 1000000 := by
        have : (compT M L).length * (201 + 14) ≤ 1000 * 215 := Nat.mul_le_mul (by omega) (by omega)
        omega
      have HREC := Lib.hid (records_any' rt ct (compT M L) wr hrow2 (by omega) (fun t ht => by have := hsz2 t ht; omega) hel2)
      have HRP := Lib.hid (fun W (hW : ST a B D s bl S seg m N M va vc zs torn false W) => HREP.out W hW (recsB (compT M L)) hel2)
      have HB := Lib.hid hb
      clear hown hrow2 hmax2 hsz2 hel hel2 hb
      generalize (compT M L).length = tn at *
      obtain ⟨r, s', hr⟩ : ∃ r s', repO zs s (recsB (compT M L)) = (r, s') := ⟨_, _, rfl⟩
      have HR := Lib.hid hr
      rw [hr] at HRP
      clear hr
      obtain ⟨body, hbd⟩ : ∃ b, recsB (compT M L) = b := ⟨_, rfl⟩
      rw [hbd] at HRP HREC
      clear hbd
      go_wp2_with fail
      refine HREC.out.mono ?_
      rintro e w3 ⟨rfl, hb3⟩
      have H3 := Lib.hid (And.intro (HST.out.keep hb3) (Fr.of_below (bl := sal S m va bl) ((H1.out.2.trans (HB.out.mono H1.out.2.size)).trans (hb3.mono (by have := H1.out.2.size; omega)))))
      clear hb3
      have HX := Lib.hid (HRP.out w3 H3.out.1)
      by_cases hr0 : r = 0
      · subst hr0
        go_wp2_with fail
        refine HX.out.mono ?_
        rintro e w4 ⟨al4, rfl, hf4, hok4, -⟩
        obtain ⟨bl4, va4, vc4, rfl, hst4⟩ := hok4 rfl
        have H4 := Lib.hid (And.intro hst4 (H3.out.2.tr hf4))
        clear hst4 hf4 hok4
        go_wp2_with fail
        go_ret
        exact ⟨L, HL.out, _, by rw [HR.out]; rfl, H4.out.2, fun _ => ⟨bl4, va4, vc4, rfl, by rw [HR.out]; exact H4.out.1⟩, fun e => absurd (by rw [HR.out]) e⟩
      · have hne : (r != 0) = true := by simp [hr0]
        go_wp2_with fail
        refine HX.out.mono ?_
        rintro e w4 ⟨al4, rfl, hf4, -, hbad⟩
        obtain ⟨bl4, N4, M4, va4, vc4, zs4, t4, e4, rfl, hst4⟩ := hbad hr0
        have H4 := Lib.hid (And.intro hst4 (H3.out.2.tr hf4))
        have HFL := Lib.hid (failed_any w4 hst4 r)
        clear hst4 hf4 hbad
        go_wp2_with fail
        refine HFL.out.mono ?_
        rintro e w5 ⟨rfl, hst5, hf5⟩
        have H5 := Lib.hid (And.intro hst5 (H4.out.2.tr hf5))
        clear hst5 hf5
        go_wp2_with fail
        go_ret
        exact ⟨L, HL.out, _, by rw [HR.out]; rfl, H5.out.2, fun e => absurd (by rw [HR.out] at e; exact e) hr0, fun _ => ⟨bl4, N4, M4, va4, vc4, zs4, t4, _, rfl, by rw [HR.out]; exact H5.out.1⟩⟩
end
end Go.Proofs.YtjimgncefeldbaaGreatDoor
