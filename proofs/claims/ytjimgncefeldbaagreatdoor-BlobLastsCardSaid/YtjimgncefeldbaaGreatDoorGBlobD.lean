/-
  blob: hear.
  blob: load.
  blob: Open.
-/
import Derived.Test.YtjimgncefeldbaaGreatDoorGBlobC
namespace Go.Proofs.YtjimgncefeldbaaGreatDoor
open Go.Shelf Go.RowKit Go.Sort Go.Maps

/-- what a call leaves that answers nothing: the store reads so -/
def Heard (a : Addr) (B D : Nat) (s : DS) (bl : List Nat) (S seg m N : Nat) (M : DU) (va : Option Addr) (vc : Nat) (zs : List Nat) (torn en : Bool) (w : World) (e : Ending) (w' : World) : Prop :=
  e = .returned (.tuple #[]) ∧ ST a B D s bl S seg m N M va vc zs torn en w' ∧ Fr (sal S m va bl) (sal S m va bl) w w'

section
variable {a : Addr} {B D S seg m N vc : Nat} {s : DS} {bl : List Nat} {M : DU} {va : Option Addr} {zs : List Nat} {torn en : Bool}

theorem ST.more {w : World} (h : ST a B D s bl S seg m N M va vc zs torn en w) (N' : Nat) (hN : N ≤ N') : ST a B D s bl S seg m N' M va vc zs torn en w :=
  ⟨h.sw, h.blk, h.map.mono hN, h.own, h.sha, h.g3, h.sb, h.mb, h.so, h.mo, h.sm, h.vo⟩

theorem cut_nil (p : UInt8) : Lib.hasPrefix [] [p] = false := rfl
theorem cut_cons (c p : UInt8) (r : List UInt8) : Lib.hasPrefix (c :: r) [p] = decide (c = p) ∧ Lib.trimPrefix (c :: r) [p] = if c = p then r else c :: r := by
  have h : Lib.hasPrefix (c :: r) [p] = decide (c = p) := by
    unfold Lib.hasPrefix
    by_cases e : c = p
    · subst e; simp
    · have : p ≠ c := fun e' => e e'.symm
      simp [List.isPrefixOf, e, this]
  refine ⟨h, ?_⟩
  unfold Lib.trimPrefix
  rw [h]
  by_cases e : c = p <;> simp [e]

theorem cutE (s p : ByteArray) (w : World) :
    Calls Tryz.prog 113 #[.string s, .string p] w fun e w' => e = .returned (.tuple #[.string ⟨(Lib.trimPrefix s.data.toList p.data.toList).toArray⟩, .bool (Lib.hasPrefix s.data.toList p.data.toList)]) ∧ w = w' :=
  (cutC s p w).mono fun _ _ h => ⟨h.1, h.2.symm⟩

set_option maxHeartbeats 4000000 in
set_option maxRecDepth 100000 in
theorem hear_any (w : World) (h : ST a B D s bl S seg m N M va vc zs torn en w) (t : ByteArray) (ht : t.size ≤ 5000) (hN : N ≤ 1000000) :
    Calls Tryz.prog 92 #[.pointer (some ⟨S, 0, none⟩), .string t] w (Heard a B D s bl S seg m (N + 1) (hearS M t) va vc zs torn en w) := by
  have hc0 := fun W => cutE t ⟨#[0]⟩ W
  have hc1 := fun W => cutE t ⟨#[1]⟩ W
  have c4 := h.blk.c4
  have hlt := h.blk.lt
  have H := Lib.hid h
  cases hl : t.data.toList with
  | nil =>
    rw [hl] at hc0 hc1
    rw [show Lib.hasPrefix [] (⟨#[0]⟩ : ByteArray).data.toList = false from rfl] at hc0
    rw [show Lib.hasPrefix [] (⟨#[1]⟩ : ByteArray).data.toList = false from rfl] at hc1
    have hh : hearS M t = M := by unfold hearS; rw [hl]
    rw [hh]
    generalize (⟨(Lib.trimPrefix [] (⟨#[0]⟩ : ByteArray).data.toList).toArray⟩ : ByteArray) = x0 at hc0
    generalize (⟨(Lib.trimPrefix [] (⟨#[1]⟩ : ByteArray).data.toList).toArray⟩ : ByteArray) = x1 at hc1
    clear hl hh h
    go_enter Tryz.func92, Tryz.ntmps92
    go_wp2_with fail
    refine (hc0 _).mono ?_
    rintro e w1 ⟨rfl, rfl⟩
    go_wp2_with fail
    refine (hc1 _).mono ?_
    rintro e w1 ⟨rfl, rfl⟩
    go_wp2_with fail
    go_end0
    exact ⟨rfl, H.out.more _ (Nat.le_succ _), Fr.of_below (Below.refl _ _)⟩
  | cons c r =>
    rw [hl] at hc0 hc1
    rw [show (⟨#[0]⟩ : ByteArray).data.toList = [0] from rfl, (cut_cons c 0 r).1, (cut_cons c 0 r).2] at hc0
    rw [show (⟨#[1]⟩ : ByteArray).data.toList = [1] from rfl, (cut_cons c 1 r).1, (cut_cons c 1 r).2] at hc1
    have hlen : r.length + 1 = t.size := by rw [← ba_len, hl]; rfl
    by_cases h0 : c = 0
    · subst h0
      rw [if_pos rfl] at hc0
      rw [decide_eq_true rfl] at hc0
      obtain ⟨b, hb⟩ : ∃ b : ByteArray, b = ⟨r.toArray⟩ := ⟨_, rfl⟩
      rw [← hb] at hc0
      have hbs : b.size ≤ 5000 := by rw [hb]; show r.length ≤ _; omega
      have hbr : b.data.toList = r := by rw [hb]
      have hh : hearS M t = M.put (kL (idS b)) (vL b) := by
        unfold hearS; rw [hl]; simp only [if_true]; rw [← hb]; unfold vL; rw [hbr]
      rw [hh]
      clear hl hh hc1 hlen hb hbr
      have hid := idC b w.drew hbs (h.sha)
      have HID := Lib.hid hid
      have hks : (idS b).size ≤ maxLen := by rw [idS_size]; decide
      have hkey := strKey hks
      clear hid h hks
      generalize idS b = ib at *
      go_enter Tryz.func92, Tryz.ntmps92
      go_wp2_with fail
      refine (hc0 _).mono ?_
      rintro e w1 ⟨rfl, rfl⟩
      clear hc0
      go_wp2_with fail
      go_region_with (first
        | (go_at_call 57; go_loud (refine HID.out.mono ?_; rintro e w1 ⟨rfl, hb1⟩; (have hb1' : Below w.heap.size w w1 := ((Below.refl _ _).drew).trans hb1); (have H1 := Lib.hid (H.out.keep hb1')); (have HB1 := Lib.hid hb1'); (have c4 := H1.out.blk.c4); (have hlt1 := H1.out.blk.lt); (obtain ⟨w2, hrun, hown2, hg2⟩ := H1.out.map.update strKeyed Tryz.underlying77 (show N < maxLen by unfold maxLen; omega) hkey (pieceE_mk b)); (have H2 := Lib.hid (And.intro (H1.out.setMap hown2 hg2) ((Fr.of_below (bl := sal S m va bl) HB1.out).tr (H1.out.fr_map hg2)))); clear hown2 hg2 hb1 hb1')))
      all_goals
        go_wp2_with fail
        go_end0
        exact ⟨rfl, H2.out⟩
    · rw [if_neg h0, decide_eq_false h0] at hc0
      by_cases h1 : c = 1
      · subst h1
        rw [if_pos rfl, decide_eq_true rfl] at hc1
        obtain ⟨b, hb⟩ : ∃ b : ByteArray, b = ⟨r.toArray⟩ := ⟨_, rfl⟩
        rw [← hb] at hc1
        have hbs : b.size ≤ 5000 := by rw [hb]; show r.length ≤ _; omega
        have hbr : b.data.toList = r := by rw [hb]
        have hh : hearS M t = M.del (kL b) := by
          unfold hearS; rw [hl]; simp only [if_neg h0, if_true]; unfold kL; rw [hbr]
        rw [hh]
        clear hl hh hlen hb hbr h0
        have hkey := strKey (show b.size ≤ maxLen by unfold maxLen; omega)
        have hown := h.map
        generalize (⟨(1 :: r).toArray⟩ : ByteArray) = x0 at hc0
        clear h
        go_enter Tryz.func92, Tryz.ntmps92
        go_wp2_with fail
        refine (hc0 _).mono ?_
        rintro e w1 ⟨rfl, rfl⟩
        clear hc0
        go_wp2_with fail
        refine (hc1 _).mono ?_
        rintro e w1 ⟨rfl, rfl⟩
        clear hc1
        go_wp2_with (at_delete; refine wpList_delete_own _ rfl _ _ 77 9 rfl 83 strKeyed Tryz.underlying77 pieceE m N M rfl hown _ (kL b) rfl hkey ?_; intro w1 hown1 hturn1)
        go_end0
        exact ⟨rfl, (H.out.setMap hown1 hturn1.grown).more _ (Nat.le_succ _), H.out.fr_map hturn1.grown⟩
      · rw [if_neg h1, decide_eq_false h1] at hc1
        have hh : hearS M t = M := by unfold hearS; rw [hl]; simp only [if_neg h0, if_neg h1]
        rw [hh]
        generalize (⟨(c :: r).toArray⟩ : ByteArray) = x0 at hc0 hc1
        clear hl hh hlen h0 h1 h
        go_enter Tryz.func92, Tryz.ntmps92
        go_wp2_with fail
        refine (hc0 _).mono ?_
        rintro e w1 ⟨rfl, rfl⟩
        go_wp2_with fail
        refine (hc1 _).mono ?_
        rintro e w1 ⟨rfl, rfl⟩
        go_wp2_with fail
        go_end0
        exact ⟨rfl, H.out.more _ (Nat.le_succ _), Fr.of_below (Below.refl _ _)⟩
end
end Go.Proofs.YtjimgncefeldbaaGreatDoor

namespace Go.Proofs.YtjimgncefeldbaaGreatDoor
open Go.Shelf Go.RowKit Go.Sort Go.Maps
attribute [-go_sem] Builtin.append_

theorem fr_below {a : Addr} {B D S seg m N vc : Nat} {s : DS} {bl : List Nat} {M : DU} {va : Option Addr} {zs : List Nat} {torn en : Bool} {w w' : World} {al : List Nat} (h : ST a B D s bl S seg m N M va vc zs torn en w) (hf : Fr (sal S m va bl) al w w') : Below B w w' := h.below hf
theorem replay_take (M : DU) (l : List ByteArray) {k : Nat} (hk : k < l.length) : replay M (l.take (k + 1)) = hearS (replay M (l.take k)) (l.getD k ByteArray.empty) := by
  rw [List.take_succ_eq_append_getElem hk, List.getD_eq_getElem?_getD, List.getElem?_eq_getElem hk]
  unfold replay
  rw [List.foldl_append]; rfl

section
variable {a : Addr} {B D S seg m N vc : Nat} {s : DS} {bl : List Nat} {M : DU} {va : Option Addr} {zs : List Nat} {torn en : Bool}

/-- what load leaves -/
def Taken (a : Addr) (B D : Nat) (s : DS) (bl : List Nat) (S seg m N : Nat) (M : DU) (zs : List Nat) (torn en : Bool) (al : List Nat) (w : World) (e : Ending) (w' : World) : Prop :=
  ∃ va' vc', e = .returned (.int .i64 0) ∧ ST a B D s bl S seg m N M va' vc' zs torn en w' ∧ Fr al (sal S m va' bl) w w'

set_option maxHeartbeats 8000000 in
set_option maxRecDepth 100000 in
theorem load_any (w : World) (h : ST a B D s bl S seg m N M va vc zs torn en w) (g : Nat) (hg : g < 32) (body : ByteArray) (hrd : readD s (genN blobB g) = (body, 0)) (hbs : body.size ≤ 1000000) (T : List ByteArray) (n : Nat) (hf : fallS body = (T, n))
    (hT : ∀ t ∈ T, t.size ≤ 5000) (hN : N + T.length ≤ 1000000) (hz : zs.length ≤ 1000) (hTl : T.length ≤ 1000000) :
    Calls Tryz.prog 50 #[.pointer (some ⟨S, 0, none⟩), .string (genN blobB g)] w (Taken a B D s bl S seg m (N + T.length) (replay M T) (zs ++ [g]) (decide (n < body.size)) en (sal S m va bl) w) := by
  obtain ⟨i0, hi, hz0, hz1, hz2⟩ := info_parts intInfo
  have c0 := h.blk.c0
  have hlt := h.blk.lt
  have H := Lib.hid h
  have hr := dRead h.sw.disk (genN blobB g)
  rw [hrd] at hr
  have hall := fun W => fallC body W hbs
  rw [hf] at hall
  have HALL := Lib.hid hall
  have HT := Lib.hid hT
  have hnum := fun W => number_gen D blobB blob_ok g hg W
  have HNUM := Lib.hid hnum
  clear hrd hf hall hT hnum h
  obtain ⟨nmB, hnm⟩ : ∃ x, blobB = x := ⟨_, rfl⟩
  have HNM := Lib.hid hnm
  rw [hnm] at HNUM hr
  rw [hnm]
  clear hnm
  generalize genN nmB g = gb at *
  go_enter Tryz.func50, Tryz.ntmps50
  go_wp2_with fail
  refine hr.mono ?_
  rintro e w1 ⟨rfl, hb1⟩
  have H1 := Lib.hid (H.out.keep hb1)
  have HF1 := Lib.hid (Fr.of_below (bl := sal S m va bl) hb1)
  clear hb1 hr c0
  go_wp2_with fail
  refine (HALL.out _).mono ?_
  rintro e w2 ⟨v, rfl, hown, hb2⟩
  simp only at hown ⊢
  obtain ⟨ra, cap, rfl, hrow, hbase, hmax⟩ := ownS_from hown
  have H2 := Lib.hid (H1.out.keep hb2)
  have HF2 := Lib.hid (HF1.out.tr (Fr.of_below hb2))
  have HROW := Lib.hid (And.intro hrow (fun b off e hin => by
    have h1 := hbase b off e
    have h2 := (H1.out.lt b hin).2
    omega : ∀ b off, ra = some ⟨b, off, none⟩ → b ∉ sal S m va bl))
  clear hown hrow hbase hb2 HALL hmax
  go_wp2_with fail
  go_loopw [30] (fun i wr => ∃ k : Nat, k ≤ T.length ∧ i = .int .i64 k ∧ Hid (ST a B D s bl S seg m (N + k) (replay M (T.take k)) va vc zs torn en wr ∧ Fr (sal S m va bl) (sal S m va bl) w2 wr)) (fun i _ => T.length - (intOf i).toNat)
  case atStart => exact ⟨0, Nat.zero_le _, rfl, ⟨by simpa [replay] using H2.out, Fr.of_below (Below.refl _ _)⟩⟩
  case round =>
    rename_i wr
    obtain ⟨k, hk, rfl, hh⟩ := hrel
    by_cases hlt' : k < T.length
    · obtain ⟨b, off, rfl, hlb, hc⟩ : ∃ b off, ra = some ⟨b, off, none⟩ ∧ b < wr.heap.size ∧ ∀ j, j < T.length → wr.cell? ⟨b, off + j, none⟩ = some (.string (T.getD j ByteArray.empty)) := by
        rcases strRow_fr HROW.out.1 hh.out.2 HROW.out.2 with h | h
        · rw [h] at hlt'; simp at hlt'
        · exact h
      have hck := hc k hlt'
      have HE := Lib.hid (replay_take M T hlt')
      have HX := Lib.hid (HT.out _ (getD_mem hlt'))
      clear hc
      generalize T.getD k ByteArray.empty = x at *
      have HC := Lib.hid (hear_any wr hh.out.1 x HX.out (by omega))
      go_wp2_with fail
      refine HC.out.mono ?_
      rintro e w3 ⟨rfl, hst, hfr⟩
      have H3 := Lib.hid (show ST a B D s bl S seg m (N + (k + 1)) (replay M (T.take (k + 1))) va vc zs torn en w3 ∧ Fr (sal S m va bl) (sal S m va bl) w2 w3 from ⟨by rw [HE.out]; exact hst, hh.out.2.tr hfr⟩)
      clear hst hfr hck
      go_wp2_with fail
      go_roundw
      case rel => exact ⟨k + 1, by omega, by go_num, H3⟩
      case measure => simp [intOf]; omega
    · obtain rfl : k = T.length := by omega
      rw [List.take_length] at hh
      have hbd : Below wr.heap.size wr wr.drew := (Below.refl _ wr).drew
      have c1 := hh.out.1.blk.c1
      have c2 := hh.out.1.blk.c2
      have c5 := hh.out.1.blk.c5
      have hltr := hh.out.1.blk.lt
      rw [HNM.out] at c2
      have HNW := Lib.hid (HNUM.out wr.drew)
      clear hbd
      go_upto_region 10 with fail
      go_region_with (first
        | (go_at_call 81; refine HNW.out.mono ?_; rintro e w4 ⟨rfl, hb4⟩; (have hb4' : Below wr.heap.size wr w4 := ((Below.refl _ _).drew).trans hb4); (have H4 := Lib.hid (hh.out.1.keep hb4')); (have HB4 := Lib.hid hb4'); (have d1 := H4.out.blk.c1); (have d2 := H4.out.blk.c2); (have d5 := H4.out.blk.c5); (rw [HNM.out] at d2); (have dlt := H4.out.blk.lt);
           (have hbn : Below w4.heap.size w4 (w4.alloc (.cells #[.int .i64 (g : Int)] 3)) := (Below.refl _ _).alloc (Nat.le_refl _) _);
           (obtain ⟨v', w5, hrun, hown5, hg5, -, hloc5⟩ := run_append_own_at (P := Tryz.prog) (w := w4.alloc (.cells #[.int .i64 (g : Int)] 3)) B 78 78 3 i0 (.int .i64 0) 1 8 Tryz.underlying78 hi hz0 hz1 hz2 rfl (by decide) (.slice va zs.length vc) zs.length _ (World.ownsRow.alloc H4.out.own _) ⟨w4.heap.size, 0, none⟩ 1 1 [.int .i64 (g : Int)] rfl (cell_one_new _ _ _) (by simp [Value.oneCell']) (by unfold maxLen; omega) (by omega) (by have := H4.out.size; simp; omega));
           (have hown6 : OwnI B v' (zs ++ [g]) w5 := by unfold OwnI; rw [List.length_append, List.map_append]; exact hown5);
           (obtain ⟨va', vc', rfl, -, -, -⟩ := ownI_row hown6);
           (obtain ⟨hblk6, hst6, hfr6⟩ := (H4.out.keep hbn).newSegs hg5 hown6 (hloc5.imp id (fun e => e.trans (by simp))));
           (have k5 := hblk6.c5); (have f5 := hblk6.free 5); (have klt := hblk6.lt);
           (have k6 := hblk6.c6); (have f6 := hblk6.free 6);
           (have H6 := Lib.hid (And.intro hst6 (((HF2.out.tr hh.out.2).tr (Fr.of_below (HB4.out.trans (hbn.mono HB4.out.size)))).tr hfr6)));
           clear hb4 hb4' hbn hown5 hown6 hg5 hloc5 hblk6 hst6 hfr6))
      all_goals
        have H7 := Lib.hid (And.intro (H6.out.1.setTorn (decide (n < body.size))) (H6.out.2.tr (H6.out.1.fr_set 6 (.bool (decide (n < body.size))))))
        rw [show (zs ++ [g]).length = zs.length + 1 by simp] at H7
        go_wp2_with fail
        go_ret
        exact ⟨va', vc', rfl, H7.out⟩
end
end Go.Proofs.YtjimgncefeldbaaGreatDoor

namespace Go.Proofs.YtjimgncefeldbaaGreatDoor
open Go.Shelf Go.RowKit Go.Sort Go.Maps

/-- what the segments' bytes tell -/
def textsOf (gs : List (Nat × ByteArray)) : List ByteArray := gs.flatMap fun p => (fallS p.2).1
/-- do bytes stand behind the whole records of the last segment? -/
def tornOf (gs : List (Nat × ByteArray)) : Bool := match gs.getLast? with | some p => decide ((fallS p.2).2 < p.2.size) | none => false
/-- what Open finds on a disk: the segments and their bytes; and what it leaves -/
structure OpenS (s : DS) (gs : List (Nat × ByteArray)) (s' : DS) : Prop where
  off : s.off = false
  len : (listD s (dashN blobB)).length ≤ 2000
  names : ∀ n ∈ listD s (dashN blobB), (∃ g, 1 ≤ g ∧ g < 32 ∧ n = genN blobB g) ∨ n = newN blobB
  files : ((listD s (dashN blobB)).filter fun n => decide (n ≠ newN blobB)) = gs.map fun p => genN blobB p.1
  nums : ∀ p ∈ gs, p.1 < 32
  reads : ∀ p ∈ gs, readD s (genN blobB p.1) = (p.2, 0)
  sizes : ∀ p ∈ gs, p.2.size ≤ 1000000
  small : ∀ p ∈ gs, ∀ t ∈ (fallS p.2).1, t.size ≤ 5000
  count : (textsOf gs).length ≤ 900000
  glen : gs.length ≤ 900
  drops : dropS s (newN blobB) = (0, s')

/-- what Open leaves -/
def Opened (a : Addr) (B D : Nat) (s : DS) (bl : List Nat) (seg cnt : Nat) (M : DU) (zs : List Nat) (torn : Bool) (w : World) (e : Ending) (w' : World) : Prop :=
  ∃ S m N bl' va vc, e = .returned (.tuple #[.pointer (some ⟨S, 0, none⟩), .int .i64 0]) ∧ w.heap.size ≤ S ∧ N = cnt ∧ ST a B D s bl' S seg m N M va vc zs torn false w' ∧ Fr bl (sal S m va bl') w w'

theorem texts_take (gs : List (Nat × ByteArray)) {k : Nat} {p : Nat × ByteArray} (hp : gs[k]? = some p) : textsOf (gs.take (k + 1)) = textsOf (gs.take k) ++ (fallS p.2).1 ∧ gs.take (k + 1) = gs.take k ++ [p] := by
  have hk := (List.getElem?_eq_some_iff.1 hp)
  obtain ⟨hk, rfl⟩ := hk
  have e := List.take_succ_eq_append_getElem hk
  refine ⟨?_, e⟩
  rw [e]; unfold textsOf; rw [List.flatMap_append]; simp
theorem texts_take_le (gs : List (Nat × ByteArray)) (k : Nat) : (textsOf (gs.take k)).length ≤ (textsOf gs).length := by
  conv => rhs; rw [← List.take_append_drop k gs]
  unfold textsOf; rw [List.flatMap_append, List.length_append]; omega

set_option maxHeartbeats 8000000 in
set_option maxRecDepth 100000 in
theorem open_any {a : Addr} {B D : Nat} {s s' : DS} {bl : List Nat} (w : World) (h : SW a B D s bl w) (hT : Tab w) (g3 : 2 < B) (seg : Nat) (hs1 : 1 ≤ seg) (hs2 : seg ≤ 1048576) (gs : List (Nat × ByteArray)) (ho : OpenS s gs s') :
    Calls Tryz.prog 16 #[.pointer (some ⟨D, 0, none⟩), .string blobB, .int .i64 (seg : Int)] w (Opened a B D s' bl seg (textsOf gs).length (replay (.map []) (textsOf gs)) (gs.map (·.1)) (tornOf gs) w) := by
  have hoff := dOff h.disk
  rw [ho.off] at hoff
  have hd1 : decide ((seg : Int) < 1) = false := by simp; omega
  have hd2 : decide ((1048576 : Int) < (seg : Int)) = false := by simp; omega
  have hmm := @run_makeMap Tryz.prog
  have H := Lib.hid (And.intro h (And.intro hT g3))
  have HO := Lib.hid ho
  have hnmC := fun W => isName_ok blobB blob_ok W
  have hOf := fun W => of_any D blobB W
  have hFR := fun W => fresh_any D blobB blob_ok W
  have HFR := Lib.hid hFR
  have HOF := Lib.hid hOf
  have HL := Lib.hid (fun W (hW : SW a B D s bl W) => serList_any blobB blob_ok W hW _ rfl ho.len ho.names)
  have HDR := Lib.hid (fun W (hW : SW a B D s bl W) => drop_any blobB W hW (newN blobB))
  clear h hT ho hFR hOf
  obtain ⟨nmB, hnm⟩ : ∃ x, blobB = x := ⟨_, rfl⟩
  have HNM := Lib.hid hnm
  rw [hnm] at HFR HOF HL HDR hnmC
  rw [hnm]
  clear hnm
  go_enter Tryz.func16, Tryz.ntmps16
  go_wp2_with fail
  refine hoff.mono ?_
  rintro e w0 ⟨rfl, rfl⟩
  clear hoff
  go_wp2_with fail
  refine (hnmC _).mono ?_
  rintro e w0 ⟨rfl, rfl⟩
  clear hnmC
  go_wp2_with fail
  refine (HOF.out _).mono ?_
  rintro e w1 ⟨rfl, hb1⟩
  have H1 := Lib.hid (And.intro (H.out.1.keep hb1) (And.intro (H.out.2.1.kept (hb1.mono H.out.1.size) H.out.2.2) hb1))
  clear hb1
  have hbm : Below w1.heap.size w1 (w1.alloc (.map #[] 0)) := (Below.refl _ _).alloc (Nat.le_refl _) _
  have hbs : Below (w1.alloc (.map #[] 0)).heap.size (w1.alloc (.map #[] 0)) ((w1.alloc (.map #[] 0)).alloc (.cells #[.pointer (some ⟨D, 0, none⟩), .pointer (some ⟨D, 0, none⟩), .string nmB, .int .i64 (seg : Int), .map (some w1.heap.size), .slice none 0 0, .bool false, .bool false] 80)) := (Below.refl _ _).alloc (Nat.le_refl _) _
  have hst : ST a B D s bl (w1.heap.size + 1) seg w1.heap.size 0 (.map []) none 0 [] false false ((w1.alloc (.map #[] 0)).alloc (.cells #[.pointer (some ⟨D, 0, none⟩), .pointer (some ⟨D, 0, none⟩), .string nmB, .int .i64 (seg : Int), .map (some w1.heap.size), .slice none 0 0, .bool false, .bool false] 80)) := by
    have e1 : (w1.alloc (.map #[] 0)).heap.size = w1.heap.size + 1 := by simp
    have hsw := (H1.out.1.keep hbm).keep hbs
    have hB1 := H1.out.1.size
    have hlt := H1.out.1.disk.lt
    refine ⟨hsw, ?_, (World.ownsMap_made w1 Tryz.prog 9 pieceE).alloc _, ownI_nil _ _, ?_, H.out.2.2, by omega, hB1, fun hk => ?_, fun hk => ?_, by omega, fun g e => by cases e⟩
    · have := heap_alloc_new (w1.alloc (.map #[] 0)) (.cells #[.pointer (some ⟨D, 0, none⟩), .pointer (some ⟨D, 0, none⟩), .string nmB, .int .i64 (seg : Int), .map (some w1.heap.size), .slice none 0 0, .bool false, .bool false] 80)
      rw [e1] at this
      unfold StoC; rw [HNM.out]; exact this
    · exact (H1.out.2.1.kept (hbm.mono hB1) H.out.2.2).kept (hbs.mono (by rw [e1]; omega)) H.out.2.2
    · have := (hlt _ hk).2; omega
    · have := (hlt _ hk).2; omega
  have hfr0 : Fr bl (sal (w1.heap.size + 1) w1.heap.size none bl) w ((w1.alloc (.map #[] 0)).alloc (.cells #[.pointer (some ⟨D, 0, none⟩), .pointer (some ⟨D, 0, none⟩), .string nmB, .int .i64 (seg : Int), .map (some w1.heap.size), .slice none 0 0, .bool false, .bool false] 80)) := by
    have e1 : (w1.alloc (.map #[] 0)).heap.size = w1.heap.size + 1 := by simp
    have hw := H1.out.2.2.size
    have hall : Below w.heap.size w ((w1.alloc (.map #[] 0)).alloc (.cells #[.pointer (some ⟨D, 0, none⟩), .pointer (some ⟨D, 0, none⟩), .string nmB, .int .i64 (seg : Int), .map (some w1.heap.size), .slice none 0 0, .bool false, .bool false] 80)) := (H1.out.2.2.trans (hbm.mono hw)).trans (hbs.mono (by rw [e1]; omega))
    refine (Fr.of_below (bl := bl) hall).wide (fun k hk => hk) (fun k hk => ?_)
    rcases mem_sal.1 hk with rfl | rfl | ⟨ad, e, _⟩ | hk
    · exact .inr (.inr (by omega))
    · exact .inr (.inr hw)
    · cases e
    · exact .inl hk
  have HST := Lib.hid (And.intro hst hfr0)
  clear hbm hbs hst hfr0
  go_wp2_with fail
  obtain ⟨V, hV⟩ : ∃ V, ((w1.alloc (.map #[] 0)).alloc (.cells #[.pointer (some ⟨D, 0, none⟩), .pointer (some ⟨D, 0, none⟩), .string nmB, .int .i64 (seg : Int), .map (some w1.heap.size), .slice none 0 0, .bool false, .bool false] 80)) = V := ⟨_, rfl⟩
  rw [hV] at HST ⊢
  have HSge := Lib.hid (show w.heap.size ≤ w1.heap.size + 1 by have := H1.out.2.2.size; omega)
  obtain ⟨S, hS⟩ : ∃ S, w1.heap.size + 1 = S := ⟨_, rfl⟩
  rw [hS] at HST HSge ⊢
  generalize w1.heap.size = m at HST
  clear hV H1 hmm hS
  refine (HL.out V HST.out.1.sw).mono ?_
  rintro e w2 ⟨v, rfl, hown, hb2⟩
  have hfiles : ((listD s (dashN nmB)).filter fun n => decide (n ≠ newN nmB)) = gs.map fun p => genN nmB p.1 := by rw [← HNM.out]; exact HO.out.files
  rw [hfiles] at hown
  obtain ⟨ra, cap, rfl, hrow, hbase, hmax⟩ := ownS_from hown
  rw [List.length_map] at *
  have H2 := Lib.hid (And.intro (HST.out.1.keep hb2) (HST.out.2.tr (Fr.of_below hb2)))
  have HROW := Lib.hid (And.intro hrow (fun b off e hin => by
    have h1 := hbase b off e
    have h2 := (HST.out.1.lt b hin).2
    omega : ∀ b off, ra = some ⟨b, off, none⟩ → b ∉ sal S m none bl))
  clear hown hrow hbase hmax hb2 hfiles HL HOF
  have hglen := HO.out.glen
  go_wp2_with fail
  go_loopw [44] (fun i wr => ∃ (k N : Nat) (va : Option Addr) (vc : Nat), k ≤ gs.length ∧ i = .int .i64 k ∧ Hid (N = (textsOf (gs.take k)).length ∧ ST a B D s bl S seg m N (replay (.map []) (textsOf (gs.take k))) va vc ((gs.take k).map (·.1)) (tornOf (gs.take k)) false wr ∧ Fr (sal S m none bl) (sal S m va bl) w2 wr)) (fun i _ => gs.length - (intOf i).toNat)
  case atStart => exact ⟨0, 0, none, 0, Nat.zero_le _, rfl, ⟨rfl, H2.out.1, Fr.of_below (Below.refl _ _)⟩⟩
  case round =>
    rename_i wr
    obtain ⟨k, N, va, vc, hk, rfl, hh⟩ := hrel
    by_cases hlt : k < gs.length
    · obtain ⟨p, hp⟩ : ∃ p, gs[k]? = some p := ⟨_, List.getElem?_eq_getElem hlt⟩
      have hpm := List.mem_of_getElem? hp
      obtain ⟨b, off, rfl, hlb, hc⟩ : ∃ b off, ra = some ⟨b, off, none⟩ ∧ b < wr.heap.size ∧ ∀ j, j < (gs.map fun p => genN nmB p.1).length → wr.cell? ⟨b, off + j, none⟩ = some (.string ((gs.map fun p => genN nmB p.1).getD j ByteArray.empty)) := by
        rcases strRow_fr HROW.out.1 hh.out.2.2 HROW.out.2 with h | h
        · have := congrArg List.length h; simp at this; rw [this] at hlt; simp at hlt
        · exact h
      have hck := hc k (by simpa using hlt)
      have hget : (gs.map fun p => genN nmB p.1).getD k ByteArray.empty = genN nmB p.1 := by rw [List.getD_eq_getElem?_getD, List.getElem?_map, hp]; rfl
      rw [hget] at hck
      obtain ⟨e1, e2⟩ := texts_take gs hp
      obtain ⟨T, n, hf⟩ : ∃ T n, fallS p.2 = (T, n) := ⟨_, _, rfl⟩
      have hle := texts_take_le gs (k + 1)
      rw [e1, hf, List.length_append] at hle
      simp only at hle
      have hcnt := HO.out.count
      have hload := load_any wr hh.out.2.1 p.1 (HO.out.nums p hpm) p.2 (HO.out.reads p hpm) (HO.out.sizes p hpm) T n hf (fun t ht => HO.out.small p hpm t (by rw [hf]; exact ht)) (by rw [hh.out.1]; omega) (by rw [List.length_map, List.length_take]; omega) (by omega)
      have hnext : tornOf (gs.take (k + 1)) = decide (n < p.2.size) := by unfold tornOf; rw [e2, List.getLast?_concat]; simp only; rw [hf]
      have HLD := Lib.hid hload
      have HNX := Lib.hid (show (textsOf (gs.take (k + 1))).length = N + T.length ∧ replay (.map []) (textsOf (gs.take (k + 1))) = replay (replay (.map []) (textsOf (gs.take k))) T ∧ (gs.take (k + 1)).map (·.1) = (gs.take k).map (·.1) ++ [p.1] ∧ tornOf (gs.take (k + 1)) = decide (n < p.2.size) from
        ⟨by rw [e1, hf, List.length_append, hh.out.1], by rw [e1, hf, replay_app], by rw [e2]; simp, hnext⟩)
      rw [HNM.out] at HLD
      clear hc hget e1 e2 hle hcnt hload hnext hpm
      generalize genN nmB p.1 = fB at *
      go_wp2_with fail
      refine HLD.out.mono ?_
      rintro e w3 ⟨va3, vc3, rfl, hst3, hfr3⟩
      have H3 := Lib.hid (show N + T.length = (textsOf (gs.take (k + 1))).length ∧ ST a B D s bl S seg m (N + T.length) (replay (.map []) (textsOf (gs.take (k + 1)))) va3 vc3 ((gs.take (k + 1)).map (·.1)) (tornOf (gs.take (k + 1))) false w3 ∧ Fr (sal S m none bl) (sal S m va3 bl) w2 w3 from by
        obtain ⟨n1, n2, n3, n4⟩ := HNX.out
        rw [n1, n2, n3, n4]
        exact ⟨rfl, hst3, hh.out.2.2.tr hfr3⟩)
      clear hst3 hfr3 hck
      go_wp2_with fail
      go_roundw
      case rel => exact ⟨k + 1, N + T.length, va3, vc3, by omega, by go_num, H3⟩
      case measure => simp [intOf]; omega
    · obtain rfl : k = gs.length := by omega
      rw [List.take_length] at hh
      have hbd : Below wr.heap.size wr wr.drew := (Below.refl _ wr).drew
      have c1 := hh.out.2.1.blk.c1
      have c2 := hh.out.2.1.blk.c2
      have hltr := hh.out.2.1.blk.lt
      rw [HNM.out] at c2
      have HFI := Lib.hid (HFR.out wr.drew)
      have hso := hh.out.2.1.so
      clear hbd
      go_upto_region 17 with fail
      go_region_held3 (fun U => U.cell? ⟨S, 1, none⟩ = some (.pointer (some ⟨D, 0, none⟩)) ∧ U.cell? ⟨S, 2, none⟩ = some (.string nmB)) (first | go_keep)
        (first
         | ((with_reducible refine HFI.out.mono ?_); rintro e w5 ⟨rfl, hb5⟩
            have hb5' : Below wr.heap.size wr w5 := ((Below.refl _ wr).drew).trans hb5
            have H5 := Lib.hid (And.intro (hh.out.2.1.keep hb5') (hh.out.2.2.tr (Fr.of_below hb5')))
            have c1 := H5.out.1.blk.c1
            have c2 := H5.out.1.blk.c2
            rw [HNM.out] at c2
            have hdr := HDR.out w5 H5.out.1.sw
            rw [show dropS s (newN nmB) = (0, s') by rw [← HNM.out]; exact HO.out.drops] at hdr
            have HDX := Lib.hid hdr
            clear hb5 hb5' hdr)
         | ((with_reducible refine HDX.out.mono ?_); rintro e w6 ⟨bl6, rfl, hd6, hf6⟩
            have H6 := Lib.hid (And.intro (H5.out.1.step hd6 hf6) (H5.out.2.tr (H5.out.1.stepFr hf6)))
            have c1 := H6.out.1.blk.c1
            have c2 := H6.out.1.blk.c2
            rw [HNM.out] at c2
            clear hd6 hf6)
         | fail)
      all_goals
        go_wp2_with fail
        go_ret2
        exact ⟨S, m, N, bl6, va, vc, rfl, HSge.out, hh.out.1, H6.out.1, H2.out.2.tr H6.out.2⟩

set_option maxHeartbeats 1000000 in
set_option maxRecDepth 100000 in
/-- a segment's size that is no size -/
theorem open_zero {a : Addr} {B D : Nat} {s : DS} {bl : List Nat} (w : World) (h : SW a B D s bl w) (ho : s.off = false) :
    Calls Tryz.prog 16 #[.pointer (some ⟨D, 0, none⟩), .string blobB, .int .i64 0] w fun e w' => e = .returned (.tuple #[.pointer none, .int .i64 1]) ∧ w = w' := by
  have hoff := dOff h.disk
  rw [ho] at hoff
  clear h ho
  generalize blobB = nmB
  go_enter Tryz.func16, Tryz.ntmps16
  go_wp2_with fail
  refine hoff.mono ?_
  rintro e w0 ⟨rfl, rfl⟩
  clear hoff
  go_wp2_with fail
  go_ret2
  exact ⟨rfl, rfl⟩
end Go.Proofs.YtjimgncefeldbaaGreatDoor
