/-
  seglog: slices.Clone of texts; Base, Records, Len.
  seglog: record.
  seglog: Append.
  seglog: Snapshot.
-/
import Derived.Test.YtbhcmmglmkgjnaaGreatDoorGSegD
namespace Go.Proofs.YtbhcmmglmkgjnaaGreatDoor
open Go.RowKit Go.Sort

/-- what Clone answers: a row of texts -/
def TextsPost (rs : List ByteArray) (w : World) (e : Ending) (w' : World) : Prop := ∃ ra cap, e = .returned (.slice ra rs.length cap) ∧ StrRow w' ra rs ∧ Below w.heap.size w w' ∧ ∀ b off, ra = some ⟨b, off, none⟩ → w.heap.size ≤ b

set_option maxHeartbeats 1000000 in
set_option maxRecDepth 100000 in
theorem cloneT_any (ra : Option Addr) (rs : List ByteArray) (cap : Nat) (w : World) (hrow : StrRow w ra rs) (hl : rs.length ≤ 4194304) (hcm : rs.length ≤ cap) (hcx : cap ≤ maxLen) :
    Calls Tryz.prog 29 #[.slice ra rs.length cap] w (TextsPost rs w) := by
  obtain ⟨i0, hi, hz0, hz1, hz2⟩ := info_parts strInfo8
  cases ra with
  | none =>
    have h0 : rs = [] := by
      rcases hrow with h | ⟨b, off, e, _⟩
      · exact h
      · cases e
    subst h0
    have HF := Lib.hid (show TextsPost [] w (.returned (.slice none 0 0)) w from ⟨none, 0, rfl, .inl rfl, Below.refl _ _, fun _ _ e => by cases e⟩)
    clear hrow
    have hq := fun (w : World) (a : Option Addr) (n c : Nat) => Lib.run_eql_slice_nil (P := Tryz.prog) w 40 9 a n c 0 0 Tryz.underlying40
    go_enter Tryz.func29, Tryz.ntmps29
    go_wp2_with fail
    go_ret
    exact HF.out
  | some ad =>
    have hcells : ∀ j u, (rs.map Value.string)[j]? = some u → (w.alloc (.cells #[] 9)).cell? (ad.add j) = some u := by
      intro j u hj
      rw [List.getElem?_map] at hj
      rcases hrow with h | ⟨b, off, e, hlt, hc⟩
      · rw [h] at hj; simp at hj
      · cases e
        have hjl : j < rs.length := by
          by_cases hjl : j < rs.length
          · exact hjl
          · rw [List.getElem?_eq_none (by omega)] at hj; simp at hj
        have h1 := hc j hjl
        rw [List.getElem?_eq_getElem hjl] at hj
        simp only [Option.map_some, Option.some.injEq] at hj
        rw [List.getD_eq_getElem?_getD, List.getElem?_eq_getElem hjl] at h1
        have e1 : (⟨b, off, none⟩ : Addr).add j = ⟨b, off + j, none⟩ := by cases j <;> simp [Addr.add]
        rw [e1, ← hj, (Joins.below_alloc1 w _).cell (p := ⟨b, off + j, none⟩) hlt]
        exact h1
    obtain ⟨v', W', hr, ho, hgr, hsf, hform⟩ := run_append_sf (P := Tryz.prog) (w.alloc (.cells #[] 9)) w.heap.size 40 40 40 9 i0 (.string ByteArray.empty) 1 16 Tryz.underlying40 hi hz0 hz1 hz2 rfl _ 0 [] (own_empty0 w _ _)
      (.slice (some ad) rs.length cap) rs.length (rs.map Value.string) (Src.ofSlice _ Tryz.underlying40 ad rs.length cap _ (by simp) hcells (fun u hu => by simp at hu; obtain ⟨x, _, rfl⟩ := hu; rfl)) (by unfold maxLen; omega) (by omega) (by simp)
    simp only [Nat.zero_add, List.nil_append] at ho hform
    have hbel : Below w.heap.size w W' := (Joins.below_alloc1 w _).grown hgr (by simp) (fun k hk => by simp [Value.ownBlock] at hk; omega)
    obtain ⟨rb, c2, rfl, hrow2, hbase2, _⟩ := ownS_from (B := w.heap.size) (l := rs) ho
    have HF := Lib.hid (show TextsPost rs w (.returned (.slice rb rs.length c2)) W' from ⟨rb, c2, rfl, hrow2, hbel, hbase2⟩)
    clear hrow hcells ho hgr hsf hform hbel hi hz0 hz1 hz2 hrow2 hbase2
    unfold maxLen at hcx
    generalize rs.length = n at *
    have hq := fun (w : World) (a : Option Addr) (n c : Nat) => Lib.run_eql_slice_nil (P := Tryz.prog) w 40 9 a n c 0 0 Tryz.underlying40
    go_enter Tryz.func29, Tryz.ntmps29
    go_wp2_with (at_builtin; refine wpList_append_run rfl _ _ 40 40 rfl (.slice (some ⟨w.heap.size, 0, none⟩) 0 0) (.slice (some ad) n cap) _ W' rfl rfl hr ?_)
    go_ret
    exact HF.out

set_option maxHeartbeats 1000000 in
set_option maxRecDepth 100000 in
theorem records_any {L D g : Nat} {base : ByteArray} {ra : Option Addr} {cap : Nat} {en : Bool} (rs : List ByteArray) (w : World) (h : LogC L D g base (.slice ra rs.length cap) en w) (hrow : StrRow w ra rs) (hl : rs.length ≤ 4194304) (hcm : rs.length ≤ cap) (hcx : cap ≤ maxLen) :
    Calls Tryz.prog 12 #[.pointer (some ⟨L, 0, none⟩)] w (TextsPost rs w) := by
  have c4 := h.c4
  have hcl := cloneT_any ra rs cap w hrow hl hcm hcx
  clear h hrow
  generalize hn : rs.length = n at c4 hcl hl hcm
  have HCL := Lib.hid hcl
  have HN := Lib.hid hn
  clear hcl hn
  go_enter Tryz.func12, Tryz.ntmps12
  go_wp2_with fail
  refine HCL.out.mono ?_
  rintro e w1 ⟨rb, c2, rfl, hrow2, hb2, hbs2⟩
  have HF := Lib.hid (show TextsPost rs w (.returned (.slice rb rs.length c2)) w1 from ⟨rb, c2, rfl, hrow2, hb2, hbs2⟩)
  clear hrow2 hb2 hbs2
  rw [HN.out] at *
  go_wp2_with fail
  go_ret
  exact HF.out

set_option maxHeartbeats 1000000 in
set_option maxRecDepth 100000 in
theorem base_any {L D g : Nat} {base : ByteArray} {rv : Value} {en : Bool} (w : World) (h : LogC L D g base rv en w) :
    Calls Tryz.prog 10 #[.pointer (some ⟨L, 0, none⟩)] w fun e w' => e = .returned (.string base) ∧ w = w' := by
  have c3 := h.c3
  clear h
  go_enter Tryz.func10, Tryz.ntmps10
  go_wp2_with fail
  go_ret
  exact ⟨rfl, rfl⟩

set_option maxHeartbeats 1000000 in
set_option maxRecDepth 100000 in
theorem len_any {L D g n cap : Nat} {base : ByteArray} {ra : Option Addr} {en : Bool} (w : World) (h : LogC L D g base (.slice ra n cap) en w) :
    Calls Tryz.prog 15 #[.pointer (some ⟨L, 0, none⟩)] w fun e w' => e = .returned (.int .i64 (n : Int)) ∧ w = w' := by
  have c4 := h.c4
  clear h
  go_enter Tryz.func15, Tryz.ntmps15
  go_wp2_with fail
  go_ret
  exact ⟨rfl, rfl⟩
end Go.Proofs.YtbhcmmglmkgjnaaGreatDoor

namespace Go.Proofs.YtbhcmmglmkgjnaaGreatDoor
open Go.RowKit Go.Sort

set_option maxHeartbeats 1000000 in
set_option maxRecDepth 100000 in
theorem record_any {L D g : Nat} {base : ByteArray} {rv : Value} (s : ByteArray) (w : World) (h : LogC L D g base rv false w) (hs : s.size ≤ 65536) :
    Calls Tryz.prog 30 #[.pointer (some ⟨L, 0, none⟩), .string s] w fun e w' => e = .returned (.tuple #[.string (recB s), .int .i64 0]) ∧ Below w.heap.size w w' := by
  have c5 := h.c5
  have hp := fputC s hs w
  clear h
  generalize recB s = R at *
  go_enter Tryz.func30, Tryz.ntmps30
  go_wp2_with fail
  refine hp.mono ?_
  rintro e w1 ⟨rfl, hb⟩
  go_wp2_with fail
  go_ret2
  exact ⟨rfl, hb⟩
end Go.Proofs.YtbhcmmglmkgjnaaGreatDoor

namespace Go.Proofs.YtbhcmmglmkgjnaaGreatDoor
open Go.RowKit Go.Sort

theorem recB_size (t : ByteArray) (ht : t.size ≤ 65536) : (recB t).size ≤ 65550 := by
  have h1 : (encT t).length ≤ 65546 := encT_len t ht
  show (recF t).length ≤ _
  unfold recF
  rw [List.length_append, sumF_len]
  omega

/-- what Append leaves -/
def Longer (a : Addr) (B D L g Bo : Nat) (base : ByteArray) (rs : List ByteArray) (s' : DS) (ex bl : List Nat) (w : World) (e : Ending) (w' : World) : Prop :=
  ∃ bl' ra cap, e = .returned (.int .i64 0) ∧ LW a B D s' bl' L g base (.slice ra rs.length cap) false w' ∧ OwnS Bo (.slice ra rs.length cap) rs w' ∧ (∀ k, (Value.slice ra rs.length cap).ownBlock = some k → k ∉ bl' ∧ k ≠ L) ∧
    Fr (ex ++ L :: bl) ((Value.slice ra rs.length cap).ownBlock.toList ++ L :: bl') w w'

set_option maxHeartbeats 2000000 in
set_option maxRecDepth 100000 in
theorem append_any' {a : Addr} {B D L g Bo : Nat} {s : DS} {bl : List Nat} {base : ByteArray} {ra : Option Addr} {cap : Nat} (rs : List ByteArray) (w : World) (h : LW a B D s bl L g base (.slice ra rs.length cap) false w) (hg : g < 12)
    (hown : OwnS Bo (.slice ra rs.length cap) rs w) (hBo : Bo ≤ w.heap.size) (hBB : B ≤ Bo) (hout : ∀ k, (Value.slice ra rs.length cap).ownBlock = some k → k ∉ bl ∧ k ≠ L) (hrs : rs.length ≤ 1000)
    (t : ByteArray) (ht : t.size ≤ 65536) (s1 s2 : DS) (h1 : appendS s (genB g) (recB t) = (0, s1)) (h2 : syncS s1 (genB g) = (0, s2)) :
    Calls Tryz.prog 13 #[.pointer (some ⟨L, 0, none⟩), .string t] w (Longer a B D L g Bo base (rs ++ [t]) s2 (Value.slice ra rs.length cap).ownBlock.toList bl w) := by
  obtain ⟨i0, hi, hz0, hz1, hz2⟩ := info_parts strInfo8
  have hrec := record_any t w h.log ht
  have hrsz := recB_size t ht
  have hgs := genB_size hg
  have HL := Lib.hid h
  have E1 := Lib.hid h1
  have E2 := Lib.hid h2
  have HO := Lib.hid (And.intro hown hout)
  clear h h1 h2 hown hout
  generalize recB t = R at *
  go_enter Tryz.func13, Tryz.ntmps13
  go_wp2_with fail
  refine hrec.mono ?_
  rintro e w1 ⟨rfl, hb1⟩
  have hl1 := HL.out.keep hb1
  have hfl := file_any w1 hl1.log hl1.sw.tab g hg
  have c2 := hl1.log.c2
  have HB1 := Lib.hid hb1
  clear hb1 hrec
  go_wp2_with fail
  refine hfl.mono ?_
  rintro e w2 ⟨rfl, hb2⟩
  have hl2 := hl1.keep hb2
  have c0 := hl2.log.c0
  have hap := dAppend hl2.sw.disk (genB g) R a hl2.sw.pow hl2.sw.g1 (by omega) (by omega)
  rw [E1.out] at hap
  have HF2 := Lib.hid (Fr.of_below (bl := bl) (HB1.out.trans (hb2.mono HB1.out.size)))
  have H2 := Lib.hid hl2
  clear hl1 hl2 hb2 hfl c2
  go_wp2_with fail
  refine hap.mono ?_
  rintro e w3 ⟨bl3, rfl, hd3, hf3⟩
  have hl3 := H2.out.step hd3 hf3
  have c0 := hl3.log.c0
  have hsy := dSync hl3.sw.disk (genB g) a hl3.sw.pow hl3.sw.g1
  rw [E2.out] at hsy
  have H3 := Lib.hid (And.intro hl3 (HF2.out.tr hf3))
  clear hl3 hd3 hf3 hap
  go_wp2_with fail
  refine hsy.mono ?_
  rintro e w4 ⟨bl4, rfl, hd4, hf4⟩
  have hl4 := H3.out.1.step hd4 hf4
  have hfr4 := H3.out.2.tr hf4
  have c4 := hl4.log.c4
  have hown4 : OwnS Bo (.slice ra rs.length cap) rs w4 := by
    refine own_kept HO.out.1 fun k hk => hfr4.block k (World.ownsRow.lt HO.out.1 k hk).2 (HO.out.2 k hk).1
  have hnew : ∀ j u, [Value.string t][j]? = some u → (w4.alloc (.cells #[.string t] 9)).cell? ((⟨w4.heap.size, 0, none⟩ : Addr).add j) = some u := by
    intro j u hj
    match j, hj with
    | 0, hj => simp at hj; subst hj; simp [Addr.add]
  obtain ⟨v', W', hr, ho, hgr, hsf, hform⟩ := run_append_sf (P := Tryz.prog) (w4.alloc (.cells #[.string t] 9)) Bo 40 40 40 9 i0 (.string ByteArray.empty) 1 16 Tryz.underlying40 hi hz0 hz1 hz2 rfl _ rs.length (rs.map Value.string) (World.ownsRow.alloc hown4 _)
    (.slice (some ⟨w4.heap.size, 0, none⟩) 1 1) 1 [.string t] (Src.ofSlice _ Tryz.underlying40 ⟨w4.heap.size, 0, none⟩ 1 1 _ (by simp) hnew (fun u hu => by simp at hu; subst hu; rfl)) (by unfold maxLen; omega) (by omega) (by have := hfr4.size; simp; omega)
  obtain ⟨gg, cc, rfl⟩ := hform (by omega)
  have hsz4 := hfr4.size
  have hexB : ∀ k, (Value.slice ra rs.length cap).ownBlock = some k → Bo ≤ k ∧ k < w.heap.size := fun k hk => World.ownsRow.lt HO.out.1 k hk
  have hexO : ∀ k, (Value.slice ra rs.length cap).ownBlock = some k → k ∉ bl4 ∧ k ≠ L := fun k hk => ⟨hfr4.out (hexB k hk).2 (HO.out.2 k hk).1, (HO.out.2 k hk).2⟩
  have hfw : Fr (Value.slice ra rs.length cap).ownBlock.toList (Value.slice (some ⟨gg, 0, none⟩) (rs.length + 1) cc).ownBlock.toList w4 W' := by
    refine ⟨hgr.os, hgr.tape, hgr.output, by have := hgr.size; simp at this; omega, fun k hk hn => ?_, fun k hk => ?_⟩
    · rw [hgr.block k (by simp; omega) (fun e => hn (by simpa using e.symm))]
      exact Below.heap_alloc w4 _ k hk
    · rcases hsf with hs | ⟨q, hq, hqe⟩
      · left; rw [← hs]; exact hk
      · right
        simp only [Option.mem_toList] at hk
        rw [hq] at hk
        simp at hk hqe
        omega
  have hlW : LW a B D s2 bl4 L g base (.slice ra rs.length cap) false W' :=
    ⟨hl4.sw.other hfw (fun k hk => by have := (hexB k (by simpa using hk)).1; omega) (fun k hk hn => (hexO k (by simpa using hn)).1 hk), hl4.log.fr hfw (fun hn => (hexO L (by simpa using hn)).2 rfl), hl4.out, hl4.lb⟩
  have hvO : ∀ k, (Value.slice (some ⟨gg, 0, none⟩) (rs.length + 1) cc).ownBlock = some k → k ∉ bl4 ∧ k ≠ L := by
    intro k hk
    rcases hsf with hs | ⟨q, hq, hqe⟩
    · exact hexO k (by rw [← hs]; exact hk)
    · rw [hq] at hk
      simp at hk hqe
      subst hk
      refine ⟨fun hin => by have := (hl4.sw.disk.lt _ hin).2; omega, fun e => by have := hl4.log.lt; omega⟩
  have hfin := hlW.set 4 (.slice (some ⟨gg, 0, none⟩) (rs.length + 1) cc) (hlW.log.setRecs (.slice (some ⟨gg, 0, none⟩) (rs.length + 1) cc))
  have hofin : OwnS Bo (.slice (some ⟨gg, 0, none⟩) (rs.length + 1) cc) (rs ++ [t]) (W'.setCell ⟨L, 4, none⟩ (.slice (some ⟨gg, 0, none⟩) (rs.length + 1) cc)) := by
    unfold OwnS
    rw [List.length_append, List.map_append]
    exact own_kept ho fun k hk => Below.heap_setCell _ _ _ _ (by simpa using (hvO k hk).2)
  have hffin : Fr ((Value.slice ra rs.length cap).ownBlock.toList ++ L :: bl) ((Value.slice (some ⟨gg, 0, none⟩) (rs.length + 1) cc).ownBlock.toList ++ L :: bl4) w (W'.setCell ⟨L, 4, none⟩ (.slice (some ⟨gg, 0, none⟩) (rs.length + 1) cc)) := by
    refine ⟨hfw.os.trans hfr4.os, hfw.tape.trans hfr4.tape, hfw.output.trans hfr4.output, by have := hfw.size; simp; omega, fun k hk hn => ?_, fun k hk => ?_⟩
    · simp only [List.mem_append, List.mem_cons, not_or] at hn
      rw [Below.heap_setCell _ _ _ _ (by simpa using hn.2.1), hfw.block k (by omega) hn.1]
      exact hfr4.block k hk hn.2.2
    · simp only [List.mem_append, List.mem_cons] at hk ⊢
      rcases hk with hk | rfl | hk
      · rcases hfw.fresh k hk with h1 | h1
        · exact .inl (.inl h1)
        · right; omega
      · exact .inl (.inr (.inl rfl))
      · rcases hfr4.fresh k hk with h1 | h1
        · exact .inl (.inr (.inr h1))
        · exact .inr h1
  have HFIN := Lib.hid (show Longer a B D L g Bo base (rs ++ [t]) s2 (Value.slice ra rs.length cap).ownBlock.toList bl w (.returned (.int .i64 0)) (W'.setCell ⟨L, 4, none⟩ (.slice (some ⟨gg, 0, none⟩) (rs.length + 1) cc)) from
    ⟨bl4, some ⟨gg, 0, none⟩, cc, rfl, by rw [List.length_append]; exact hfin, by rw [List.length_append]; exact hofin, by rw [List.length_append]; exact hvO, by rw [List.length_append]; exact hffin⟩)
  have f4 := hlW.log.free 4
  have k4 := hlW.log.c4
  clear hl4 hfr4 hown4 hnew ho hgr hsf hfw hlW hvO hfin hofin hffin hd4 hf4 hsy hexB hexO
  generalize hn : rs.length = n at *
  go_wp2_with (at_builtin; refine wpList_append_run rfl _ _ 40 40 rfl (.slice ra n cap) (.slice (some ⟨w4.heap.size, 0, none⟩) 1 1) _ W' rfl rfl hr ?_)
  go_ret
  exact HFIN.out
end Go.Proofs.YtbhcmmglmkgjnaaGreatDoor

namespace Go.Proofs.YtbhcmmglmkgjnaaGreatDoor
open Go.RowKit Go.Sort

set_option maxHeartbeats 2000000 in
set_option maxRecDepth 100000 in
theorem snapshot_any {a : Addr} {B D L g : Nat} {s : DS} {bl : List Nat} {base : ByteArray} {rv : Value} (w : World) (h : LW a B D s bl L g base rv false w) (hg : g + 1 < 12) (t : ByteArray) (ht : t.size ≤ 65536) (s4 s5 : DS)
    (hs : LayS s (recB t) (genB (g + 1)) s4) (h5 : AheadS g s4 s5) :
    Calls Tryz.prog 14 #[.pointer (some ⟨L, 0, none⟩), .string t] w (Turned a B D L (g + 1) t (.slice none 0 0) false 0 s5 bl w) := by
  have hrec := record_any t w h.log ht
  have hrsz := recB_size t ht
  have HL := Lib.hid h
  have HS := Lib.hid (And.intro hs h5)
  clear h hs h5
  generalize recB t = R at *
  go_enter Tryz.func14, Tryz.ntmps14
  go_wp2_with fail
  refine hrec.mono ?_
  rintro e w1 ⟨rfl, hb1⟩
  have hrp := replace_any w1 (HL.out.keep hb1) R t none 0 0 s4 s5 hg HS.out.1 HS.out.2 (by omega)
  have HB1 := Lib.hid hb1
  clear hb1 hrec
  go_wp2_with fail
  refine hrp.mono ?_
  rintro e w2 ⟨bl2, rfl, hl2, hf2⟩
  have f5 := hl2.log.free 5
  have k5 := hl2.log.c5
  have HF := Lib.hid (And.intro (hl2.set 5 (.bool false) (hl2.log.setEnd false)) (((Fr.of_below (bl := L :: bl) HB1.out).tr hf2).tr (Fr.sets L bl2 5 (.bool false) w2)))
  clear hl2 hf2 hrp
  go_wp2_with fail
  go_ret
  exact ⟨bl2, rfl, HF.out⟩
end Go.Proofs.YtbhcmmglmkgjnaaGreatDoor
