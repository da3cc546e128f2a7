/-
  seglog: Append.
-/
import Derived.Test.YtjimgncefeldbaaGreatDoorSegRec
import Derived.Deep.RegionHeld3
namespace Go.Proofs.YtjimgncefeldbaaGreatDoor
open Go.RowKit Go.Sort

theorem recB_size (t : ByteArray) (ht : t.size ≤ 65536) : (recB t).size ≤ 65550 := by
  have h1 : (encT t).length ≤ 65546 := encT_len t ht
  show (recF t).length ≤ _
  unfold recF
  rw [List.length_append, sumF_len]
  omega

/-- what Append leaves -/
def Longer (a : Addr) (B D L g Bo : Nat) (base : ByteArray) (rs : List ByteArray) (s' : DS) (ex bl : List Nat) (w : World) (e : Ending) (w' : World) : Prop :=
  ∃ bl' ra cap, e = .returned (.int .i64 0) ∧ LW a B D s' bl' L g base (.slice ra rs.length cap) false w' ∧ OwnS Bo (.slice ra rs.length cap) rs w' ∧ (∀ k, (Value.slice ra rs.length cap).ownBlock = some k → k ∉ bl' ∧ k ≠ L) ∧
    Fr (ex ++ L :: bl) ((Value.slice ra rs.length cap).ownBlock.toList ++ L :: bl') w w'

set_option maxHeartbeats 2000000 in
set_option maxRecDepth 100000 in
theorem append_any' {a : Addr} {B D L g Bo : Nat} {s : DS} {bl : List Nat} {base : ByteArray} {ra : Option Addr} {cap : Nat} (rs : List ByteArray) (w : World) (h : LW a B D s bl L g base (.slice ra rs.length cap) false w) (hg : g < 12)
    (hown : OwnS Bo (.slice ra rs.length cap) rs w) (hBo : Bo ≤ w.heap.size) (hBB : B ≤ Bo) (hout : ∀ k, (Value.slice ra rs.length cap).ownBlock = some k → k ∉ bl ∧ k ≠ L) (hrs : rs.length ≤ 1000)
    (t : ByteArray) (ht : t.size ≤ 65536) (s1 s2 : DS) (h1 : appendS s (genB g) (recB t) = (0, s1)) (h2 : syncS s1 (genB g) = (0, s2)) :
    Calls Tryz.prog 28 #[.pointer (some ⟨L, 0, none⟩), .string t] w (Longer a B D L g Bo base (rs ++ [t]) s2 (Value.slice ra rs.length cap).ownBlock.toList bl w) := by
  obtain ⟨i0, hi, hz0, hz1, hz2⟩ := info_parts strInfo8
  have hrec := record_any t w h.log ht
  have hrsz := recB_size t ht
  have hgs := genB_size hg
  have HL := Lib.hid h
  have E1 := Lib.hid h1
  have E2 := Lib.hid h2
  have HO := Lib.hid (And.intro hown hout)
  clear h h1 h2 hown hout
  generalize recB t = R at *
  go_enter Tryz.func28, Tryz.ntmps28
  go_wp2_with fail
  refine hrec.mono ?_
  rintro e w1 ⟨rfl, hb1⟩
  have hl1 := HL.out.keep hb1
  have c1 := hl1.log.c1
  have c2 := hl1.log.c2
  have c3 := hl1.log.c3
  have hlt := hl1.log.lt
  have hbd : Below w1.heap.size w1 w1.drew := (Below.refl _ _).drew
  have hld := hl1.keep hbd
  have HFL := Lib.hid (segFile D g hg w1.drew hld.sw.tab (by have := hld.sw.size; have := hld.sw.g2; omega))
  have HL1 := Lib.hid hl1
  have HBD := Lib.hid hbd
  have HB1 := Lib.hid hb1
  clear hb1 hrec hld hbd hl1
  go_upto_region 4 with fail
  go_region_held3 (fun U => U.cell? ⟨L, 1, none⟩ = some (.pointer (some ⟨D, 0, none⟩)) ∧ U.cell? ⟨L, 2, none⟩ = some (.string logB) ∧ U.cell? ⟨L, 3, none⟩ = some (.int .i64 (g : Int))) (first | go_keep)
    (first
     | ((with_reducible refine HFL.out.mono ?_); rintro e w2 ⟨rfl, hb2'⟩
        have HB2 := Lib.hid (show Below w1.heap.size w1 w2 from HBD.out.trans hb2')
        have e1 := (HL1.out.keep HB2.out).log.c1
        have e2 := (HL1.out.keep HB2.out).log.c2
        have e3 := (HL1.out.keep HB2.out).log.c3
        clear hb2')
     | fail)
  have hl1 := HL1.out
  have hb2 := HB2.out
  have hfl := trivial
  clear e1 e2 e3
  have hl2 := hl1.keep hb2
  have c0 := hl2.log.c0
  have hap := dAppend hl2.sw.disk (genB g) R a hl2.sw.pow hl2.sw.g1 (by omega) (by omega)
  rw [E1.out] at hap
  have HF2 := Lib.hid (Fr.of_below (bl := bl) (HB1.out.trans (hb2.mono HB1.out.size)))
  have H2 := Lib.hid hl2
  clear hl1 hl2 hb2 hfl c1 c2 c3
  go_wp2_with fail
  refine hap.mono ?_
  rintro e w3 ⟨bl3, rfl, hd3, hf3⟩
  have hl3 := H2.out.step hd3 hf3
  have c0 := hl3.log.c0
  have hsy := dSync hl3.sw.disk (genB g) a hl3.sw.pow hl3.sw.g1
  rw [E2.out] at hsy
  have H3 := Lib.hid (And.intro hl3 (HF2.out.tr hf3))
  clear hl3 hd3 hf3 hap
  go_wp2_with fail
  refine hsy.mono ?_
  rintro e w4 ⟨bl4, rfl, hd4, hf4⟩
  have hl4 := H3.out.1.step hd4 hf4
  have hfr4 := H3.out.2.tr hf4
  have c5 := hl4.log.c5
  have hown4 : OwnS Bo (.slice ra rs.length cap) rs w4 := by
    refine own_kept HO.out.1 fun k hk => hfr4.block k (World.ownsRow.lt HO.out.1 k hk).2 (HO.out.2 k hk).1
  have hnew : ∀ j u, [Value.string t][j]? = some u → (w4.alloc (.cells #[.string t] 9)).cell? ((⟨w4.heap.size, 0, none⟩ : Addr).add j) = some u := by
    intro j u hj
    match j, hj with
    | 0, hj => simp at hj; subst hj; simp [Addr.add]
  obtain ⟨v', W', hr, ho, hgr, hsf, hform⟩ := run_append_sf (P := Tryz.prog) (w4.alloc (.cells #[.string t] 9)) Bo 40 40 40 9 i0 (.string ByteArray.empty) 1 16 Tryz.underlying40 hi hz0 hz1 hz2 rfl _ rs.length (rs.map Value.string) (World.ownsRow.alloc hown4 _)
    (.slice (some ⟨w4.heap.size, 0, none⟩) 1 1) 1 [.string t] (Src.ofSlice _ Tryz.underlying40 ⟨w4.heap.size, 0, none⟩ 1 1 _ (by simp) hnew (fun u hu => by simp at hu; subst hu; rfl)) (by unfold maxLen; omega) (by omega) (by have := hfr4.size; simp; omega)
  obtain ⟨gg, cc, rfl⟩ := hform (by omega)
  have hsz4 := hfr4.size
  have hexB : ∀ k, (Value.slice ra rs.length cap).ownBlock = some k → Bo ≤ k ∧ k < w.heap.size := fun k hk => World.ownsRow.lt HO.out.1 k hk
  have hexO : ∀ k, (Value.slice ra rs.length cap).ownBlock = some k → k ∉ bl4 ∧ k ≠ L := fun k hk => ⟨hfr4.out (hexB k hk).2 (HO.out.2 k hk).1, (HO.out.2 k hk).2⟩
  have hfw : Fr (Value.slice ra rs.length cap).ownBlock.toList (Value.slice (some ⟨gg, 0, none⟩) (rs.length + 1) cc).ownBlock.toList w4 W' := by
    refine ⟨hgr.os, hgr.tape, hgr.output, by have := hgr.size; simp at this; omega, fun k hk hn => ?_, fun k hk => ?_⟩
    · rw [hgr.block k (by simp; omega) (fun e => hn (by simpa using e.symm))]
      exact Below.heap_alloc w4 _ k hk
    · rcases hsf with hs | ⟨q, hq, hqe⟩
      · left; rw [← hs]; exact hk
      · right
        simp only [Option.mem_toList] at hk
        rw [hq] at hk
        simp at hk hqe
        omega
  have hlW : LW a B D s2 bl4 L g base (.slice ra rs.length cap) false W' :=
    ⟨hl4.sw.other hfw (fun k hk => by have := (hexB k (by simpa using hk)).1; omega) (fun k hk hn => (hexO k (by simpa using hn)).1 hk), hl4.log.fr hfw (fun hn => (hexO L (by simpa using hn)).2 rfl), hl4.out, hl4.lb⟩
  have hvO : ∀ k, (Value.slice (some ⟨gg, 0, none⟩) (rs.length + 1) cc).ownBlock = some k → k ∉ bl4 ∧ k ≠ L := by
    intro k hk
    rcases hsf with hs | ⟨q, hq, hqe⟩
    · exact hexO k (by rw [← hs]; exact hk)
    · rw [hq] at hk
      simp at hk hqe
      subst hk
      refine ⟨fun hin => by have := (hl4.sw.disk.lt _ hin).2; omega, fun e => by have := hl4.log.lt; omega⟩
  have hfin := hlW.set 5 (.slice (some ⟨gg, 0, none⟩) (rs.length + 1) cc) (hlW.log.setRecs (.slice (some ⟨gg, 0, none⟩) (rs.length + 1) cc))
  have hofin : OwnS Bo (.slice (some ⟨gg, 0, none⟩) (rs.length + 1) cc) (rs ++ [t]) (W'.setCell ⟨L, 5, none⟩ (.slice (some ⟨gg, 0, none⟩) (rs.length + 1) cc)) := by
    unfold OwnS
    rw [List.length_append, List.map_append]
    exact own_kept ho fun k hk => Below.heap_setCell _ _ _ _ (by simpa using (hvO k hk).2)
  have hffin : Fr ((Value.slice ra rs.length cap).ownBlock.toList ++ L :: bl) ((Value.slice (some ⟨gg, 0, none⟩) (rs.length + 1) cc).ownBlock.toList ++ L :: bl4) w (W'.setCell ⟨L, 5, none⟩ (.slice (some ⟨gg, 0, none⟩) (rs.length + 1) cc)) := by
    refine ⟨hfw.os.trans hfr4.os, hfw.tape.trans hfr4.tape, hfw.output.trans hfr4.output, by have := hfw.size; simp; omega, fun k hk hn => ?_, fun k hk => ?_⟩
    · simp only [List.mem_append, List.mem_cons, not_or] at hn
      rw [Below.heap_setCell _ _ _ _ (by simpa using hn.2.1), hfw.block k (by omega) hn.1]
      exact hfr4.block k hk hn.2.2
    · simp only [List.mem_append, List.mem_cons] at hk ⊢
      rcases hk with hk | rfl | hk
      · rcases hfw.fresh k hk with h1 | h1
        · exact .inl (.inl h1)
        · right; omega
      · exact .inl (.inr (.inl rfl))
      · rcases hfr4.fresh k hk with h1 | h1
        · exact .inl (.inr (.inr h1))
        · exact .inr h1
  have HFIN := Lib.hid (show Longer a B D L g Bo base (rs ++ [t]) s2 (Value.slice ra rs.length cap).ownBlock.toList bl w (.returned (.int .i64 0)) (W'.setCell ⟨L, 5, none⟩ (.slice (some ⟨gg, 0, none⟩) (rs.length + 1) cc)) from
    ⟨bl4, some ⟨gg, 0, none⟩, cc, rfl, by rw [List.length_append]; exact hfin, by rw [List.length_append]; exact hofin, by rw [List.length_append]; exact hvO, by rw [List.length_append]; exact hffin⟩)
  have f4 := hlW.log.free 5
  have k4 := hlW.log.c5
  clear hl4 hfr4 hown4 hnew ho hgr hsf hfw hlW hvO hfin hofin hffin hd4 hf4 hsy hexB hexO
  generalize hn : rs.length = n at *
  go_wp2_with (at_builtin; refine wpList_append_run rfl _ _ 40 40 rfl (.slice ra n cap) (.slice (some ⟨w4.heap.size, 0, none⟩) 1 1) _ W' rfl rfl hr ?_)
  go_ret
  exact HFIN.out
end Go.Proofs.YtjimgncefeldbaaGreatDoor
