/-
  seglog: isFile, isWhole, isOther.
  seglog: choose.
-/
import Derived.Test.YtbhcmmglmkgjnaaGreatDoorGSegB
import Derived.Deep.RegionHeld3
import Derived.Deep.DeepCutAuto
namespace Go.Proofs.YtbhcmmglmkgjnaaGreatDoor
open Go.RowKit Go.Sort

set_option maxHeartbeats 1000000 in
set_option maxRecDepth 100000 in
theorem isFile_any {L D G : Nat} {base : ByteArray} {rv : Value} {en : Bool} (w : World) (h : LogC L D G base rv en w) (n : ByteArray) (hn : ∃ g, 1 ≤ g ∧ g < 12 ∧ n = genB g) :
    Calls Tryz.prog 46 #[.pointer (some ⟨L, 0, none⟩), .string n] w fun e w' => e = .returned (.bool true) ∧ Below w.heap.size w w' := by
  obtain ⟨g, h1, h2, rfl⟩ := hn
  have hgn := generation_any w h g h1 h2
  have hlt := h.lt
  have hpos : decide ((0 : Int) < (g : Int)) = true := by simp; omega
  clear h
  generalize genB g = gb at *
  go_enter Tryz.func46, Tryz.ntmps46
  go_wp2_with fail
  refine hgn.mono ?_
  rintro e w1 ⟨rfl, hb⟩
  go_wp2_with fail
  go_ret
  exact ⟨ret_b (by simp; omega), hb⟩

theorem ne_ba (x y : ByteArray) : (!(x.toList == y.toList)) = decide (x ≠ y) := by
  rw [ByteArray.toList_eq, ByteArray.toList_eq]
  by_cases h : x = y
  · subst h; simp
  · have h3 : x.data ≠ y.data := fun e => h (ByteArray.ext e)
    simp [h, h3]

theorem read_size (s : DS) (n : ByteArray) : (readD s n).1.size ≤ stotal s.l := by
  unfold readD
  split
  · exact Nat.zero_le _
  · cases hf : s.l[spos s.l n]? with
    | none => exact Nat.zero_le _
    | some f =>
      simp only
      split
      · have h1 := stotal_split hf
        have h2 : (⟨f.body.toArray⟩ : ByteArray).size = f.body.length := rfl
        simp only
        omega
      · exact Nat.zero_le _

set_option maxHeartbeats 1000000 in
set_option maxRecDepth 100000 in
theorem isWhole_any {a : Addr} {B D L g : Nat} {s : DS} {bl : List Nat} {base : ByteArray} {rv : Value} {en : Bool} (w : World) (h : LW a B D s bl L g base rv en w) (n : ByteArray) (hroom : s.room ≤ 65536) :
    Calls Tryz.prog 47 #[.pointer (some ⟨L, 0, none⟩), .string n] w fun e w' => e = .returned (.bool (wholeS s n)) ∧ Below w.heap.size w w' := by
  have hc := h.log.c0
  have hrd := dRead h.sw.disk n
  have hsz := read_size s n
  have htot := h.sw.disk.fit.total
  have hlt := h.log.lt
  have hfr := fun W => freadC (readD s n).1 W (by omega)
  clear h
  have hwd : wholeS s n = ((frd (readD s n).1).2.2 == 0) := rfl
  rw [hwd]
  clear hwd hsz htot
  obtain ⟨body, er0, hrdv⟩ : ∃ body er0, readD s n = (body, er0) := ⟨_, _, rfl⟩
  rw [hrdv] at hrd hfr ⊢
  simp only at hrd hfr ⊢
  obtain ⟨t, k, er, hf⟩ : ∃ t, ∃ k : Nat, ∃ er : Int, frd body = (t, k, er) := ⟨_, _, _, rfl⟩
  rw [hf] at hfr ⊢
  simp only at hfr ⊢
  have HFR := Lib.hid hfr
  clear hf hrdv hfr
  go_enter Tryz.func47, Tryz.ntmps47
  go_wp2_with fail
  refine hrd.mono ?_
  rintro e w1 ⟨rfl, hb1⟩
  have HB1 := Lib.hid hb1
  clear hb1 hrd
  go_wp2_with fail
  refine (HFR.out _).mono ?_
  rintro e w2 ⟨rfl, hb2⟩
  have HB2 := Lib.hid (HB1.out.trans (hb2.mono HB1.out.size))
  clear hb2
  go_wp2_with fail
  go_ret
  exact ⟨rfl, HB2.out⟩

set_option maxHeartbeats 1000000 in
set_option maxRecDepth 100000 in
theorem isOther_any {L D G : Nat} {base : ByteArray} {rv : Value} {en : Bool} (w : World) (h : LogC L D G base rv en w) (ht : Pows w) (n : ByteArray) (hG : G < 12) :
    Calls Tryz.prog 50 #[.pointer (some ⟨L, 0, none⟩), .string n] w fun e w' => e = .returned (.bool (decide (n ≠ genB G))) ∧ Below w.heap.size w w' := by
  have hc := h.c2
  have hfl := file_any w h ht G hG
  have hlt := h.lt
  clear h
  generalize genB G = gb at *
  go_enter Tryz.func50, Tryz.ntmps50
  go_wp2_with fail
  refine hfl.mono ?_
  rintro e w1 ⟨rfl, hb1⟩
  go_wp2_with fail
  go_ret
  exact ⟨ret_b (ne_ba n gb), hb1⟩
end Go.Proofs.YtbhcmmglmkgjnaaGreatDoor

namespace Go.Proofs.YtbhcmmglmkgjnaaGreatDoor
open Go.RowKit Go.Sort

theorem filter_true (l : List ByteArray) : l.filter (fun _ => true) = l := List.filter_eq_self.2 (fun _ _ => rfl)
theorem ent_isFile : ∀ args w, (callFunc 46 args).run Tryz.prog w = .ok (.enter 46 args) w := enters_of Tryz.func46 (by kernel_rfl) rfl
theorem ent_isWhole : ∀ args w, (callFunc 47 args).run Tryz.prog w = .ok (.enter 47 args) w := enters_of Tryz.func47 (by kernel_rfl) rfl
theorem ent_isOther : ∀ args w, (callFunc 50 args).run Tryz.prog w = .ok (.enter 50 args) w := enters_of Tryz.func50 (by kernel_rfl) rfl

theorem getD_mem {l : List ByteArray} {k : Nat} (h : k < l.length) : l.getD k ByteArray.empty ∈ l := by
  rw [List.getD_eq_getElem?_getD, List.getElem?_eq_getElem h]
  exact List.getElem_mem h

theorem ownS_from {B : Nat} {v : Value} {l : List ByteArray} {w : World} (h : OwnS B v l w) : ∃ ra cap, v = .slice ra l.length cap ∧ StrRow w ra l ∧ (∀ b off, ra = some ⟨b, off, none⟩ → B ≤ b) ∧ l.length ≤ maxLen := by
  obtain ⟨ra, cap, rfl, h1, h2⟩ := ownS_row h
  refine ⟨ra, cap, rfl, h1, ?_, h2⟩
  rintro b off rfl
  exact (World.ownsRow.lt h b rfl).1

/-- what a method leaves that turns its log too -/
def Turned (a : Addr) (B D L g : Nat) (base : ByteArray) (rv : Value) (en : Bool) (n : Int) (s' : DS) (bl : List Nat) (w : World) (e : Ending) (w' : World) : Prop :=
  ∃ bl', e = .returned (.int .i64 n) ∧ LW a B D s' bl' L g base rv en w' ∧ Fr (L :: bl) (L :: bl') w w'

set_option maxHeartbeats 4000000 in
set_option maxRecDepth 100000 in
theorem choose_any {a : Addr} {B D L : Nat} {s : DS} {bl : List Nat} {base : ByteArray} {rv : Value} {en : Bool} (w : World) (h : LW a B D s bl L 0 base rv en w) (hroom : s.room ≤ 65536) (names : List ByteArray) (hnm : listD s dashB = names)
    (hlen : names.length ≤ 2000) (hg : ∀ n ∈ names, ∃ g, 1 ≤ g ∧ g < 12 ∧ n = genB g) (G : Nat) (hG : G < 12) (hw : (names.filter (wholeS s) = [] ∧ G = 0) ∨ ((names.filter (wholeS s)).getLast? = some (genB G) ∧ 1 ≤ G)) (s' : DS)
    (he : eachS s ((names.filter fun n => decide (n ≠ genB G)) ++ [newB]) = (0, s')) :
    Calls Tryz.prog 27 #[.pointer (some ⟨L, 0, none⟩)] w (Turned a B D L G base rv en 0 s' bl w) := by
  have hadd := fun W => run_string_add_sum (P := Tryz.prog) (w := W) logB ⟨#[45]⟩ (by decide)
  rw [log_dash] at hadd
  have hmf : ∀ (fn : Fn) (first cap : Array Value) (w : World), (Instr.makeFunc fn first cap).run Tryz.prog w = .ok (.func fn first cap) w := fun _ _ _ _ => rfl
  have hd0 : Below w.heap.size w w.drew := (Below.refl _ _).drew
  have hl := dList (h.keep hd0).sw.disk dashB
  rw [hnm] at hl
  have HLIST := Lib.hid hl
  have H := Lib.hid h
  have HG := Lib.hid (And.intro hg (And.intro hw he))
  have HROOM := Lib.hid hroom
  have c0 := h.log.c0
  have c1 := h.log.c1
  have hlt := h.log.lt
  clear hl h hnm hg hw he hroom
  go_enter Tryz.func27, Tryz.ntmps27
  go_upto_region 1 with fail
  go_cut [3] (fun v wc => ∃ ra cap, v = .slice ra names.length cap ∧ StrRow wc ra names ∧ (∀ b off, ra = some ⟨b, off, none⟩ → w.heap.size ≤ b) ∧ Below w.heap.size w wc)
  case first =>
    go_region_held3 (fun U => U.cell? ⟨L, 0, none⟩ = some (.pointer (some ⟨D, 0, none⟩)) ∧ U.cell? ⟨L, 1, none⟩ = some (.string logB)) (first | go_keep)
      (first
       | ((with_reducible refine HLIST.out.mono ?_); rintro e w1 ⟨v, rfl, hown, hb⟩
          obtain ⟨ra, cap, rfl, hrow, hbase, hmax⟩ := ownS_from hown
          have hb1 : Below w.heap.size w w1 := hd0.trans hb
          have c0 := (H.out.log.keep hb1).c0
          have c1 := (H.out.log.keep hb1).c1
          have HB1 := Lib.hid hb1
          have HTH := Lib.hid (those_any 46 L ra cap names (fun _ => true) w1 ent_isFile hrow (by omega) (fun k hk wr hbr => isFile_any wr ((H.out.log.keep hb1).keep hbr) _ (HG.out.1 _ (getD_mem hk))))
          clear hown hrow hbase hmax hb1 hb)
       | ((with_reducible refine HTH.out.mono ?_); rintro e w2 ⟨v2, rfl, hown2, hb2⟩
          have c0 := (H.out.log.keep (HB1.out.trans (hb2.mono HB1.out.size))).c0
          have c1 := (H.out.log.keep (HB1.out.trans (hb2.mono HB1.out.size))).c1
          have HO2 := Lib.hid (And.intro hown2 (HB1.out.trans (hb2.mono HB1.out.size)))
          clear hown2 hb2)
       | fail)
    all_goals
      go_wp2_with fail
      go_meet
      obtain ⟨ra, cap, rfl, hrow, hbase, hmax⟩ := ownS_from HO2.out.1
      rw [filter_true] at hrow ⊢
      exact ⟨ra, cap, rfl, hrow, fun b off e => Nat.le_trans HB1.out.size (hbase b off e), HO2.out.2⟩
  case rest =>
    obtain ⟨ra, cap, rfl, hrow, hbase, hb⟩ := hcut
    have H1 := Lib.hid (H.out.keep hb)
    have HB := Lib.hid hb
    have HROW := Lib.hid (And.intro hrow hbase)
    have HW := Lib.hid (those_any 47 L ra cap names (wholeS s) wc ent_isWhole hrow (by omega) (fun k hk wr hbr => isWhole_any wr (H1.out.keep hbr) _ HROOM.out))
    clear hrow hbase hb c0 c1 HLIST hd0 hadd
    go_wp2_with fail
    refine HW.out.mono ?_
    rintro e w3 ⟨v3, rfl, hown3, hb3⟩
    obtain ⟨rb, cap3, rfl, hrow3, _, hmax3⟩ := ownS_from hown3
    have H3 := Lib.hid (H1.out.keep hb3)
    have HB3 := Lib.hid (HB.out.trans (hb3.mono HB.out.size))
    have HROW3 := Lib.hid (HROW.out.1.below hb3)
    have hNl : (names.filter (wholeS s)).length ≤ 2000 := Nat.le_trans (List.length_filter_le _ _) hlen
    have hN : ((names.filter (wholeS s)).length = 0 ∧ G = 0) ∨ (1 ≤ (names.filter (wholeS s)).length ∧ 1 ≤ G ∧ ∃ b off, rb = some ⟨b, off, none⟩ ∧ w3.cell? ⟨b, off + ((names.filter (wholeS s)).length - 1), none⟩ = some (.string (genB G))) := by
      rcases HG.out.2.1 with ⟨h1, h2⟩ | ⟨hlast, hG1⟩
      · exact .inl ⟨by rw [h1]; rfl, h2⟩
      · generalize names.filter (wholeS s) = wl at *
        have hpos : 0 < wl.length := by
          cases wl with
          | nil => simp at hlast
          | cons x t => simp
        rcases hrow3 with h | ⟨b, off, rfl, _, hc⟩
        · rw [h] at hpos; simp at hpos
        · refine .inr ⟨hpos, hG1, b, off, rfl, ?_⟩
          rw [hc _ (by omega), List.getD_eq_getElem?_getD, ← List.getLast?_eq_getElem?, hlast]; rfl
    clear hown3 hb3 HW hrow3 hmax3
    generalize (names.filter (wholeS s)).length = N at *
    go_upto_if 24 with fail
    go_cut [] (fun wd => LW a B D s bl L G base rv en wd ∧ Fr (L :: bl) (L :: bl) w wd ∧ StrRow wd ra names)
    case first =>
      rcases hN with ⟨rfl, rfl⟩ | ⟨hN1, hG1, b, off, rfl, hcl⟩
      · go_wp2_with fail
        go_meet
        exact ⟨H3.out, (Fr.of_below HB3.out), HROW3.out⟩
      · have hI : decide ((0 : Int) < (N : Int)) = true := by simp; omega
        have hp1 : ((N : Int) - 1).toNat = N - 1 := by omega
        have hp2 : (0 : Int) ≤ (N : Int) - 1 := by omega
        have hp3 : (N : Int) - 1 < (N : Int) := by omega
        have hp6 : IntKind.i64.wrap ((N : Int) - 1) = (N : Int) - 1 := by rw [IntKind.wrap_i64]; omega
        have hgen := generation_any w3 H3.out.log G hG1 hG
        have HGEN := Lib.hid hgen
        clear hgen hG1
        go_wp2_with fail
        refine HGEN.out.mono ?_
        rintro e w4 ⟨rfl, hb4⟩
        have hl4 := H3.out.keep hb4
        have f2 := hl4.log.free 2
        have c2 := hl4.log.c2
        have H4 := Lib.hid (And.intro (hl4.set 2 (.int .i64 (G : Int)) (hl4.log.setGen G)) (And.intro ((Fr.of_below (HB3.out.trans (hb4.mono HB3.out.size))).tr (Fr.sets L bl 2 (.int .i64 (G : Int)) w4)) (strRow_fr (HROW3.out.below hb4) (Fr.set L 2 (.int .i64 (G : Int)) w4) (fun b off e => by
          have h1 := HROW.out.2 b off e
          simp
          omega))))
        clear hl4 hb4 hcl
        go_wp2_with fail
        go_meet
        exact H4.out
    case rest =>
      obtain ⟨hl5, hf5, hrow5⟩ := hcut
      obtain ⟨i0, hi, hz0, hz1, hz2⟩ := info_parts strInfo8
      have HO := Lib.hid (those_any 50 L ra cap names (fun n => decide (n ≠ genB G)) wc ent_isOther hrow5 (by omega) (fun k hk wr hbr => isOther_any wr (hl5.log.keep hbr) (hl5.sw.keep hbr).tab _ hG))
      have H5 := Lib.hid hl5
      have HF5 := Lib.hid hf5
      have hfl : (names.filter fun n => decide (n ≠ genB G)).length ≤ 2000 := Nat.le_trans (List.length_filter_le _ _) hlen
      have HE := Lib.hid HG.out.2.2
      clear hl5 hf5 hrow5 HG hN HROW3 H3 HB3 HROW H1 HB
      generalize (names.filter fun n => decide (n ≠ genB G)) = ns at *
      go_wp2_with fail
      refine HO.out.mono ?_
      rintro e w6 ⟨v6, rfl, hown6, hb6⟩
      have hl6 := H5.out.keep hb6
      have hfr := fresh_any w6 hl6.log
      have hbs6 := hb6.size
      have HB6 := Lib.hid hb6
      have H6 := Lib.hid hl6
      clear hl6 hb6 HO
      go_wp2_with fail
      refine hfr.mono ?_
      rintro e w7 ⟨rfl, rfl⟩
      clear hfr
      go_wp2_with (at_builtin; refine wpList_append_own _ rfl _ _ 40 rfl wc.heap.size 9 i0 (.string ByteArray.empty) 1 16 Tryz.underlying40 hi hz0 hz1 hz2 rfl (by decide) _ _ _ rfl (World.ownsRow.alloc hown6 _) ⟨w6.heap.size, 0, none⟩ 1 1 [Value.string newB] rfl rfl ?c1 ?c2 ?c3 ?c4 ?c5 ?_)
      case c1 =>
        intro j u hj
        match j, hj with
        | 0, hj => simp at hj; subst hj; simp [Addr.add]
      case c2 => intro u hu; simp at hu; subst hu; rfl
      case c3 => unfold maxLen; omega
      case c4 => omega
      case c5 => simp; omega
      intro v' w8 hown8 hg8 _
      have hown9 : OwnS wc.heap.size v' (ns ++ [newB]) w8 := by unfold OwnS; rw [List.length_append, List.map_append]; exact hown8
      have hb8 : Below wc.heap.size wc w8 := (HB6.out.alloc hbs6 _).grown hg8 (by simp; omega) (fun j hj => (World.ownsRow.lt hown6 j hj).1)
      obtain ⟨rc, cap8, rfl, hrow8, hbase8, hmax8⟩ := ownS_from hown9
      have hl8 := H5.out.keep hb8
      have hdl := hl8.sw.disk
      have hea := each_any w8 hl8 rc cap8 (ns ++ [newB]) hrow8 (fun b off e hin => by
        have h1 := hbase8 b off e
        have h2 := (H5.out.sw.disk.lt b hin).2
        omega) (by rw [List.length_append]; simp; omega) s' HE.out
      have HEA := Lib.hid hea
      have HF8 := Lib.hid (HF5.out.tr (Fr.of_below hb8))
      clear hown8 hown9 hb8 hrow8 hbase8 hmax8 hl8 hea hown6 hg8
      generalize (ns ++ [newB]).length = N8 at *
      go_wp2_with fail
      refine HEA.out.mono ?_
      rintro e w9 ⟨bl9, rfl, hl9, hf9⟩
      have H9 := Lib.hid (And.intro hl9 (HF8.out.tr (hf9.cons L)))
      clear hl9 hf9
      go_wp2_with fail
      go_ret
      exact ⟨bl9, rfl, H9.out⟩
end Go.Proofs.YtbhcmmglmkgjnaaGreatDoor
