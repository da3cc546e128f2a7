/-
  seglog: choose.
-/
import Derived.Test.YtjimgncefeldbaaGreatDoorSegAsks
import Derived.Deep.RegionHeld3
import Derived.Deep.DeepCutAuto
import Derived.StillTailTactics
import Derived.Lib.QuietBelow
namespace Go.Proofs.YtjimgncefeldbaaGreatDoor
open Go.RowKit Go.Sort

attribute [-go_sem] Builtin.append_

theorem filter_true (l : List ByteArray) : l.filter (fun _ => true) = l := List.filter_eq_self.2 (fun _ _ => rfl)
theorem ent_isWhole : ∀ args w, (callFunc 80 args).run Tryz.prog w = .ok (.enter 80 args) w := enters_of Tryz.func80 (by kernel_rfl) rfl
theorem ent_isOther : ∀ args w, (callFunc 83 args).run Tryz.prog w = .ok (.enter 83 args) w := enters_of Tryz.func83 (by kernel_rfl) rfl

/-- what a method leaves that turns its log too -/
def Turned (a : Addr) (B D L g : Nat) (base : ByteArray) (rv : Value) (en : Bool) (n : Int) (s' : DS) (bl : List Nat) (w : World) (e : Ending) (w' : World) : Prop :=
  ∃ bl', e = .returned (.int .i64 n) ∧ LW a B D s' bl' L g base rv en w' ∧ Fr (L :: bl) (L :: bl') w w'

theorem segList {a : Addr} {B D : Nat} {s : DS} {bl : List Nat} (w : World) (h : SW a B D s bl w) (names : List ByteArray) (hnm : listD s dashB = names) (hlen : names.length ≤ 2000) (hg : ∀ n ∈ names, ∃ g, 1 ≤ g ∧ g < 12 ∧ n = genB g) :
    Calls Tryz.prog 49 #[sv D logB] w fun e w' => ∃ v, e = .returned v ∧ OwnS w.heap.size v names w' ∧ Below w.heap.size w w' := by
  have hl := serList_any logB log_ok w h names (by rw [dashB_eq]; exact hnm) hlen (fun n hn => by obtain ⟨g, h1, h2, e⟩ := hg n hn; exact .inl ⟨g, h1, by omega, e⟩)
  have e : names.filter (fun n => decide (n ≠ newN logB)) = names := List.filter_eq_self.2 (fun n hn => by
    obtain ⟨g, h1, h2, e⟩ := hg n hn
    rw [newB_eq, e]
    simpa using gen_ne_new h2)
  rw [e] at hl
  exact hl

set_option maxHeartbeats 4000000 in
set_option maxRecDepth 100000 in
theorem choose_any {a : Addr} {B D L : Nat} {s : DS} {bl : List Nat} {base : ByteArray} {rv : Value} {en : Bool} (w : World) (h : LW a B D s bl L 0 base rv en w) (hroom : s.room ≤ 65536) (names : List ByteArray) (hnm : listD s dashB = names)
    (hlen : names.length ≤ 2000) (hg : ∀ n ∈ names, ∃ g, 1 ≤ g ∧ g < 12 ∧ n = genB g) (G : Nat) (hG : G < 12) (hw : (names.filter (wholeS s) = [] ∧ G = 0) ∨ ((names.filter (wholeS s)).getLast? = some (genB G) ∧ 1 ≤ G)) (s' : DS)
    (he : eachS s ((names.filter fun n => decide (n ≠ genB G)) ++ [newB]) = (0, s')) :
    Calls Tryz.prog 42 #[.pointer (some ⟨L, 0, none⟩)] w (Turned a B D L G base rv en 0 s' bl w) := by
  have hmf : ∀ (fn : Fn) (first cap : Array Value) (w : World), (Instr.makeFunc fn first cap).run Tryz.prog w = .ok (.func fn first cap) w := fun _ _ _ _ => rfl
  have HLIST := Lib.hid (segList w h.sw names hnm hlen hg)
  have H := Lib.hid h
  have HG := Lib.hid (And.intro hg (And.intro hw he))
  have HROOM := Lib.hid hroom
  have c1 := h.log.c1
  have c2 := h.log.c2
  have hlt := h.log.lt
  clear h hnm hg hw he hroom
  go_enter Tryz.func42, Tryz.ntmps42
  go_wp2_with fail
  refine HLIST.out.mono ?_
  rintro e w1 ⟨v, rfl, hown, hb⟩
  obtain ⟨ra, cap, rfl, hrow, hbase, hmax⟩ := ownS_from hown
  have H1 := Lib.hid (H.out.keep hb)
  have HB := Lib.hid hb
  have HROW := Lib.hid (And.intro hrow hbase)
  have HW := Lib.hid (those_any 80 L ra cap names (wholeS s) w1 ent_isWhole hrow (by omega) (fun k hk wr hbr => isWhole_any wr (H1.out.keep hbr) _ HROOM.out))
  clear hrow hbase hb c1 c2 HLIST hown
  go_wp2_with fail
  refine HW.out.mono ?_
  rintro e w3 ⟨v3, rfl, hown3, hb3⟩
  obtain ⟨rb, cap3, rfl, hrow3, _, hmax3⟩ := ownS_from hown3
  have H3 := Lib.hid (H1.out.keep hb3)
  have HB3 := Lib.hid (HB.out.trans (hb3.mono HB.out.size))
  have HROW3 := Lib.hid (HROW.out.1.below hb3)
  have hNl : (names.filter (wholeS s)).length ≤ 2000 := Nat.le_trans (List.length_filter_le _ _) hlen
  have hN : ((names.filter (wholeS s)).length = 0 ∧ G = 0) ∨ (1 ≤ (names.filter (wholeS s)).length ∧ 1 ≤ G ∧ ∃ b off, rb = some ⟨b, off, none⟩ ∧ w3.cell? ⟨b, off + ((names.filter (wholeS s)).length - 1), none⟩ = some (.string (genB G))) := by
    rcases HG.out.2.1 with ⟨h1, h2⟩ | ⟨hlast, hG1⟩
    · exact .inl ⟨by rw [h1]; rfl, h2⟩
    · generalize names.filter (wholeS s) = wl at *
      have hpos : 0 < wl.length := by
        cases wl with
        | nil => simp at hlast
        | cons x t => simp
      rcases hrow3 with h | ⟨b, off, rfl, _, hc⟩
      · rw [h] at hpos; simp at hpos
      · refine .inr ⟨hpos, hG1, b, off, rfl, ?_⟩
        rw [hc _ (by omega), List.getD_eq_getElem?_getD, ← List.getLast?_eq_getElem?, hlast]; rfl
  clear hown3 hb3 HW hrow3 hmax3
  generalize (names.filter (wholeS s)).length = N at *
  go_upto_if 16 with fail
  go_cut [] (fun wd => LW a B D s bl L G base rv en wd ∧ Fr (L :: bl) (L :: bl) w wd ∧ StrRow wd ra names)
  case first =>
    rcases hN with ⟨rfl, rfl⟩ | ⟨hN1, hG1, b, off, rfl, hcl⟩
    · go_wp2_with fail
      go_meet
      exact ⟨H3.out, (Fr.of_below HB3.out), HROW3.out⟩
    · have hI : decide ((0 : Int) < (N : Int)) = true := by simp; omega
      have hp1 : ((N : Int) - 1).toNat = N - 1 := by omega
      have hp2 : (0 : Int) ≤ (N : Int) - 1 := by omega
      have hp3 : (N : Int) - 1 < (N : Int) := by omega
      have hp6 : IntKind.i64.wrap ((N : Int) - 1) = (N : Int) - 1 := by rw [IntKind.wrap_i64]; omega
      have HGEN := Lib.hid (segNumber D G hG w3.drew)
      have d1 : w3.drew.cell? ⟨L, 1, none⟩ = some (.pointer (some ⟨D, 0, none⟩)) := H3.out.log.c1
      have d2 : w3.drew.cell? ⟨L, 2, none⟩ = some (.string logB) := H3.out.log.c2
      have hcl' : w3.drew.cell? ⟨b, off + (N - 1), none⟩ = some (.string (genB G)) := hcl
      clear hG1
      go_upto_region 4 with fail
      go_region_with (first
        | (go_at_call 81; refine HGEN.out.mono ?_; rintro e w4 ⟨rfl, hb4'⟩; (have hb4 : Below w3.heap.size w3 w4 := ((Below.refl _ w3).drew).trans hb4'); (have hl4 := H3.out.keep hb4); (have f2 := hl4.log.free 3); (have c2 := hl4.log.c3); (have hlt4 := hl4.log.lt);
           (have H4 := Lib.hid (And.intro (hl4.set 3 (.int .i64 (G : Int)) (hl4.log.setGen G)) (And.intro ((Fr.of_below (HB3.out.trans (hb4.mono HB3.out.size))).tr (Fr.sets L bl 3 (.int .i64 (G : Int)) w4)) (strRow_fr (HROW3.out.below hb4) (Fr.set L 3 (.int .i64 (G : Int)) w4) (fun b off e => by
            have h1 := HROW.out.2 b off e
            simp
            omega)))));
           clear hl4 hb4 hb4')
        | fail)
      all_goals
        go_wp2_with fail
        go_meet
        exact H4.out
  case rest =>
    obtain ⟨hl5, hf5, hrow5⟩ := hcut
    obtain ⟨i0, hi, hz0, hz1, hz2⟩ := info_parts strInfo8
    have hbd : Below wc.heap.size wc wc.drew := (Below.refl _ _).drew
    have hld := hl5.keep hbd
    have HO := Lib.hid (those_any 83 L ra cap names (fun n => decide (n ≠ genB G)) wc.drew ent_isOther (hrow5.below hbd) (by omega) (fun k hk wr hbr => isOther_any wr (hld.log.keep hbr) (hld.sw.keep hbr).tab (by have := (hld.sw.keep hbr).size; have := hl5.sw.g2; omega) _ hG))
    have H5 := Lib.hid hl5
    have HF5 := Lib.hid hf5
    have hfl : (names.filter fun n => decide (n ≠ genB G)).length ≤ 2000 := Nat.le_trans (List.length_filter_le _ _) hlen
    have HE := Lib.hid HG.out.2.2
    have hlt5 := hl5.log.lt
    have e1 := hld.log.c1
    have e2 := hld.log.c2
    clear hl5 hf5 hrow5 HG hN HROW3 H3 HB3 HROW H1 HB hbd hld
    generalize (names.filter fun n => decide (n ≠ genB G)) = ns at *
    go_upto_region 5 with fail
    go_region_held3 (fun U => U.cell? ⟨L, 1, none⟩ = some (.pointer (some ⟨D, 0, none⟩)) ∧ U.cell? ⟨L, 2, none⟩ = some (.string logB)) (first | go_keep)
      (first
       | ((with_reducible refine HO.out.mono ?_); rintro e w6 ⟨v6, rfl, hown6, hb6⟩
          have hb6' : Below wc.heap.size wc w6 := ((Below.refl _ _).drew).trans hb6
          have H6 := Lib.hid (H5.out.keep hb6')
          have HB6 := Lib.hid hb6'
          have HO6 := Lib.hid hown6
          have e1 := H6.out.log.c1
          have e2 := H6.out.log.c2
          have HFS6 := Lib.hid (segFresh D w6)
          clear hb6 hb6' hown6)
       | ((with_reducible refine HFS6.out.mono ?_); rintro e w7 ⟨rfl, hb7⟩
          have H7 := Lib.hid (H6.out.keep hb7)
          have HB7 := Lib.hid (HB6.out.trans (hb7.mono HB6.out.size))
          have HO7 := Lib.hid (HO6.out.below hb7 (Nat.le_refl _))
          obtain ⟨v', w8, hrun, hown8, hg8, -⟩ := run_append_own (P := Tryz.prog) (w7.alloc (.cells #[.string newB] 9)) wc.heap.size 40 40 9 i0 (.string ByteArray.empty) 1 16 Tryz.underlying40 hi hz0 hz1 hz2 rfl (by decide) v6 ns.length _ (World.ownsRow.alloc HO7.out _) ⟨w7.heap.size, 0, none⟩ 1 1 [.string newB] rfl (cell_one_new _ _ _) (by simp [Value.oneCell']) (by unfold maxLen; omega) (by omega) (by have := HB7.out.size; simp; omega)
          have hown9 : OwnS wc.heap.size v' (ns ++ [newB]) w8 := by unfold OwnS; rw [List.length_append, List.map_append]; exact hown8
          have hb8 : Below wc.heap.size wc w8 := (HB7.out.alloc HB7.out.size _).grown hg8 (by have := HB7.out.size; simp; omega) (fun j hj => (World.ownsRow.lt HO7.out j hj).1)
          obtain ⟨rc, cap8, rfl, hrow8, hbase8, hmax8⟩ := ownS_from hown9
          have hl8 := H5.out.keep hb8
          have hea := each_any w8 hl8 rc cap8 (ns ++ [newB]) hrow8 (fun b off e hin => by
            have h1 := hbase8 b off e
            have h2 := (H5.out.sw.disk.lt b hin).2
            omega) (by rw [List.length_append]; simp; omega) s' HE.out
          rw [show (ns ++ [newB]).length = ns.length + 1 by simp] at hea
          have HEA := Lib.hid hea
          have HF8 := Lib.hid (HF5.out.tr (Fr.of_below hb8))
          have e1 := H7.out.log.c1
          have e2 := H7.out.log.c2
          have g1 := hl8.log.c1
          have g2 := hl8.log.c2
          clear hea hb7 hown8 hown9 hb8 hrow8 hbase8 hmax8 hl8 hg8)
       | ((with_reducible refine HEA.out.mono ?_); rintro e w9 ⟨bl9, rfl, hl9, hf9⟩
          have H9 := Lib.hid (And.intro hl9 (HF8.out.tr (hf9.cons L)))
          have e1 := hl9.log.c1
          have e2 := hl9.log.c2
          clear hl9 hf9)
       | fail)
    all_goals
      go_wp2_with fail
      go_ret
      exact ⟨bl9, rfl, H9.out⟩
end Go.Proofs.YtjimgncefeldbaaGreatDoor
