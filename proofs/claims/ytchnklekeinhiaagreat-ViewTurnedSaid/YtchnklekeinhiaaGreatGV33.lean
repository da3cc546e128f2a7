/-
  almonryref20.Texts: are two lists of texts the same?
  Same, of a manifest and itself.
  The document's All; what the statements' first calls answer.
  view, the document's: Same, of a backup and itself.
  What the statements' proofs share: how arguments that came in are opened.
  How a name that came in is opened.
  How a stamp, stamps and two numbers that came in are opened.
  How a fact and facts that came in are opened.
-/
import Derived.Test.YtchnklekeinhiaaGreatGV04
import Derived.Deep.QuietTactic
import Derived.BigQuiet
import Derived.Test.YtchnklekeinhiaaGreatGV07
import Derived.Test.YtchnklekeinhiaaGreatGV28
import Derived.Test.YtchnklekeinhiaaGreatGV18
import Derived.Test.YtchnklekeinhiaaGreatGV31
import Derived.Deep.RegionHeld3
import Derived.Test.YtchnklekeinhiaaGreatGV15
import Derived.Test.YtchnklekeinhiaaGreatGV01
import Derived.ProofKit
import Derived.OpenShut
import Derived.ShutString
import Derived.ChangeOld
import Derived.Below
import Derived.SliceStrings
import Derived.Carry
import Derived.LaidMore
import Derived.MakeChecks
import Derived.Stop.Joined
import Derived.Lib.LaidTab
import Derived.Test.YtchnklekeinhiaaGreatGV10
import Derived.LaidLaws
import Derived.Test.YtchnklekeinhiaaGreatGV11
import Derived.Deep.Slices
namespace Go.Proofs.YtchnklekeinhiaaGreat
set_option linter.unusedSimpArgs false
set_option linter.unusedVariables false
open Go.RowKit

set_option maxHeartbeats 1000000 in
set_option maxRecDepth 100000 in
theorem texts_anyV (a b : Option Addr) (ca cb : Nat) (xs ys : List ByteArray) (w : World) (ha : StrRow w a xs) (hb : StrRow w b ys) (hla : xs.length ≤ maxLen) (hlb : ys.length ≤ maxLen) :
    Calls Tryz.prog 37 #[.slice a xs.length ca, .slice b ys.length cb] w (TextsEnd xs ys w) := by
  unfold maxLen at hla hlb
  by_cases hl : xs.length = ys.length
  · have hne : ((xs.length : Int) != (ys.length : Int)) = false := by simp [hl]
    have HL := Lib.hid hl
    clear hl
    go_enter Tryz.func37, Tryz.ntmps37
    go_wp2
    go_loopw [5] (fun i wr => ∃ k n : Nat, i = .int .i64 k ∧ k ≤ xs.length ∧ xs.take k = ys.take k ∧ wr = w.drewN n) (fun i _ => xs.length - (intOf i).toNat)
    case atStart => exact ⟨0, 0, rfl, Nat.zero_le _, rfl, rfl⟩
    case round =>
      obtain ⟨k, n, rfl, hk, heq, rfl⟩ := hrel
      have HQ := Lib.hid heq
      clear heq
      by_cases hlt : k < xs.length
      · have hlt2 : k < ys.length := by have := HL.out; omega
        obtain ⟨ba, oa, rfl, hla1, hca⟩ : ∃ b off, a = some ⟨b, off, none⟩ ∧ b < w.heap.size ∧ ∀ j, j < xs.length → w.cell? ⟨b, off + j, none⟩ = some (.string (xs.getD j ByteArray.empty)) := by
          rcases ha with h0 | h1
          · subst h0; simp at hlt
          · exact h1
        obtain ⟨bb, ob, rfl, hlb1, hcb⟩ : ∃ b' off, b = some ⟨b', off, none⟩ ∧ b' < w.heap.size ∧ ∀ j, j < ys.length → w.cell? ⟨b', off + j, none⟩ = some (.string (ys.getD j ByteArray.empty)) := by
          rcases hb with h0 | h1
          · subst h0; simp at hlt2
          · exact h1
        have h1 := hca k hlt
        have h2 := hcb k hlt2
        have e1 : xs.take (k + 1) = xs.take k ++ [xs.getD k ByteArray.empty] := by rw [List.take_add_one, List.getElem?_eq_getElem hlt, List.getD_eq_getElem?_getD, List.getElem?_eq_getElem hlt]; rfl
        have e2 : ys.take (k + 1) = ys.take k ++ [ys.getD k ByteArray.empty] := by rw [List.take_add_one, List.getElem?_eq_getElem hlt2, List.getD_eq_getElem?_getD, List.getElem?_eq_getElem hlt2]; rfl
        clear hca hcb ha hb
        generalize xs.getD k ByteArray.empty = x at h1 e1
        generalize ys.getD k ByteArray.empty = y at h2 e2
        have E1 := Lib.hid e1
        have E2 := Lib.hid e2
        clear e1 e2
        have hi1 : (k : Int) < (xs.length : Int) := by omega
        have hi2 : (k : Int) < (ys.length : Int) := by omega
        go_wp2
        go_quiet (fail)
        go_wp2
        · have hd : (!x.toList == y.toList) = true := by assumption
          go_ret
          refine ⟨?_, _, drewN_drewN _ _ _⟩
          have hne : xs ≠ ys := fun e => by
            have h3 := E1.out
            rw [e, E2.out, ← e, HQ.out] at h3
            exact bytes_ne hd (by simpa using h3.symm)
          rw [decide_eq_false hne]; rfl
        · have hd : (!x.toList == y.toList) = false := by assumption
          have hxy := bytes_eq hd
          go_roundw
          case rel => exact ⟨k + 1, _, by go_num, by omega, by rw [E1.out, E2.out, HQ.out, hxy], rfl⟩
          case measure => simp [intOf]; omega
      · go_wp2
        go_ret
        refine ⟨?_, _, rfl⟩
        have h3 := HQ.out
        have hk2 : k = xs.length := by omega
        rw [hk2, List.take_length, HL.out, List.take_length] at h3
        rw [decide_eq_true h3]; rfl
  · have hne : ((xs.length : Int) != (ys.length : Int)) = true := by simp; omega
    have HL := Lib.hid hl
    clear hl
    go_enter Tryz.func37, Tryz.ntmps37
    go_wp2
    go_ret
    refine ⟨?_, 0, rfl⟩
    rw [decide_eq_false fun e => HL.out (by rw [e])]; rfl
theorem texts_sameV (a b : Option Addr) (ca cb : Nat) (xs : List ByteArray) (w : World) (ha : StrRow w a xs) (hb : StrRow w b xs) (hl : xs.length ≤ maxLen) :
    Calls Tryz.prog 37 #[.slice a xs.length ca, .slice b xs.length cb] w fun e w' => e = .returned (.bool true) ∧ ∃ n, w' = w.drewN n := by
  refine (texts_anyV a b ca cb xs xs w ha hb hl hl).mono ?_
  rintro e w' ⟨he, hn⟩
  rw [decide_eq_true rfl] at he
  exact ⟨he, hn⟩
theorem bytes_self (x : ByteArray) : (x.toList == x.toList) = true := by simp
end Go.Proofs.YtchnklekeinhiaaGreat

namespace Go.Proofs.YtchnklekeinhiaaGreat
set_option linter.unusedSimpArgs false
set_option linter.unusedVariables false
open Go.RowKit Go.Sort

set_option maxHeartbeats 2000000 in
set_option maxRecDepth 100000 in
theorem manSameR (m : Man) (a b : Option Addr) (ca cb : Nat) (w : World) (ha : StrRow w a m.ids) (hb : StrRow w b m.ids) (hl : m.ids.length ≤ maxLen) :
    Calls Tryz.prog 20 #[mv m (.slice a m.ids.length ca), mv m (.slice b m.ids.length cb)] w fun e w' => e = .returned (.bool true) ∧ Below w.heap.size w w' := by
  obtain ⟨hx1, hw1⟩ := box_man w m (.slice a m.ids.length ca)
  obtain ⟨hx2, hw2⟩ := box_man (w.alloc (.cells #[.int .i64 m.size, .int .i64 m.chunk, .slice a m.ids.length ca] 27)) m (.slice b m.ids.length cb)
  rw [World.size_alloc] at hx2 hw2
  have hx3 := hx1.below hw2 (by simp)
  have a0 := hx3.c0
  have a1 := hx3.c1
  have a2 := hx3.c2
  have b0 := hx2.c0
  have b1 := hx2.c1
  have b2 := hx2.c2
  have hww := hw1.trans (hw2.mono (by simp))
  have HW := Lib.hid hww
  have cT := fun n => texts_same a b ca cb m.ids _ ((ha.below hww).below (belowN (Below.refl _ _) n)) ((hb.below hww).below (belowN (Below.refl _ _) n)) hl
  clear hx1 hx2 hx3 hw1 hw2 hww ha hb
  go_enter Tryz.func20, Tryz.ntmps20
  go_wp2_with fail
  refine (cT 0).mono ?_
  rintro e w1 ⟨rfl, n, rfl⟩
  have HB := Lib.hid (belowN HW.out n)
  go_wp2_with fail
  go_ret
  exact ⟨rfl, HB.out⟩
end Go.Proofs.YtchnklekeinhiaaGreat

namespace Go.Proofs.YtchnklekeinhiaaGreat
set_option maxRecDepth 100000
open Go.RowKit

attribute [local go_sem] run_store_flt

theorem FlIn.at {w : World} {v : Value} {l : List Nat} (h : FlIn w v l) : ∃ p cap, v = .slice p l.length cap ∧ ∀ j (h : j < l.length), ∃ g, p = some ⟨g, 0, none⟩ ∧ g < w.heap.size ∧ w.cell? ⟨g, j, none⟩ = some (.float .f64 l[j]) := by
  rcases h with ⟨rfl, rfl⟩ | ⟨g, cap, rfl, hg, hc⟩
  · exact ⟨none, 0, rfl, fun j hj => by simp at hj⟩
  · exact ⟨_, cap, rfl, fun j hj => ⟨g, rfl, hg, hc j hj⟩⟩

set_option maxHeartbeats 1000000 in
set_option maxRecDepth 100000 in
theorem flAllR (r : List Nat) (v1 v2 : Value) (w : World) (h1 : FlIn w v1 r) (h2 : FlIn w v2 r) (hlen : r.length ≤ 1000) :
    Calls Tryz.prog 38 #[v1, v2] w fun e w' => e = .returned (.bool true) ∧ Below w.heap.size w w' := by
  obtain ⟨p1, c1, rfl, f1⟩ := h1.at
  obtain ⟨p2, c2, rfl, f2⟩ := h2.at
  clear h1 h2
  have F1 := Lib.hid f1
  have F2 := Lib.hid f2
  clear f1 f2
  obtain ⟨n, hn⟩ : ∃ n, n = r.length := ⟨_, rfl⟩
  rw [← hn] at hlen ⊢
  have HN := Lib.hid hn
  clear hn
  go_enter Tryz.func38, Tryz.ntmps38
  go_wp2
  go_loopw [5] (fun i wr => ∃ k q : Nat, k ≤ n ∧ i = .int .i64 (k : Int) ∧ wr = w.drewN q) (fun i _ => n - (intOf i).toNat)
  case atStart => exact ⟨0, 0, by omega, rfl, rfl⟩
  case round =>
    obtain ⟨k, q, hk, rfl, rfl⟩ := hrel
    by_cases hlt : k < n
    · have hkl : k < r.length := by rw [← HN.out]; exact hlt
      obtain ⟨g1, hp1, hg1, hc1⟩ := F1.out k hkl
      obtain ⟨g2, hp2, hg2, hc2⟩ := F2.out k hkl
      subst hp1 hp2
      generalize r[k] = x at hc1 hc2
      have hsm : ∀ W, Calls Tryz.prog 72 #[.float .f64 x, .float .f64 x] W fun e w' => e = .returned (.bool true) ∧ W = w' := fun W => by
        have h := flSameR x x W
        rwa [decide_eq_true rfl] at h
      have HS := Lib.hid hsm
      have hd1 : (w.drewN q).cell? ⟨g1, k, none⟩ = some (.float .f64 x) := hc1
      have hd2 : (w.drewN q).cell? ⟨g2, k, none⟩ = some (.float .f64 x) := hc2
      generalize hwq : w.drewN q = wq at hd1 hd2
      have HQ := Lib.hid hwq
      clear hsm hc1 hc2 hwq
      go_wp2_with fail
      go_quiet ((go_at_call 72; exact still1 (HS.out _)))
      go_wp2
      exact ⟨⟨k + 1, q + nq, by omega, by go_num, by rw [← HQ.out]; exact World.drewN_drewN _ _ _⟩, by simp [intOf]; omega⟩
    · obtain rfl : k = n := by omega
      go_wp2
      go_ret
      exact ⟨rfl, belowN (Below.refl _ _) _⟩

/-! awake's numbers -/
end Go.Proofs.YtchnklekeinhiaaGreat

namespace Go.Proofs.YtchnklekeinhiaaGreat
set_option linter.unusedSimpArgs false
set_option linter.unusedVariables false
set_option maxRecDepth 100000
open Go.RowKit Go.Sort

/-- a backup's lists are not too great -/
structure EnLen (e : Ent) : Prop where
  ids : e.m.ids.length ≤ maxLen
  tg : e.tg.length ≤ maxLen
  kp : e.kp.length ≤ 1000
  ds : e.ds.length ≤ maxLen
set_option maxHeartbeats 16000000 in
theorem sameEnR (e : Ent) (ia ja ta ua ka la da fa : Option Addr) (ic jc tc uc kc lc dc fc : Nat) (hn : EnLen e) (w : World) (h1 : EnMem w 0 ⟨e, ia, ic, ta, tc, ka, kc, da, dc⟩) (h2 : EnMem w 0 ⟨e, ja, jc, ua, uc, la, lc, fa, fc⟩) :
    Calls Tryz.prog 11 #[.agg (ecs ⟨e, ia, ic, ta, tc, ka, kc, da, dc⟩).toArray, .agg (ecs ⟨e, ja, jc, ua, uc, la, lc, fa, fc⟩).toArray] w fun v w' => v = .returned (.bool true) ∧ Below w.heap.size w w' := by
  have e1 : (w.alloc (.cells (ecs ⟨e, ia, ic, ta, tc, ka, kc, da, dc⟩).toArray 31)).heap.size = w.heap.size + 1 := World.size_alloc _ _
  have r0 := (Blk.new w 31 (ecs ⟨e, ia, ic, ta, tc, ka, kc, da, dc⟩).toArray).alloc (.cells (ecs ⟨e, ja, jc, ua, uc, la, lc, fa, fc⟩).toArray 31)
  have r1 := Blk.new (w.alloc (.cells (ecs ⟨e, ia, ic, ta, tc, ka, kc, da, dc⟩).toArray 31)) 31 (ecs ⟨e, ja, jc, ua, uc, la, lc, fa, fc⟩).toArray
  rw [e1] at r1
  have hlow : Below w.heap.size w ((w.alloc (.cells (ecs ⟨e, ia, ic, ta, tc, ka, kc, da, dc⟩).toArray 31)).alloc (.cells (ecs ⟨e, ja, jc, ua, uc, la, lc, fa, fc⟩).toArray 31)) := (lowA w _).alloc (by rw [e1]; omega) _
  have R0 := Lib.hid r0
  have R1 := Lib.hid r1
  have HB := Lib.hid hlow
  have H1 := Lib.hid (h1.below hlow)
  have H2 := Lib.hid (h2.below hlow)
  have HN := Lib.hid hn
  clear e1 r0 r1 hlow h1 h2 hn
  obtain ⟨n, ⟨mz, mc, mi⟩, lb, tg, kp, ds⟩ := e
  have hx := bytes_self n
  have hy := bytes_self lb
  go_enter Tryz.func11, Tryz.ntmps11
  go_upto_region 1 with fail
  change Code.wp _ _ _ _ ((w.alloc (.cells (ecs ⟨⟨n, ⟨mz, mc, mi⟩, lb, tg, kp, ds⟩, ia, ic, ta, tc, ka, kc, da, dc⟩).toArray 31)).alloc (.cells (ecs ⟨⟨n, ⟨mz, mc, mi⟩, lb, tg, kp, ds⟩, ja, jc, ua, uc, la, lc, fa, fc⟩).toArray 31))
  generalize (w.alloc (.cells (ecs ⟨⟨n, ⟨mz, mc, mi⟩, lb, tg, kp, ds⟩, ia, ic, ta, tc, ka, kc, da, dc⟩).toArray 31)).alloc (.cells (ecs ⟨⟨n, ⟨mz, mc, mi⟩, lb, tg, kp, ds⟩, ja, jc, ua, uc, la, lc, fa, fc⟩).toArray 31) = W at *
  have HM := Lib.hid (manSameR ⟨mz, mc, mi⟩ ia ja ic jc W H1.out.ids.row H2.out.ids.row HN.out.ids)
  have a0 : W.cell? ⟨w.heap.size, 0, none⟩ = some (.string n) := R0.out.cell rfl
  have a1 : W.cell? ⟨w.heap.size, 1, none⟩ = some (.int .i64 mz) := R0.out.cell rfl
  have a2 : W.cell? ⟨w.heap.size, 2, none⟩ = some (.int .i64 mc) := R0.out.cell rfl
  have a3 : W.cell? ⟨w.heap.size, 3, none⟩ = some (.slice ia mi.length ic) := R0.out.cell rfl
  have b0 : W.cell? ⟨w.heap.size + 1, 0, none⟩ = some (.string n) := R1.out.cell rfl
  have b1 : W.cell? ⟨w.heap.size + 1, 1, none⟩ = some (.int .i64 mz) := R1.out.cell rfl
  have b2 : W.cell? ⟨w.heap.size + 1, 2, none⟩ = some (.int .i64 mc) := R1.out.cell rfl
  have b3 : W.cell? ⟨w.heap.size + 1, 3, none⟩ = some (.slice ja mi.length jc) := R1.out.cell rfl
  go_wp2_with fail
  refine HM.out.mono ?_
  rintro v w1 ⟨rfl, hb1⟩
  have R2 := Lib.hid (R0.out.keep hb1)
  have R3 := Lib.hid (R1.out.keep hb1)
  have HB1 := Lib.hid (HB.out.trans (hb1.mono HB.out.size))
  have G1 := Lib.hid (H1.out.below hb1)
  have G2 := Lib.hid (H2.out.below hb1)
  clear hb1 R0 R1 HB H1 H2 HM a0 a1 a2 a3 b0 b1 b2 b3
  have HT := Lib.hid (texts_sameV ta ua tc uc tg w1 G1.out.tg.row G2.out.tg.row HN.out.tg)
  have a4 : w1.cell? ⟨w.heap.size, 4, none⟩ = some (.string lb) := R2.out.cell rfl
  have a5 : w1.cell? ⟨w.heap.size, 5, none⟩ = some (.slice ta tg.length tc) := R2.out.cell rfl
  have b4 : w1.cell? ⟨w.heap.size + 1, 4, none⟩ = some (.string lb) := R3.out.cell rfl
  have b5 : w1.cell? ⟨w.heap.size + 1, 5, none⟩ = some (.slice ua tg.length uc) := R3.out.cell rfl
  go_wp2_with fail
  refine HT.out.mono ?_
  rintro v w2 ⟨rfl, nn, rfl⟩
  have hbn := belowN (Below.refl w1.heap.size w1) nn
  have R4 := Lib.hid (R2.out.keep hbn)
  have R5 := Lib.hid (R3.out.keep hbn)
  have HB2 := Lib.hid (HB1.out.trans (hbn.mono HB1.out.size))
  have G3 := Lib.hid (G1.out.below hbn)
  have G4 := Lib.hid (G2.out.below hbn)
  clear hbn R2 R3 HB1 G1 G2 HT a4 a5 b4 b5
  generalize w1.drewN nn = w2 at *
  have HK := Lib.hid (flAllR kp (.slice ka kp.length kc) (.slice la kp.length lc) w2 G3.out.kp.fin G4.out.kp.fin HN.out.kp)
  have a6 : w2.cell? ⟨w.heap.size, 6, none⟩ = some (.slice ka kp.length kc) := R4.out.cell rfl
  have b6 : w2.cell? ⟨w.heap.size + 1, 6, none⟩ = some (.slice la kp.length lc) := R5.out.cell rfl
  go_wp2_with fail
  refine HK.out.mono ?_
  rintro v w3 ⟨rfl, hb3⟩
  have R6 := Lib.hid (R4.out.keep hb3)
  have R7 := Lib.hid (R5.out.keep hb3)
  have HB3 := Lib.hid (HB2.out.trans (hb3.mono HB2.out.size))
  have G5 := Lib.hid (G3.out.below hb3)
  have G6 := Lib.hid (G4.out.below hb3)
  clear hb3 R4 R5 HB2 G3 G4 HK a6 b6
  have hds := sameR ds ds da fa dc fc w3 G5.out.ds.din G6.out.ds.din HN.out.ds HN.out.ds
  rw [decide_eq_true rfl] at hds
  have HD := Lib.hid hds
  clear hds
  have a7 : w3.cell? ⟨w.heap.size, 7, none⟩ = some (.slice da ds.length dc) := R6.out.cell rfl
  have b7 : w3.cell? ⟨w.heap.size + 1, 7, none⟩ = some (.slice fa ds.length fc) := R7.out.cell rfl
  go_wp2_with fail
  refine HD.out.mono ?_
  rintro v w4 ⟨rfl, nn, rfl⟩
  have HB4 := Lib.hid (belowN HB3.out nn)
  clear HD HB3
  go_wp2_with fail
  go_ret
  exact ⟨rfl, HB4.out⟩
end Go.Proofs.YtchnklekeinhiaaGreat

namespace Go.Proofs.YtchnklekeinhiaaGreat
open Go.ChangeShapes Go.WideShapes Go.ChangeAt Go.RowKit
open Go.ChangeMaps (open_string shut_string)
set_option linter.unusedVariables false

theorem own : ownKnob Tryz.prog.godebug = none := by kernel_rfl
theorem laidOut : laidOutB Tryz.prog = true := by kernel_rfl

end Go.Proofs.YtchnklekeinhiaaGreat

namespace Go.Proofs.YtchnklekeinhiaaGreat
set_option maxRecDepth 100000
open Go.ChangeShapes Go.WideShapes Go.ChangeAt Go.RowKit Go.Deep
open Go.ChangeMaps (open_string shut_string)

theorem pair_of {cs : List Value} {a b : Value} (h : cs.length = 2) (h0 : (cs.drop 0).take 1 = [a]) (h1 : (cs.drop 1).take 1 = [b]) : cs = [a, b] := by
  match cs, h with
  | [_, _], _ => simp_all

theorem dot_cells {H : Type} {enc : TypeId × Value → H} {W : World} {b0 : Nat} {sp : Nat → Bool} {held : Bool} {fuel : Nat} {cs : List Value} {x : DataW H × List MemPlace}
    (h : DataW.trod enc Tryz.prog W b0 sp held fuel 44 cs = some x) : ∃ d : Dt, cs = dcs d := by
  obtain ⟨xs, n, _, _, hlen, hxl, hf⟩ := DataW.trod_struct Tryz.underlying44 h
  have hc2 : Tryz.prog.cellsOf 44 = 2 := by kernel_rfl
  have hc1 : Tryz.prog.cellsOf 3 = 1 := by kernel_rfl
  rw [hc2] at hlen
  have get : ∀ i, i < 2 → ∃ y, xs[i]? = some y := fun i hi => ⟨_, List.getElem?_eq_getElem (by rw [hxl]; simpa using hi)⟩
  obtain ⟨y0, g0⟩ := get 0 (by omega)
  obtain ⟨y1, g1⟩ := get 1 (by omega)
  have f0 := (hf 0 _ rfl).trans g0
  have f1 := (hf 1 _ rfl).trans g1
  obtain ⟨k, e0, _, w0⟩ := DataW.trod_int Tryz.underlying3 f0
  obtain ⟨i, e1, _, w1⟩ := DataW.trod_int Tryz.underlying3 f1
  exact ⟨(k, i), pair_of hlen (by rw [← e0]; rfl) (by rw [← e1]; rfl)⟩

end Go.Proofs.YtchnklekeinhiaaGreat

namespace Go.Proofs.YtchnklekeinhiaaGreat
set_option maxRecDepth 100000
open Go.ChangeShapes Go.WideShapes Go.ChangeAt Go.RowKit Go.Deep
open Go.ChangeMaps (open_string shut_string)

theorem three_of {cs : List Value} {a b c : Value} (h : cs.length = 3) (h0 : (cs.drop 0).take 1 = [a]) (h1 : (cs.drop 1).take 1 = [b]) (h2 : (cs.drop 2).take 1 = [c]) : cs = [a, b, c] := by
  match cs, h with
  | [_, _, _], _ => simp_all

theorem stamp_cells {H : Type} {enc : TypeId × Value → H} {W : World} {b0 : Nat} {sp : Nat → Bool} {held : Bool} {fuel : Nat} {cs : List Value} {x : DataW H × List MemPlace}
    (h : DataW.trod enc Tryz.prog W b0 sp held fuel 46 cs = some x) : ∃ d : St, cs = scs d := by
  obtain ⟨xs, n, _, _, hlen, hxl, hf⟩ := DataW.trod_struct Tryz.underlying46 h
  have hc3 : Tryz.prog.cellsOf 46 = 3 := by kernel_rfl
  rw [hc3] at hlen
  have get : ∀ i, i < 3 → ∃ y, xs[i]? = some y := fun i hi => ⟨_, List.getElem?_eq_getElem (by rw [hxl]; simpa using hi)⟩
  obtain ⟨y0, g0⟩ := get 0 (by omega)
  obtain ⟨y1, g1⟩ := get 1 (by omega)
  obtain ⟨y2, g2⟩ := get 2 (by omega)
  have f0 := (hf 0 _ rfl).trans g0
  have f1 := (hf 1 _ rfl).trans g1
  have f2 := (hf 2 _ rfl).trans g2
  obtain ⟨k, e0, _, w0⟩ := DataW.trod_int Tryz.underlying3 f0
  obtain ⟨i, e1, _, w1⟩ := DataW.trod_int Tryz.underlying3 f1
  obtain ⟨j, e2, _, w2⟩ := DataW.trod_int Tryz.underlying3 f2
  exact ⟨⟨k, i, j⟩, three_of hlen (by rw [← e0]; rfl) (by rw [← e1]; rfl) (by rw [← e2]; rfl)⟩

end Go.Proofs.YtchnklekeinhiaaGreat

namespace Go.Proofs.YtchnklekeinhiaaGreat
set_option maxRecDepth 100000
open Go.ChangeShapes Go.WideShapes Go.ChangeAt Go.RowKit Go.Deep
open Go.ChangeMaps (open_string shut_string)

theorem eight_of {cs : List Value} {a b c d e f g h : Value} (hl : cs.length = 8) (h0 : (cs.drop 0).take 2 = [a, b]) (h1 : (cs.drop 2).take 3 = [c, d, e]) (h2 : (cs.drop 5).take 1 = [f]) (h3 : (cs.drop 6).take 1 = [g]) (h4 : (cs.drop 7).take 1 = [h]) : cs = [a, b, c, d, e, f, g, h] := by
  match cs, hl with
  | [_, _, _, _, _, _, _, _], _ => simp_all

theorem fact_cells {H : Type} {enc : TypeId × Value → H} {W : World} {b0 : Nat} {sp : Nat → Bool} {held : Bool} {fuel : Nat} {cs : List Value} {x : DataW H × List MemPlace}
    (h : DataW.trod enc Tryz.prog W b0 sp held fuel 48 cs = some x) : ∃ f : Ft, cs = fcs f ∧ f.n.size ≤ maxLen ∧ f.v.size ≤ maxLen := by
  obtain ⟨xs, n, _, _, hlen, hxl, hf⟩ := DataW.trod_struct Tryz.underlying48 h
  have hc8 : Tryz.prog.cellsOf 48 = 8 := by kernel_rfl
  rw [hc8] at hlen
  have get : ∀ i, i < 5 → ∃ y, xs[i]? = some y := fun i hi => ⟨_, List.getElem?_eq_getElem (by rw [hxl]; simpa using hi)⟩
  obtain ⟨y0, g0⟩ := get 0 (by omega)
  obtain ⟨y1, g1⟩ := get 1 (by omega)
  obtain ⟨y2, g2⟩ := get 2 (by omega)
  obtain ⟨y3, g3⟩ := get 3 (by omega)
  obtain ⟨y4, g4⟩ := get 4 (by omega)
  have f0 := (hf 0 _ rfl).trans g0
  have f1 := (hf 1 _ rfl).trans g1
  have f2 := (hf 2 _ rfl).trans g2
  have f3 := (hf 3 _ rfl).trans g3
  have f4 := (hf 4 _ rfl).trans g4
  obtain ⟨d, e0⟩ := dot_cells f0
  obtain ⟨s, e1⟩ := stamp_cells f1
  obtain ⟨k, e2, _, w2⟩ := DataW.trod_int Tryz.underlying3 f2
  obtain ⟨nm, e3, _, w3⟩ := DataW.trod_string Tryz.underlying9 f3
  obtain ⟨v, e4, _, w4⟩ := DataW.trod_string Tryz.underlying9 f4
  exact ⟨⟨d, s, k, nm, v⟩, eight_of hlen (by have := e0; unfold dcs at this; rw [← this]; rfl) (by have := e1; unfold scs at this; rw [← this]; rfl) (by rw [← e2]; rfl) (by rw [← e3]; rfl) (by rw [← e4]; rfl), w3, w4⟩

abbrev fv (f : Ft) : Value := .agg (fcs f).toArray
/-- Facts that came in: they lie there, and are no more than can be, nor are their texts. -/
def FactArg (w : World) (a : Option Addr) (len : Nat) (l : List Ft) : Prop := l.length = len ∧ len ≤ maxLen ∧ FIn w a l ∧ ∀ f ∈ l, f.n.size ≤ maxLen ∧ f.v.size ≤ maxLen

theorem facts_of {H : Type} {enc : TypeId × Value → H} {W : World} {sp : Nat → Bool} {held : Bool} {a : Option Addr} {len cap : Nat} {d : DataW H} {p : List MemPlace}
    (h : DataW.Trod enc Tryz.prog W 0 sp held 22 (.slice a len cap) d p) : ∃ l, FactArg W a len l := by
  obtain ⟨fuel, hf⟩ := h
  have hc8 : Tryz.prog.cellsOf 48 = 8 := by kernel_rfl
  rcases open_slice Tryz.underlying22 hf with ⟨hcs, _⟩ | ⟨x, l, c, m, n, D, Pl, hcs, _, hl, hm, hmm, _, hi⟩
  · simp [Value.cells] at hcs
    obtain ⟨rfl, rfl, rfl⟩ := hcs
    exact ⟨[], rfl, by simp [maxLen], .inl rfl, fun f hf => by simp at hf⟩
  · simp [Value.cells] at hcs
    obtain ⟨rfl, rfl, rfl⟩ := hcs
    rw [hc8] at hi
    have hlm : len ≤ m := by rw [hmm]; split <;> omega
    have hd : ∀ i, i < len → ∃ dd : Ft, (dd.n.size ≤ maxLen ∧ dd.v.size ≤ maxLen) ∧ ∀ j u, (fcs dd)[j]? = some u → W.cell? ((x.add (i * 8)).add j) = some u := fun i hil => by
      obtain ⟨cs', hcell, ht⟩ := hi i (by omega)
      obtain ⟨_, hlen, hat⟩ := World.cells?_some hcell
      obtain ⟨dd, rfl, hs⟩ := fact_cells ht
      exact ⟨dd, hs, fun j u hju => by rw [hat j (by have := (List.getElem?_eq_some_iff.1 hju).1; rw [fcs_len] at this; omega)]; exact hju⟩
    let z : Ft := ⟨(0, 0), ⟨0, 0, 0⟩, 0, ⟨#[]⟩, ⟨#[]⟩⟩
    obtain ⟨g, hg⟩ : ∃ g : Nat → Ft, ∀ i, i < len → ((g i).n.size ≤ maxLen ∧ (g i).v.size ≤ maxLen) ∧ ∀ j u, (fcs (g i))[j]? = some u → W.cell? ((x.add (i * 8)).add j) = some u :=
      ⟨fun i => if h : i < len then (hd i h).choose else z, fun i h => by simp only [h, dif_pos]; exact (hd i h).choose_spec⟩
    refine ⟨(List.range len).map g, by simp, by omega, ?_, fun f hf => ?_⟩
    · by_cases h0 : len = 0
      · subst h0; exact .inl (by simp)
      · obtain ⟨b, off, spot⟩ := x
        have hc0 := (hg 0 (by omega)).2 0 _ rfl
        have hspot : spot = none := by simpa [Addr.add] using World.cell?_spot hc0
        subst hspot
        have add0 : ∀ k, (⟨b, off, none⟩ : Addr).add k = ⟨b, off + k, none⟩ := fun k => by cases k <;> simp [Addr.add]
        have add1 : ∀ o k, (⟨b, o, none⟩ : Addr).add k = ⟨b, o + k, none⟩ := fun o k => by cases k <;> simp [Addr.add]
        refine .inr ⟨b, off, rfl, by have := World.block_lt_of_cell? W _ hc0; rw [add0, add1] at this; exact this, fun j dd hj i u hu => ?_⟩
        have hjl : j < len := by have := (List.getElem?_eq_some_iff.1 hj).1; simpa using this
        have he : g j = dd := by simpa [hjl] using hj
        have hcell := (hg j hjl).2 i u (by rw [he]; exact hu)
        simp only [add0, add1] at hcell
        exact hcell
    · obtain ⟨i, hil, rfl⟩ := List.mem_map.1 hf
      exact (hg i (List.mem_range.1 hil)).1
end Go.Proofs.YtchnklekeinhiaaGreat
