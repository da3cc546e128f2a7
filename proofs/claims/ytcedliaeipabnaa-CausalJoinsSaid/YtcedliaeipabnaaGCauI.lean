/-
  past: the iterator, and what it hands over.
  How a context is made clean name by name: what holds behind each. Nothing of the program.
  Rows of names that lie between two blocks, and stay as they are while others are written; slices.Equal, slices.Concat, slices.Grow.
  Has: the program's, and the document's.
-/
import Derived.Test.YtcedliaeipabnaaGCauF
import Derived.Test.YtcedliaeipabnaaGCauD
import Derived.Test.YtcedliaeipabnaaGCauH
import Derived.RangeFuncNested
import Derived.RangeFuncBound
import Derived.RangeFuncCalls
import Derived.RangeFuncLeaves
import Derived.RangeFuncBox
import Derived.Shelf.Abstract
import Derived.Shelf.RegionOpen
import Derived.WalkKit
import Derived.OwnWalkIn
import Derived.TacticsInMore
import Derived.LoopNIn
import Derived.LoopIn
import Derived.Maps.AppendAt
import Derived.ControlIn
import Derived.Test.YtcedliaeipabnaaGCauC
import Derived.Lib.QuietBelow
import Derived.Deep.Cut
namespace Go.Proofs.Ytcedliaeipabnaa
set_option linter.unusedSimpArgs false
set_option linter.unusedVariables false
set_option maxRecDepth 100000
open Go.RowKit Go.Sort Go.Shelf

attribute [local go_sem] Oper.semAt_some

/-- some blocks lie as they lay -/
structure KeepS (S : Nat → Prop) (W W' : World) : Prop where
  size : W.heap.size ≤ W'.heap.size
  same : ∀ k, S k → k < W.heap.size → W'.heap[k]? = W.heap[k]?
theorem KeepS.refl (S : Nat → Prop) (W : World) : KeepS S W W := ⟨Nat.le_refl _, fun _ _ _ => rfl⟩
theorem KeepS.trans {S : Nat → Prop} {A B C : World} (h : KeepS S A B) (k : KeepS S B C) : KeepS S A C :=
  ⟨Nat.le_trans h.size k.size, fun i hi e => (k.same i hi (Nat.lt_of_lt_of_le e h.size)).trans (h.same i hi e)⟩
theorem KeepS.below {S : Nat → Prop} {W W' : World} (h : Go.RowKit.Below W.heap.size W W') : KeepS S W W' := ⟨h.size, fun i _ e => h.block i e⟩
theorem KeepS.grown {S : Nat → Prop} {W W' : World} {row : Option Nat} (h : W.grownBy W' row) (hr : ∀ i, row = some i → ¬ S i) : KeepS S W W' :=
  ⟨h.size, fun i hi e => h.block i e (fun e2 => hr i e2.symm hi)⟩
theorem keepS_b {S : Nat → Prop} {w : World} (hS : ∀ k, S k → k < w.heap.size) (W : World) (l : Nat) (o o' : Obj) (hl : w.heap.size ≤ l) (_ : W.heap[l]? = some o) (_ : o.isCells = false) (_ : o.isWalk = false) : KeepS S W (W.putObj l o') :=
  KeepS.grown (grownBy_putObj' W l o') (fun i e hi => by cases e; have := hS l hi; omega)
/-- names in one of them -/
def SIn (S : Nat → Prop) (w : World) (a : Option Addr) (l : List Dt) : Prop :=
  l = [] ∨ ∃ b off, a = some ⟨b, off, none⟩ ∧ S b ∧ b < w.heap.size ∧ ∀ j d, l[j]? = some d → w.cell? ⟨b, off + j * 2, none⟩ = some (.int .i64 d.1) ∧ w.cell? ⟨b, off + j * 2 + 1, none⟩ = some (.int .i64 d.2)
theorem SIn.keep {S : Nat → Prop} {w w' : World} {a : Option Addr} {l : List Dt} (h : SIn S w a l) (hk : KeepS S w w') : SIn S w' a l := by
  rcases h with h | ⟨b, off, h1, h2, h3, h4⟩
  · exact .inl h
  · have hb := hk.same b h2 h3
    refine .inr ⟨b, off, h1, h2, Nat.lt_of_lt_of_le h3 hk.size, fun j d hj => ?_⟩
    obtain ⟨c0, c1⟩ := h4 j d hj
    exact ⟨(World.cell?_of_block (a := ⟨b, off + j * 2, none⟩) hb).trans c0, (World.cell?_of_block (a := ⟨b, off + j * 2 + 1, none⟩) hb).trans c1⟩
theorem SIn.din {S : Nat → Prop} {w : World} {a : Option Addr} {l : List Dt} (h : SIn S w a l) : DIn w a l := by
  rcases h with h | ⟨b, off, h1, h2, h3, h4⟩
  · exact .inl h
  · exact .inr ⟨b, off, h1, h3, h4⟩
theorem CRow.keepS {S : Nat → Prop} {w w' : World} {b : Nat} {v : Vc} {s : Value} (h : CRow w b v s) (hk : KeepS S w w') (hb : S b) : CRow w' b v s := by
  unfold CRow; rw [hk.same b hb h.lt]; exact h
theorem VRow.keepS {S : Nat → Prop} {w w' : World} {b : Nat} {v : Vc} (h : VRow w b v) (hk : KeepS S w w') (hb : S b) : VRow w' b v := by
  unfold VRow; rw [hk.same b hb h.lt]; exact h
/-- behind the first of them -/
theorem tailS (S : Nat → Prop) (a : Option Addr) (n cap : Nat) (hn : 1 ≤ n) (hc : n ≤ cap) :
    ∃ p : Option Addr, (∀ W, (Instr.slice 24 (.slice a n cap) (some (.int .i64 1)) none none).run Try.prog W = .ok (.slice p (n - 1) (cap - 1)) W) ∧ ∀ W (l : List Dt), l.length = n → SIn S W a l → SIn S W p (l.drop 1) := by
  have ht := Try.underlying24
  have ht' : Try.prog.underlying 24 = some (.slice (Try.prog.elem 24)) := by simp [Program.elem, ht]
  have he : Try.prog.elem 24 = 31 := by simp [Program.elem, ht]
  refine ⟨if cap = 1 then a else a.map (·.add (1 * 2)), fun W => ?_, fun W l hl h => ?_⟩
  · have h := run_slice_l (P := Try.prog) W 24 a n cap ht' .i64 1 (by omega) (by omega)
    rw [he, Try.sizeOf31] at h
    rw [h]
    simp [Result.andThen, sliced]
  · by_cases h0 : cap = 1
    · exact .inl (List.drop_of_length_le (by omega))
    · rw [if_neg h0]
      rcases h with rfl | ⟨b, off, rfl, hs, hlt, hcc⟩
      · exact .inl (by simp)
      · refine .inr ⟨b, off + 1 * 2, ?_, hs, hlt, fun j d hj => ?_⟩
        · rw [Option.map_some]
          congr 1
        · rw [List.getElem?_drop] at hj
          have := hcc (1 + j) d hj
          have e : off + (1 + j) * 2 = off + 1 * 2 + j * 2 := by omega
          rwa [e] at this

set_option maxHeartbeats 16000000 in
theorem past1_in (n : Nat) (hn : 1 ≤ n) (S : Nat → Prop) (l B1 B2 : Nat) (b : Cx) (hb : IsClean b) (v : Vc) (hv : v.length = 16) (hvk : ∀ i, i < 16 → okN (v.getD i 0)) (p : Option Addr) (k : Nat) (hlen : b.l.length ≤ 32768) (hk : b.l.length ≤ k) (s1 : S B1) (s2 : S B2) (J Jx : List Dt → World → Prop)
    (hY : ∀ pre x W, J pre W → pre.length < (pastL v b).length → YieldAt Fence.wide (n - 1) Try.prog l #[.agg #[.int .i64 x.1, .int .i64 x.2]] W fun e W' =>
      (e = .returned (.bool true) ∧ J (pre ++ [x]) W' ∧ KeepS S W W') ∨ (e = .returned (.bool false) ∧ Jx (pre ++ [x]) W'))
    (W : World) (h1 : CRow W B1 b.v (.slice p b.l.length k)) (h2 : VRow W B2 v) (h3 : SIn S W p b.l) (h0 : J [] W) :
    CallsIn Fence.wide n Try.prog 69 #[.func (.yield l) #[] #[], .pointer (some ⟨B1, 0, none⟩), .pointer (some ⟨B2, 0, none⟩)] W fun e W' => (∃ v, e = .returned v) ∧
      ((∃ ys, ys = pastL v b ∧ J ys W') ∨ (∃ pre, pre <+: pastL v b ∧ Jx pre W')) := by
  have HB := Lib.hid (And.intro hb (And.intro hvk hv))
  have HV := Lib.hid hb.len
  have H := Lib.hid (And.intro h1 (And.intro h2 h3))
  have HY := Lib.hid hY
  have c16 := h1.cloud hb.len
  have HCT := Lib.hid (CutAt.start b.l (fun d hd => (chkD_ok (hb.out d hd).1).1))
  clear hb h1 h2 h3 hY hvk hv
  refine callsIn_of_wp Try.func69 rfl trivial ?_ rfl
  simp only [Try.ntmps69, List.size_toArray, List.length_cons, List.length_nil, Nat.reduceAdd, Nat.reduceSub, Array.replicate_succ, Array.replicate_zero, List.push_toArray, List.append_toArray, List.nil_append, List.cons_append]
  refine wpIn_wide.2 ?_
  go_wp2_with ((with_reducible refine cl_loadV ?_ (.tmp 10) ?_ B1 b.v (.slice p b.l.length k) ?_ ?_ ?_ ?_); rfl; rfl; rfl; exact H.out.1; exact HV.out)
  go_loopw [4, 12] (fun x y wr => ∃ (i j : Nat) (q : Option Addr) (qc : Nat), x = .slice q (b.l.length - j) qc ∧ y = .int .i64 i ∧ i ≤ 16 ∧ j ≤ b.l.length ∧ b.l.length - j ≤ qc ∧ Hid (CutAt b.l j ((i : Int) - 1) i) ∧ SIn S wr q (b.l.drop j) ∧ J (pastTo v b i) wr ∧ KeepS S W wr) (fun _ y _ => 16 - (intOf y).toNat)
  case atStart => exact ⟨0, 0, p, k, rfl, rfl, by omega, Nat.zero_le _, by omega, HCT, by rw [List.drop_zero]; exact H.out.2.2, h0, KeepS.refl _ _⟩
  case round =>
    obtain ⟨i, j, q, qc, rfl, rfl, hi, hj, hjc, HC, hs, hJ, hks⟩ := hrel
    by_cases hlt : i < 16
    · have r2 := H.out.2.1.keepS hks s2
      have hcv := r2.cell i (by rw [HB.out.2.2]; exact hlt)
      have hix := fun W => indexV HV.out i hlt W
      have hz2 := r2.lt
      have hgi : decide ((i : Int) < 16) = true := by simp; omega
      have HX := Lib.hid (And.intro hs (And.intro hJ hks))
      have hok := HB.out.2.1 i hlt
      have hok2 := HB.out.1.ok i hlt
      unfold okN at hok hok2
      obtain ⟨x, hx⟩ : ∃ x, v.getD i 0 = x := ⟨_, rfl⟩
      obtain ⟨y, hy⟩ : ∃ y, b.v.getD i 0 = y := ⟨_, rfl⟩
      rw [hx] at hcv hok
      rw [hy] at hix hok2
      have HXY := Lib.hid (And.intro hx hy)
      clear r2 hs hJ hks hx hy
      go_wp2_with fail
      go_loopw [7] (fun z wq => ∃ t : Nat, z = .int .i64 (x + 1 + (t : Int)) ∧ t ≤ (y - x).toNat ∧ J (pastTo v b i ++ (vecP x y i).take t) wq ∧ KeepS S wr wq) (fun z _ => (y + 1 - intOf z).toNat)
      case atStart => exact ⟨0, by simp, Nat.zero_le _, by rw [List.take_zero, List.append_nil]; exact HX.out.2.1, KeepS.refl _ _⟩
      case round =>
        rename World => wq
        obtain ⟨t, rfl, ht, hJ, hk2⟩ := hrel
        by_cases hny : x + 1 + (t : Int) ≤ y
        · have htl : t < (y - x).toNat := by omega
          have hg1 : decide (x + 1 + (t : Int) ≤ y) = true := by simp [hny]
          have hpre := past_vec (v := v) (b := b) hlt (t := t) (by rw [HXY.out.1, HXY.out.2]; exact htl)
          rw [HXY.out.1, HXY.out.2] at hpre
          have htk := vecP_take x y i t htl
          obtain ⟨fn, tmps, assign, body, hy, hR⟩ := HY.out _ ((i : Int), x + 1 + (t : Int)) wq hJ (pre_lt hpre)
          rw [List.append_assoc, ← htk] at hR
          have HPR := Lib.hid hpre
          have HK2 := Lib.hid hk2
          simp only at hy
          clear hpre htk hJ hk2
          go_upto_region 7 with fail
          refine (wpIn_wide (n := n)).1 ?_
          gi_wp2
          refine hR.mono ?_
          rintro e W3 (⟨rfl, hJ3, hk3⟩ | ⟨rfl, hJx3⟩)
          · have HJ3 := Lib.hid (And.intro hJ3 (HK2.out.trans hk3))
            clear hJ3 hk3 hR hy
            gi_wp2
            go_wp2_with fail
            go_roundw
            case rel => first | exact ⟨t + 1, by go_num, by omega, HJ3.out.1, HJ3.out.2⟩ | ((repeat apply Exists.intro); refine ⟨?_, rfl⟩; exact ⟨t + 1, by go_num, by omega, HJ3.out.1, HJ3.out.2⟩)
            case measure => simp [intOf]; omega
          · have HJX := Lib.hid hJx3
            clear hJx3 hR hy
            gi_wp2
            go_wp2_with fail
            refine bodyPost_ret (results_none rfl _ _ _) rfl ?_
            exact ⟨⟨_, rfl⟩, .inr ⟨_, by rw [vecP_take x y i t htl, ← List.append_assoc]; exact HPR.out, HJX.out⟩⟩
        · have hte : t = (y - x).toNat := by omega
          have hg1 : decide (x + 1 + (t : Int) ≤ y) = false := by simp; omega
          rw [hte, vecP_all] at hJ
          have HJV := Lib.hid (And.intro hJ (HX.out.2.2.trans hk2))
          have HSV := Lib.hid (HX.out.1.keep hk2)
          have hcut := HC.out
          have HC0 := Lib.hid (show CutAt b.l j (i : Int) i from ⟨fun a d ha hb => by have := hcut.lo a d ha hb; omega, hcut.hi⟩)
          have HCN := Lib.hid hcut.none
          clear hJ hk2 hcut hte hny
          go_wp2_with fail
          go_loopw [4] (fun z wk => ∃ (j : Nat) (q : Option Addr) (qc : Nat), z = .slice q (b.l.length - j) qc ∧ j ≤ b.l.length ∧ b.l.length - j ≤ qc ∧ Hid (CutAt b.l j (i : Int) i) ∧ SIn S wk q (b.l.drop j) ∧ J (pastTo v b i ++ vecP x y i ++ cloP (b.l.take j) i) wk ∧ KeepS S W wk) (fun z _ => lenOf z)
          case atStart => exact ⟨j, q, qc, rfl, hj, hjc, HC0, HSV.out, by rw [HCN.out, List.append_nil]; exact HJV.out.1, HJV.out.2⟩
          case round =>
            rename World => wk
            obtain ⟨j, q, qc, rfl, hj, hjc, HC, hs, hJ, hks⟩ := hrel
            by_cases hjl : j < b.l.length
            · obtain ⟨d, hd⟩ : ∃ d, b.l[j]? = some d := ⟨_, List.getElem?_eq_getElem hjl⟩
              have hd0 : (b.l.drop j)[0]? = some d := by rw [List.getElem?_drop]; exact hd
              obtain ⟨bb, off, rfl, hsb, hbl, hcc⟩ : ∃ bb off, q = some ⟨bb, off, none⟩ ∧ S bb ∧ bb < wk.heap.size ∧ ∀ j' d, (b.l.drop j)[j']? = some d → wk.cell? ⟨bb, off + j' * 2, none⟩ = some (.int .i64 d.1) ∧ wk.cell? ⟨bb, off + j' * 2 + 1, none⟩ = some (.int .i64 d.2) := by
                rcases hs with h | h
                · rw [h] at hd0; cases hd0
                · exact h
              obtain ⟨c0, c1⟩ := hcc 0 d hd0
              rw [Nat.zero_mul, Nat.add_zero] at c0 c1
              have HS := Lib.hid (show SIn S wk (some ⟨bb, off, none⟩) (b.l.drop j) from .inr ⟨bb, off, rfl, hsb, hbl, hcc⟩)
              obtain ⟨N, hN⟩ : ∃ N, b.l.length - j = N + 1 := ⟨b.l.length - j - 1, by omega⟩
              obtain ⟨p', hsl, hsd⟩ := tailS S (some ⟨bb, off, none⟩) (N + 1) qc (by omega) (by omega)
              rw [Nat.add_sub_cancel] at hsl
              have HSD := Lib.hid (hsd wk (b.l.drop j) (by rw [List.length_drop]; exact hN))
              have HN := Lib.hid hN
              have hN1 : b.l.length - (j + 1) = N := by omega
              have HN1 := Lib.hid hN1
              rw [hN]
              clear hcc hs hN1 hd0 hsd
              have hg3 : decide ((0 : Int) < ((N + 1 : Nat) : Int)) = true := decide_eq_true (by omega)
              have hg4 : decide ((0 : Int) < (N : Int) + 1) = true := decide_eq_true (by omega)
              have hg5 : (0 : Int) < (N : Int) + 1 := by omega
              have HD := Lib.hid hd
              obtain ⟨dr, dq⟩ := d
              simp only at c0 c1
              by_cases hr : dr = (i : Int)
              · have hrb : (dr == (i : Int)) = true := by simp [hr]
                have hstep := HC.out.step HD.out hr
                have hpre := past_clo (v := v) (b := b) hlt HD.out hr
                rw [HXY.out.1, HXY.out.2] at hpre
                obtain ⟨fn, tmps, assign, body, hy, hR⟩ := HY.out _ (dr, dq) wk hJ (pre_lt hpre)
                rw [List.append_assoc, ← hstep.2] at hR
                have HPR := Lib.hid hpre
                have HST := Lib.hid hstep
                have HKS := Lib.hid hks
                simp only at hy
                clear hpre hstep hJ hks hd hr
                go_upto_region 9 with fail
                refine (wpIn_wide (n := n)).1 ?_
                gi_wp2
                refine hR.mono ?_
                rintro e W3 (⟨rfl, hJ3, hk3⟩ | ⟨rfl, hJx3⟩)
                · have HJ3 := Lib.hid (And.intro hJ3 (HKS.out.trans hk3))
                  have HS3 := Lib.hid ((HSD.out HS.out).keep hk3)
                  rw [List.drop_drop] at HS3
                  clear hJ3 hk3 hR hy
                  gi_wp2
                  go_wp2_with fail
                  go_roundw
                  case rel =>
                    first
                      | exact ⟨j + 1, p', qc - 1, by rw [HN1.out], by omega, by rw [HN1.out]; have := HN.out; omega, Lib.hid HST.out.1, HS3.out, HJ3.out.1, HJ3.out.2⟩
                      | ((repeat apply Exists.intro); refine ⟨?_, rfl⟩; exact ⟨j + 1, p', qc - 1, by rw [HN1.out], by omega, by rw [HN1.out]; have := HN.out; omega, Lib.hid HST.out.1, HS3.out, HJ3.out.1, HJ3.out.2⟩)
                  case measure => simp [lenOf]
                · have HJX := Lib.hid hJx3
                  clear hJx3 hR hy
                  gi_wp2
                  go_wp2_with fail
                  refine bodyPost_ret (results_none rfl _ _ _) rfl ?_
                  exact ⟨⟨_, rfl⟩, .inr ⟨_, by rw [HST.out.2, ← List.append_assoc]; exact HPR.out, HJX.out⟩⟩
              · have hrb : (dr == (i : Int)) = false := by simp [hr]
                have hdone := HC.out.done HB.out.1.rise (fun d hd => by rw [HD.out] at hd; rw [← Option.some.inj hd]; exact hr)
                have hJ2 : J (pastTo v b (i + 1)) wk := by
                  rw [pastTo_succ]
                  unfold partP
                  rw [HXY.out.1, HXY.out.2, ← List.append_assoc, ← hdone.2]
                  exact hJ
                have HF := Lib.hid (And.intro hdone.1 (And.intro HS.out (And.intro hJ2 hks)))
                clear hdone hJ hJ2 hks hd hr
                go_wp2_with fail
                go_roundw
                case rel =>
                  first
                    | exact ⟨i + 1, j, some ⟨bb, off, none⟩, qc, by rw [HN.out], by go_num, by omega, hj, hjc, Lib.hid HF.out.1, HF.out.2.1, HF.out.2.2.1, HF.out.2.2.2⟩
                    | ((repeat apply Exists.intro); refine ⟨?_, rfl⟩; exact ⟨i + 1, j, some ⟨bb, off, none⟩, qc, by rw [HN.out], by go_num, by omega, hj, hjc, Lib.hid HF.out.1, HF.out.2.1, HF.out.2.2.1, HF.out.2.2.2⟩)
                case measure => simp [intOf]; omega
            · have hje : j = b.l.length := by omega
              have hN : b.l.length - j = 0 := by omega
              have hg3 : decide ((0 : Int) < ((0 : Nat) : Int)) = false := by simp
              have hdone := HC.out.done HB.out.1.rise (fun d hd => by rw [hje, List.getElem?_eq_none (Nat.le_refl _)] at hd; cases hd)
              have hJ2 : J (pastTo v b (i + 1)) wk := by
                rw [pastTo_succ]
                unfold partP
                rw [HXY.out.1, HXY.out.2, ← List.append_assoc, ← hdone.2]
                exact hJ
              have HF := Lib.hid (And.intro hdone.1 (And.intro hs (And.intro hJ2 hks)))
              have HN := Lib.hid hN
              rw [hN]
              clear hdone hJ hJ2 hks hs hje hN
              go_wp2_with fail
              go_roundw
              case rel =>
                first
                  | exact ⟨i + 1, j, q, qc, by rw [HN.out], by go_num, by omega, hj, hjc, Lib.hid HF.out.1, HF.out.2.1, HF.out.2.2.1, HF.out.2.2.2⟩
                  | ((repeat apply Exists.intro); refine ⟨?_, rfl⟩; exact ⟨i + 1, j, q, qc, by rw [HN.out], by go_num, by omega, hj, hjc, Lib.hid HF.out.1, HF.out.2.1, HF.out.2.2.1, HF.out.2.2.2⟩)
              case measure => simp [intOf]; omega
    · obtain rfl : i = 16 := by omega
      have HF := Lib.hid hJ
      clear hs hJ hks
      go_wp2_with fail
      go_end0
      exact ⟨⟨_, rfl⟩, .inl ⟨_, rfl, HF.out⟩⟩
end Go.Proofs.Ytcedliaeipabnaa

namespace Go.Proofs.Ytcedliaeipabnaa

def clm (x : Int) : Int := min (max x 0) 1099511627776
def mixK (v : Vc) (k : Nat) : Vc := (v.map clm).take k ++ List.replicate (16 - k) 0
theorem mixK_len {v : Vc} (hv : v.length = 16) {k : Nat} (hk : k ≤ 16) : (mixK v k).length = 16 := by
  unfold mixK
  rw [List.length_append, List.length_take, List.length_map, List.length_replicate, hv]
  omega
theorem mixK_zero (v : Vc) : mixK v 0 = zV := by
  unfold mixK
  rw [List.take_zero]
  rfl
theorem mixK_all {v : Vc} (hv : v.length = 16) : mixK v 16 = v.map clm := by
  unfold mixK
  rw [List.take_of_length_le (by rw [List.length_map, hv]; exact Nat.le_refl _)]
  simp
theorem mixK_succ {v : Vc} (hv : v.length = 16) {k : Nat} (hk : k < 16) : mixK v (k + 1) = (mixK v k).set k (clm (v.getD k 0)) := by
  unfold mixK
  have hl : ((v.map clm).take k).length = k := by rw [List.length_take, List.length_map, hv]; omega
  have hr : List.replicate (16 - k) (0 : Int) = 0 :: List.replicate (16 - (k + 1)) 0 := by
    rw [show 16 - k = (16 - (k + 1)) + 1 by omega]; rfl
  rw [hr, List.set_append_right _ _ (by rw [hl]; exact Nat.le_refl _), hl, Nat.sub_self, List.set_cons_zero, List.take_succ_eq_append_getElem (by rw [List.length_map, hv]; exact hk), List.append_assoc]
  congr 2
  rw [List.getElem_map, List.getD_eq_getElem?_getD, List.getElem?_eq_getElem (by omega)]
  rfl
theorem clm_at {v : Vc} (hv : v.length = 16) {i : Nat} (hi : i < 16) : (v.map clm).getD i 0 = clm (v.getD i 0) := by
  rw [List.getD_eq_getElem?_getD, List.getD_eq_getElem?_getD, List.getElem?_map, List.getElem?_eq_getElem (by omega)]
  rfl

theorem beyond_no {v : Vc} {d : Dt} (h : beyond v d = false) : chkD d ≠ 0 ∨ d.2 ≤ v.getD d.1.toNat 0 := by
  refine Classical.byContradiction fun hn => ?_
  have : beyond v d = true := beyond_iff.2 ⟨Classical.byContradiction fun h1 => hn (.inl h1), by have : ¬ d.2 ≤ v.getD d.1.toNat 0 := fun h1 => hn (.inr h1); omega⟩
  rw [h] at this
  cases this

structure Cleaning (c : Cx) (s : List Dt) (k : Nat) (v : Vc) (out : List Dt) : Prop where
  len : v.length = 16
  ge : ∀ i, i < 16 → clm (c.v.getD i 0) ≤ v.getD i 0
  top : ∀ i, i < 16 → TopTo c i (v.getD i 0)
  eq : out = (s.take k).filter (beyond v)
  gap : ∀ d ∈ out, v.getD d.1.toNat 0 + 1 < d.2
theorem Cleaning.start {c : Cx} (hv : c.v.length = 16) (s : List Dt) : Cleaning c s 0 (c.v.map clm) [] :=
  ⟨by rw [List.length_map, hv], fun i hi => by rw [clm_at hv hi]; exact Int.le_refl _, fun i hi => by
    rw [clm_at hv hi]
    have h := TopTo.start c hi
    have e : clm (c.v.getD i 0) = max 0 (min (c.v.getD i 0) 1099511627776) := by unfold clm; omega
    rw [e]; exact h, by rw [List.take_zero]; rfl, fun d hd => by simp at hd⟩
theorem Cleaning.skip {c : Cx} {s : List Dt} {k : Nat} {v : Vc} {out : List Dt} (h : Cleaning c s k v out) {d : Dt} (hd : s[k]? = some d) (hb : beyond v d = false) : Cleaning c s (k + 1) v out :=
  ⟨h.len, h.ge, h.top, by rw [filter_take_succ _ hd, hb, h.eq]; simp, h.gap⟩
theorem Cleaning.add {c : Cx} {s : List Dt} {k : Nat} {v : Vc} {out : List Dt} (h : Cleaning c s k v out) {d : Dt} (hd : s[k]? = some d) (hb : beyond v d = true) (hn : d.2 ≠ v.getD d.1.toNat 0 + 1) : Cleaning c s (k + 1) v (out ++ [d]) :=
  ⟨h.len, h.ge, h.top, by rw [filter_take_succ _ hd, hb, h.eq]; simp, fun x hx => by
    rcases List.mem_append.1 hx with hx | hx
    · exact h.gap x hx
    · obtain rfl := List.mem_singleton.1 hx
      have := (beyond_iff.1 hb).2
      omega⟩
theorem Cleaning.bump {c : Cx} {s : List Dt} {k : Nat} {v : Vc} {out : List Dt} (h : Cleaning c s k v out) (hs : Rise s) (hm : ∀ x ∈ s, x ∈ c.l) {d : Dt} (hd : s[k]? = some d) (hb : beyond v d = true) (hn : d.2 = v.getD d.1.toNat 0 + 1) :
    Cleaning c s (k + 1) (v.set d.1.toNat d.2) out := by
  obtain ⟨hck, -⟩ := beyond_iff.1 hb
  obtain ⟨e1, e2, e3, e4⟩ := chkD_ok hck
  obtain ⟨hk, hkd⟩ := List.getElem?_eq_some_iff.1 hd
  have hr : d.1.toNat < 16 := by omega
  have hg : ∀ i, (v.set d.1.toNat d.2).getD i 0 = if i = d.1.toNat then d.2 else v.getD i 0 := fun i => by
    rw [List.getD_eq_getElem?_getD, List.getElem?_set, List.getD_eq_getElem?_getD]
    by_cases e : i = d.1.toNat
    · rw [if_pos e.symm, if_pos e, if_pos (by rw [h.len]; exact hr)]; rfl
    · rw [if_neg (fun x => e x.symm), if_neg e]
  have hno : ∀ x ∈ s.take k, x.1.toNat = d.1.toNat → chkD x = 0 → x.2 < d.2 := fun x hx hxr hxc => by
    obtain ⟨j, hj, hjx⟩ := List.mem_iff_getElem.1 hx
    rw [List.length_take] at hj
    have hlt := List.pairwise_iff_getElem.1 hs j k (by omega) hk (by omega)
    rw [List.getElem_take] at hjx
    rw [hjx, hkd, ltD_iff] at hlt
    have := chkD_ok hxc
    omega
  refine ⟨by rw [List.length_set, h.len], fun i hi => ?_, fun i hi => ?_, ?_, fun x hx => ?_⟩
  · have := h.ge i hi
    rw [hg]
    split
    · rename_i e; subst e; omega
    · exact this
  · rw [hg]
    split
    · rename_i e; subst e
      rw [hn]
      refine (h.top _ hr).more ?_
      have e5 : ((d.1.toNat : Int), v.getD d.1.toNat 0 + 1) = d := Prod.ext (by show (d.1.toNat : Int) = d.1; omega) hn.symm
      rw [e5]
      exact hasC_iff.2 ⟨hck, .inr (hm d (List.mem_of_getElem? hd))⟩
    · exact h.top i hi
  · rw [filter_take_succ _ hd, if_neg (by rw [beyond_iff, hg, if_pos rfl]; simp), List.append_nil, h.eq]
    apply List.filter_congr
    intro x hx
    by_cases e : x.1.toNat = d.1.toNat
    · by_cases hxc : chkD x = 0
      · have h1 := hno x hx e hxc
        have e6 : beyond v x = false := Bool.eq_false_iff.2 fun hh => by have := (beyond_iff.1 hh).2; rw [e] at this; omega
        have e7 : beyond (v.set d.1.toNat d.2) x = false := Bool.eq_false_iff.2 fun hh => by have := (beyond_iff.1 hh).2; rw [hg, if_pos e] at this; omega
        rw [e6, e7]
      · have e6 : beyond v x = false := Bool.eq_false_iff.2 fun hh => hxc (beyond_iff.1 hh).1
        have e7 : beyond (v.set d.1.toNat d.2) x = false := Bool.eq_false_iff.2 fun hh => hxc (beyond_iff.1 hh).1
        rw [e6, e7]
    · rw [Bool.eq_iff_iff, beyond_iff, beyond_iff, hg, if_neg e]
  · have h1 := h.gap x hx
    rw [hg]
    split
    · rename_i e
      exfalso
      rw [h.eq, List.mem_filter] at hx
      have h2 := hno x hx.1 e (beyond_iff.1 hx.2).1
      rw [e] at h1
      omega
    · exact h1
theorem Cleaning.done {c : Cx} {v : Vc} {out : List Dt} {k : Nat} (h : Cleaning c (sortD c.l) k v out) (hk : (sortD c.l).length ≤ k) : CleanOf c ⟨v, out⟩ := by
  have he := h.eq
  rw [List.take_of_length_le hk] at he
  rw [he]
  refine cleanOf_filter h.len fun i hi => (h.top i hi).done (Bool.eq_false_iff.2 fun hh => ?_)
  obtain ⟨h1, h2⟩ := hasC_iff.1 hh
  have h3 := chkD_ok h1
  have h4 := h.ge i hi
  simp only [Int.toNat_natCast] at h2 h3
  rcases h2 with h2 | h2
  · unfold clm at h4
    omega
  · have hm : ((i : Int), v.getD i 0 + 1) ∈ out := by
      rw [he, List.mem_filter, mem_sortD]
      exact ⟨h2, beyond_iff.2 ⟨h1, by simp only [Int.toNat_natCast]; omega⟩⟩
    have h5 := h.gap _ hm
    simp only [Int.toNat_natCast] at h5
    omega
theorem Cleaning.le {c : Cx} {s : List Dt} {k : Nat} {v : Vc} {out : List Dt} (h : Cleaning c s k v out) : out.length ≤ s.length := by
  rw [h.eq]
  refine Nat.le_trans (List.length_filter_le _ _) ?_
  rw [List.length_take]
  exact Nat.min_le_right _ _
theorem beyond_parts (v : Vc) (d : Dt) : beyond v d = (decide (chkD d = 0) && !hasV v d) := rfl
end Go.Proofs.Ytcedliaeipabnaa

namespace Go.Proofs.Ytcedliaeipabnaa
set_option maxRecDepth 100000
open Go.RowKit Go.Sort

/-- names in a block from lo on -/
def DFrom (w : World) (lo : Nat) (a : Option Addr) (l : List Dt) : Prop :=
  l = [] ∨ ∃ b off, a = some ⟨b, off, none⟩ ∧ lo ≤ b ∧ b < w.heap.size ∧ ∀ j d, l[j]? = some d → w.cell? ⟨b, off + j * 2, none⟩ = some (.int .i64 d.1) ∧ w.cell? ⟨b, off + j * 2 + 1, none⟩ = some (.int .i64 d.2)
theorem DFrom.din {w : World} {lo : Nat} {a : Option Addr} {l : List Dt} (h : DFrom w lo a l) : DIn w a l := by
  rcases h with h | ⟨b, off, h1, h2, h3, h4⟩
  · exact .inl h
  · exact .inr ⟨b, off, h1, h3, h4⟩
/-- from lo to hi all is as it was -/
structure Mid (lo hi : Nat) (w w' : World) : Prop where
  size : w.heap.size ≤ w'.heap.size
  block : ∀ b, lo ≤ b → b < hi → w'.heap[b]? = w.heap[b]?
theorem Mid.refl (lo hi : Nat) (w : World) : Mid lo hi w w := ⟨Nat.le_refl _, fun _ _ _ => rfl⟩
theorem Mid.below {lo hi B : Nat} {w w1 w2 : World} (h : Mid lo hi w w1) (hb : Go.RowKit.Below B w1 w2) (hB : hi ≤ B) : Mid lo hi w w2 :=
  ⟨Nat.le_trans h.size hb.size, fun b h1 h2 => (hb.block b (by omega)).trans (h.block b h1 h2)⟩
theorem Mid.set {lo hi : Nat} {w w1 : World} (h : Mid lo hi w w1) {g : Nat} (hg : g < lo ∨ hi ≤ g) (j : Nat) (v : Value) : Mid lo hi w (w1.setCell ⟨g, j, none⟩ v) :=
  ⟨by simpa using h.size, fun b h1 h2 => by rw [Below.heap_setCell _ _ _ _ (show b ≠ g by omega)]; exact h.block b h1 h2⟩
theorem Mid.setRow {lo hi : Nat} {w w1 : World} (h : Mid lo hi w w1) {g : Nat} (hg : g < lo ∨ hi ≤ g) (C : Array Value) : Mid lo hi w (w1.setRow g C) :=
  ⟨by simpa using h.size, fun b h1 h2 => by rw [setRow_other _ _ _ _ (show b ≠ g by omega)]; exact h.block b h1 h2⟩
theorem DFrom.mid {w w' : World} {lo hi : Nat} {a : Option Addr} {l : List Dt} (h : DFrom w lo a l) (hm : Mid lo hi w w') (hh : w.heap.size ≤ hi) : DFrom w' lo a l := by
  rcases h with h | ⟨b, off, h1, h2, h3, h4⟩
  · exact .inl h
  · have hb := hm.block b h2 (by omega)
    refine .inr ⟨b, off, h1, h2, Nat.lt_of_lt_of_le h3 hm.size, fun j d hj => ?_⟩
    obtain ⟨c0, c1⟩ := h4 j d hj
    exact ⟨(World.cell?_of_block (a := ⟨b, off + j * 2, none⟩) hb).trans c0, (World.cell?_of_block (a := ⟨b, off + j * 2 + 1, none⟩) hb).trans c1⟩
theorem DFrom.below {w w' : World} {lo : Nat} {a : Option Addr} {l : List Dt} (h : DFrom w lo a l) (hb : Go.RowKit.Below w.heap.size w w') : DFrom w' lo a l :=
  h.mid (hi := w.heap.size) ⟨hb.size, fun b _ h2 => hb.block b h2⟩ (Nat.le_refl _)
theorem DFrom.mono {w : World} {lo lo' : Nat} {a : Option Addr} {l : List Dt} (h : DFrom w lo a l) (hl : lo' ≤ lo) : DFrom w lo' a l := by
  rcases h with h | ⟨b, off, h1, h2, h3, h4⟩
  · exact .inl h
  · exact .inr ⟨b, off, h1, by omega, h3, h4⟩
theorem DFrom.set {w : World} {lo : Nat} {a : Option Addr} {l : List Dt} (h : DFrom w lo a l) {g : Nat} (hg : g < lo) (j : Nat) (v : Value) : DFrom (w.setCell ⟨g, j, none⟩ v) lo a l :=
  h.mid (hi := w.heap.size) ((Mid.refl _ _ _).set (.inl hg) j v) (Nat.le_refl _)
theorem DFrom.setRow {w : World} {lo : Nat} {a : Option Addr} {l : List Dt} (h : DFrom w lo a l) {g : Nat} (hg : g < lo) (C : Array Value) : DFrom (w.setRow g C) lo a l :=
  h.mid (hi := w.heap.size) ((Mid.refl _ _ _).setRow (.inl hg) C) (Nat.le_refl _)
/-- a context whose cloud is new -/
structure Made (B : Nat) (w : World) (c : Cx) (p : Option Addr) : Prop where
  v16 : c.v.length = 16
  new : DFrom w B p c.l
  len : c.l.length ≤ 32768
theorem Made.cin {B : Nat} {w : World} {c : Cx} {p : Option Addr} (h : Made B w c p) : CIn w c p := ⟨h.v16, h.new.din, h.len⟩
theorem Made.below {B : Nat} {w w' : World} {c : Cx} {p : Option Addr} (h : Made B w c p) (hb : Go.RowKit.Below w.heap.size w w') : Made B w' c p := ⟨h.v16, h.new.below hb, h.len⟩
theorem Made.setRow {B : Nat} {w : World} {c : Cx} {p : Option Addr} (h : Made B w c p) {g : Nat} (hg : g < B) (C : Array Value) : Made B (w.setRow g C) c p := ⟨h.v16, h.new.setRow hg C, h.len⟩
theorem Made.mono {B B' : Nat} {w : World} {c : Cx} {p : Option Addr} (h : Made B w c p) (hB : B' ≤ B) : Made B' w c p := ⟨h.v16, h.new.mono hB, h.len⟩
theorem OwnD.from {B : Nat} {v : Value} {l : List Dt} {w : World} (h : OwnD B v l w) : ∃ a cap, v = .slice a l.length cap ∧ DFrom w B a l ∧ l.length ≤ cap ∧ cap ≤ maxLen := by
  obtain ⟨a, cap, hv, hd, hc, hm⟩ := h.din2
  refine ⟨a, cap, hv, ?_, hc, hm⟩
  rcases h.2 with ⟨he, h0⟩ | ⟨g, cap', cur, he, hB, hg, -⟩
  · exact .inl (List.length_eq_zero_iff.1 h0)
  · rcases hd with h | ⟨b, off, ha, hlt, hcc⟩
    · exact .inl h
    · rw [hv, ha] at he
      injection he with h1 h2 h3
      injection h1 with h1
      injection h1 with h4 h5
      exact .inr ⟨b, off, ha, by omega, hlt, hcc⟩
theorem OwnD.setc {B : Nat} {v : Value} {l : List Dt} {w : World} (h : OwnD B v l w) {g : Nat} (hg : g < B) (j : Nat) (x : Value) : OwnD B v l (w.setCell ⟨g, j, none⟩ x) := by
  unfold OwnD at *
  refine ⟨h.1, ?_⟩
  rcases h.2 with hn | ⟨g', cap, cur, hv, hB, hgg, rest⟩
  · exact .inl hn
  · exact .inr ⟨g', cap, cur, hv, hB, by rw [Below.heap_setCell _ _ _ _ (show g' ≠ g by omega)]; exact hgg, rest⟩

set_option maxHeartbeats 4000000 in
theorem equalD (x y : List Dt) (a b : Option Addr) (ca cb : Nat) (w : World) (hx : DIn w a x) (hy : DIn w b y) (hlx : x.length ≤ maxLen) (_hly : y.length ≤ maxLen) :
    Calls Try.prog 38 #[.slice a x.length ca, .slice b y.length cb] w fun e w' => e = .returned (.bool (decide (x = y))) ∧ Go.RowKit.Below w.heap.size w w' := by
  unfold maxLen at hlx
  by_cases hl : x.length = y.length
  · have hn : ((x.length : Int) != (y.length : Int)) = false := by simp [hl]
    have HX := Lib.hid hx
    have HY := Lib.hid hy
    have HL := Lib.hid hl
    clear hx hy hl
    go_enter Try.func38, Try.ntmps38
    go_wp2_with fail
    go_loopw [13] (fun i wr => ∃ k n : Nat, k ≤ x.length ∧ i = .int .i64 k ∧ Hid (∀ j, j < k → x[j]? = y[j]?) ∧ wr = w.drewN n) (fun i _ => x.length - (intOf i).toNat)
    case atStart => exact ⟨0, 0, Nat.zero_le _, rfl, Lib.hid (fun j hj => by omega), rfl⟩
    case round =>
      obtain ⟨k, n, hk, rfl, HK, rfl⟩ := hrel
      by_cases hlt : k < x.length
      · obtain ⟨d, hd⟩ : ∃ d, x[k]? = some d := ⟨_, List.getElem?_eq_getElem hlt⟩
        obtain ⟨f, hf⟩ : ∃ d, y[k]? = some d := ⟨_, List.getElem?_eq_getElem (by have := HL.out; omega)⟩
        obtain ⟨b1, o1, rfl, hb1, c0, c1⟩ := HX.out.at hd
        obtain ⟨b2, o2, rfl, hb2, p0, p1⟩ := HY.out.at hf
        have hi1 : (k : Int) < (x.length : Int) := by omega
        have hi2 : (k : Int) < (y.length : Int) := by have := HL.out; omega
        have HD := Lib.hid (And.intro hd hf)
        obtain ⟨r, q⟩ := d
        obtain ⟨r', q'⟩ := f
        simp only at c0 c1 p0 p1
        clear hd hf
        by_cases he : (r, q) = (r', q')
        · have hnq := fun W => neqD (r, q) (r', q') W
          rw [decide_eq_true he] at hnq
          have HK2 := Lib.hid (show ∀ j, j < k + 1 → x[j]? = y[j]? from fun j hj => by
            rcases Nat.lt_or_ge j k with h1 | h1
            · exact HK.out j h1
            · obtain rfl : j = k := by omega
              rw [HD.out.1, HD.out.2, he])
          clear he
          go_upto_region 6 with fail
          go_quiet (fail)
          go_wp2_with fail
          go_roundw
          case rel => exact ⟨k + 1, _, by omega, by go_num, HK2, rfl⟩
          case measure => simp [intOf]; omega
        · have hnq := fun W => neqD (r, q) (r', q') W
          rw [decide_eq_false he] at hnq
          have hfin : decide (x = y) = false := by
            refine decide_eq_false fun hxy => he ?_
            have h := HD.out.1
            rw [hxy, HD.out.2] at h
            exact (Option.some.inj h).symm
          have HF := Lib.hid hfin
          clear he hfin
          go_upto_region 6 with fail
          go_quiet (fail)
          go_wp2_with fail
          go_ret
          exact ⟨by rw [HF.out]; rfl, belowN (Below.refl _ _) _⟩
      · have hfin : decide (x = y) = true := by
          refine decide_eq_true (List.ext_getElem? fun j => ?_)
          rcases Nat.lt_or_ge j k with h1 | h1
          · exact HK.out j h1
          · rw [List.getElem?_eq_none (by omega), List.getElem?_eq_none (by have := HL.out; omega)]
        have HF := Lib.hid hfin
        have hi1 : ¬ (k : Int) < (x.length : Int) := by omega
        clear hfin
        go_wp2_with fail
        go_ret
        exact ⟨by rw [HF.out]; rfl, belowN (Below.refl _ _) _⟩
  · have hn : ((x.length : Int) != (y.length : Int)) = true := by simp; omega
    have hfin : decide (x = y) = false := decide_eq_false fun h => hl (by rw [h])
    rw [hfin]
    clear hfin hl
    go_enter Try.func38, Try.ntmps38
    go_wp2_with fail
    go_ret
    exact ⟨rfl, Below.refl _ _⟩
end Go.Proofs.Ytcedliaeipabnaa

namespace Go.Proofs.Ytcedliaeipabnaa
set_option maxRecDepth 100000
open Go.RowKit Go.Sort

theorem dotBox (w : World) (v : Vc) (d : Dt) : VRow (boxD (w.alloc (.cells (ics v) 23)) d) w.heap.size v ∧
    (boxD (w.alloc (.cells (ics v) 23)) d).cell? ⟨w.heap.size + 1, 0, none⟩ = some (.int .i64 d.1) ∧
    (boxD (w.alloc (.cells (ics v) 23)) d).cell? ⟨w.heap.size + 1, 1, none⟩ = some (.int .i64 d.2) ∧
    Below w.heap.size w (boxD (w.alloc (.cells (ics v) 23)) d) ∧ w.heap.size + 1 < (boxD (w.alloc (.cells (ics v) 23)) d).heap.size := by
  have e1 : (w.alloc (.cells (ics v) 23)).heap.size = w.heap.size + 1 := by simp
  have h0 := VRow.new w v
  have hn : (boxD (w.alloc (.cells (ics v) 23)) d).heap[(w.alloc (.cells (ics v) 23)).heap.size]? = some (.cells #[.int .i64 d.1, .int .i64 d.2] 31) := heap_alloc_new _ _
  rw [e1] at hn
  refine ⟨h0.alloc _, ?_, ?_, ((Below.refl _ _).alloc (Nat.le_refl _) _).alloc (by simp) _, by simp [boxD]⟩
  · rw [Joins.cell_of_block hn]; rfl
  · rw [Joins.cell_of_block hn]; rfl
theorem chkD_boxed {f : FuncId} {d : Dt} (h : ∀ w, Calls Try.prog f #[.agg #[.int .i64 d.1, .int .i64 d.2]] w fun e w' => e = .returned (.int .i64 (chkD d)) ∧ boxD w d = w') (w : World) :
    Calls Try.prog f #[.agg #[.int .i64 d.1, .int .i64 d.2]] w fun e w' => e = .returned (.int .i64 (chkD d)) ∧ Below w.heap.size w w' :=
  (h w).mono fun e w' ⟨h1, h2⟩ => ⟨h1, by rw [← h2]; exact boxD_below w d⟩

set_option maxHeartbeats 4000000 in
set_option maxRecDepth 100000 in
theorem vhasC (v : Vc) (d : Dt) (hv : v.length = 16) (w : World) : Calls Try.prog 34 #[.agg (ics v), .agg #[.int .i64 d.1, .int .i64 d.2]] w fun e w' => e = .returned (.bool (hasV v d)) ∧ Below w.heap.size w w' := by
  have hh : hasV v d = (decide (chkD d = 0) && decide (d.2 ≤ v.getD d.1.toNat 0)) := rfl
  have hW := dotBox w v d
  have HCK := Lib.hid (fun W => chkD_boxed (fun W => checkC d W) W)
  have hok : chkD d = 0 → 0 ≤ d.1 ∧ d.1 ≤ 15 := fun h => by have := chkD_ok h; omega
  obtain ⟨r, n⟩ := d
  unfold boxD at hW
  simp only at hh hW HCK hok ⊢
  go_enter Try.func34, Try.ntmps34
  go_upto_region 1 with fail
  generalize (w.alloc (.cells (ics v) 23)).alloc (.cells #[.int .i64 r, .int .i64 n] 31) = w2 at *
  obtain ⟨r0, c0, c1, rB, hs⟩ := hW
  have RB := Lib.hid rB
  have d0 := fun q os => cell_regrown c0 q os
  have d1 := fun q os => cell_regrown c1 q os
  have HC2 := Lib.hid (fun q os => Calls.regrown_of (HCK.out (grow (redrawn w2 q) os)))
  clear rB HCK c0 c1
  by_cases h : chkD (r, n) = 0
  · obtain ⟨h0, h15⟩ := hok h
    obtain ⟨k, rfl⟩ := Int.eq_ofNat_of_zero_le h0
    have hk : k < 16 := by omega
    rw [h] at hh HC2
    have hcell := r0.cell k (by rw [hv]; exact hk)
    have e0 := fun q os => cell_regrown hcell q os
    have hh2 : hasV v ((k : Int), n) = decide (n ≤ v.getD k 0) := by rw [hh]; simp
    have hb : ((0 : Int) == 0) = true := rfl
    have HH := Lib.hid hh2
    clear hh hh2 hok h hcell r0 hv h0 h15
    generalize v.getD k 0 = x at *
    refine wp_region_quiet_below (by kernel_rfl) (by kernel_rfl) ?_
    repeat (first | go_big_quiet_step ((go_at_call 33; with_reducible exact HC2.out _ _)) | quiet_step ((go_at_call 33; with_reducible exact HC2.out _ _)))
    refine wpQuiet_nil ?_
    intro _ hw'
    obtain ⟨⟨dq, osq⟩, hw''⟩ := hw'
    subst hw''
    have HB9 := Lib.hid (RB.out.trans ((below_regrown w2 dq osq).mono (by omega)))
    clear d0 d1 e0 HC2
    generalize grow (redrawn w2 dq) osq = W at *
    go_wp2_with fail
    go_ret
    exact ⟨by rw [HH.out]; rfl, HB9.out⟩
  · have h2 : chkD (r, n) = 2 := (chkD_cases _).resolve_left h
    rw [h2] at hh HC2
    have hh2 : hasV v (r, n) = false := by rw [hh]; rfl
    have hb : ((2 : Int) == 0) = false := rfl
    have HH := Lib.hid hh2
    clear hh hh2 hok h h2 r0 hv
    refine wp_region_quiet_below (by kernel_rfl) (by kernel_rfl) ?_
    repeat (first | go_big_quiet_step ((go_at_call 33; with_reducible exact HC2.out _ _)) | quiet_step ((go_at_call 33; with_reducible exact HC2.out _ _)))
    refine wpQuiet_nil ?_
    intro _ hw'
    obtain ⟨⟨dq, osq⟩, hw''⟩ := hw'
    subst hw''
    have HB9 := Lib.hid (RB.out.trans ((below_regrown w2 dq osq).mono (by omega)))
    clear d0 d1 HC2
    generalize grow (redrawn w2 dq) osq = W at *
    go_wp2_with fail
    go_ret
    exact ⟨by rw [HH.out]; rfl, HB9.out⟩

set_option maxHeartbeats 4000000 in
set_option maxRecDepth 100000 in
theorem vhasR (v : Vc) (d : Dt) (hv : v.length = 16) (w : World) : Calls Try.prog 36 #[.agg (ics v), .agg #[.int .i64 d.1, .int .i64 d.2]] w fun e w' => e = .returned (.bool (hasV v d)) ∧ Below w.heap.size w w' := by
  have hh : hasV v d = (decide (chkD d = 0) && decide (d.2 ≤ v.getD d.1.toNat 0)) := rfl
  have hW := dotBox w v d
  have HCK := Lib.hid (fun W => chkD_boxed (fun W => checkR d W) W)
  have hok : chkD d = 0 → 0 ≤ d.1 ∧ d.1 ≤ 15 := fun h => by have := chkD_ok h; omega
  obtain ⟨r, n⟩ := d
  unfold boxD at hW
  simp only at hh hW HCK hok ⊢
  go_enter Try.func36, Try.ntmps36
  go_upto_region 1 with fail
  generalize (w.alloc (.cells (ics v) 23)).alloc (.cells #[.int .i64 r, .int .i64 n] 31) = w2 at *
  obtain ⟨r0, c0, c1, rB, hs⟩ := hW
  have RB := Lib.hid rB
  have d0 := fun q os => cell_regrown c0 q os
  have d1 := fun q os => cell_regrown c1 q os
  have HC2 := Lib.hid (fun q os => Calls.regrown_of (HCK.out (grow (redrawn w2 q) os)))
  clear rB HCK c0 c1
  by_cases h : chkD (r, n) = 0
  · obtain ⟨h0, h15⟩ := hok h
    obtain ⟨k, rfl⟩ := Int.eq_ofNat_of_zero_le h0
    have hk : k < 16 := by omega
    rw [h] at hh HC2
    have hcell := r0.cell k (by rw [hv]; exact hk)
    have e0 := fun q os => cell_regrown hcell q os
    have hh2 : hasV v ((k : Int), n) = decide (n ≤ v.getD k 0) := by rw [hh]; simp
    have hb : ((0 : Int) == 0) = true := rfl
    have HH := Lib.hid hh2
    clear hh hh2 hok h hcell r0 hv h0 h15
    generalize v.getD k 0 = x at *
    refine wp_region_quiet_below (by kernel_rfl) (by kernel_rfl) ?_
    repeat (first | go_big_quiet_step ((go_at_call 30; with_reducible exact HC2.out _ _)) | quiet_step ((go_at_call 30; with_reducible exact HC2.out _ _)))
    refine wpQuiet_nil ?_
    intro _ hw'
    obtain ⟨⟨dq, osq⟩, hw''⟩ := hw'
    subst hw''
    have HB9 := Lib.hid (RB.out.trans ((below_regrown w2 dq osq).mono (by omega)))
    clear d0 d1 e0 HC2
    generalize grow (redrawn w2 dq) osq = W at *
    go_wp2_with fail
    go_ret
    exact ⟨by rw [HH.out]; rfl, HB9.out⟩
  · have h2 : chkD (r, n) = 2 := (chkD_cases _).resolve_left h
    rw [h2] at hh HC2
    have hh2 : hasV v (r, n) = false := by rw [hh]; rfl
    have hb : ((2 : Int) == 0) = false := rfl
    have HH := Lib.hid hh2
    clear hh hh2 hok h h2 r0 hv
    refine wp_region_quiet_below (by kernel_rfl) (by kernel_rfl) ?_
    repeat (first | go_big_quiet_step ((go_at_call 30; with_reducible exact HC2.out _ _)) | quiet_step ((go_at_call 30; with_reducible exact HC2.out _ _)))
    refine wpQuiet_nil ?_
    intro _ hw'
    obtain ⟨⟨dq, osq⟩, hw''⟩ := hw'
    subst hw''
    have HB9 := Lib.hid (RB.out.trans ((below_regrown w2 dq osq).mono (by omega)))
    clear d0 d1 HC2
    generalize grow (redrawn w2 dq) osq = W at *
    go_wp2_with fail
    go_ret
    exact ⟨by rw [HH.out]; rfl, HB9.out⟩
end Go.Proofs.Ytcedliaeipabnaa
