/-
  slices.Sort and slices.Compact of texts: their bodies are those that the library's contracts were proved of; what they leave of a block of texts.
-/
import Derived.Test.YtpcelgmcbfjmbaaRegVal
import Derived.Shelf.SortM.Plain
import Derived.Shelf.SortM.SortNone
import Derived.Shelf.SlicesG.CompactS
import Derived.Sort.KeysCollected
namespace Go.Proofs.Ytpcelgmcbfjmbaa
set_option linter.unusedSimpArgs false
set_option linter.unusedVariables false
set_option maxRecDepth 100000
open Go.Shelf Go.RowKit Go.Sort

def sortL_ren : Go.Shelf.Ren := ⟨fun | 6 => 27 | 8 => 38 | 9 => 40 | 19 => 56 | 20 => 57 | 21 => 58 | 22 => 59 | 23 => 60 | 24 => 61 | 25 => 62 | 26 => 63 | 27 => 64 | 28 => 65 | 29 => 66 | 36 => 76 | 31 => 72 | 32 => 73 | 37 => 77 | 38 => 78 | 39 => 79 | 41 => 82 | n => n, fun | 27 => 30 | 29 => 9 | 3 => 3 | 32 => 56 | 26 => 30 | 0 => 0 | 44 => 73 | 46 => 75 | 4 => 4 | 36 => 66 | 35 => 65 | 41 => 70 | 5 => 5 | 9 => 9 | 53 => 86 | 57 => 90 | 63 => 96 | 64 => 97 | n => n, fun | n => n⟩
theorem sortL : SlLaysM.n6 Try.prog sortL_ren := {
  mixed := by kernel_rfl
  f6 := ⟨Try.f27.name, by decide, Try.func27.trans (congrArg some (by kernel_rfl))⟩
  f8 := Try.func38.trans (congrArg some (by kernel_rfl))
  f9 := ⟨Try.f40.name, by decide, Try.func40.trans (congrArg some (by kernel_rfl))⟩
  f19 := Try.func56.trans (congrArg some (by kernel_rfl))
  f20 := Try.func57.trans (congrArg some (by kernel_rfl))
  f21 := ⟨Try.f58.name, by decide, Try.func58.trans (congrArg some (by kernel_rfl))⟩
  f22 := ⟨Try.f59.name, by decide, Try.func59.trans (congrArg some (by kernel_rfl))⟩
  f23 := ⟨Try.f60.name, by decide, Try.func60.trans (congrArg some (by kernel_rfl))⟩
  f24 := ⟨Try.f61.name, by decide, Try.func61.trans (congrArg some (by kernel_rfl))⟩
  f25 := ⟨Try.f62.name, by decide, Try.func62.trans (congrArg some (by kernel_rfl))⟩
  f26 := ⟨Try.f63.name, by decide, Try.func63.trans (congrArg some (by kernel_rfl))⟩
  f27 := ⟨Try.f64.name, by decide, Try.func64.trans (congrArg some (by kernel_rfl))⟩
  f28 := ⟨Try.f65.name, by decide, Try.func65.trans (congrArg some (by kernel_rfl))⟩
  f29 := ⟨Try.f66.name, by decide, Try.func66.trans (congrArg some (by kernel_rfl))⟩
  f31 := Try.func72.trans (congrArg some (by kernel_rfl))
  f32 := Try.func73.trans (congrArg some (by kernel_rfl))
  f36 := ⟨Try.f76.name, by decide, Try.func76.trans (congrArg some (by kernel_rfl))⟩
  f37 := ⟨Try.f77.name, by decide, Try.func77.trans (congrArg some (by kernel_rfl))⟩
  f38 := ⟨Try.f78.name, by decide, Try.func78.trans (congrArg some (by kernel_rfl))⟩
  f39 := ⟨Try.f79.name, by decide, Try.func79.trans (congrArg some (by kernel_rfl))⟩
  f41 := ⟨Try.f82.name, by decide, Try.func82.trans (congrArg some (by kernel_rfl))⟩
  t0 := Try.underlying0
  a0 := Try.isAgg0
  z0 := Try.sizeOf0
  v0 := Try.zeroValue0
  t3 := Try.underlying3
  a3 := Try.isAgg3
  z3 := Try.sizeOf3
  v3 := Try.zeroValue3
  t4 := Try.underlying4
  a4 := Try.isAgg4
  z4 := Try.sizeOf4
  v4 := Try.zeroValue4
  t5 := Try.underlying5
  a5 := Try.isAgg5
  z5 := Try.sizeOf5
  v5 := Try.zeroValue5
  t9 := Try.underlying9
  a9 := Try.isAgg9
  z9 := Try.sizeOf9
  v9 := Try.zeroValue9
  t26 := Try.underlying30
  a26 := Try.isAgg30
  z26 := Try.sizeOf30
  v26 := Try.zeroValue30
  t27 := Try.underlying30
  a27 := Try.isAgg30
  z27 := Try.sizeOf30
  v27 := Try.zeroValue30
  t29 := Try.underlying9
  a29 := Try.isAgg9
  z29 := Try.sizeOf9
  v29 := Try.zeroValue9
  t32 := Try.underlying56
  a32 := Try.isAgg56
  z32 := Try.sizeOf56
  v32 := Try.zeroValue56
  t35 := Try.underlying65
  a35 := Try.isAgg65
  z35 := Try.sizeOf65
  v35 := Try.zeroValue65
  t36 := Try.underlying66
  a36 := Try.isAgg66
  z36 := Try.sizeOf66
  v36 := Try.zeroValue66
  t41 := Try.underlying70
  a41 := Try.isAgg70
  z41 := Try.sizeOf70
  v41 := Try.zeroValue70
  t44 := Try.underlying73
  a44 := Try.isAgg73
  z44 := Try.sizeOf73
  v44 := Try.zeroValue73
  t46 := Try.underlying75
  a46 := Try.isAgg75
  z46 := Try.sizeOf75
  v46 := Try.zeroValue75
  t53 := Try.underlying86
  a53 := Try.isAgg86
  z53 := Try.sizeOf86
  v53 := Try.zeroValue86
  t57 := Try.underlying90
  a57 := Try.isAgg90
  z57 := Try.sizeOf90
  v57 := Try.zeroValue90
  t63 := Try.underlying96
  a63 := Try.isAgg96
  z63 := Try.sizeOf96
  v63 := Try.zeroValue96
  t64 := Try.underlying97
  a64 := Try.isAgg97
  z64 := Try.sizeOf97
  v64 := Try.zeroValue97 }

def compL_ren : Go.Shelf.Ren := ⟨fun | 44 => 28 | n => n, fun | 25 => 30 | 26 => 9 | 3 => 3 | 4 => 4 | 0 => 0 | n => n, fun | n => n⟩
theorem compL : SlLaysN.n44 Try.prog compL_ren := {
  mixed := by kernel_rfl
  f44 := ⟨Try.f28.name, by decide, Try.func28.trans (congrArg some (by kernel_rfl))⟩
  t0 := Try.underlying0
  a0 := Try.isAgg0
  z0 := Try.sizeOf0
  v0 := Try.zeroValue0
  t3 := Try.underlying3
  a3 := Try.isAgg3
  z3 := Try.sizeOf3
  v3 := Try.zeroValue3
  t4 := Try.underlying4
  a4 := Try.isAgg4
  z4 := Try.sizeOf4
  v4 := Try.zeroValue4
  t25 := Try.underlying30
  a25 := Try.isAgg30
  z25 := Try.sizeOf30
  v25 := Try.zeroValue30
  t26 := Try.underlying9
  a26 := Try.isAgg9
  z26 := Try.sizeOf9
  v26 := Try.zeroValue9
  i26 := by kernel_rfl }

/-! texts as lists of bytes -/
def lB (x : ByteArray) : List UInt8 := x.data.toList
def bL (l : List UInt8) : ByteArray := ⟨l.toArray⟩
theorem bL_lB (x : ByteArray) : bL (lB x) = x := by obtain ⟨⟨l⟩⟩ := x; rfl
theorem lB_bL (l : List UInt8) : lB (bL l) = l := rfl
theorem ltX_bL (a b : List UInt8) : ltX (bL a) (bL b) = Op.bytesLess a b := by
  unfold ltX bL
  rw [ByteArray.toList_eq, ByteArray.toList_eq]
theorem totL : TotO (fun a b : List UInt8 => Op.bytesLess a b) := ⟨less_irr, fun h k => less_trans _ _ _ h k, less_tri⟩
theorem bL_inj {a b : List UInt8} (h : bL a = bL b) : a = b := by rw [← lB_bL a, ← lB_bL b, h]
theorem map_bL (ss : List ByteArray) : (ss.map lB).map bL = ss := by
  rw [List.map_map]
  conv => rhs; rw [← List.map_id ss]
  exact List.map_congr_left fun x _ => bL_lB x

theorem TBlk.of {w : World} {g : Nat} {c : Array Value} {ts : List ByteArray} (hg : w.heap[g]? = some (.cells c 9 (0, 0))) (hs : c.size = ts.length) (hc : ∀ (j : Nat) (x : ByteArray), ts[j]? = some x → c[j]? = some (Value.string x)) : TBlk w g ts := by
  unfold TBlk
  rw [hg]
  have e : c = (ts.map Value.string).toArray := by
    apply Array.ext_getElem?
    intro j
    rcases Nat.lt_or_ge j ts.length with h | h
    · rw [hc j _ (List.getElem?_eq_getElem h)]; simp [h]
    · rw [Array.getElem?_eq_none (by omega)]; simp [h]
  rw [e]
theorem TBlk.holds {w : World} {g : Nat} {ss : List ByteArray} (h : TBlk w g ss) : Holds encStr w g 0 (ss.map lB).toArray := by
  intro j hj
  have hl : j < ss.length := by simpa using hj
  refine ⟨?_, by rw [Nat.zero_add]; exact h.free j⟩
  rw [Nat.zero_add, h.cell (List.getElem?_eq_getElem hl), getElem!_pos _ j hj]
  simp only [List.getElem_toArray, List.getElem_map]
  show some (Value.string ss[j]) = some (Value.string (bL (lB ss[j])))
  rw [bL_lB]
theorem putRow_blk {w : World} {g : Nat} {ss : List ByteArray} (h : TBlk w g ss) (d : List (List UInt8)) (hd : d.length = ss.length) : TBlk (putRow encStr w g 0 d.toArray) g (d.map bL) := by
  have hg : (putRow encStr w g 0 d.toArray).heap[g]? = some (.cells (putCells encStr 0 d.toArray (ss.map Value.string).toArray) 9 (0, 0)) := by
    show (w.heap.modify g _)[g]? = _
    rw [Array.getElem?_modify, if_pos rfl, h]
    rfl
  refine TBlk.of hg (by simp [putCells, hd]) fun j x hj => ?_
  rw [List.getElem?_map] at hj
  obtain ⟨l, hl, rfl⟩ := Option.map_eq_some_iff.1 hj
  obtain ⟨hj2, rfl⟩ := List.getElem?_eq_some_iff.1 hl
  have hj3 : j < ss.length := by omega
  simp only [putCells, Array.getElem?_mapIdx]
  simp [hj2, hj3]
  rfl
theorem putRow_below {B g : Nat} (w : World) (n : Nat) (d : Array (List UInt8)) (hB : B ≤ g) : Go.RowKit.Below B w (putRow encStr (Go.Sort.ahead w n) g 0 d) := by
  refine ⟨rfl, rfl, rfl, by rw [size_putRow]; exact Nat.le_refl _, fun k hk => ?_⟩
  show (w.heap.modify g _)[k]? = _
  rw [Array.getElem?_modify, if_neg (by omega)]

theorem sortX (ss : List ByteArray) (g B : Nat) (w : World) (h : TBlk w g ss) (hl : ss.length ≤ 65536) (hB : B ≤ g) :
    Calls Try.prog 27 #[.slice (some ⟨g, 0, none⟩) ss.length ss.length] w fun e w' => e = .returned (.tuple #[]) ∧ ∃ ts : List ByteArray, ts.Perm ss ∧ ts.Pairwise (fun a b => ltX b a = false) ∧ TBlk w' g ts ∧ Go.RowKit.Below B w w' := by
  have hc := AnyM.slices_Sort_string (P := Try.prog) sortL g 0 ss.length (ss.map lB) w h.holds h.lt (by simp; omega)
  rw [List.length_map] at hc
  refine Calls.mono (f := 27) hc ?_
  rintro e w' ⟨rfl, n, os, rfl⟩
  have hp : ((ss.map lB).mergeSort (fun x y => decide (x ≤ y))).Perm (ss.map lB) := List.mergeSort_perm _ _
  have hlen : ((ss.map lB).mergeSort (fun x y => decide (x ≤ y))).length = ss.length := by rw [hp.length_eq, List.length_map]
  have hw : ((ss.map lB).mergeSort (fun x y => decide (x ≤ y))).Pairwise (fun a b => decide (a ≤ b) = true) :=
    List.pairwise_mergeSort (fun a b c h1 h2 => by simp only [decide_eq_true_eq] at *; exact List.le_trans h1 h2) (fun a b => by simp only [Bool.or_eq_true, decide_eq_true_eq]; exact List.le_total a b) _
  generalize (ss.map lB).mergeSort (fun x y => decide (x ≤ y)) = zs at *
  have hb1 := putRow_below (B := B) w n zs.toArray hB
  have hb2 := (show TBlk (Go.Sort.ahead w n) g ss from h)
  have hb3 := putRow_blk hb2 zs hlen
  refine ⟨rfl, zs.map bL, ?_, ?_, ?_, ?_⟩
  · have := hp.map bL
    rwa [map_bL] at this
  · rw [List.pairwise_map]
    refine hw.imp fun {a b} hab => ?_
    rw [ltX_bL, bytesLess_eq]
    simp only [decide_eq_true_eq, decide_eq_false_iff_not] at *
    exact List.not_lt.2 hab
  · unfold TBlk
    rw [heap_grow_old _ _ (by exact hb3.lt)]
    exact hb3
  · exact hb1.trans ⟨rfl, rfl, rfl, by rw [size_grow]; exact Nat.le_add_right _ _, fun k hk => heap_grow_old _ _ (by rw [size_putRow]; show k < w.heap.size; have := h.lt; omega)⟩

/-! of neighbours that are the same one is kept -/
structure KeptL (d : Array (List UInt8)) (m : Nat) (out : List (List UInt8)) : Prop where
  rise : out.Pairwise (fun a b => Op.bytesLess a b = true)
  mem : ∀ x, x ∈ out ↔ ∃ j, j < m ∧ d[j]! = x
theorem kept_up (d : Array (List UInt8)) (hw : ∀ i j, i < j → j < d.size → Op.bytesLess d[j]! d[i]! = false) : ∀ m, m ≤ d.size → KeptL d m (Go.Lib.compactUpTo d m)
  | 0, _ => ⟨by simp [Go.Lib.compactUpTo], fun x => by simp [Go.Lib.compactUpTo]⟩
  | m + 1, hm => by
    have ih := kept_up d hw m (by omega)
    rw [Go.Lib.compactUpTo_succ]
    by_cases hk : Go.Lib.keeps d m = true
    · rw [if_pos hk]
      have hk' : m = 0 ∨ d[m]! ≠ d[m - 1]! := by simpa [Go.Lib.keeps] using hk
      constructor
      · rw [List.pairwise_append]
        refine ⟨ih.rise, by simp, fun x hx y hy => ?_⟩
        obtain rfl := List.mem_singleton.1 hy
        obtain ⟨j, hj, rfl⟩ := (ih.mem x).1 hx
        have h1 := hw j m hj (by omega)
        rcases less_tri d[j]! d[m]! with h | h | h
        · exact h
        · exfalso
          rcases hk' with e | e
          · omega
          · apply e
            have h2 := hw (m - 1) m (by omega) (by omega)
            rcases Nat.lt_or_ge j (m - 1) with hjm | hjm
            · have h3 := hw j (m - 1) hjm (by omega)
              rcases less_tri d[m]! d[m - 1]! with k | k | k
              · rw [k] at h2; cases h2
              · exact k
              · rw [h] at h3; rw [k] at h3; cases h3
            · rw [show m - 1 = j by omega, h]
        · rw [h] at h1; cases h1
      · intro x
        rw [List.mem_append, List.mem_singleton, ih.mem]
        constructor
        · rintro (⟨j, hj, e⟩ | rfl)
          · exact ⟨j, by omega, e⟩
          · exact ⟨m, by omega, rfl⟩
        · rintro ⟨j, hj, rfl⟩
          rcases Nat.lt_or_ge j m with h | h
          · exact .inl ⟨j, h, rfl⟩
          · rw [show j = m by omega]; exact .inr rfl
    · rw [if_neg hk, List.append_nil]
      have hk' : m ≠ 0 ∧ d[m]! = d[m - 1]! := by simpa [Go.Lib.keeps] using hk
      refine ⟨ih.rise, fun x => ?_⟩
      rw [ih.mem]
      constructor
      · rintro ⟨j, hj, e⟩; exact ⟨j, by omega, e⟩
      · rintro ⟨j, hj, rfl⟩
        rcases Nat.lt_or_ge j m with h | h
        · exact ⟨j, h, rfl⟩
        · rw [show j = m by omega]; exact ⟨m - 1, by omega, hk'.2.symm⟩

theorem compX (ts : List ByteArray) (g B : Nat) (w : World) (h : TBlk w g ts) (hl : ts.length ≤ 65536) (hB : B ≤ g) (hw : ts.Pairwise (fun a b => ltX b a = false)) :
    Calls Try.prog 28 #[.slice (some ⟨g, 0, none⟩) ts.length ts.length] w fun e w' => ∃ out : List ByteArray, e = .returned (.slice (some ⟨g, 0, none⟩) out.length ts.length) ∧ RiseX out ∧ (∀ x, x ∈ out ↔ x ∈ ts) ∧ out.length ≤ ts.length ∧ StrRow w' (some ⟨g, 0, none⟩) out ∧ Go.RowKit.Below B w w' := by
  have hc := AnyG.slices_Compact_string (P := Try.prog) compL g 0 ts.length (ts.map lB) w h.holds (by simp; omega) (by simp)
  rw [List.length_map] at hc
  refine Calls.mono (f := 28) hc ?_
  rintro e w' ⟨rfl, q, rfl⟩
  have hk := kept_up (ts.map lB).toArray (fun i j hij hj => by
    have hj2 : j < ts.length := by simpa using hj
    have := List.pairwise_iff_getElem.1 hw i j (by omega) hj2 hij
    rw [getElem!_pos _ j hj, getElem!_pos _ i (by simp; omega)]
    simp only [List.getElem_toArray, List.getElem_map]
    rw [← ltX_bL, bL_lB, bL_lB]
    exact this) ts.length (by simp)
  have hcl : (Go.Lib.compact (ts.map lB)).length ≤ ts.length := by
    unfold Go.Lib.compact Go.Lib.compactUpTo
    rw [List.length_map]
    exact Nat.le_trans (List.length_filter_le _ _) (by simp)
  have e : Go.Lib.compact (ts.map lB) = Go.Lib.compactUpTo (ts.map lB).toArray ts.length := by unfold Go.Lib.compact; rw [List.length_map]
  rw [← e] at hk
  generalize Go.Lib.compact (ts.map lB) = out at *
  have hb2 := (show TBlk (Go.Sort.ahead w q) g ts from h)
  have hb3 := putRow_blk hb2 (out ++ List.replicate (ts.length - out.length) []) (by simp; omega)
  refine ⟨out.map bL, by rw [List.length_map], ?_, ?_, by rw [List.length_map]; exact hcl, ?_, putRow_below w q _ hB⟩
  · unfold RiseX
    rw [List.pairwise_map]
    exact hk.rise.imp fun {a b} hab => by rw [ltX_bL]; exact hab
  · intro x
    rw [List.mem_map]
    constructor
    · rintro ⟨l, hl2, rfl⟩
      obtain ⟨j, hj, rfl⟩ := (hk.mem l).1 hl2
      rw [getElem!_pos _ j (by simp; omega)]
      simp only [List.getElem_toArray, List.getElem_map, bL_lB]
      exact List.getElem_mem _
    · intro hx
      obtain ⟨j, hj, rfl⟩ := List.mem_iff_getElem.1 hx
      refine ⟨lB ts[j], (hk.mem _).2 ⟨j, hj, ?_⟩, bL_lB _⟩
      rw [getElem!_pos _ j (by simp; omega)]
      simp
  · have := hb3.row.take out.length
    rw [List.map_append, List.take_append_of_le_length (by simp), List.take_of_length_le (by simp)] at this
    exact this
end Go.Proofs.Ytpcelgmcbfjmbaa
