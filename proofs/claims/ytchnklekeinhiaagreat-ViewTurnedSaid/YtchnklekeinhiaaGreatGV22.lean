/-
  slices.Sort and slices.Compact of texts: their bodies are those that the library's contracts were proved of; what they leave of a block of texts.
  register: Elements.
  register: Last, All.
-/
import Derived.Test.YtchnklekeinhiaaGreatGV21
import Derived.Shelf.SortM.Plain
import Derived.Shelf.SortM.SortNone
import Derived.Shelf.SlicesG.CompactS
import Derived.Sort.KeysCollected
import Derived.Test.YtchnklekeinhiaaGreatGV19
import Derived.Test.YtchnklekeinhiaaGreatGV20
namespace Go.Proofs.YtchnklekeinhiaaGreat
set_option linter.unusedSimpArgs false
set_option linter.unusedVariables false
set_option maxRecDepth 100000
open Go.Shelf Go.RowKit Go.Sort

def sortL_ren : Go.Shelf.Ren := ⟨fun | 6 => 53 | 8 => 90 | 9 => 89 | 19 => 129 | 20 => 130 | 21 => 120 | 22 => 121 | 23 => 122 | 24 => 123 | 25 => 124 | 26 => 125 | 27 => 126 | 28 => 127 | 29 => 128 | 36 => 149 | 31 => 150 | 32 => 151 | 37 => 152 | 38 => 153 | 39 => 142 | 41 => 167 | n => n, fun | 27 => 25 | 29 => 9 | 3 => 3 | 32 => 122 | 26 => 25 | 0 => 0 | 44 => 132 | 46 => 97 | 4 => 4 | 36 => 152 | 35 => 151 | 41 => 145 | 5 => 5 | 9 => 9 | 53 => 174 | 57 => 178 | 63 => 189 | 64 => 190 | n => n, fun | n => n⟩
theorem sortL : SlLaysM.n6 Tryz.prog sortL_ren := {
  mixed := by kernel_rfl
  f6 := ⟨Tryz.f53.name, by decide, Tryz.func53.trans (congrArg some (by kernel_rfl))⟩
  f8 := Tryz.func90.trans (congrArg some (by kernel_rfl))
  f9 := ⟨Tryz.f89.name, by decide, Tryz.func89.trans (congrArg some (by kernel_rfl))⟩
  f19 := Tryz.func129.trans (congrArg some (by kernel_rfl))
  f20 := Tryz.func130.trans (congrArg some (by kernel_rfl))
  f21 := ⟨Tryz.f120.name, by decide, Tryz.func120.trans (congrArg some (by kernel_rfl))⟩
  f22 := ⟨Tryz.f121.name, by decide, Tryz.func121.trans (congrArg some (by kernel_rfl))⟩
  f23 := ⟨Tryz.f122.name, by decide, Tryz.func122.trans (congrArg some (by kernel_rfl))⟩
  f24 := ⟨Tryz.f123.name, by decide, Tryz.func123.trans (congrArg some (by kernel_rfl))⟩
  f25 := ⟨Tryz.f124.name, by decide, Tryz.func124.trans (congrArg some (by kernel_rfl))⟩
  f26 := ⟨Tryz.f125.name, by decide, Tryz.func125.trans (congrArg some (by kernel_rfl))⟩
  f27 := ⟨Tryz.f126.name, by decide, Tryz.func126.trans (congrArg some (by kernel_rfl))⟩
  f28 := ⟨Tryz.f127.name, by decide, Tryz.func127.trans (congrArg some (by kernel_rfl))⟩
  f29 := ⟨Tryz.f128.name, by decide, Tryz.func128.trans (congrArg some (by kernel_rfl))⟩
  f31 := Tryz.func150.trans (congrArg some (by kernel_rfl))
  f32 := Tryz.func151.trans (congrArg some (by kernel_rfl))
  f36 := ⟨Tryz.f149.name, by decide, Tryz.func149.trans (congrArg some (by kernel_rfl))⟩
  f37 := ⟨Tryz.f152.name, by decide, Tryz.func152.trans (congrArg some (by kernel_rfl))⟩
  f38 := ⟨Tryz.f153.name, by decide, Tryz.func153.trans (congrArg some (by kernel_rfl))⟩
  f39 := ⟨Tryz.f142.name, by decide, Tryz.func142.trans (congrArg some (by kernel_rfl))⟩
  f41 := ⟨Tryz.f167.name, by decide, Tryz.func167.trans (congrArg some (by kernel_rfl))⟩
  t0 := Tryz.underlying0
  a0 := Tryz.isAgg0
  z0 := Tryz.sizeOf0
  v0 := Tryz.zeroValue0
  t3 := Tryz.underlying3
  a3 := Tryz.isAgg3
  z3 := Tryz.sizeOf3
  v3 := Tryz.zeroValue3
  t4 := Tryz.underlying4
  a4 := Tryz.isAgg4
  z4 := Tryz.sizeOf4
  v4 := Tryz.zeroValue4
  t5 := Tryz.underlying5
  a5 := Tryz.isAgg5
  z5 := Tryz.sizeOf5
  v5 := Tryz.zeroValue5
  t9 := Tryz.underlying9
  a9 := Tryz.isAgg9
  z9 := Tryz.sizeOf9
  v9 := Tryz.zeroValue9
  t26 := Tryz.underlying25
  a26 := Tryz.isAgg25
  z26 := Tryz.sizeOf25
  v26 := Tryz.zeroValue25
  t27 := Tryz.underlying25
  a27 := Tryz.isAgg25
  z27 := Tryz.sizeOf25
  v27 := Tryz.zeroValue25
  t29 := Tryz.underlying9
  a29 := Tryz.isAgg9
  z29 := Tryz.sizeOf9
  v29 := Tryz.zeroValue9
  t32 := Tryz.underlying122
  a32 := Tryz.isAgg122
  z32 := Tryz.sizeOf122
  v32 := Tryz.zeroValue122
  t35 := Tryz.underlying151
  a35 := Tryz.isAgg151
  z35 := Tryz.sizeOf151
  v35 := Tryz.zeroValue151
  t36 := Tryz.underlying152
  a36 := Tryz.isAgg152
  z36 := Tryz.sizeOf152
  v36 := Tryz.zeroValue152
  t41 := Tryz.underlying145
  a41 := Tryz.isAgg145
  z41 := Tryz.sizeOf145
  v41 := Tryz.zeroValue145
  t44 := Tryz.underlying132
  a44 := Tryz.isAgg132
  z44 := Tryz.sizeOf132
  v44 := Tryz.zeroValue132
  t46 := Tryz.underlying97
  a46 := Tryz.isAgg97
  z46 := Tryz.sizeOf97
  v46 := Tryz.zeroValue97
  t53 := Tryz.underlying174
  a53 := Tryz.isAgg174
  z53 := Tryz.sizeOf174
  v53 := Tryz.zeroValue174
  t57 := Tryz.underlying178
  a57 := Tryz.isAgg178
  z57 := Tryz.sizeOf178
  v57 := Tryz.zeroValue178
  t63 := Tryz.underlying189
  a63 := Tryz.isAgg189
  z63 := Tryz.sizeOf189
  v63 := Tryz.zeroValue189
  t64 := Tryz.underlying190
  a64 := Tryz.isAgg190
  z64 := Tryz.sizeOf190
  v64 := Tryz.zeroValue190 }

def compL_ren : Go.Shelf.Ren := ⟨fun | 44 => 54 | n => n, fun | 25 => 25 | 26 => 9 | 3 => 3 | 4 => 4 | 0 => 0 | n => n, fun | n => n⟩
theorem compL : SlLaysN.n44 Tryz.prog compL_ren := {
  mixed := by kernel_rfl
  f44 := ⟨Tryz.f54.name, by decide, Tryz.func54.trans (congrArg some (by kernel_rfl))⟩
  t0 := Tryz.underlying0
  a0 := Tryz.isAgg0
  z0 := Tryz.sizeOf0
  v0 := Tryz.zeroValue0
  t3 := Tryz.underlying3
  a3 := Tryz.isAgg3
  z3 := Tryz.sizeOf3
  v3 := Tryz.zeroValue3
  t4 := Tryz.underlying4
  a4 := Tryz.isAgg4
  z4 := Tryz.sizeOf4
  v4 := Tryz.zeroValue4
  t25 := Tryz.underlying25
  a25 := Tryz.isAgg25
  z25 := Tryz.sizeOf25
  v25 := Tryz.zeroValue25
  t26 := Tryz.underlying9
  a26 := Tryz.isAgg9
  z26 := Tryz.sizeOf9
  v26 := Tryz.zeroValue9
  i26 := by kernel_rfl }

/-! texts as lists of bytes -/
def lB (x : ByteArray) : List UInt8 := x.data.toList
def bL (l : List UInt8) : ByteArray := ⟨l.toArray⟩
theorem bL_lB (x : ByteArray) : bL (lB x) = x := by obtain ⟨⟨l⟩⟩ := x; rfl
theorem lB_bL (l : List UInt8) : lB (bL l) = l := rfl
theorem ltX_bL (a b : List UInt8) : ltX (bL a) (bL b) = Op.bytesLess a b := by
  unfold ltX bL
  rw [ByteArray.toList_eq, ByteArray.toList_eq]
theorem map_bL (ss : List ByteArray) : (ss.map lB).map bL = ss := by
  rw [List.map_map]
  conv => rhs; rw [← List.map_id ss]
  exact List.map_congr_left fun x _ => bL_lB x

theorem TBlk.of {w : World} {g : Nat} {c : Array Value} {ts : List ByteArray} (hg : w.heap[g]? = some (.cells c 9 (0, 0))) (hs : c.size = ts.length) (hc : ∀ (j : Nat) (x : ByteArray), ts[j]? = some x → c[j]? = some (Value.string x)) : TBlk w g ts := by
  unfold TBlk
  rw [hg]
  have e : c = (ts.map Value.string).toArray := by
    apply Array.ext_getElem?
    intro j
    rcases Nat.lt_or_ge j ts.length with h | h
    · rw [hc j _ (List.getElem?_eq_getElem h)]; simp [h]
    · rw [Array.getElem?_eq_none (by omega)]; simp [h]
  rw [e]
theorem TBlk.holds {w : World} {g : Nat} {ss : List ByteArray} (h : TBlk w g ss) : Holds encStr w g 0 (ss.map lB).toArray := by
  intro j hj
  have hl : j < ss.length := by simpa using hj
  refine ⟨?_, by rw [Nat.zero_add]; exact h.free j⟩
  rw [Nat.zero_add, h.cell (List.getElem?_eq_getElem hl), getElem!_pos _ j hj]
  simp only [List.getElem_toArray, List.getElem_map]
  show some (Value.string ss[j]) = some (Value.string (bL (lB ss[j])))
  rw [bL_lB]
theorem putRow_blk {w : World} {g : Nat} {ss : List ByteArray} (h : TBlk w g ss) (d : List (List UInt8)) (hd : d.length = ss.length) : TBlk (putRow encStr w g 0 d.toArray) g (d.map bL) := by
  have hg : (putRow encStr w g 0 d.toArray).heap[g]? = some (.cells (putCells encStr 0 d.toArray (ss.map Value.string).toArray) 9 (0, 0)) := by
    show (w.heap.modify g _)[g]? = _
    rw [Array.getElem?_modify, if_pos rfl, h]
    rfl
  refine TBlk.of hg (by simp [putCells, hd]) fun j x hj => ?_
  rw [List.getElem?_map] at hj
  obtain ⟨l, hl, rfl⟩ := Option.map_eq_some_iff.1 hj
  obtain ⟨hj2, rfl⟩ := List.getElem?_eq_some_iff.1 hl
  have hj3 : j < ss.length := by omega
  simp only [putCells, Array.getElem?_mapIdx]
  simp [hj2, hj3]
  rfl
theorem putRow_below {B g : Nat} (w : World) (n : Nat) (d : Array (List UInt8)) (hB : B ≤ g) : Go.RowKit.Below B w (putRow encStr (Go.Sort.ahead w n) g 0 d) := by
  refine ⟨rfl, rfl, rfl, by rw [size_putRow]; exact Nat.le_refl _, fun k hk => ?_⟩
  show (w.heap.modify g _)[k]? = _
  rw [Array.getElem?_modify, if_neg (by omega)]

theorem sortX (ss : List ByteArray) (g B : Nat) (w : World) (h : TBlk w g ss) (hl : ss.length ≤ 65536) (hB : B ≤ g) :
    Calls Tryz.prog 53 #[.slice (some ⟨g, 0, none⟩) ss.length ss.length] w fun e w' => e = .returned (.tuple #[]) ∧ ∃ ts : List ByteArray, ts.Perm ss ∧ ts.Pairwise (fun a b => ltX b a = false) ∧ TBlk w' g ts ∧ Go.RowKit.Below B w w' := by
  have hc := AnyM.slices_Sort_string (P := Tryz.prog) sortL g 0 ss.length (ss.map lB) w h.holds h.lt (by simp; omega)
  rw [List.length_map] at hc
  refine Calls.mono (f := 53) hc ?_
  rintro e w' ⟨rfl, n, os, rfl⟩
  have hp : ((ss.map lB).mergeSort (fun x y => decide (x ≤ y))).Perm (ss.map lB) := List.mergeSort_perm _ _
  have hlen : ((ss.map lB).mergeSort (fun x y => decide (x ≤ y))).length = ss.length := by rw [hp.length_eq, List.length_map]
  have hw : ((ss.map lB).mergeSort (fun x y => decide (x ≤ y))).Pairwise (fun a b => decide (a ≤ b) = true) :=
    List.pairwise_mergeSort (fun a b c h1 h2 => by simp only [decide_eq_true_eq] at *; exact List.le_trans h1 h2) (fun a b => by simp only [Bool.or_eq_true, decide_eq_true_eq]; exact List.le_total a b) _
  generalize (ss.map lB).mergeSort (fun x y => decide (x ≤ y)) = zs at *
  have hb1 := putRow_below (B := B) w n zs.toArray hB
  have hb2 := (show TBlk (Go.Sort.ahead w n) g ss from h)
  have hb3 := putRow_blk hb2 zs hlen
  refine ⟨rfl, zs.map bL, ?_, ?_, ?_, ?_⟩
  · have := hp.map bL
    rwa [map_bL] at this
  · rw [List.pairwise_map]
    refine hw.imp fun {a b} hab => ?_
    rw [ltX_bL, bytesLess_eq]
    simp only [decide_eq_true_eq, decide_eq_false_iff_not] at *
    exact List.not_lt.2 hab
  · unfold TBlk
    rw [heap_grow_old _ _ (by exact hb3.lt)]
    exact hb3
  · exact hb1.trans ⟨rfl, rfl, rfl, by rw [size_grow]; exact Nat.le_add_right _ _, fun k hk => heap_grow_old _ _ (by rw [size_putRow]; show k < w.heap.size; have := h.lt; omega)⟩

/-! of neighbours that are the same one is kept -/
structure KeptL (d : Array (List UInt8)) (m : Nat) (out : List (List UInt8)) : Prop where
  rise : out.Pairwise (fun a b => Op.bytesLess a b = true)
  mem : ∀ x, x ∈ out ↔ ∃ j, j < m ∧ d[j]! = x
theorem kept_up (d : Array (List UInt8)) (hw : ∀ i j, i < j → j < d.size → Op.bytesLess d[j]! d[i]! = false) : ∀ m, m ≤ d.size → KeptL d m (Go.Lib.compactUpTo d m)
  | 0, _ => ⟨by simp [Go.Lib.compactUpTo], fun x => by simp [Go.Lib.compactUpTo]⟩
  | m + 1, hm => by
    have ih := kept_up d hw m (by omega)
    rw [Go.Lib.compactUpTo_succ]
    by_cases hk : Go.Lib.keeps d m = true
    · rw [if_pos hk]
      have hk' : m = 0 ∨ d[m]! ≠ d[m - 1]! := by simpa [Go.Lib.keeps] using hk
      constructor
      · rw [List.pairwise_append]
        refine ⟨ih.rise, by simp, fun x hx y hy => ?_⟩
        obtain rfl := List.mem_singleton.1 hy
        obtain ⟨j, hj, rfl⟩ := (ih.mem x).1 hx
        have h1 := hw j m hj (by omega)
        rcases less_tri d[j]! d[m]! with h | h | h
        · exact h
        · exfalso
          rcases hk' with e | e
          · omega
          · apply e
            have h2 := hw (m - 1) m (by omega) (by omega)
            rcases Nat.lt_or_ge j (m - 1) with hjm | hjm
            · have h3 := hw j (m - 1) hjm (by omega)
              rcases less_tri d[m]! d[m - 1]! with k | k | k
              · rw [k] at h2; cases h2
              · exact k
              · rw [h] at h3; rw [k] at h3; cases h3
            · rw [show m - 1 = j by omega, h]
        · rw [h] at h1; cases h1
      · intro x
        rw [List.mem_append, List.mem_singleton, ih.mem]
        constructor
        · rintro (⟨j, hj, e⟩ | rfl)
          · exact ⟨j, by omega, e⟩
          · exact ⟨m, by omega, rfl⟩
        · rintro ⟨j, hj, rfl⟩
          rcases Nat.lt_or_ge j m with h | h
          · exact .inl ⟨j, h, rfl⟩
          · rw [show j = m by omega]; exact .inr rfl
    · rw [if_neg hk, List.append_nil]
      have hk' : m ≠ 0 ∧ d[m]! = d[m - 1]! := by simpa [Go.Lib.keeps] using hk
      refine ⟨ih.rise, fun x => ?_⟩
      rw [ih.mem]
      constructor
      · rintro ⟨j, hj, e⟩; exact ⟨j, by omega, e⟩
      · rintro ⟨j, hj, rfl⟩
        rcases Nat.lt_or_ge j m with h | h
        · exact ⟨j, h, rfl⟩
        · rw [show j = m by omega]; exact ⟨m - 1, by omega, hk'.2.symm⟩

theorem compX (ts : List ByteArray) (g B : Nat) (w : World) (h : TBlk w g ts) (hl : ts.length ≤ 65536) (hB : B ≤ g) (hw : ts.Pairwise (fun a b => ltX b a = false)) :
    Calls Tryz.prog 54 #[.slice (some ⟨g, 0, none⟩) ts.length ts.length] w fun e w' => ∃ out : List ByteArray, e = .returned (.slice (some ⟨g, 0, none⟩) out.length ts.length) ∧ RiseX out ∧ (∀ x, x ∈ out ↔ x ∈ ts) ∧ out.length ≤ ts.length ∧ StrRow w' (some ⟨g, 0, none⟩) out ∧ Go.RowKit.Below B w w' := by
  have hc := AnyG.slices_Compact_string (P := Tryz.prog) compL g 0 ts.length (ts.map lB) w h.holds (by simp; omega) (by simp)
  rw [List.length_map] at hc
  refine Calls.mono (f := 54) hc ?_
  rintro e w' ⟨rfl, q, rfl⟩
  have hk := kept_up (ts.map lB).toArray (fun i j hij hj => by
    have hj2 : j < ts.length := by simpa using hj
    have := List.pairwise_iff_getElem.1 hw i j (by omega) hj2 hij
    rw [getElem!_pos _ j hj, getElem!_pos _ i (by simp; omega)]
    simp only [List.getElem_toArray, List.getElem_map]
    rw [← ltX_bL, bL_lB, bL_lB]
    exact this) ts.length (by simp)
  have hcl : (Go.Lib.compact (ts.map lB)).length ≤ ts.length := by
    unfold Go.Lib.compact Go.Lib.compactUpTo
    rw [List.length_map]
    exact Nat.le_trans (List.length_filter_le _ _) (by simp)
  have e : Go.Lib.compact (ts.map lB) = Go.Lib.compactUpTo (ts.map lB).toArray ts.length := by unfold Go.Lib.compact; rw [List.length_map]
  rw [← e] at hk
  generalize Go.Lib.compact (ts.map lB) = out at *
  have hb2 := (show TBlk (Go.Sort.ahead w q) g ts from h)
  have hb3 := putRow_blk hb2 (out ++ List.replicate (ts.length - out.length) []) (by simp; omega)
  refine ⟨out.map bL, by rw [List.length_map], ?_, ?_, by rw [List.length_map]; exact hcl, ?_, putRow_below w q _ hB⟩
  · unfold RiseX
    rw [List.pairwise_map]
    exact hk.rise.imp fun {a b} hab => by rw [ltX_bL]; exact hab
  · intro x
    rw [List.mem_map]
    constructor
    · rintro ⟨l, hl2, rfl⟩
      obtain ⟨j, hj, rfl⟩ := (hk.mem l).1 hl2
      rw [getElem!_pos _ j (by simp; omega)]
      simp only [List.getElem_toArray, List.getElem_map, bL_lB]
      exact List.getElem_mem _
    · intro hx
      obtain ⟨j, hj, rfl⟩ := List.mem_iff_getElem.1 hx
      refine ⟨lB ts[j], (hk.mem _).2 ⟨j, hj, ?_⟩, bL_lB _⟩
      rw [getElem!_pos _ j (by simp; omega)]
      simp
  · have := hb3.row.take out.length
    rw [List.map_append, List.take_append_of_le_length (by simp), List.take_of_length_le (by simp)] at this
    exact this
end Go.Proofs.YtchnklekeinhiaaGreat

namespace Go.Proofs.YtchnklekeinhiaaGreat
set_option linter.unusedSimpArgs false
set_option linter.unusedVariables false
set_option maxRecDepth 100000
open Go.RowKit Go.Sort

set_option maxHeartbeats 2000000 in
theorem elemsCn (l : List Ft) (a : Option Addr) (cap : Nat) (w : World) (h : FIn w a l) (hl : l.length ≤ 65536) :
    Calls Tryz.prog 25 #[.slice a l.length cap] w fun e w' => ∃ (out : List ByteArray), e = .returned (.slice (some ⟨w.heap.size, 0, none⟩) out.length l.length) ∧ StrRow w' (some ⟨w.heap.size, 0, none⟩) out ∧ ElemsR l out ∧ out.length ≤ l.length ∧ Below w.heap.size w w' := by
  have HV := Lib.hid (valuesC l a cap w h hl)
  have hlm : (l.map (·.v)).length = l.length := by simp
  clear h
  go_enter Tryz.func25, Tryz.ntmps25
  go_wp2_with fail
  refine HV.out.mono ?_
  rintro e w1 ⟨rfl, ht, hb1⟩
  have hs := sortX (l.map (·.v)) w.heap.size w.heap.size w1 ht (by rw [hlm]; exact hl) (Nat.le_refl _)
  rw [hlm] at hs
  have HS := Lib.hid hs
  have HB1 := Lib.hid hb1
  have HLM := Lib.hid hlm
  clear hs ht hb1 HV hlm
  go_wp2_with fail
  refine HS.out.mono ?_
  rintro e w2 ⟨rfl, ts, hp, hpw, ht, hb2⟩
  have hlt : ts.length = l.length := by rw [hp.length_eq, HLM.out]
  have hc := compX ts w.heap.size w.heap.size w2 ht (by rw [hlt]; exact hl) (Nat.le_refl _) hpw
  rw [hlt] at hc
  have HC := Lib.hid hc
  have HP := Lib.hid hp
  have HB2 := Lib.hid (HB1.out.trans hb2)
  clear hc hp hpw ht hb2 hlt HS
  go_wp2_with fail
  refine HC.out.mono ?_
  rintro e w3 ⟨out, rfl, hr, hm, hol, hrow, hb3⟩
  have HE := Lib.hid (show ElemsR l out from ⟨hr, fun x => by rw [hm, HP.out.mem_iff, List.mem_map]⟩)
  have H3 := Lib.hid (And.intro hrow (And.intro hol (HB2.out.trans hb3)))
  clear hr hm hol hrow hb3 HC
  go_wp2_with fail
  go_ret
  exact ⟨out, rfl, H3.out.1, HE.out, H3.out.2.1, H3.out.2.2⟩
theorem elemsC (l : List Ft) (a : Option Addr) (cap : Nat) (w : World) (h : FIn w a l) (hl : l.length ≤ 65536) :
    Calls Tryz.prog 25 #[.slice a l.length cap] w fun e w' => ∃ (g : Nat) (out : List ByteArray), e = .returned (.slice (some ⟨g, 0, none⟩) out.length l.length) ∧ StrRow w' (some ⟨g, 0, none⟩) out ∧ ElemsR l out ∧ out.length ≤ l.length ∧ Below w.heap.size w w' :=
  (elemsCn l a cap w h hl).mono fun _ _ ⟨out, h⟩ => ⟨_, out, h⟩
end Go.Proofs.YtchnklekeinhiaaGreat

namespace Go.Proofs.YtchnklekeinhiaaGreat
set_option linter.unusedSimpArgs false
set_option linter.unusedVariables false
set_option maxRecDepth 100000
open Go.RowKit Go.Sort

/-- what Last answers -/
def LastAns (l : List Ft) (r : ByteArray × Bool) : Prop := (l = [] ∧ r = (⟨#[]⟩, false)) ∨ ∃ m, MaxR l l.length m ∧ r = (m.v, true)
theorem LastAns.order {l s : List Ft} {r : ByteArray × Bool} (h : LastAns l r) (ho : OrderR l s) : lastR s = r := by
  rcases h with ⟨rfl, rfl⟩ | ⟨m, hm, rfl⟩
  · have : s = [] := List.perm_nil.1 ho.perm
    subst this; rfl
  · exact hm.last ho
theorem LastAns.perm {l k : List Ft} {r q : ByteArray × Bool} (h : LastAns l r) (h2 : LastAns k q) (hp : l.Perm k) : r = q := by
  rcases h with ⟨rfl, rfl⟩ | ⟨m, hm, rfl⟩
  · rcases h2 with ⟨rfl, rfl⟩ | ⟨m, hm, rfl⟩
    · rfl
    · have := hm.mem
      rw [List.nil_perm.1 hp] at this; simp at this
  · rcases h2 with ⟨rfl, rfl⟩ | ⟨n, hn, rfl⟩
    · have := hm.mem
      rw [List.perm_nil.1 hp] at this; simp at this
    · have m1 := hm.mem
      have m2 := hn.mem
      have t1 := hm.top
      have t2 := hn.top
      rw [List.take_length] at m1 m2 t1 t2
      have h1 := t1 n (hp.mem_iff.2 m2)
      have h2 := t2 m (hp.mem_iff.1 m1)
      rcases ltR_tri m n with k | k | k
      · rw [h1] at k; cases k
      · have := congrArg (fun p => p.2.2) k
        simp only [keyR] at this
        simp [this]
      · rw [h2] at k; cases k

theorem fieldV (m : Ft) (W : World) : Sem.run Tryz.prog (Instr.field 48 (.agg (fcs m).toArray) 4) W = .ok (.string m.v) W := by
  first
    | rfl
    | kernel_rfl
set_option maxHeartbeats 2000000 in
theorem lastC (l : List Ft) (a : Option Addr) (cap : Nat) (w : World) (h : FIn w a l) (hl : l.length ≤ 65536) :
    Calls Tryz.prog 23 #[.slice a l.length cap] w fun e w' => ∃ r, e = .returned (.tuple #[.string r.1, .bool r.2]) ∧ LastAns l r ∧ Below w.heap.size w w' := by
  by_cases h0 : l.length = 0
  · have hl0 : l = [] := List.length_eq_zero_iff.1 h0
    subst hl0
    clear h h0
    go_enter Tryz.func23, Tryz.ntmps23
    go_wp2_with fail
    go_ret2
    exact ⟨(⟨#[]⟩, false), rfl, .inl ⟨rfl, rfl⟩, Below.refl _ _⟩
  · have HM := Lib.hid (maxC l a cap w h hl (by omega))
    have hi1 : ((l.length : Int) == 0) = false := by rw [beq_eq_false_iff_ne]; omega
    clear h h0
    go_enter Tryz.func23, Tryz.ntmps23
    go_wp2_with fail
    refine HM.out.mono ?_
    rintro e w1 ⟨m, rfl, hm, hb⟩
    have H := Lib.hid (And.intro hm hb)
    clear hm hb
    have hfd := fieldV m w1
    go_wp2_with fail
    go_ret2
    exact ⟨(m.v, true), rfl, .inr ⟨_, H.out.1, rfl⟩, H.out.2⟩

end Go.Proofs.YtchnklekeinhiaaGreat
