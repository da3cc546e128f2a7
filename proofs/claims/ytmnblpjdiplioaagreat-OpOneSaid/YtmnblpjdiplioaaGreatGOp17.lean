/-
  slices.Sort and slices.Compact of texts: their bodies are those that the library's contracts were proved of; what they leave of a block of texts.
  register: Elements.
-/
import Derived.Test.YtmnblpjdiplioaaGreatRegVal
import Derived.Shelf.SortM.Plain
import Derived.Shelf.SortM.SortNone
import Derived.Shelf.SlicesG.CompactS
import Derived.Sort.KeysCollected
namespace Go.Proofs.YtmnblpjdiplioaaGreat
set_option linter.unusedSimpArgs false
set_option linter.unusedVariables false
set_option maxRecDepth 100000
open Go.Shelf Go.RowKit Go.Sort

def sortL_ren : Go.Shelf.Ren := ⟨fun | 6 => 79 | 8 => 103 | 9 => 102 | 19 => 124 | 20 => 125 | 21 => 115 | 22 => 116 | 23 => 117 | 24 => 118 | 25 => 119 | 26 => 120 | 27 => 121 | 28 => 122 | 29 => 123 | 36 => 141 | 31 => 142 | 32 => 143 | 37 => 144 | 38 => 145 | 39 => 146 | 41 => 157 | n => n, fun | 27 => 60 | 29 => 9 | 3 => 3 | 32 => 118 | 26 => 60 | 0 => 0 | 44 => 153 | 46 => 87 | 4 => 4 | 36 => 146 | 35 => 145 | 41 => 138 | 5 => 5 | 9 => 9 | 53 => 165 | 57 => 169 | 63 => 180 | 64 => 181 | n => n, fun | n => n⟩
theorem sortL : SlLaysM.n6 Tryz.prog sortL_ren := {
  mixed := by kernel_rfl
  f6 := ⟨Tryz.f79.name, by decide, Tryz.func79.trans (congrArg some (by kernel_rfl))⟩
  f8 := Tryz.func103.trans (congrArg some (by kernel_rfl))
  f9 := ⟨Tryz.f102.name, by decide, Tryz.func102.trans (congrArg some (by kernel_rfl))⟩
  f19 := Tryz.func124.trans (congrArg some (by kernel_rfl))
  f20 := Tryz.func125.trans (congrArg some (by kernel_rfl))
  f21 := ⟨Tryz.f115.name, by decide, Tryz.func115.trans (congrArg some (by kernel_rfl))⟩
  f22 := ⟨Tryz.f116.name, by decide, Tryz.func116.trans (congrArg some (by kernel_rfl))⟩
  f23 := ⟨Tryz.f117.name, by decide, Tryz.func117.trans (congrArg some (by kernel_rfl))⟩
  f24 := ⟨Tryz.f118.name, by decide, Tryz.func118.trans (congrArg some (by kernel_rfl))⟩
  f25 := ⟨Tryz.f119.name, by decide, Tryz.func119.trans (congrArg some (by kernel_rfl))⟩
  f26 := ⟨Tryz.f120.name, by decide, Tryz.func120.trans (congrArg some (by kernel_rfl))⟩
  f27 := ⟨Tryz.f121.name, by decide, Tryz.func121.trans (congrArg some (by kernel_rfl))⟩
  f28 := ⟨Tryz.f122.name, by decide, Tryz.func122.trans (congrArg some (by kernel_rfl))⟩
  f29 := ⟨Tryz.f123.name, by decide, Tryz.func123.trans (congrArg some (by kernel_rfl))⟩
  f31 := Tryz.func142.trans (congrArg some (by kernel_rfl))
  f32 := Tryz.func143.trans (congrArg some (by kernel_rfl))
  f36 := ⟨Tryz.f141.name, by decide, Tryz.func141.trans (congrArg some (by kernel_rfl))⟩
  f37 := ⟨Tryz.f144.name, by decide, Tryz.func144.trans (congrArg some (by kernel_rfl))⟩
  f38 := ⟨Tryz.f145.name, by decide, Tryz.func145.trans (congrArg some (by kernel_rfl))⟩
  f39 := ⟨Tryz.f146.name, by decide, Tryz.func146.trans (congrArg some (by kernel_rfl))⟩
  f41 := ⟨Tryz.f157.name, by decide, Tryz.func157.trans (congrArg some (by kernel_rfl))⟩
  t0 := Tryz.underlying0
  a0 := Tryz.isAgg0
  z0 := Tryz.sizeOf0
  v0 := Tryz.zeroValue0
  t3 := Tryz.underlying3
  a3 := Tryz.isAgg3
  z3 := Tryz.sizeOf3
  v3 := Tryz.zeroValue3
  t4 := Tryz.underlying4
  a4 := Tryz.isAgg4
  z4 := Tryz.sizeOf4
  v4 := Tryz.zeroValue4
  t5 := Tryz.underlying5
  a5 := Tryz.isAgg5
  z5 := Tryz.sizeOf5
  v5 := Tryz.zeroValue5
  t9 := Tryz.underlying9
  a9 := Tryz.isAgg9
  z9 := Tryz.sizeOf9
  v9 := Tryz.zeroValue9
  t26 := Tryz.underlying60
  a26 := Tryz.isAgg60
  z26 := Tryz.sizeOf60
  v26 := Tryz.zeroValue60
  t27 := Tryz.underlying60
  a27 := Tryz.isAgg60
  z27 := Tryz.sizeOf60
  v27 := Tryz.zeroValue60
  t29 := Tryz.underlying9
  a29 := Tryz.isAgg9
  z29 := Tryz.sizeOf9
  v29 := Tryz.zeroValue9
  t32 := Tryz.underlying118
  a32 := Tryz.isAgg118
  z32 := Tryz.sizeOf118
  v32 := Tryz.zeroValue118
  t35 := Tryz.underlying145
  a35 := Tryz.isAgg145
  z35 := Tryz.sizeOf145
  v35 := Tryz.zeroValue145
  t36 := Tryz.underlying146
  a36 := Tryz.isAgg146
  z36 := Tryz.sizeOf146
  v36 := Tryz.zeroValue146
  t41 := Tryz.underlying138
  a41 := Tryz.isAgg138
  z41 := Tryz.sizeOf138
  v41 := Tryz.zeroValue138
  t44 := Tryz.underlying153
  a44 := Tryz.isAgg153
  z44 := Tryz.sizeOf153
  v44 := Tryz.zeroValue153
  t46 := Tryz.underlying87
  a46 := Tryz.isAgg87
  z46 := Tryz.sizeOf87
  v46 := Tryz.zeroValue87
  t53 := Tryz.underlying165
  a53 := Tryz.isAgg165
  z53 := Tryz.sizeOf165
  v53 := Tryz.zeroValue165
  t57 := Tryz.underlying169
  a57 := Tryz.isAgg169
  z57 := Tryz.sizeOf169
  v57 := Tryz.zeroValue169
  t63 := Tryz.underlying180
  a63 := Tryz.isAgg180
  z63 := Tryz.sizeOf180
  v63 := Tryz.zeroValue180
  t64 := Tryz.underlying181
  a64 := Tryz.isAgg181
  z64 := Tryz.sizeOf181
  v64 := Tryz.zeroValue181 }

def compL_ren : Go.Shelf.Ren := ⟨fun | 44 => 80 | n => n, fun | 25 => 60 | 26 => 9 | 3 => 3 | 4 => 4 | 0 => 0 | n => n, fun | n => n⟩
theorem compL : SlLaysN.n44 Tryz.prog compL_ren := {
  mixed := by kernel_rfl
  f44 := ⟨Tryz.f80.name, by decide, Tryz.func80.trans (congrArg some (by kernel_rfl))⟩
  t0 := Tryz.underlying0
  a0 := Tryz.isAgg0
  z0 := Tryz.sizeOf0
  v0 := Tryz.zeroValue0
  t3 := Tryz.underlying3
  a3 := Tryz.isAgg3
  z3 := Tryz.sizeOf3
  v3 := Tryz.zeroValue3
  t4 := Tryz.underlying4
  a4 := Tryz.isAgg4
  z4 := Tryz.sizeOf4
  v4 := Tryz.zeroValue4
  t25 := Tryz.underlying60
  a25 := Tryz.isAgg60
  z25 := Tryz.sizeOf60
  v25 := Tryz.zeroValue60
  t26 := Tryz.underlying9
  a26 := Tryz.isAgg9
  z26 := Tryz.sizeOf9
  v26 := Tryz.zeroValue9
  i26 := by kernel_rfl }

/-! texts as lists of bytes -/
def lB (x : ByteArray) : List UInt8 := x.data.toList
def bL (l : List UInt8) : ByteArray := ⟨l.toArray⟩
theorem bL_lB (x : ByteArray) : bL (lB x) = x := by obtain ⟨⟨l⟩⟩ := x; rfl
theorem ltX_bL (a b : List UInt8) : ltX (bL a) (bL b) = Op.bytesLess a b := by
  unfold ltX bL
  rw [ByteArray.toList_eq, ByteArray.toList_eq]
theorem map_bL (ss : List ByteArray) : (ss.map lB).map bL = ss := by
  rw [List.map_map]
  conv => rhs; rw [← List.map_id ss]
  exact List.map_congr_left fun x _ => bL_lB x

theorem TBlk.of {w : World} {g : Nat} {c : Array Value} {ts : List ByteArray} (hg : w.heap[g]? = some (.cells c 9 (0, 0))) (hs : c.size = ts.length) (hc : ∀ (j : Nat) (x : ByteArray), ts[j]? = some x → c[j]? = some (Value.string x)) : TBlk w g ts := by
  unfold TBlk
  rw [hg]
  have e : c = (ts.map Value.string).toArray := by
    apply Array.ext_getElem?
    intro j
    rcases Nat.lt_or_ge j ts.length with h | h
    · rw [hc j _ (List.getElem?_eq_getElem h)]; simp [h]
    · rw [Array.getElem?_eq_none (by omega)]; simp [h]
  rw [e]
theorem TBlk.holds {w : World} {g : Nat} {ss : List ByteArray} (h : TBlk w g ss) : Holds encStr w g 0 (ss.map lB).toArray := by
  intro j hj
  have hl : j < ss.length := by simpa using hj
  refine ⟨?_, by rw [Nat.zero_add]; exact h.free j⟩
  rw [Nat.zero_add, h.cell (List.getElem?_eq_getElem hl), getElem!_pos _ j hj]
  simp only [List.getElem_toArray, List.getElem_map]
  show some (Value.string ss[j]) = some (Value.string (bL (lB ss[j])))
  rw [bL_lB]
theorem putRow_blk {w : World} {g : Nat} {ss : List ByteArray} (h : TBlk w g ss) (d : List (List UInt8)) (hd : d.length = ss.length) : TBlk (putRow encStr w g 0 d.toArray) g (d.map bL) := by
  have hg : (putRow encStr w g 0 d.toArray).heap[g]? = some (.cells (putCells encStr 0 d.toArray (ss.map Value.string).toArray) 9 (0, 0)) := by
    show (w.heap.modify g _)[g]? = _
    rw [Array.getElem?_modify, if_pos rfl, h]
    rfl
  refine TBlk.of hg (by simp [putCells, hd]) fun j x hj => ?_
  rw [List.getElem?_map] at hj
  obtain ⟨l, hl, rfl⟩ := Option.map_eq_some_iff.1 hj
  obtain ⟨hj2, rfl⟩ := List.getElem?_eq_some_iff.1 hl
  have hj3 : j < ss.length := by omega
  simp only [putCells, Array.getElem?_mapIdx]
  simp [hj2, hj3]
  rfl
theorem putRow_below {B g : Nat} (w : World) (n : Nat) (d : Array (List UInt8)) (hB : B ≤ g) : Go.RowKit.Below B w (putRow encStr (Go.Sort.ahead w n) g 0 d) := by
  refine ⟨rfl, rfl, rfl, by rw [size_putRow]; exact Nat.le_refl _, fun k hk => ?_⟩
  show (w.heap.modify g _)[k]? = _
  rw [Array.getElem?_modify, if_neg (by omega)]

theorem sortX (ss : List ByteArray) (g B : Nat) (w : World) (h : TBlk w g ss) (hl : ss.length ≤ 65536) (hB : B ≤ g) :
    Calls Tryz.prog 79 #[.slice (some ⟨g, 0, none⟩) ss.length ss.length] w fun e w' => e = .returned (.tuple #[]) ∧ ∃ ts : List ByteArray, ts.Perm ss ∧ ts.Pairwise (fun a b => ltX b a = false) ∧ TBlk w' g ts ∧ Go.RowKit.Below B w w' := by
  have hc := AnyM.slices_Sort_string (P := Tryz.prog) sortL g 0 ss.length (ss.map lB) w h.holds h.lt (by simp; omega)
  rw [List.length_map] at hc
  refine Calls.mono (f := 79) hc ?_
  rintro e w' ⟨rfl, n, os, rfl⟩
  have hp : ((ss.map lB).mergeSort (fun x y => decide (x ≤ y))).Perm (ss.map lB) := List.mergeSort_perm _ _
  have hlen : ((ss.map lB).mergeSort (fun x y => decide (x ≤ y))).length = ss.length := by rw [hp.length_eq, List.length_map]
  have hw : ((ss.map lB).mergeSort (fun x y => decide (x ≤ y))).Pairwise (fun a b => decide (a ≤ b) = true) :=
    List.pairwise_mergeSort (fun a b c h1 h2 => by simp only [decide_eq_true_eq] at *; exact List.le_trans h1 h2) (fun a b => by simp only [Bool.or_eq_true, decide_eq_true_eq]; exact List.le_total a b) _
  generalize (ss.map lB).mergeSort (fun x y => decide (x ≤ y)) = zs at *
  have hb1 := putRow_below (B := B) w n zs.toArray hB
  have hb2 := (show TBlk (Go.Sort.ahead w n) g ss from h)
  have hb3 := putRow_blk hb2 zs hlen
  refine ⟨rfl, zs.map bL, ?_, ?_, ?_, ?_⟩
  · have := hp.map bL
    rwa [map_bL] at this
  · rw [List.pairwise_map]
    refine hw.imp fun {a b} hab => ?_
    rw [ltX_bL, bytesLess_eq]
    simp only [decide_eq_true_eq, decide_eq_false_iff_not] at *
    exact List.not_lt.2 hab
  · unfold TBlk
    rw [heap_grow_old _ _ (by exact hb3.lt)]
    exact hb3
  · exact hb1.trans ⟨rfl, rfl, rfl, by rw [size_grow]; exact Nat.le_add_right _ _, fun k hk => heap_grow_old _ _ (by rw [size_putRow]; show k < w.heap.size; have := h.lt; omega)⟩

/-! of neighbours that are the same one is kept -/
structure KeptL (d : Array (List UInt8)) (m : Nat) (out : List (List UInt8)) : Prop where
  rise : out.Pairwise (fun a b => Op.bytesLess a b = true)
  mem : ∀ x, x ∈ out ↔ ∃ j, j < m ∧ d[j]! = x
theorem kept_up (d : Array (List UInt8)) (hw : ∀ i j, i < j → j < d.size → Op.bytesLess d[j]! d[i]! = false) : ∀ m, m ≤ d.size → KeptL d m (Go.Lib.compactUpTo d m)
  | 0, _ => ⟨by simp [Go.Lib.compactUpTo], fun x => by simp [Go.Lib.compactUpTo]⟩
  | m + 1, hm => by
    have ih := kept_up d hw m (by omega)
    rw [Go.Lib.compactUpTo_succ]
    by_cases hk : Go.Lib.keeps d m = true
    · rw [if_pos hk]
      have hk' : m = 0 ∨ d[m]! ≠ d[m - 1]! := by simpa [Go.Lib.keeps] using hk
      constructor
      · rw [List.pairwise_append]
        refine ⟨ih.rise, by simp, fun x hx y hy => ?_⟩
        obtain rfl := List.mem_singleton.1 hy
        obtain ⟨j, hj, rfl⟩ := (ih.mem x).1 hx
        have h1 := hw j m hj (by omega)
        rcases less_tri d[j]! d[m]! with h | h | h
        · exact h
        · exfalso
          rcases hk' with e | e
          · omega
          · apply e
            have h2 := hw (m - 1) m (by omega) (by omega)
            rcases Nat.lt_or_ge j (m - 1) with hjm | hjm
            · have h3 := hw j (m - 1) hjm (by omega)
              rcases less_tri d[m]! d[m - 1]! with k | k | k
              · rw [k] at h2; cases h2
              · exact k
              · rw [h] at h3; rw [k] at h3; cases h3
            · rw [show m - 1 = j by omega, h]
        · rw [h] at h1; cases h1
      · intro x
        rw [List.mem_append, List.mem_singleton, ih.mem]
        constructor
        · rintro (⟨j, hj, e⟩ | rfl)
          · exact ⟨j, by omega, e⟩
          · exact ⟨m, by omega, rfl⟩
        · rintro ⟨j, hj, rfl⟩
          rcases Nat.lt_or_ge j m with h | h
          · exact .inl ⟨j, h, rfl⟩
          · rw [show j = m by omega]; exact .inr rfl
    · rw [if_neg hk, List.append_nil]
      have hk' : m ≠ 0 ∧ d[m]! = d[m - 1]! := by simpa [Go.Lib.keeps] using hk
      refine ⟨ih.rise, fun x => ?_⟩
      rw [ih.mem]
      constructor
      · rintro ⟨j, hj, e⟩; exact ⟨j, by omega, e⟩
      · rintro ⟨j, hj, rfl⟩
        rcases Nat.lt_or_ge j m with h | h
        · exact ⟨j, h, rfl⟩
        · rw [show j = m by omega]; exact ⟨m - 1, by omega, hk'.2.symm⟩

theorem compX (ts : List ByteArray) (g B : Nat) (w : World) (h : TBlk w g ts) (hl : ts.length ≤ 65536) (hB : B ≤ g) (hw : ts.Pairwise (fun a b => ltX b a = false)) :
    Calls Tryz.prog 80 #[.slice (some ⟨g, 0, none⟩) ts.length ts.length] w fun e w' => ∃ out : List ByteArray, e = .returned (.slice (some ⟨g, 0, none⟩) out.length ts.length) ∧ RiseX out ∧ (∀ x, x ∈ out ↔ x ∈ ts) ∧ out.length ≤ ts.length ∧ StrRow w' (some ⟨g, 0, none⟩) out ∧ Go.RowKit.Below B w w' := by
  have hc := AnyG.slices_Compact_string (P := Tryz.prog) compL g 0 ts.length (ts.map lB) w h.holds (by simp; omega) (by simp)
  rw [List.length_map] at hc
  refine Calls.mono (f := 80) hc ?_
  rintro e w' ⟨rfl, q, rfl⟩
  have hk := kept_up (ts.map lB).toArray (fun i j hij hj => by
    have hj2 : j < ts.length := by simpa using hj
    have := List.pairwise_iff_getElem.1 hw i j (by omega) hj2 hij
    rw [getElem!_pos _ j hj, getElem!_pos _ i (by simp; omega)]
    simp only [List.getElem_toArray, List.getElem_map]
    rw [← ltX_bL, bL_lB, bL_lB]
    exact this) ts.length (by simp)
  have hcl : (Go.Lib.compact (ts.map lB)).length ≤ ts.length := by
    unfold Go.Lib.compact Go.Lib.compactUpTo
    rw [List.length_map]
    exact Nat.le_trans (List.length_filter_le _ _) (by simp)
  have e : Go.Lib.compact (ts.map lB) = Go.Lib.compactUpTo (ts.map lB).toArray ts.length := by unfold Go.Lib.compact; rw [List.length_map]
  rw [← e] at hk
  generalize Go.Lib.compact (ts.map lB) = out at *
  have hb2 := (show TBlk (Go.Sort.ahead w q) g ts from h)
  have hb3 := putRow_blk hb2 (out ++ List.replicate (ts.length - out.length) []) (by simp; omega)
  refine ⟨out.map bL, by rw [List.length_map], ?_, ?_, by rw [List.length_map]; exact hcl, ?_, putRow_below w q _ hB⟩
  · unfold RiseX
    rw [List.pairwise_map]
    exact hk.rise.imp fun {a b} hab => by rw [ltX_bL]; exact hab
  · intro x
    rw [List.mem_map]
    constructor
    · rintro ⟨l, hl2, rfl⟩
      obtain ⟨j, hj, rfl⟩ := (hk.mem l).1 hl2
      rw [getElem!_pos _ j (by simp; omega)]
      simp only [List.getElem_toArray, List.getElem_map, bL_lB]
      exact List.getElem_mem _
    · intro hx
      obtain ⟨j, hj, rfl⟩ := List.mem_iff_getElem.1 hx
      refine ⟨lB ts[j], (hk.mem _).2 ⟨j, hj, ?_⟩, bL_lB _⟩
      rw [getElem!_pos _ j (by simp; omega)]
      simp
  · have := hb3.row.take out.length
    rw [List.map_append, List.take_append_of_le_length (by simp), List.take_of_length_le (by simp)] at this
    exact this
end Go.Proofs.YtmnblpjdiplioaaGreat

namespace Go.Proofs.YtmnblpjdiplioaaGreat
set_option linter.unusedSimpArgs false
set_option linter.unusedVariables false
set_option maxRecDepth 100000
open Go.RowKit Go.Sort

set_option maxHeartbeats 2000000 in
theorem elemsC (l : List Ft) (a : Option Addr) (cap : Nat) (w : World) (h : FIn w a l) (hl : l.length ≤ 65536) :
    Calls Tryz.prog 52 #[.slice a l.length cap] w fun e w' => ∃ (g : Nat) (out : List ByteArray), e = .returned (.slice (some ⟨g, 0, none⟩) out.length l.length) ∧ StrRow w' (some ⟨g, 0, none⟩) out ∧ ElemsR l out ∧ out.length ≤ l.length ∧ Below w.heap.size w w' := by
  have HV := Lib.hid (valuesC l a cap w h hl)
  have hlm : (l.map (·.v)).length = l.length := by simp
  clear h
  go_enter Tryz.func52, Tryz.ntmps52
  go_wp2_with fail
  refine HV.out.mono ?_
  rintro e w1 ⟨rfl, ht, hb1⟩
  have hs := sortX (l.map (·.v)) w.heap.size w.heap.size w1 ht (by rw [hlm]; exact hl) (Nat.le_refl _)
  rw [hlm] at hs
  have HS := Lib.hid hs
  have HB1 := Lib.hid hb1
  have HLM := Lib.hid hlm
  clear hs ht hb1 HV hlm
  go_wp2_with fail
  refine HS.out.mono ?_
  rintro e w2 ⟨rfl, ts, hp, hpw, ht, hb2⟩
  have hlt : ts.length = l.length := by rw [hp.length_eq, HLM.out]
  have hc := compX ts w.heap.size w.heap.size w2 ht (by rw [hlt]; exact hl) (Nat.le_refl _) hpw
  rw [hlt] at hc
  have HC := Lib.hid hc
  have HP := Lib.hid hp
  have HB2 := Lib.hid (HB1.out.trans hb2)
  clear hc hp hpw ht hb2 hlt HS
  go_wp2_with fail
  refine HC.out.mono ?_
  rintro e w3 ⟨out, rfl, hr, hm, hol, hrow, hb3⟩
  have HE := Lib.hid (show ElemsR l out from ⟨hr, fun x => by rw [hm, HP.out.mem_iff, List.mem_map]⟩)
  have H3 := Lib.hid (And.intro hrow (And.intro hol (HB2.out.trans hb3)))
  clear hr hm hol hrow hb3 HC
  go_wp2_with fail
  go_ret
  exact ⟨w.heap.size, out, rfl, H3.out.1, HE.out, H3.out.2.1, H3.out.2.2⟩
end Go.Proofs.YtmnblpjdiplioaaGreat
