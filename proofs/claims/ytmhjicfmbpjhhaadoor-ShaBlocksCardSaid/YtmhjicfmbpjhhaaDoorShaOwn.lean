/-
  Rows of bytes that a call owns, and texts made of them.
-/
import Derived.Test.YtmhjicfmbpjhhaaDoorShaBlkR
import Derived.Lib.SlBytesRow
import Derived.Lib.BufferRead
import Derived.Lib.Varint
import Derived.Lib.VarintMem
namespace Go.Proofs.YtmhjicfmbpjhhaaDoor
open Go.RowKit

theorem bytesInfo : (Tryd.prog.info? 5).map (fun i => (i.zero, i.size, i.bytes)) = some (some (.int .u8 0), 1, 1) := by kernel_rfl

/-- The slice v is the call's own, and holds the bytes l. -/
def OwnB (B : Nat) (v : Value) (l : List UInt8) (w : World) : Prop := w.ownsRow B 5 1 v l.length (Lib.byteCells l)

theorem ownB_nil (B : Nat) (w : World) : OwnB B (.slice none 0 0) [] w := World.ownsRow_nil _ _ _ _

theorem ownB_more {w : World} {B a : Nat} {v : Value} {l : List UInt8} {i : Int} (ha : a < 256) (hi : i = (a : Int)) (h : w.ownsRow B 5 1 v (l.length + 1) (Lib.byteCells l ++ [Value.int .u8 i])) : OwnB B v (l ++ [UInt8.ofNat a]) w := by
  have e : UInt8.ofNat a = a.toUInt8 := rfl
  unfold OwnB
  rw [e, Lib.byteCells_snoc l ha, List.length_append, List.length_singleton, ← hi]
  exact h

theorem own_string {w : World} {B : Nat} {v : Value} {l : List UInt8} (h : OwnB B v l w) : (convert 31 9 v).run Tryd.prog w = .ok (.string ⟨l.toArray⟩) w := by
  obtain ⟨hl, hv⟩ := h
  rcases hv with ⟨rfl, h0⟩ | ⟨g, cap, cur, rfl, _, hg, hn, _, _, htk⟩
  · obtain rfl : l = [] := List.length_eq_zero_iff.1 h0
    exact Lib.run_convert_nil_bytes w 31 9 5 0 Tryd.underlying31 Tryd.underlying5 Tryd.underlying9
  · have hc : Lib.Bytes w g 0 ⟨l.toArray⟩ := by
      intro i hi
      have hi' : i < l.length := hi
      have h2 := Lib.bytes_of_row (l := l) hg (by simpa using htk) i hi'
      have e1 : (⟨g, 0, none⟩ : Addr).add i = ⟨g, 0 + i, none⟩ := by cases i <;> simp [Addr.add]
      rw [e1] at h2
      exact h2
    exact Lib.run_convert_whole (P := Tryd.prog) w 31 5 9 Tryd.underlying31 Tryd.underlying5 Tryd.underlying9 g 0 ⟨l.toArray⟩ hc cap

/-- a new row of c bytes 0, the first of them n -/
theorem make_bytes (n c : Nat) (L C : Int) (hL : L = (n : Int)) (hC : C = (c : Int)) (hnc : n ≤ c) (hc : c ≤ 65536) (W : World) :
    (Instr.makeSlice 31 (.int .i64 L) (.int .i64 C)).run Tryd.prog W = .ok (.slice (some ⟨W.heap.size, 0, none⟩) n c) (W.alloc (.cells (List.replicate c (Value.int .u8 0)).toArray 5)) := by
  obtain ⟨i0, hi, hz0, hz1, hz2⟩ := info_parts bytesInfo
  subst hL hC
  have h := run_make (P := Tryd.prog) (w := W) 31 5 i0 (.int .u8 0) Tryd.underlying31 hi hz0 .i64 .i64 (n : Int) (c : Int) (by omega) (by omega) (by rw [hz2]; omega) (by omega)
  rw [h, hz1]
  congr 3
  apply Array.ext_getElem?
  intro j
  simp [madeCells]
  by_cases hj : j < c
  · simp [hj, Value.cells, Nat.mod_one]
  · simp [hj]

theorem own_made (W : World) (z c : Nat) (hz : z + 1 ≤ c) (hc : c ≤ 65536) (a : Nat) (ha : a < 256) :
    OwnB W.heap.size (.slice (some ⟨W.heap.size, 0, none⟩) (z + 1) c) (UInt8.ofNat a :: List.replicate z 0) (W.alloc (.cells ((List.replicate c (Value.int .u8 0)).toArray.setIfInBounds 0 (.int .u8 (a : Int))) 5)) := by
  refine ⟨by simp [Lib.byteCells], .inr ⟨_, c, _, by simp, Nat.le_refl _, heap_alloc_new W _, by simpa using hz, by unfold maxLen; omega, by simp, ?_⟩⟩
  have e : ((List.replicate c (Value.int .u8 0)).toArray.setIfInBounds 0 (.int .u8 (a : Int))).toList = Value.int .u8 (a : Int) :: List.replicate (c - 1) (Value.int .u8 0) := by
    obtain ⟨d, rfl⟩ : ∃ d, c = d + 1 := ⟨c - 1, by omega⟩
    simp [List.replicate_succ]
  rw [e]
  have e2 : (UInt8.ofNat a :: List.replicate z (0 : UInt8)).length * 1 = z + 1 := by simp
  rw [e2, List.take_succ_cons, List.take_replicate, show min z (c - 1) = z from by omega]
  have e3 : (UInt8.ofNat a).toNat = a := by simp; omega
  simp [Lib.byteCells, e3]
end Go.Proofs.YtmhjicfmbpjhhaaDoor
