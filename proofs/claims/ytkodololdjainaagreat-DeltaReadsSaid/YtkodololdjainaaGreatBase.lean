/-
  What the walks of all stages share: rows of bytes that a call owns, texts made of them, worlds that only draws have moved.
-/
import Derived.Test.YtkodololdjainaaGreatRows
import Derived.WalkKit
import Derived.WalkSpells
import Derived.WalkLawsBesides
import Derived.Lib.Hide
import Derived.Lib.SmallJoins
import Derived.Lib.SlBytesRow
import Derived.Lib.BufferRead
import Derived.Lib.Varint
import Derived.Lib.VarintMem
import Derived.Lib.IndexBytes
import Derived.Deep.QuietTactic
import Derived.BigQuiet
import Derived.Laws.ResultCell
namespace Go.Proofs.YtkodololdjainaaGreat
open Go.RowKit

theorem bytesInfo : (Tryz.prog.info? 5).map (fun i => (i.zero, i.size, i.bytes)) = some (some (.int .u8 0), 1, 1) := by kernel_rfl

/-- The slice v is the call's own, and holds the bytes l. -/
def OwnB (B : Nat) (v : Value) (l : List UInt8) (w : World) : Prop := w.ownsRow B 5 1 v l.length (Lib.byteCells l)

theorem ownB_nil (B : Nat) (w : World) : OwnB B (.slice none 0 0) [] w := World.ownsRow_nil _ _ _ _

theorem ownB_more {w : World} {B a : Nat} {v : Value} {l : List UInt8} {i : Int} (ha : a < 256) (hi : i = (a : Int)) (h : w.ownsRow B 5 1 v (l.length + 1) (Lib.byteCells l ++ [Value.int .u8 i])) : OwnB B v (l ++ [UInt8.ofNat a]) w := by
  have e : UInt8.ofNat a = a.toUInt8 := rfl
  unfold OwnB
  rw [e, Lib.byteCells_snoc l ha, List.length_append, List.length_singleton, ← hi]
  exact h

theorem own_string {P : Program} {w : World} {B e : Nat} {src dst : TypeId} {v : Value} {l : List UInt8} (hs : P.underlying src = some (.slice e)) (he : P.underlying e = some (.int .u8)) (hd : P.underlying dst = some .string)
    (h : w.ownsRow B e 1 v l.length (Lib.byteCells l)) : (convert src dst v).run P w = .ok (.string ⟨l.toArray⟩) w := by
  obtain ⟨hl, hv⟩ := h
  rcases hv with ⟨rfl, h0⟩ | ⟨g, cap, cur, rfl, _, hg, hn, _, _, htk⟩
  · obtain rfl : l = [] := List.length_eq_zero_iff.1 h0
    exact Lib.run_convert_nil_bytes w src dst e 0 hs he hd
  · have hc : Lib.Bytes w g 0 ⟨l.toArray⟩ := by
      intro i hi
      have hi' : i < l.length := hi
      have h2 := Lib.bytes_of_row (l := l) hg (by simpa using htk) i hi'
      have e1 : (⟨g, 0, none⟩ : Addr).add i = ⟨g, 0 + i, none⟩ := by cases i <;> simp [Addr.add]
      rw [e1] at h2
      exact h2
    exact Lib.run_convert_whole (P := P) w src e dst hs he hd g 0 ⟨l.toArray⟩ hc cap

theorem own_text {w : World} {B : Nat} {v : Value} {l : List UInt8} (h : OwnB B v l w) : (convert 90 9 v).run Tryz.prog w = .ok (.string ⟨l.toArray⟩) w := by
  obtain ⟨hl, hv⟩ := h
  rcases hv with ⟨rfl, h0⟩ | ⟨g, cap, cur, rfl, _, hg, hn, _, _, htk⟩
  · obtain rfl : l = [] := List.length_eq_zero_iff.1 h0
    exact Lib.run_convert_nil_bytes w 90 9 5 0 Tryz.underlying90 Tryz.underlying5 Tryz.underlying9
  · have hc : Lib.Bytes w g 0 ⟨l.toArray⟩ := by
      intro i hi
      have hi' : i < l.length := hi
      have h2 := Lib.bytes_of_row (l := l) hg (by simpa using htk) i hi'
      have e1 : (⟨g, 0, none⟩ : Addr).add i = ⟨g, 0 + i, none⟩ := by cases i <;> simp [Addr.add]
      rw [e1] at h2
      exact h2
    exact Lib.run_convert_whole (P := Tryz.prog) w 90 5 9 Tryz.underlying90 Tryz.underlying5 Tryz.underlying9 g 0 ⟨l.toArray⟩ hc cap

set_option maxRecDepth 100000 in
/-- a new row of c bytes 0, the first of them n -/
theorem make_bytes (n c : Nat) (L C : Int) (hL : L = (n : Int)) (hC : C = (c : Int)) (hnc : n ≤ c) (hc : c ≤ 65536) (W : World) :
    (Instr.makeSlice 90 (.int .i64 L) (.int .i64 C)).run Tryz.prog W = .ok (.slice (some ⟨W.heap.size, 0, none⟩) n c) (W.alloc (.cells (List.replicate c (Value.int .u8 0)).toArray 5)) := by
  obtain ⟨i0, hi, hz0, hz1, hz2⟩ := info_parts bytesInfo
  subst hL hC
  have h := run_make (P := Tryz.prog) (w := W) 90 5 i0 (.int .u8 0) Tryz.underlying90 hi hz0 .i64 .i64 (n : Int) (c : Int) (by omega) (by omega) (by rw [hz2]; omega) (by omega)
  rw [h, hz1]
  congr 3
  apply Array.ext_getElem?
  intro j
  simp [madeCells]
  by_cases hj : j < c
  · simp [hj, Value.cells, Nat.mod_one]
  · simp [hj]

theorem own_made (W : World) (z c : Nat) (hz : z + 1 ≤ c) (hc : c ≤ 65536) (a : Nat) (ha : a < 256) :
    OwnB W.heap.size (.slice (some ⟨W.heap.size, 0, none⟩) (z + 1) c) (UInt8.ofNat a :: List.replicate z 0) (W.alloc (.cells ((List.replicate c (Value.int .u8 0)).toArray.setIfInBounds 0 (.int .u8 (a : Int))) 5)) := by
  refine ⟨by simp [Lib.byteCells], .inr ⟨_, c, _, by simp, Nat.le_refl _, heap_alloc_new W _, by simpa using hz, by unfold maxLen; omega, by simp, ?_⟩⟩
  have e : ((List.replicate c (Value.int .u8 0)).toArray.setIfInBounds 0 (.int .u8 (a : Int))).toList = Value.int .u8 (a : Int) :: List.replicate (c - 1) (Value.int .u8 0) := by
    obtain ⟨d, rfl⟩ : ∃ d, c = d + 1 := ⟨c - 1, by omega⟩
    simp [List.replicate_succ]
  rw [e]
  have e2 : (UInt8.ofNat a :: List.replicate z (0 : UInt8)).length * 1 = z + 1 := by simp
  rw [e2, List.take_succ_cons, List.take_replicate, show min z (c - 1) = z from by omega]
  have e3 : (UInt8.ofNat a).toNat = a := by simp; omega
  simp [Lib.byteCells, e3]

/-- a callee that leaves the world alone, met in a region that only reads: at its first draws, and behind others -/
theorem still1 {f : FuncId} {args : Array Value} {w : World} {n : Nat} {v : Value} (h : Calls Tryz.prog f args (w.drewN n) fun e w' => e = .returned v ∧ w.drewN n = w') :
    Calls Tryz.prog f args (w.drewN n) fun e w' => e = .returned v ∧ ∃ m, w' = w.drewN m := h.mono fun _ _ hh => ⟨hh.1, n, hh.2.symm⟩

theorem still2 {f : FuncId} {args : Array Value} {w : World} {k n : Nat} {v : Value} (h : Calls Tryz.prog f args (w.drewN (k + n)) fun e w' => e = .returned v ∧ w.drewN (k + n) = w') :
    Calls Tryz.prog f args (w.drewN (k + n)) fun e w' => e = .returned v ∧ ∃ m, w' = w.drewN (k + m) := h.mono fun _ _ hh => ⟨hh.1, n, hh.2.symm⟩

theorem belowN {B : Nat} {a w : World} (h : Below B a w) (n : Nat) : Below B a (w.drewN n) := ⟨h.os, h.tape, h.output, h.size, h.block⟩

theorem some_str {t : ByteArray} (h : 0 < t.size) : t.toList.isEmpty = false ∧ (t.toList = []) = False := by
  rw [ByteArray.toList_eq]
  have h2 : t.data.toList.length = t.size := by simp
  cases h3 : t.data.toList with
  | nil => rw [h3] at h2; simp at h2; omega
  | cons x r => exact ⟨rfl, by simp⟩

theorem no_str {t : ByteArray} (h : t.size = 0) : t.toList.isEmpty = true ∧ t.toList = [] := by
  rw [ByteArray.toList_eq]
  have h2 : t.data.toList.length = t.size := by simp
  have h3 : t.data.toList = [] := List.length_eq_zero_iff.1 (by omega)
  rw [h3]; exact ⟨rfl, rfl⟩

theorem drop_str (t : ByteArray) (k : Nat) : (t.extract k t.size).data.toList = t.data.toList.drop k := Lib.extract_to_end t k

theorem belowReads {W w1 : World} (hb : Below W.heap.size W w1) : (∀ b o, b < W.heap.size → w1.cell? ⟨b, o, none⟩ = W.cell? ⟨b, o, none⟩) ∧ (∀ b o, b < W.heap.size → w1.frozen? ⟨b, o, none⟩ = W.frozen? ⟨b, o, none⟩) ∧ W.heap.size ≤ w1.heap.size :=
  ⟨fun _ _ h => hb.cell h, fun _ _ h => hb.frozen h, hb.size⟩

theorem undrew {B : Nat} {w w1 : World} (h : Below B w.drew w1) : Below B w w1 := ⟨h.os, h.tape, h.output, h.size, h.block⟩

theorem own_empty (W : World) : OwnB W.heap.size (.slice (some ⟨W.heap.size, 0, none⟩) 0 32) [] (W.alloc (.cells (List.replicate 32 (Value.int .u8 0)).toArray 5)) :=
  ⟨by simp [Lib.byteCells], .inr ⟨_, 32, _, by simp, Nat.le_refl _, heap_alloc_new W _, by simp, by unfold maxLen; omega, by simp, by simp [Lib.byteCells]⟩⟩

theorem ownB_form {B : Nat} {v : Value} {l : List UInt8} {w : World} (h : OwnB B v l w) (hl : 0 < l.length) : ∃ g cap, v = .slice (some ⟨g, 0, none⟩) l.length cap := Joins.ownsRow_form h hl

def lenOf : Value → Nat | .slice _ l _ => l | _ => 0

theorem belowRow {B : Nat} {a w : World} (h : Below B a w) {g : Nat} (hg : B ≤ g) (c : Array Value) : Below B a (w.setRow g c) :=
  h.trans ⟨rfl, rfl, rfl, by simp, fun k hk => setRow_other w g k c (by omega)⟩

/-- The slice's elements are the texts ss. -/
def StrRow (w : World) (a : Option Addr) (ss : List ByteArray) : Prop :=
  ss = [] ∨ ∃ b off, a = some ⟨b, off, none⟩ ∧ b < w.heap.size ∧ ∀ j, j < ss.length → w.cell? ⟨b, off + j, none⟩ = some (.string (ss.getD j ByteArray.empty))

theorem StrRow.below {w w' : World} {a : Option Addr} {ss : List ByteArray} (h : StrRow w a ss) (hb : Below w.heap.size w w') : StrRow w' a ss := by
  rcases h with h | ⟨b, off, rfl, hlt, hc⟩
  · exact .inl h
  · exact .inr ⟨b, off, rfl, Nat.lt_of_lt_of_le hlt hb.size, fun j hj => by rw [hb.cell (p := ⟨b, off + j, none⟩) hlt]; exact hc j hj⟩
end Go.Proofs.YtkodololdjainaaGreat
