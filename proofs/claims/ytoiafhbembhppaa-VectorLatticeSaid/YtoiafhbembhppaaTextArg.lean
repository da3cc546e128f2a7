/-
  A slice of texts that came in, with its capacity; a row of numbers that a call owns.
-/
import Derived.Test.YtoiafhbembhppaaKit
import Derived.Test.YtoiafhbembhppaaTextRow
import Derived.Laws.OwnMore
namespace Go.Proofs.Ytoiafhbembhppaa
set_option maxRecDepth 100000
open Go.ChangeShapes Go.WideShapes Go.ChangeAt Go.RowKit
open Go.ChangeMaps (open_string shut_string)

/-- A slice of texts that came in: its elements are the texts ss, and it has room for cap. -/
def StrArgC (w : World) (a : Option Addr) (len cap : Nat) (ss : List ByteArray) : Prop := StrArg w a len ss ∧ len ≤ cap ∧ cap ≤ maxLen

theorem strArgC_of {H : Type} {enc : TypeId × Value → H} {P : Program} {w : World} {t e : TypeId} {a : Option Addr} {len cap : Nat} {d : DataW H} {p : List MemPlace}
    (ht : P.underlying t = some (.slice e)) (he : P.underlying e = some .string) (hc : P.cellsOf e = 1)
    (h : DataW.Trod enc P w 0 (fun _ => true) true t (.slice a len cap) d p) : ∃ ss, StrArgC w a len cap ss := by
  obtain ⟨ss, hs⟩ := strArg_of ht he hc h
  refine ⟨ss, hs, ?_⟩
  obtain ⟨fuel, hf⟩ := h
  rcases open_strings ht he hc hf with ⟨hcs, _⟩ | ⟨x, l, c, ss, hcs, _, hl, hm, _⟩
  · simp [Value.cells] at hcs
    obtain ⟨rfl, rfl, rfl⟩ := hcs
    simp
  · simp [Value.cells] at hcs
    obtain ⟨rfl, rfl, rfl⟩ := hcs
    exact ⟨hl, hm⟩

theorem intInfo : (Try.prog.info? 3).map (fun i => (i.zero, i.size, i.bytes)) = some (some (.int .i64 0), 1, 8) := by kernel_rfl

/-- The slice v is the call's own, and holds the numbers zs. -/
def OwnI (B : Nat) (v : Value) (zs : List Nat) (w : World) : Prop := w.ownsRow B 3 1 v zs.length (zs.map fun z => Value.int .i64 (z : Nat))
theorem ownI_nil (B : Nat) (w : World) : OwnI B (.slice none 0 0) [] w := World.ownsRow_nil _ _ _ _
/-- The slice's elements are the numbers zs. -/
def IntRow (w : World) (a : Option Addr) (zs : List Nat) : Prop :=
  zs = [] ∨ ∃ g, a = some ⟨g, 0, none⟩ ∧ g < w.heap.size ∧ ∀ j, j < zs.length → w.cell? ⟨g, j, none⟩ = some (.int .i64 (zs.getD j 0 : Nat))
theorem ownI_row {B : Nat} {v : Value} {zs : List Nat} {w : World} (h : OwnI B v zs w) : ∃ a cap, v = .slice a zs.length cap ∧ IntRow w a zs ∧ zs.length ≤ cap ∧ cap ≤ maxLen := by
  have h' := h
  obtain ⟨_, hv⟩ := h
  rcases hv with ⟨rfl, h0⟩ | ⟨g, cap, cur, rfl, hB, hg, hn, hm, hs, htk⟩
  · exact ⟨none, 0, by rw [h0], .inl (List.length_eq_zero_iff.1 h0), by omega, by simp [maxLen]⟩
  · refine ⟨_, cap, rfl, .inr ⟨g, rfl, lt_of_block hg, fun j hj => ?_⟩, hn, hm⟩
    rw [World.ownsRow.cellAt h' j (by omega), List.getElem?_map, List.getD_eq_getElem?_getD, List.getElem?_eq_getElem hj]; rfl
theorem IntRow.below {w w' : World} {a : Option Addr} {zs : List Nat} (h : IntRow w a zs) (hb : Below w.heap.size w w') : IntRow w' a zs := by
  rcases h with h | ⟨g, rfl, hlt, hc⟩
  · exact .inl h
  · exact .inr ⟨g, rfl, Nat.lt_of_lt_of_le hlt hb.size, fun j hj => by rw [hb.cell (p := ⟨g, j, none⟩) hlt]; exact hc j hj⟩
theorem OwnI.below {B C : Nat} {v : Value} {zs : List Nat} {w w' : World} (h : OwnI B v zs w) (hb : Below C w w') (hC : w.heap.size ≤ C) : OwnI B v zs w' := by
  obtain ⟨h1, h2⟩ := h
  refine ⟨h1, ?_⟩
  rcases h2 with h2 | ⟨g, cap, cur, hv, hg, hh, r⟩
  · exact .inl h2
  · exact .inr ⟨g, cap, cur, hv, hg, by rw [hb.block g (by have := lt_of_block hh; omega)]; exact hh, r⟩
theorem StrRow.take {w : World} {a : Option Addr} {ss : List ByteArray} (h : StrRow w a ss) (m : Nat) : StrRow w a (ss.take m) := by
  rcases h with h | ⟨b, off, rfl, hlt, hc⟩
  · exact .inl (by rw [h]; simp)
  · exact .inr ⟨b, off, rfl, hlt, fun j hj => by
      rw [List.length_take] at hj
      rw [hc j (by omega), List.getD_eq_getElem?_getD, List.getD_eq_getElem?_getD, List.getElem?_take_of_lt (by omega)]⟩
end Go.Proofs.Ytoiafhbembhppaa
