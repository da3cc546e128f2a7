/-
  almonryref01's reader R: Text, List, Done.
-/
import Derived.Test.YtoiafhbembhppaaRefRead
import Derived.BigRegion
import Derived.RegionTactic
import Derived.ChangeAlike
namespace Go.Proofs.Ytoiafhbembhppaa
open Go.RowKit

/-- the state that R hands on: on an error, what was left ahead -/
def qSt (st st' : ByteArray × Int) : ByteArray × Int := if st'.2 = 0 then st' else (st.1, st'.2)

theorem sText_e {st : ByteArray × Int} {n : Nat} {s1 : ByteArray} {e : Int} (h : sNum st = (n, (s1, e))) (he : e ≠ 0) : sText st = (ByteArray.empty, (s1, e)) := by
  have hc : sCount 65536 st = (0, false, (s1, e)) := by simp [sCount, h, he]
  simp [sText, hc]
theorem sText_l {st : ByteArray × Int} {n : Nat} {s1 : ByteArray} (h : sNum st = (n, (s1, 0))) (hn : 65536 < n) : sText st = (ByteArray.empty, (s1, 3)) := by
  have hc : sCount 65536 st = (0, false, (s1, 3)) := by simp [sCount, h, hn]
  simp [sText, hc]
theorem sText_c {st : ByteArray × Int} {n : Nat} {s1 : ByteArray} (h : sNum st = (n, (s1, 0))) (hn : ¬ 65536 < n) (hs : s1.size < n) : sText st = (ByteArray.empty, (s1, 4)) := by
  have hc : sCount 65536 st = (n, true, (s1, 0)) := by simp [sCount, h, hn]
  simp [sText, hc, hs]
theorem sText_k {st : ByteArray × Int} {n : Nat} {s1 : ByteArray} (h : sNum st = (n, (s1, 0))) (hn : ¬ 65536 < n) (hs : ¬ s1.size < n) : sText st = (s1.extract 0 n, (s1.extract n s1.size, 0)) := by
  have hc : sCount 65536 st = (n, true, (s1, 0)) := by simp [sCount, h, hn]
  simp [sText, hc, hs]

/-- two blocks of two cells, made ahead of a call that leaves them alone -/
theorem two_keep {w w1 : World} {T : TypeId} {x0 x1 y0 y1 : Value} (h : Below ((w.alloc (.cells #[x0, x1] T)).alloc (.cells #[y0, y1] T)).heap.size ((w.alloc (.cells #[x0, x1] T)).alloc (.cells #[y0, y1] T)) w1) :
    w1.cell? ⟨w.heap.size, 0, none⟩ = some x0 ∧ w1.cell? ⟨w.heap.size, 1, none⟩ = some x1 ∧ w1.cell? ⟨w.heap.size + 1, 0, none⟩ = some y0 ∧ w1.cell? ⟨w.heap.size + 1, 1, none⟩ = some y1 ∧
    w1.frozen? ⟨w.heap.size + 1, 0, none⟩ = false ∧ w1.frozen? ⟨w.heap.size + 1, 1, none⟩ = false ∧ w.heap.size + 1 < w1.heap.size ∧ Below w.heap.size w w1 := by
  have hz := h.size
  have e0 : ((w.alloc (.cells #[x0, x1] T)).alloc (.cells #[y0, y1] T)).heap[w.heap.size]? = some (.cells #[x0, x1] T (0, 0)) := by
    rw [Below.heap_alloc _ _ _ (by simp)]; simp [World.alloc, -World.alloc_eq]
  have e1 : ((w.alloc (.cells #[x0, x1] T)).alloc (.cells #[y0, y1] T)).heap[w.heap.size + 1]? = some (.cells #[y0, y1] T (0, 0)) := by
    show ((w.heap.push _).push _)[w.heap.size + 1]? = _
    have : w.heap.size + 1 = (w.heap.push (.cells #[x0, x1] T)).size := by simp
    rw [this, Array.getElem?_push_size]
  have h0 : w1.heap[w.heap.size]? = some (.cells #[x0, x1] T (0, 0)) := by rw [h.block _ (by simp; omega)]; exact e0
  have h1 : w1.heap[w.heap.size + 1]? = some (.cells #[y0, y1] T (0, 0)) := by rw [h.block _ (by simp)]; exact e1
  refine ⟨by rw [Joins.cell_of_block h0]; rfl, by rw [Joins.cell_of_block h0]; rfl, by rw [Joins.cell_of_block h1]; rfl, by rw [Joins.cell_of_block h1]; rfl, Joins.unfrozen_of_block h1 0, Joins.unfrozen_of_block h1 1, by simp at hz; omega, (below2 w _ _).trans (h.mono (by simp; omega))⟩

/-- a result of two cells, stored, and a block made behind it -/
theorem ends0 {w : World} {b : Nat} {y0 y1 : Value} (h0 : w.cell? ⟨b, 0, none⟩ = some y0) (_h1 : w.cell? ⟨b, 1, none⟩ = some y1) (hlt : b < w.heap.size) (x0 x1 : Value) (o : Obj) :
    (((w.setCell ⟨b, 0, none⟩ x0).setCell ⟨b, 1, none⟩ x1).alloc o).cell? ⟨b, 0, none⟩ = some x0 := by
  rw [World.cell?_alloc_past _ _ _ (by simpa using hlt), World.cell?_setCell_other _ _ _ _ (by simp), World.cell?_setCell_same _ _ _ h0]
theorem ends1 {w : World} {b : Nat} {y0 y1 : Value} (_h0 : w.cell? ⟨b, 0, none⟩ = some y0) (h1 : w.cell? ⟨b, 1, none⟩ = some y1) (hlt : b < w.heap.size) (x0 x1 : Value) (o : Obj) :
    (((w.setCell ⟨b, 0, none⟩ x0).setCell ⟨b, 1, none⟩ x1).alloc o).cell? ⟨b, 1, none⟩ = some x1 := by
  rw [World.cell?_alloc_past _ _ _ (by simpa using hlt), World.cell?_setCell_same _ _ _ ((World.cell?_setCell_other _ _ _ _ (by simp)).trans h1)]

end Go.Proofs.Ytoiafhbembhppaa
