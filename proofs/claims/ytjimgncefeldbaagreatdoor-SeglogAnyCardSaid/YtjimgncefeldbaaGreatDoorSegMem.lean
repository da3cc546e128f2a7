/-
  seglog.Log in memory.
-/
import Derived.Test.YtjimgncefeldbaaGreatDoorSegPlain
import Derived.Test.YtjimgncefeldbaaGreatDoorGFrame
import Derived.Test.YtjimgncefeldbaaGreatDoorGWireB
import Derived.Test.YtjimgncefeldbaaGreatDoorGSerA
namespace Go.Proofs.YtjimgncefeldbaaGreatDoor
open Go.RowKit

/-- Block L is a log. -/
def LogC (L D g : Nat) (base : ByteArray) (rv : Value) (en : Bool) (w : World) : Prop :=
  w.heap[L]? = some (.cells #[.pointer (some ⟨D, 0, none⟩), .pointer (some ⟨D, 0, none⟩), .string logB, .int .i64 (g : Int), .string base, rv, .bool en] 75 (0, 0))

section
variable {L D g : Nat} {base : ByteArray} {rv : Value} {en : Bool} {w w' : World}
theorem LogC.lt (h : LogC L D g base rv en w) : L < w.heap.size := lt_of_block h
theorem LogC.c0 (h : LogC L D g base rv en w) : w.cell? ⟨L, 0, none⟩ = some (.pointer (some ⟨D, 0, none⟩)) := by rw [Joins.cell_of_block h]; rfl
theorem LogC.c1 (h : LogC L D g base rv en w) : w.cell? ⟨L, 1, none⟩ = some (.pointer (some ⟨D, 0, none⟩)) := by rw [Joins.cell_of_block h]; rfl
theorem LogC.c2 (h : LogC L D g base rv en w) : w.cell? ⟨L, 2, none⟩ = some (.string logB) := by rw [Joins.cell_of_block h]; rfl
theorem LogC.c3 (h : LogC L D g base rv en w) : w.cell? ⟨L, 3, none⟩ = some (.int .i64 (g : Int)) := by rw [Joins.cell_of_block h]; rfl
theorem LogC.c4 (h : LogC L D g base rv en w) : w.cell? ⟨L, 4, none⟩ = some (.string base) := by rw [Joins.cell_of_block h]; rfl
theorem LogC.c5 (h : LogC L D g base rv en w) : w.cell? ⟨L, 5, none⟩ = some rv := by rw [Joins.cell_of_block h]; rfl
theorem LogC.c6 (h : LogC L D g base rv en w) : w.cell? ⟨L, 6, none⟩ = some (.bool en) := by rw [Joins.cell_of_block h]; rfl
theorem LogC.free (h : LogC L D g base rv en w) (i : Nat) : w.frozen? ⟨L, i, none⟩ = false := Joins.unfrozen_of_block h i
theorem LogC.below {B : Nat} (h : LogC L D g base rv en w) (hb : Below B w w') (hL : L < B) : LogC L D g base rv en w' := by unfold LogC; rw [hb.block L hL]; exact h
theorem LogC.keep (h : LogC L D g base rv en w) (hb : Below w.heap.size w w') : LogC L D g base rv en w' := h.below hb h.lt
theorem LogC.fr {b1 b2 : List Nat} (h : LogC L D g base rv en w) (hf : Fr b1 b2 w w') (hL : L ∉ b1) : LogC L D g base rv en w' := by unfold LogC; rw [hf.block L h.lt hL]; exact h
theorem LogC.setGen (h : LogC L D g base rv en w) (n : Nat) : LogC L D n base rv en (w.setCell ⟨L, 3, none⟩ (.int .i64 (n : Int))) := by
  have := Joins.block_setCell h (i := 3) (.int .i64 (n : Int)); simpa [LogC] using this
theorem LogC.setBase (h : LogC L D g base rv en w) (s : ByteArray) : LogC L D g s rv en (w.setCell ⟨L, 4, none⟩ (.string s)) := by
  have := Joins.block_setCell h (i := 4) (.string s); simpa [LogC] using this
theorem LogC.setRecs (h : LogC L D g base rv en w) (v : Value) : LogC L D g base v en (w.setCell ⟨L, 5, none⟩ v) := by
  have := Joins.block_setCell h (i := 5) v; simpa [LogC] using this
theorem LogC.setEnd (h : LogC L D g base rv en w) (b : Bool) : LogC L D g base rv b (w.setCell ⟨L, 6, none⟩ (.bool b)) := by
  have := Joins.block_setCell h (i := 6) (.bool b); simpa [LogC] using this
end

theorem segNumber (D : Nat) (g : Nat) (hg : g < 12) (w : World) : Calls Tryz.prog 81 #[sv D logB, .string (genB g)] w fun e w' => e = .returned (.int .i64 (g : Int)) ∧ Below w.heap.size w w' :=
  number_gen D logB log_ok g (by omega) w
theorem segFile (D : Nat) (g : Nat) (hg : g < 12) (w : World) (ht : Pows w) (gp : 5 < w.heap.size) : Calls Tryz.prog 67 #[sv D logB, .int .i64 (g : Int)] w fun e w' => e = .returned (.string (genB g)) ∧ Below w.heap.size w w' :=
  file_any D logB log_ok w ht gp g (by omega)
theorem segFresh (D : Nat) (w : World) : Calls Tryz.prog 52 #[sv D logB] w fun e w' => e = .returned (.string newB) ∧ Below w.heap.size w w' := by
  have h := fresh_any D logB log_ok w
  rw [newB_eq] at h
  exact h
end Go.Proofs.YtjimgncefeldbaaGreatDoor
