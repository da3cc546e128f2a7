/-
  almonryref01's reader R: List, Done.
-/
import Derived.Test.YtnhmkccmemepeaaRefRead2
namespace Go.Proofs.Ytnhmkccmemepeaa
open Go.RowKit

/-- Block b is a reader R in the state st. -/
def Qd (b : Nat) (st : ByteArray × Int) (w : World) : Prop := w.heap[b]? = some (.cells #[.string st.1, .int .i64 st.2] 62 (0, 0))

theorem Qd.lt {b : Nat} {st : ByteArray × Int} {w : World} (h : Qd b st w) : b < w.heap.size := lt_of_block h
theorem Qd.left {b : Nat} {st : ByteArray × Int} {w : World} (h : Qd b st w) : w.cell? ⟨b, 0, none⟩ = some (.string st.1) := by rw [Joins.cell_of_block h]; rfl
theorem Qd.err {b : Nat} {st : ByteArray × Int} {w : World} (h : Qd b st w) : w.cell? ⟨b, 1, none⟩ = some (.int .i64 st.2) := by rw [Joins.cell_of_block h]; rfl
theorem Qd.free {b : Nat} {st : ByteArray × Int} {w : World} (h : Qd b st w) (i : Nat) : w.frozen? ⟨b, i, none⟩ = false := Joins.unfrozen_of_block h i
theorem Qd.set {b : Nat} {st : ByteArray × Int} {w : World} (h : Qd b st w) (s : ByteArray) (e : Int) : Qd b (s, e) ((w.setCell ⟨b, 0, none⟩ (.string s)).setCell ⟨b, 1, none⟩ (.int .i64 e)) := by
  have := Joins.block_setCell (Joins.block_setCell h (i := 0) (.string s)) (i := 1) (.int .i64 e); simpa [Qd] using this
theorem Qd.setErr {b : Nat} {st : ByteArray × Int} {w : World} (h : Qd b st w) (e : Int) : Qd b (st.1, e) (w.setCell ⟨b, 1, none⟩ (.int .i64 e)) := by
  have := Joins.block_setCell h (i := 1) (.int .i64 e); simpa [Qd] using this
theorem Qd.below {b B : Nat} {st : ByteArray × Int} {w w' : World} (h : Qd b st w) (hb : Below B w w') (hlt : b < B) : Qd b st w' := by
  unfold Qd; rw [hb.block b hlt]; exact h
theorem Qd.alloc {b : Nat} {st : ByteArray × Int} {w : World} (h : Qd b st w) (o : Obj) : Qd b st (w.alloc o) := by
  unfold Qd; rw [Below.heap_alloc _ _ _ h.lt]; exact h
theorem Qd.grown {b : Nat} {row : Option Nat} {st : ByteArray × Int} {w w' : World} (h : Qd b st w) (hg : w.grownBy w' row) (hne : ∀ j, row = some j → b ≠ j) : Qd b st w' := by
  unfold Qd; rw [hg.block b h.lt (fun e => hne b e.symm rfl)]; exact h
theorem Qd.other {b c i : Nat} {st : ByteArray × Int} {w : World} (h : Qd b st w) (hne : b ≠ c) (v : Value) : Qd b st (w.setCell ⟨c, i, none⟩ v) := by
  unfold Qd; rw [Below.heap_setCell _ _ _ _ hne]; exact h
theorem Qd.made (st : ByteArray × Int) (w : World) : Qd w.heap.size st (w.alloc (.cells #[.string st.1, .int .i64 st.2] 62)) := by
  simp [Qd, World.alloc, -World.alloc_eq]
theorem OwnS.below {B C : Nat} {v : Value} {ss : List ByteArray} {w w' : World} (h : OwnS B v ss w) (hb : Below C w w') (hC : w.heap.size ≤ C) : OwnS B v ss w' := by
  obtain ⟨h1, h2⟩ := h
  refine ⟨h1, ?_⟩
  rcases h2 with h2 | ⟨g, cap, cur, hv, hg, hh, r⟩
  · exact .inl h2
  · exact .inr ⟨g, cap, cur, hv, hg, by rw [hb.block g (by have := lt_of_block hh; omega)]; exact hh, r⟩

theorem OwnS.mono {B C : Nat} {v : Value} {ss : List ByteArray} {w : World} (h : OwnS B v ss w) (hC : C ≤ B) : OwnS C v ss w := by
  obtain ⟨h1, h2⟩ := h
  refine ⟨h1, ?_⟩
  rcases h2 with h2 | ⟨g, cap, cur, hv, hg, hh, r⟩
  · exact .inl h2
  · exact .inr ⟨g, cap, cur, hv, Nat.le_trans hC hg, hh, r⟩

def qListSt (st : ByteArray × Int) : ByteArray × Int := qSt st (sList st).2

/-- What holds of the loop of R's List, the reader's block b, behind some rounds. -/
def ListRel (w : World) (b n : Nat) (st0 : ByteArray × Int) (s1 : ByteArray) (o i : Value) (wr : World) : Prop :=
  Qd w.heap.size st0 wr ∧ Qd (w.heap.size + 1) (⟨#[]⟩, 0) wr ∧ Below w.heap.size w wr ∧ b < wr.heap.size ∧
  ((∃ (k : Nat) (acc : List ByteArray) (sk : ByteArray), i = .int .i64 k ∧ k ≤ n ∧ acc.length = k ∧ sk.size ≤ s1.size ∧ sTexts (n - k) (sk, 0) acc = sTexts n (s1, 0) [] ∧ OwnS (b + 1) o acc wr ∧ Qd b (sk, 0) wr) ∨
   (∃ (k : Nat) (sk s' : ByteArray) (e : Int), i = .int .i64 k ∧ k ≤ n ∧ e ≠ 0 ∧ sTexts n (s1, 0) [] = ([], (s', e)) ∧ Qd b (sk, e) wr))

theorem sList_e {st : ByteArray × Int} {n : Nat} {s1 : ByteArray} {e : Int} (h : sNum st = (n, (s1, e))) (he : e ≠ 0) : sList st = ([], (s1, e)) := by
  have hc : sCount 4096 st = (0, false, (s1, e)) := by simp [sCount, h, he]
  simp [sList, hc]
theorem sList_l {st : ByteArray × Int} {n : Nat} {s1 : ByteArray} (h : sNum st = (n, (s1, 0))) (hn : 4096 < n) : sList st = ([], (s1, 3)) := by
  have hc : sCount 4096 st = (0, false, (s1, 3)) := by simp [sCount, h, hn]
  simp [sList, hc]
theorem sList_k {st : ByteArray × Int} {n : Nat} {s1 : ByteArray} (h : sNum st = (n, (s1, 0))) (hn : ¬ 4096 < n) : sList st = sTexts n (s1, 0) [] := by
  have hc : sCount 4096 st = (n, true, (s1, 0)) := by simp [sCount, h, hn]
  simp [sList, hc]
theorem qd_two {w w1 : World} {x0 : ByteArray} {x1 : Int} {y0 : ByteArray} {y1 : Int} (h : Below ((w.alloc (.cells #[.string x0, .int .i64 x1] 62)).alloc (.cells #[.string y0, .int .i64 y1] 62)).heap.size ((w.alloc (.cells #[.string x0, .int .i64 x1] 62)).alloc (.cells #[.string y0, .int .i64 y1] 62)) w1) : Qd w.heap.size (x0, x1) w1 ∧ Qd (w.heap.size + 1) (y0, y1) w1 := by
  have h0 := (Qd.made (x0, x1) w).alloc (.cells #[.string y0, .int .i64 y1] 62)
  have h1 := Qd.made (y0, y1) (w.alloc (.cells #[.string x0, .int .i64 x1] 62))
  have e : (w.alloc (.cells #[.string x0, .int .i64 x1] 62)).heap.size = w.heap.size + 1 := by simp
  rw [e] at h1
  exact ⟨h0.below h (by simp; omega), h1.below h (by simp)⟩

end Go.Proofs.Ytnhmkccmemepeaa
