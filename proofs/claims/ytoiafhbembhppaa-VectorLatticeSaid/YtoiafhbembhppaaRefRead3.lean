/-
  almonryref01's reader R: List, Done.
-/
import Derived.Test.YtoiafhbembhppaaRefRead2
namespace Go.Proofs.Ytoiafhbembhppaa
open Go.RowKit

theorem OwnS.below {B C : Nat} {v : Value} {ss : List ByteArray} {w w' : World} (h : OwnS B v ss w) (hb : Below C w w') (hC : w.heap.size ≤ C) : OwnS B v ss w' := by
  obtain ⟨h1, h2⟩ := h
  refine ⟨h1, ?_⟩
  rcases h2 with h2 | ⟨g, cap, cur, hv, hg, hh, r⟩
  · exact .inl h2
  · exact .inr ⟨g, cap, cur, hv, hg, by rw [hb.block g (by have := lt_of_block hh; omega)]; exact hh, r⟩

theorem OwnS.mono {B C : Nat} {v : Value} {ss : List ByteArray} {w : World} (h : OwnS B v ss w) (hC : C ≤ B) : OwnS C v ss w := by
  obtain ⟨h1, h2⟩ := h
  refine ⟨h1, ?_⟩
  rcases h2 with h2 | ⟨g, cap, cur, hv, hg, hh, r⟩
  · exact .inl h2
  · exact .inr ⟨g, cap, cur, hv, Nat.le_trans hC hg, hh, r⟩

def qListSt (st : ByteArray × Int) : ByteArray × Int := qSt st (sList st).2

theorem sList_e {st : ByteArray × Int} {n : Nat} {s1 : ByteArray} {e : Int} (h : sNum st = (n, (s1, e))) (he : e ≠ 0) : sList st = ([], (s1, e)) := by
  have hc : sCount 4096 st = (0, false, (s1, e)) := by simp [sCount, h, he]
  simp [sList, hc]
theorem sList_l {st : ByteArray × Int} {n : Nat} {s1 : ByteArray} (h : sNum st = (n, (s1, 0))) (hn : 4096 < n) : sList st = ([], (s1, 3)) := by
  have hc : sCount 4096 st = (0, false, (s1, 3)) := by simp [sCount, h, hn]
  simp [sList, hc]
theorem sList_k {st : ByteArray × Int} {n : Nat} {s1 : ByteArray} (h : sNum st = (n, (s1, 0))) (hn : ¬ 4096 < n) : sList st = sTexts n (s1, 0) [] := by
  have hc : sCount 4096 st = (n, true, (s1, 0)) := by simp [sCount, h, hn]
  simp [sList, hc]
end Go.Proofs.Ytoiafhbembhppaa
