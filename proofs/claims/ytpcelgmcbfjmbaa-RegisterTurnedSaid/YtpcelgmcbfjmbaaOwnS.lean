/-
  Rows of texts that a call owns: kept by what lies below, and by a lower base. (As in RefRead3, for seats that lack the document's List.)
-/
import Derived.Test.YtpcelgmcbfjmbaaWireRList
namespace Go.Proofs.Ytpcelgmcbfjmbaa
open Go.RowKit

theorem OwnS.below {B C : Nat} {v : Value} {ss : List ByteArray} {w w' : World} (h : OwnS B v ss w) (hb : Below C w w') (hC : w.heap.size ≤ C) : OwnS B v ss w' := by
  obtain ⟨h1, h2⟩ := h
  refine ⟨h1, ?_⟩
  rcases h2 with h2 | ⟨g, cap, cur, hv, hg, hh, r⟩
  · exact .inl h2
  · exact .inr ⟨g, cap, cur, hv, hg, by rw [hb.block g (by have := lt_of_block hh; omega)]; exact hh, r⟩

theorem OwnS.mono {B C : Nat} {v : Value} {ss : List ByteArray} {w : World} (h : OwnS B v ss w) (hC : C ≤ B) : OwnS C v ss w := by
  obtain ⟨h1, h2⟩ := h
  refine ⟨h1, ?_⟩
  rcases h2 with h2 | ⟨g, cap, cur, hv, hg, hh, r⟩
  · exact .inl h2
  · exact .inr ⟨g, cap, cur, hv, Nat.le_trans hC hg, hh, r⟩
end Go.Proofs.Ytpcelgmcbfjmbaa
