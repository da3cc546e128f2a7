/-
  Rows of texts that a call owns, as the call of Texts wants them.
-/
import Derived.Test.YtpcelgmcbfjmbaaWireRList
import Derived.Test.YtpcelgmcbfjmbaaWireTexts
namespace Go.Proofs.Ytpcelgmcbfjmbaa
set_option maxRecDepth 100000
open Go.RowKit

theorem ownS_row {B : Nat} {v : Value} {ss : List ByteArray} {w : World} (h : OwnS B v ss w) : ∃ a cap, v = .slice a ss.length cap ∧ StrRow w a ss ∧ ss.length ≤ maxLen := by
  obtain ⟨_, hv⟩ := h
  rcases hv with ⟨rfl, h0⟩ | ⟨g, cap, cur, rfl, hB, hg, hn, hm, hs, htk⟩
  · exact ⟨none, 0, by rw [h0], .inl (List.length_eq_zero_iff.1 h0), by rw [h0]; simp [maxLen]⟩
  · refine ⟨_, cap, rfl, .inr ⟨g, 0, rfl, lt_of_block hg, fun j hj => ?_⟩, by omega⟩
    have h1 := Lib.cells_of_row hg (ss.length * 1) j (.string (ss.getD j ByteArray.empty)) (by rw [htk, List.getElem?_map, List.getD_eq_getElem?_getD, List.getElem?_eq_getElem hj]; rfl)
    have e1 : (⟨g, 0, none⟩ : Addr).add j = ⟨g, 0 + j, none⟩ := by cases j <;> simp [Addr.add]
    rw [e1] at h1
    exact h1
theorem strRow_alloc {w : World} {a : Option Addr} {ss : List ByteArray} (h : StrRow w a ss) (o : Obj) : StrRow (w.alloc o) a ss := h.below ((Below.refl _ _).alloc (Nat.le_refl _) o)
theorem strRow_one (w : World) (s : ByteArray) : StrRow (w.alloc (.cells #[.string s] 9)) (some ⟨w.heap.size, 0, none⟩) [s] :=
  .inr ⟨w.heap.size, 0, rfl, by simp, fun j hj => by
    match j, hj with
    | 0, _ => rw [Joins.cell_of_block (heap_alloc_new w _)]; rfl⟩
theorem texts_same (a b : Option Addr) (ca cb : Nat) (xs : List ByteArray) (w : World) (ha : StrRow w a xs) (hb : StrRow w b xs) (hl : xs.length ≤ maxLen) :
    Calls Try.prog 13 #[.slice a xs.length ca, .slice b xs.length cb] w fun e w' => e = .returned (.bool true) ∧ ∃ n, w' = w.drewN n :=
  (texts_any a b ca cb xs xs w ha hb hl hl).mono fun e w' h => by
    obtain ⟨h1, h2⟩ := h
    exact ⟨by rw [h1]; simp, h2⟩
end Go.Proofs.Ytpcelgmcbfjmbaa
