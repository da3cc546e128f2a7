/-
  almonryref01.Texts: are two lists of texts the same?
-/
import Derived.Test.YtoiafhbembhppaaWireText
import Derived.Deep.QuietTactic
import Derived.BigQuiet
namespace Go.Proofs.Ytoiafhbembhppaa
open Go.RowKit

theorem StrRow.drewN {w : World} {a : Option Addr} {ss : List ByteArray} (h : StrRow w a ss) (n : Nat) : StrRow (w.drewN n) a ss := by
  rcases h with h | ⟨b, off, rfl, hlt, hc⟩
  · exact .inl h
  · exact .inr ⟨b, off, rfl, by simpa using hlt, fun j hj => by simpa using hc j hj⟩

theorem bytes_inj {x y : ByteArray} (h : x.toList = y.toList) : x = y := by
  rw [ByteArray.toList_eq, ByteArray.toList_eq] at h
  exact ByteArray.ext (Array.toList_inj.1 h)
theorem bytes_eq {x y : ByteArray} (h : (!x.toList == y.toList) = false) : x = y := bytes_inj (by simpa using h)
theorem bytes_ne {x y : ByteArray} (h : (!x.toList == y.toList) = true) : x ≠ y := fun e => by subst e; simp at h

/-- what Texts answers -/
def TextsEnd (xs ys : List ByteArray) (w : World) (e : Ending) (w' : World) : Prop := e = .returned (.bool (decide (xs = ys))) ∧ ∃ n, w' = w.drewN n

theorem drewN_drewN (w : World) (a b : Nat) : (w.drewN a).drewN b = w.drewN (a + b) := by simp [World.drewN, Nat.add_assoc]

end Go.Proofs.Ytoiafhbembhppaa
