/-
  wire.New and the Reader's methods: what each call answers, and what becomes of the reader.
-/
import Derived.Test.YtpcelgmcbfjmbaaWireRead
import Derived.Lib.SmallJoins
import Derived.OneCell
import Derived.Maps.AppendAt
import Derived.Maps.Range
namespace Go.Proofs.Ytpcelgmcbfjmbaa
open Go.RowKit

theorem grownBy_setCell (w : World) (b i : Nat) (v : Value) : w.grownBy (w.setCell ⟨b, i, none⟩ v) (some b) :=
  ⟨rfl, rfl, rfl, by simp, fun k _ hk => Below.heap_setCell _ _ _ _ (fun e => hk (by rw [e]))⟩

end Go.Proofs.Ytpcelgmcbfjmbaa
