/-
  The Reader's List: what it answers, and what becomes of the reader.
-/
import Derived.Test.YtpcelgmcbfjmbaaWireReader
namespace Go.Proofs.Ytpcelgmcbfjmbaa
open Go.RowKit

theorem strInfo : (Try.prog.info? 9).map (fun i => (i.zero, i.size, i.bytes)) = some (some (.string ByteArray.empty), 1, 16) := by kernel_rfl

/-- The slice v is the call's own, and holds the texts ss. -/
def OwnS (B : Nat) (v : Value) (ss : List ByteArray) (w : World) : Prop := w.ownsRow B 9 1 v ss.length (ss.map Value.string)

theorem ownS_nil (B : Nat) (w : World) : OwnS B (.slice none 0 0) [] w := World.ownsRow_nil _ _ _ _

theorem OwnS.keep {B b : Nat} {v : Value} {ss : List ByteArray} {w w' : World} (h : OwnS B v ss w) (hg : w.grownBy w' (some b)) (hb : b < B) : OwnS B v ss w' :=
  World.ownsRow.kept h hg (.inr fun e => by have := (World.ownsRow.lt h b e).1; omega)

end Go.Proofs.Ytpcelgmcbfjmbaa
