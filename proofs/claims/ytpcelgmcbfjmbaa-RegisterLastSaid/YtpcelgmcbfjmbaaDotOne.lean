/-
  A name by value: Check, of the program and of the document.
-/
import Derived.Test.YtpcelgmcbfjmbaaDotPlain
import Derived.Test.YtpcelgmcbfjmbaaBase
namespace Go.Proofs.Ytpcelgmcbfjmbaa
open Go.RowKit

def dcs (d : Dt) : List Value := [.int .i64 d.1, .int .i64 d.2]
def dv (d : Dt) : Value := .agg #[.int .i64 d.1, .int .i64 d.2]

def boxD (w : World) (d : Dt) : World := w.alloc (.cells #[.int .i64 d.1, .int .i64 d.2] 35)
theorem boxD_below (w : World) (d : Dt) : Below w.heap.size w (boxD w d) := (Below.refl _ _).alloc (Nat.le_refl _) _
theorem boxD_size (w : World) (d : Dt) : (boxD w d).heap.size = w.heap.size + 1 := by simp [boxD]
theorem boxD2_below (w : World) (a b : Dt) : Below w.heap.size w (boxD (boxD w a) b) := (boxD_below w a).trans ((boxD_below _ b).mono (by rw [boxD_size]; omega))

end Go.Proofs.Ytpcelgmcbfjmbaa
