/-
  wire.number: what it answers of every text.
-/
import Derived.Test.YtpcelgmcbfjmbaaWireText
import Derived.Test.YtpcelgmcbfjmbaaWirePlain
namespace Go.Proofs.Ytpcelgmcbfjmbaa
open Go.RowKit

theorem take_snoc8 (l : List UInt8) (k : Nat) (h : k < l.length) : l.take (k + 1) = l.take k ++ [l[k]] := by
  rw [List.take_succ_eq_append_getElem h]

end Go.Proofs.Ytpcelgmcbfjmbaa
