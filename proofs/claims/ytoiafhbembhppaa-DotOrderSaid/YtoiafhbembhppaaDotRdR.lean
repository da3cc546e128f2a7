/-
  Read, the document's.
-/
import Derived.Test.YtoiafhbembhppaaDotRd
namespace Go.Proofs.Ytoiafhbembhppaa
set_option maxRecDepth 100000
open Go.RowKit

end Go.Proofs.Ytoiafhbembhppaa
