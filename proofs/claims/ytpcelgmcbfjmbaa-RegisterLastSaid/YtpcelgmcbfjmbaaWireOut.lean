/-
  Small laws that wire's walks share: a row of bytes that the call owns, turned into a text.
-/
import Derived.Test.YtpcelgmcbfjmbaaWireNum
import Derived.Lib.SlBytesRow
import Derived.Lib.BufferRead
namespace Go.Proofs.Ytpcelgmcbfjmbaa
open Go.RowKit

end Go.Proofs.Ytpcelgmcbfjmbaa
