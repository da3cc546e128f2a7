/-
  Small laws that wire's walks share: a row of bytes that the call owns, turned into a text.
-/
import Derived.Test.YtmcabkoabecnnaaWireNum
import Derived.Lib.SlBytesRow
import Derived.Lib.BufferRead
namespace Go.Proofs.Ytmcabkoabecnnaa
open Go.RowKit

end Go.Proofs.Ytmcabkoabecnnaa
