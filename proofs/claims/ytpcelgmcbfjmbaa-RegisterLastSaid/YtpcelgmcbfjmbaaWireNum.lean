/-
  wire.appendNum and wire.Num: what each call answers, and what becomes of memory.
-/
import Derived.Test.YtpcelgmcbfjmbaaBase
import Derived.WalkKit
import Derived.WalkSpells
import Derived.WalkLawsBesides
import Derived.ScopeJumps
import Derived.Lib.Varint
import Derived.Lib.VarintMem
import Derived.Lib.Hide
namespace Go.Proofs.Ytpcelgmcbfjmbaa
open Go.RowKit

theorem own_more {w : World} {B n a : Nat} {v : Value} {xs : List Value} {pre : List UInt8} {i : Int} (ha : a < 256) (hi : i = (a : Int))
    (h : w.ownsRow B 5 1 v (n + pre.length + 1) (xs ++ (Lib.byteCells pre ++ [Value.int .u8 i]))) : w.ownsRow B 5 1 v (n + (pre ++ [a.toUInt8]).length) (xs ++ Lib.byteCells (pre ++ [a.toUInt8])) := by
  rw [Lib.byteCells_snoc pre ha, List.length_append, List.length_singleton, ← Nat.add_assoc, ← hi]
  exact h

end Go.Proofs.Ytpcelgmcbfjmbaa
