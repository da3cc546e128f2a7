/-
  No cell of these rows narrows 'for every input' (looked for: loops, veiled, ifaces, maps, wideKeys, modest, calm, conditions, laid).
  DERIVED. THE GIVEN ROWS OF THIS SEAT. 4 by the template 'for every input the law returns true; each argument reads behind the call as it read before'; 0 by the template 'total and deterministic' (their statements: YtgdgapklkodnjaaTotals.lean).
  GIVEN WITH THE SEED: the statements are not yours to turn. If you find one false, say at which input.
  Laid BY PROGRAM, IN A SANDBOX (cutbox-rows.mjs): the forced cells as the released guide's own fill.sh prints them over the translation 2edc480661bdc4b7… (all of the seat's roots in one cut). By AI agents, Wed Nov 11 2026. No macro, syntax, notation, axiom, sorry.
-/
import Derived.Test.YtgdgapklkodnjaaChecked
import GoSem.Claim
import GoSem.ClaimJoined
import GoSem.ClaimMapViews
import Derived.JoinedTies
import Derived.KernelRfl
namespace Go.Proofs.Ytgdgapklkodnjaa
/- THE CELL 'sum', in the pinned program and in every row, IS THE sha256 OF THE DUMP (.gsa) THAT YtgdgapklkodnjaaProg.lean LOADS. Nothing in Lean hashes anything: it is a label: what it is worth is what the hold of that sum in a sandbox is worth. -/
noncomputable def Try.pinned : Pinned := { name := "ytgdgapklkodnjaa", sum := "2edc480661bdc4b7cd4c9220baf0f9064a56e0504eae60d09b828ccb9ba555bb", checked := Try.checked }
namespace Rows
def none {H : Type} : Left H := { results := [], args := [] }

/-- 'almonrylaw05.FloatKeys': WHATEVER THE INPUT: true; the input reads as it did. -/
def floatKeysSpec : ChangeSpec := { name := "floatKeys", fn := fun _ => fun
  | [d1, d2, d3] => { results := [.lit (.bool true)], args := [d1, d2, d3] }
  | _ => none }
def floatKeysRow : OpenClaim := { program := "ytgdgapklkodnjaa", sum := "2edc480661bdc4b7cd4c9220baf0f9064a56e0504eae60d09b828ccb9ba555bb", func := "almonry/almonrylaw05.FloatKeys", spec := "floatKeys", inPlace := ["math.Float64frombits", "math.Float64bits"], unfollowed := true, recurses := true, apart := false }
def FloatKeysSaid : Prop := floatKeysRow.holds Try.pinned (OpenSpec.ofChange floatKeysSpec)

/-- ITS FALSE NEIGHBOUR: 'it returns false'. Refute it at one input. -/
def floatKeysWrong : ChangeSpec := { name := "floatKeys", fn := fun _ => fun
  | [d1, d2, d3] => { results := [.lit (.bool false)], args := [d1, d2, d3] }
  | _ => none }
def FloatKeysWrongFalsely : Prop := floatKeysRow.holds Try.pinned (OpenSpec.ofChange floatKeysWrong)

/-- 'almonrylaw05.FloatOrder': WHATEVER THE INPUT: true; the input reads as it did. -/
def floatOrderSpec : ChangeSpec := { name := "floatOrder", fn := fun _ => fun
  | [d] => { results := [.lit (.bool true)], args := [d] }
  | _ => none }
def floatOrderRow : OpenClaim := { program := "ytgdgapklkodnjaa", sum := "2edc480661bdc4b7cd4c9220baf0f9064a56e0504eae60d09b828ccb9ba555bb", func := "almonry/almonrylaw05.FloatOrder", spec := "floatOrder", inPlace := ["math.Float64frombits", "math.Float64bits"], unfollowed := true, recurses := true, apart := false }
def FloatOrderSaid : Prop := floatOrderRow.holds Try.pinned (OpenSpec.ofChange floatOrderSpec)

/-- ITS FALSE NEIGHBOUR: 'it returns false'. Refute it at one input. -/
def floatOrderWrong : ChangeSpec := { name := "floatOrder", fn := fun _ => fun
  | [d] => { results := [.lit (.bool false)], args := [d] }
  | _ => none }
def FloatOrderWrongFalsely : Prop := floatOrderRow.holds Try.pinned (OpenSpec.ofChange floatOrderWrong)

/-- 'almonrylaw05.FloatSorts': WHATEVER THE INPUT: true; the input reads as it did. -/
def floatSortsSpec : ChangeSpec := { name := "floatSorts", fn := fun _ => fun
  | [d] => { results := [.lit (.bool true)], args := [d] }
  | _ => none }
def floatSortsRow : OpenClaim := { program := "ytgdgapklkodnjaa", sum := "2edc480661bdc4b7cd4c9220baf0f9064a56e0504eae60d09b828ccb9ba555bb", func := "almonry/almonrylaw05.FloatSorts", spec := "floatSorts", inPlace := ["math.Float64frombits", "math.Float64bits"], unfollowed := true, recurses := true, apart := false }
def FloatSortsSaid : Prop := floatSortsRow.holds Try.pinned (OpenSpec.ofChange floatSortsSpec)

/-- ITS FALSE NEIGHBOUR: 'it returns false'. Refute it at one input. -/
def floatSortsWrong : ChangeSpec := { name := "floatSorts", fn := fun _ => fun
  | [d] => { results := [.lit (.bool false)], args := [d] }
  | _ => none }
def FloatSortsWrongFalsely : Prop := floatSortsRow.holds Try.pinned (OpenSpec.ofChange floatSortsWrong)

/-- 'almonrylaw05.FloatBack': WHATEVER THE INPUT: true; the input reads as it did. -/
def floatBackSpec : ChangeSpec := { name := "floatBack", fn := fun _ => fun
  | [d1, d2] => { results := [.lit (.bool true)], args := [d1, d2] }
  | _ => none }
def floatBackRow : OpenClaim := { program := "ytgdgapklkodnjaa", sum := "2edc480661bdc4b7cd4c9220baf0f9064a56e0504eae60d09b828ccb9ba555bb", func := "almonry/almonrylaw05.FloatBack", spec := "floatBack", inPlace := ["math.Float64frombits", "math.Float64bits"], unfollowed := true, recurses := true, apart := false }
def FloatBackSaid : Prop := floatBackRow.holds Try.pinned (OpenSpec.ofChange floatBackSpec)

/-- ITS FALSE NEIGHBOUR: 'it returns false'. Refute it at one input. -/
def floatBackWrong : ChangeSpec := { name := "floatBack", fn := fun _ => fun
  | [d1, d2] => { results := [.lit (.bool false)], args := [d1, d2] }
  | _ => none }
def FloatBackWrongFalsely : Prop := floatBackRow.holds Try.pinned (OpenSpec.ofChange floatBackWrong)

/- THE SECOND FORM. 'bulk': how many values and letters a reading holds, each counted each time it is reached (what is shared counts as often as it is met; a slice's spare places count too). A statement '..UptoSaid' is the law's where the arguments, and the package variables that the reading takes, are together of bulk at most 1048576: NARROWER than '..Said'. Prove '..Said' where nothing that the law and all that it calls make is longer than what came in: it says more and counts as full. Else prove '..UptoSaid'. A law counts once. -/
mutual
def uptoBulk {H : Type} : DataW H → Nat
  | .lit (.string bytes) => bytes.length + 1
  | .lit _ => 1
  | .nil => 1
  | .ptr d => uptoBulk d + 1
  | .slice elems spare => uptoBulkAll elems + uptoBulkAll spare + 1
  | .agg parts => uptoBulkAll parts + 1
  | .iface _ d => uptoBulk d + 1
  | .map entries => uptoBulkEntries entries + 1
  | .held _ => 1
def uptoBulkAll {H : Type} : List (DataW H) → Nat
  | [] => 0
  | d :: r => uptoBulk d + uptoBulkAll r
def uptoBulkEntries {H : Type} : List (Lit × DataW H) → Nat
  | [] => 0
  | x :: r => uptoBulkEntry x + uptoBulkEntries r
def uptoBulkEntry {H : Type} : Lit × DataW H → Nat
  | (.string bytes, d) => bytes.length + uptoBulk d + 1
  | (_, d) => uptoBulk d + 1
 end
def uptoSmall : (H : Type) → List (DataW H) → Bool := fun _ ds => decide (uptoBulkAll ds ≤ 1048576)
def OpenSpec.upto (s : _root_.Go.ChangeSpec) : _root_.Go.OpenSpec := { _root_.Go.OpenSpec.ofChange s with cond := some uptoSmall }

/-- 'almonrylaw05.FloatKeys', WHERE WHAT IT READS IS OF BULK AT MOST 1048576: true; the input reads as it did. -/
def floatKeysUptoRow : OpenClaim := { program := "ytgdgapklkodnjaa", sum := "2edc480661bdc4b7cd4c9220baf0f9064a56e0504eae60d09b828ccb9ba555bb", func := "almonry/almonrylaw05.FloatKeys", spec := "floatKeys", inPlace := ["math.Float64frombits", "math.Float64bits"], unfollowed := true, recurses := true, apart := false, narrowed := true }
def FloatKeysUptoSaid : Prop := floatKeysUptoRow.holds Try.pinned (OpenSpec.upto floatKeysSpec)

/-- 'almonrylaw05.FloatOrder', WHERE WHAT IT READS IS OF BULK AT MOST 1048576: true; the input reads as it did. -/
def floatOrderUptoRow : OpenClaim := { program := "ytgdgapklkodnjaa", sum := "2edc480661bdc4b7cd4c9220baf0f9064a56e0504eae60d09b828ccb9ba555bb", func := "almonry/almonrylaw05.FloatOrder", spec := "floatOrder", inPlace := ["math.Float64frombits", "math.Float64bits"], unfollowed := true, recurses := true, apart := false, narrowed := true }
def FloatOrderUptoSaid : Prop := floatOrderUptoRow.holds Try.pinned (OpenSpec.upto floatOrderSpec)

/-- 'almonrylaw05.FloatSorts', WHERE WHAT IT READS IS OF BULK AT MOST 1048576: true; the input reads as it did. -/
def floatSortsUptoRow : OpenClaim := { program := "ytgdgapklkodnjaa", sum := "2edc480661bdc4b7cd4c9220baf0f9064a56e0504eae60d09b828ccb9ba555bb", func := "almonry/almonrylaw05.FloatSorts", spec := "floatSorts", inPlace := ["math.Float64frombits", "math.Float64bits"], unfollowed := true, recurses := true, apart := false, narrowed := true }
def FloatSortsUptoSaid : Prop := floatSortsUptoRow.holds Try.pinned (OpenSpec.upto floatSortsSpec)

/-- 'almonrylaw05.FloatBack', WHERE WHAT IT READS IS OF BULK AT MOST 1048576: true; the input reads as it did. -/
def floatBackUptoRow : OpenClaim := { program := "ytgdgapklkodnjaa", sum := "2edc480661bdc4b7cd4c9220baf0f9064a56e0504eae60d09b828ccb9ba555bb", func := "almonry/almonrylaw05.FloatBack", spec := "floatBack", inPlace := ["math.Float64frombits", "math.Float64bits"], unfollowed := true, recurses := true, apart := false, narrowed := true }
def FloatBackUptoSaid : Prop := floatBackUptoRow.holds Try.pinned (OpenSpec.upto floatBackSpec)

end Rows
end Go.Proofs.Ytgdgapklkodnjaa
