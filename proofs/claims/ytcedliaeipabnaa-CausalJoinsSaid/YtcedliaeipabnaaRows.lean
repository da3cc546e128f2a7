/-
  No cell of these rows narrows 'for every input' (looked for: loops, veiled, ifaces, maps, wideKeys, modest, calm, conditions, laid).
  DERIVED. THE GIVEN ROWS OF THIS SEAT. 4 by the template 'for every input the law returns true; each argument reads behind the call as it read before'; 0 by the template 'total and deterministic' (their statements: YtcedliaeipabnaaTotals.lean).
  GIVEN WITH THE SEED: the statements are not yours to turn. If you find one false, say at which input.
  Laid BY PROGRAM, IN A SANDBOX (cutbox-rows.mjs): the forced cells as the released guide's own fill.sh prints them over the translation 3f2bb4466aabf933… (all of the seat's roots in one cut). By AI agents, Wed Nov 11 2026. No macro, syntax, notation, axiom, sorry.
-/
import Derived.Test.YtcedliaeipabnaaChecked
import GoSem.Claim
import GoSem.ClaimJoined
import GoSem.ClaimMapViews
import Derived.JoinedTies
import Derived.KernelRfl
namespace Go.Proofs.Ytcedliaeipabnaa
/- THE CELL 'sum', in the pinned program and in every row, IS THE sha256 OF THE DUMP (.gsa) THAT YtcedliaeipabnaaProg.lean LOADS. Nothing in Lean hashes anything: it is a label: what it is worth is what the hold of that sum in a sandbox is worth. -/
noncomputable def Try.pinned : Pinned := { name := "ytcedliaeipabnaa", sum := "3f2bb4466aabf9335e6fc03caf9cf7535359df2eb14bc6d70d7c80267dc4c7c9", checked := Try.checked }
namespace Rows
def none {H : Type} : Left H := { results := [], args := [] }

/-- 'almonrylaw13.CausalReckons': WHATEVER THE INPUT: true; the input reads as it did. -/
def causalReckonsSpec : ChangeSpec := { name := "causalReckons", fn := fun _ => fun
  | [d1, d2, d3] => { results := [.lit (.bool true)], args := [d1, d2, d3] }
  | _ => none }
def causalReckonsRow : OpenClaim := { program := "ytcedliaeipabnaa", sum := "3f2bb4466aabf9335e6fc03caf9cf7535359df2eb14bc6d70d7c80267dc4c7c9", func := "almonry/almonrylaw13.CausalReckons", spec := "causalReckons", inPlace := ["internal/abi.NoEscape"], unfollowed := true, recurses := true, apart := false }
def CausalReckonsSaid : Prop := causalReckonsRow.holds Try.pinned (OpenSpec.ofChange causalReckonsSpec)

/-- ITS FALSE NEIGHBOUR: 'it returns false'. Refute it at one input. -/
def causalReckonsWrong : ChangeSpec := { name := "causalReckons", fn := fun _ => fun
  | [d1, d2, d3] => { results := [.lit (.bool false)], args := [d1, d2, d3] }
  | _ => none }
def CausalReckonsWrongFalsely : Prop := causalReckonsRow.holds Try.pinned (OpenSpec.ofChange causalReckonsWrong)

/-- 'almonrylaw13.CausalBytes': WHATEVER THE INPUT: true; the input reads as it did. -/
def causalBytesSpec : ChangeSpec := { name := "causalBytes", fn := fun _ => fun
  | [d1, d2] => { results := [.lit (.bool true)], args := [d1, d2] }
  | _ => none }
def causalBytesRow : OpenClaim := { program := "ytcedliaeipabnaa", sum := "3f2bb4466aabf9335e6fc03caf9cf7535359df2eb14bc6d70d7c80267dc4c7c9", func := "almonry/almonrylaw13.CausalBytes", spec := "causalBytes", inPlace := ["internal/abi.NoEscape"], unfollowed := true, recurses := true, apart := false }
def CausalBytesSaid : Prop := causalBytesRow.holds Try.pinned (OpenSpec.ofChange causalBytesSpec)

/-- ITS FALSE NEIGHBOUR: 'it returns false'. Refute it at one input. -/
def causalBytesWrong : ChangeSpec := { name := "causalBytes", fn := fun _ => fun
  | [d1, d2] => { results := [.lit (.bool false)], args := [d1, d2] }
  | _ => none }
def CausalBytesWrongFalsely : Prop := causalBytesRow.holds Try.pinned (OpenSpec.ofChange causalBytesWrong)

/-- 'almonrylaw13.CausalJoins': WHATEVER THE INPUT: true; the input reads as it did. -/
def causalJoinsSpec : ChangeSpec := { name := "causalJoins", fn := fun _ => fun
  | [d1, d2, d3] => { results := [.lit (.bool true)], args := [d1, d2, d3] }
  | _ => none }
def causalJoinsRow : OpenClaim := { program := "ytcedliaeipabnaa", sum := "3f2bb4466aabf9335e6fc03caf9cf7535359df2eb14bc6d70d7c80267dc4c7c9", func := "almonry/almonrylaw13.CausalJoins", spec := "causalJoins", inPlace := ["internal/abi.NoEscape"], unfollowed := true, recurses := true, apart := false }
def CausalJoinsSaid : Prop := causalJoinsRow.holds Try.pinned (OpenSpec.ofChange causalJoinsSpec)

/-- ITS FALSE NEIGHBOUR: 'it returns false'. Refute it at one input. -/
def causalJoinsWrong : ChangeSpec := { name := "causalJoins", fn := fun _ => fun
  | [d1, d2, d3] => { results := [.lit (.bool false)], args := [d1, d2, d3] }
  | _ => none }
def CausalJoinsWrongFalsely : Prop := causalJoinsRow.holds Try.pinned (OpenSpec.ofChange causalJoinsWrong)

/-- 'almonrylaw13.CausalGrows': WHATEVER THE INPUT: true; the input reads as it did. -/
def causalGrowsSpec : ChangeSpec := { name := "causalGrows", fn := fun _ => fun
  | [d1, d2, d3] => { results := [.lit (.bool true)], args := [d1, d2, d3] }
  | _ => none }
def causalGrowsRow : OpenClaim := { program := "ytcedliaeipabnaa", sum := "3f2bb4466aabf9335e6fc03caf9cf7535359df2eb14bc6d70d7c80267dc4c7c9", func := "almonry/almonrylaw13.CausalGrows", spec := "causalGrows", inPlace := ["internal/abi.NoEscape"], unfollowed := true, recurses := true, apart := false }
def CausalGrowsSaid : Prop := causalGrowsRow.holds Try.pinned (OpenSpec.ofChange causalGrowsSpec)

/-- ITS FALSE NEIGHBOUR: 'it returns false'. Refute it at one input. -/
def causalGrowsWrong : ChangeSpec := { name := "causalGrows", fn := fun _ => fun
  | [d1, d2, d3] => { results := [.lit (.bool false)], args := [d1, d2, d3] }
  | _ => none }
def CausalGrowsWrongFalsely : Prop := causalGrowsRow.holds Try.pinned (OpenSpec.ofChange causalGrowsWrong)

/- THE SECOND FORM. 'bulk': how many values and letters a reading holds, each counted each time it is reached (what is shared counts as often as it is met; a slice's spare places count too). A statement '..UptoSaid' is the law's where the arguments, and the package variables that the reading takes, are together of bulk at most 1048576: NARROWER than '..Said'. Prove '..Said' where nothing that the law and all that it calls make is longer than what came in: it says more and counts as full. Else prove '..UptoSaid'. A law counts once. -/
mutual
def uptoBulk {H : Type} : DataW H → Nat
  | .lit (.string bytes) => bytes.length + 1
  | .lit _ => 1
  | .nil => 1
  | .ptr d => uptoBulk d + 1
  | .slice elems spare => uptoBulkAll elems + uptoBulkAll spare + 1
  | .agg parts => uptoBulkAll parts + 1
  | .iface _ d => uptoBulk d + 1
  | .map entries => uptoBulkEntries entries + 1
  | .held _ => 1
def uptoBulkAll {H : Type} : List (DataW H) → Nat
  | [] => 0
  | d :: r => uptoBulk d + uptoBulkAll r
def uptoBulkEntries {H : Type} : List (Lit × DataW H) → Nat
  | [] => 0
  | x :: r => uptoBulkEntry x + uptoBulkEntries r
def uptoBulkEntry {H : Type} : Lit × DataW H → Nat
  | (.string bytes, d) => bytes.length + uptoBulk d + 1
  | (_, d) => uptoBulk d + 1
 end
def uptoSmall : (H : Type) → List (DataW H) → Bool := fun _ ds => decide (uptoBulkAll ds ≤ 1048576)
def OpenSpec.upto (s : _root_.Go.ChangeSpec) : _root_.Go.OpenSpec := { _root_.Go.OpenSpec.ofChange s with cond := some uptoSmall }

/-- 'almonrylaw13.CausalReckons', WHERE WHAT IT READS IS OF BULK AT MOST 1048576: true; the input reads as it did. -/
def causalReckonsUptoRow : OpenClaim := { program := "ytcedliaeipabnaa", sum := "3f2bb4466aabf9335e6fc03caf9cf7535359df2eb14bc6d70d7c80267dc4c7c9", func := "almonry/almonrylaw13.CausalReckons", spec := "causalReckons", inPlace := ["internal/abi.NoEscape"], unfollowed := true, recurses := true, apart := false, narrowed := true }
def CausalReckonsUptoSaid : Prop := causalReckonsUptoRow.holds Try.pinned (OpenSpec.upto causalReckonsSpec)

/-- 'almonrylaw13.CausalBytes', WHERE WHAT IT READS IS OF BULK AT MOST 1048576: true; the input reads as it did. -/
def causalBytesUptoRow : OpenClaim := { program := "ytcedliaeipabnaa", sum := "3f2bb4466aabf9335e6fc03caf9cf7535359df2eb14bc6d70d7c80267dc4c7c9", func := "almonry/almonrylaw13.CausalBytes", spec := "causalBytes", inPlace := ["internal/abi.NoEscape"], unfollowed := true, recurses := true, apart := false, narrowed := true }
def CausalBytesUptoSaid : Prop := causalBytesUptoRow.holds Try.pinned (OpenSpec.upto causalBytesSpec)

/-- 'almonrylaw13.CausalJoins', WHERE WHAT IT READS IS OF BULK AT MOST 1048576: true; the input reads as it did. -/
def causalJoinsUptoRow : OpenClaim := { program := "ytcedliaeipabnaa", sum := "3f2bb4466aabf9335e6fc03caf9cf7535359df2eb14bc6d70d7c80267dc4c7c9", func := "almonry/almonrylaw13.CausalJoins", spec := "causalJoins", inPlace := ["internal/abi.NoEscape"], unfollowed := true, recurses := true, apart := false, narrowed := true }
def CausalJoinsUptoSaid : Prop := causalJoinsUptoRow.holds Try.pinned (OpenSpec.upto causalJoinsSpec)

/-- 'almonrylaw13.CausalGrows', WHERE WHAT IT READS IS OF BULK AT MOST 1048576: true; the input reads as it did. -/
def causalGrowsUptoRow : OpenClaim := { program := "ytcedliaeipabnaa", sum := "3f2bb4466aabf9335e6fc03caf9cf7535359df2eb14bc6d70d7c80267dc4c7c9", func := "almonry/almonrylaw13.CausalGrows", spec := "causalGrows", inPlace := ["internal/abi.NoEscape"], unfollowed := true, recurses := true, apart := false, narrowed := true }
def CausalGrowsUptoSaid : Prop := causalGrowsUptoRow.holds Try.pinned (OpenSpec.upto causalGrowsSpec)

end Rows
end Go.Proofs.Ytcedliaeipabnaa
