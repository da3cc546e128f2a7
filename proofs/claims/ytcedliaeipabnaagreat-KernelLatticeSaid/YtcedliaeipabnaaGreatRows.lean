/-
  No cell of these rows narrows 'for every input' (looked for: loops, veiled, ifaces, maps, wideKeys, modest, calm, conditions, laid).
  DERIVED. THE GIVEN ROWS OF THIS SEAT. 3 by the template 'for every input the law returns true; each argument reads behind the call as it read before'; 0 by the template 'total and deterministic' (their statements: YtcedliaeipabnaaGreatTotals.lean).
  GIVEN WITH THE SEED: the statements are not yours to turn. If you find one false, say at which input.
  Laid BY PROGRAM, IN A SANDBOX (cutbox-rows.mjs): the forced cells as the released guide's own fill.sh prints them over the translation f233f935c1fbb335… (all of the seat's roots in one cut). By AI agents, Wed Nov 11 2026. No macro, syntax, notation, axiom, sorry.
-/
import Derived.Test.YtcedliaeipabnaaGreatChecked
import GoSem.Claim
import GoSem.ClaimJoined
import GoSem.ClaimMapViews
import Derived.JoinedTies
import Derived.KernelRfl
namespace Go.Proofs.YtcedliaeipabnaaGreat
/- THE CELL 'sum', in the pinned program and in every row, IS THE sha256 OF THE DUMP (.gsa) THAT YtcedliaeipabnaaGreatProg.lean LOADS. Nothing in Lean hashes anything: it is a label: what it is worth is what the hold of that sum in a sandbox is worth. -/
noncomputable def Tryz.pinned : Pinned := { name := "ytcedliaeipabnaagreat", sum := "f233f935c1fbb3352beba831dc45c634ae97a580217772278e7e70287a9be9e0", checked := Tryz.checked }
namespace Rows
def none {H : Type} : Left H := { results := [], args := [] }

/-- 'almonrylaw16.KernelJoins': WHATEVER THE INPUT: true; the input reads as it did. -/
def kernelJoinsSpec : ChangeSpec := { name := "kernelJoins", fn := fun _ => fun
  | [d1, d2] => { results := [.lit (.bool true)], args := [d1, d2] }
  | _ => none }
def kernelJoinsRow : OpenClaim := { program := "ytcedliaeipabnaagreat", sum := "f233f935c1fbb3352beba831dc45c634ae97a580217772278e7e70287a9be9e0", func := "almonry/almonrylaw16.KernelJoins", spec := "kernelJoins", unfollowed := true, recurses := true, apart := false }
def KernelJoinsSaid : Prop := kernelJoinsRow.holds Tryz.pinned (OpenSpec.ofChange kernelJoinsSpec)

/-- ITS FALSE NEIGHBOUR: 'it returns false'. Refute it at one input. -/
def kernelJoinsWrong : ChangeSpec := { name := "kernelJoins", fn := fun _ => fun
  | [d1, d2] => { results := [.lit (.bool false)], args := [d1, d2] }
  | _ => none }
def KernelJoinsWrongFalsely : Prop := kernelJoinsRow.holds Tryz.pinned (OpenSpec.ofChange kernelJoinsWrong)

/-- 'almonrylaw16.KernelLattice': WHATEVER THE INPUT: true; the input reads as it did. -/
def kernelLatticeSpec : ChangeSpec := { name := "kernelLattice", fn := fun _ => fun
  | [d1, d2, d3] => { results := [.lit (.bool true)], args := [d1, d2, d3] }
  | _ => none }
def kernelLatticeRow : OpenClaim := { program := "ytcedliaeipabnaagreat", sum := "f233f935c1fbb3352beba831dc45c634ae97a580217772278e7e70287a9be9e0", func := "almonry/almonrylaw16.KernelLattice", spec := "kernelLattice", unfollowed := true, recurses := true, apart := false }
def KernelLatticeSaid : Prop := kernelLatticeRow.holds Tryz.pinned (OpenSpec.ofChange kernelLatticeSpec)

/-- ITS FALSE NEIGHBOUR: 'it returns false'. Refute it at one input. -/
def kernelLatticeWrong : ChangeSpec := { name := "kernelLattice", fn := fun _ => fun
  | [d1, d2, d3] => { results := [.lit (.bool false)], args := [d1, d2, d3] }
  | _ => none }
def KernelLatticeWrongFalsely : Prop := kernelLatticeRow.holds Tryz.pinned (OpenSpec.ofChange kernelLatticeWrong)

/-- 'almonrylaw16.KernelOrders': WHATEVER THE INPUT: true; the input reads as it did. -/
def kernelOrdersSpec : ChangeSpec := { name := "kernelOrders", fn := fun _ => fun
  | [d1, d2] => { results := [.lit (.bool true)], args := [d1, d2] }
  | _ => none }
def kernelOrdersRow : OpenClaim := { program := "ytcedliaeipabnaagreat", sum := "f233f935c1fbb3352beba831dc45c634ae97a580217772278e7e70287a9be9e0", func := "almonry/almonrylaw16.KernelOrders", spec := "kernelOrders", unfollowed := true, recurses := true, apart := false }
def KernelOrdersSaid : Prop := kernelOrdersRow.holds Tryz.pinned (OpenSpec.ofChange kernelOrdersSpec)

/-- ITS FALSE NEIGHBOUR: 'it returns false'. Refute it at one input. -/
def kernelOrdersWrong : ChangeSpec := { name := "kernelOrders", fn := fun _ => fun
  | [d1, d2] => { results := [.lit (.bool false)], args := [d1, d2] }
  | _ => none }
def KernelOrdersWrongFalsely : Prop := kernelOrdersRow.holds Tryz.pinned (OpenSpec.ofChange kernelOrdersWrong)

/- THE SECOND FORM. 'bulk': how many values and letters a reading holds, each counted each time it is reached (what is shared counts as often as it is met; a slice's spare places count too). A statement '..UptoSaid' is the law's where the arguments, and the package variables that the reading takes, are together of bulk at most 1048576: NARROWER than '..Said'. Prove '..Said' where nothing that the law and all that it calls make is longer than what came in: it says more and counts as full. Else prove '..UptoSaid'. A law counts once. -/
mutual
def uptoBulk {H : Type} : DataW H → Nat
  | .lit (.string bytes) => bytes.length + 1
  | .lit _ => 1
  | .nil => 1
  | .ptr d => uptoBulk d + 1
  | .slice elems spare => uptoBulkAll elems + uptoBulkAll spare + 1
  | .agg parts => uptoBulkAll parts + 1
  | .iface _ d => uptoBulk d + 1
  | .map entries => uptoBulkEntries entries + 1
  | .held _ => 1
def uptoBulkAll {H : Type} : List (DataW H) → Nat
  | [] => 0
  | d :: r => uptoBulk d + uptoBulkAll r
def uptoBulkEntries {H : Type} : List (Lit × DataW H) → Nat
  | [] => 0
  | x :: r => uptoBulkEntry x + uptoBulkEntries r
def uptoBulkEntry {H : Type} : Lit × DataW H → Nat
  | (.string bytes, d) => bytes.length + uptoBulk d + 1
  | (_, d) => uptoBulk d + 1
 end
def uptoSmall : (H : Type) → List (DataW H) → Bool := fun _ ds => decide (uptoBulkAll ds ≤ 1048576)
def OpenSpec.upto (s : _root_.Go.ChangeSpec) : _root_.Go.OpenSpec := { _root_.Go.OpenSpec.ofChange s with cond := some uptoSmall }

/-- 'almonrylaw16.KernelJoins', WHERE WHAT IT READS IS OF BULK AT MOST 1048576: true; the input reads as it did. -/
def kernelJoinsUptoRow : OpenClaim := { program := "ytcedliaeipabnaagreat", sum := "f233f935c1fbb3352beba831dc45c634ae97a580217772278e7e70287a9be9e0", func := "almonry/almonrylaw16.KernelJoins", spec := "kernelJoins", unfollowed := true, recurses := true, apart := false, narrowed := true }
def KernelJoinsUptoSaid : Prop := kernelJoinsUptoRow.holds Tryz.pinned (OpenSpec.upto kernelJoinsSpec)

/-- 'almonrylaw16.KernelLattice', WHERE WHAT IT READS IS OF BULK AT MOST 1048576: true; the input reads as it did. -/
def kernelLatticeUptoRow : OpenClaim := { program := "ytcedliaeipabnaagreat", sum := "f233f935c1fbb3352beba831dc45c634ae97a580217772278e7e70287a9be9e0", func := "almonry/almonrylaw16.KernelLattice", spec := "kernelLattice", unfollowed := true, recurses := true, apart := false, narrowed := true }
def KernelLatticeUptoSaid : Prop := kernelLatticeUptoRow.holds Tryz.pinned (OpenSpec.upto kernelLatticeSpec)

/-- 'almonrylaw16.KernelOrders', WHERE WHAT IT READS IS OF BULK AT MOST 1048576: true; the input reads as it did. -/
def kernelOrdersUptoRow : OpenClaim := { program := "ytcedliaeipabnaagreat", sum := "f233f935c1fbb3352beba831dc45c634ae97a580217772278e7e70287a9be9e0", func := "almonry/almonrylaw16.KernelOrders", spec := "kernelOrders", unfollowed := true, recurses := true, apart := false, narrowed := true }
def KernelOrdersUptoSaid : Prop := kernelOrdersUptoRow.holds Tryz.pinned (OpenSpec.upto kernelOrdersSpec)

end Rows
end Go.Proofs.YtcedliaeipabnaaGreat
