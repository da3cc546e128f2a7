/-
  DERIVED. GIVEN WITH THE SEED: THE CARDS: each row of YtbhcmmglmkgjnaaGreatDoorRows.lean that lists a variable, with what it lists TIED to the program's text (the seventh form; the later family's looks); each row that meets fmt, with fmt's text TOLD by the authors' own Lean function (tested against real Go, not proved from fmt's source: count such statements apart). THE CARD IS WHAT COUNTS. Prove the row's statement (the work); the ties are given (YtbhcmmglmkgjnaaGreatDoorTie.lean); close each card by the builder's one call (the guide's Derived/Test/ToyasCard.lean, 'card_holds'). Laid BY PROGRAM, IN A SANDBOX (cutbox-door.mjs). By AI agents, Wed Nov 11 2026. No macro, syntax, notation, axiom, sorry.
-/
import Derived.Test.YtbhcmmglmkgjnaaGreatDoorRows
import GoSem.ClaimSeven
namespace Go.Proofs.YtbhcmmglmkgjnaaGreatDoor
namespace Rows

/-- THE TIED CARD OF 'almonrylaw08.SeglogAny'. -/
def seglogAnyCard : Claim7 := { stood := { row := seglogAnyRow, standIns := [], harness := (true, "a12d805939acd095a7d78502f2ff62fe0f1d1ad6aa047014ee38034229c393e5"), looks := true }, kinds := [], alts := [], laidByText := true, laidKinds := [.data, .data, .data, .sentinel, .sentinel, .sentinel], laidTests := true, laidLooks := .later }
def SeglogAnyCardSaid : Prop := Claim7.holds Tryz.pinned (.plain (OpenSpec.ofChange seglogAnySpec)) seglogAnyCard

/-- THE SECOND FORM's CARD OF 'almonrylaw08.SeglogAny'. -/
def seglogAnyUptoCard : Claim7 := { stood := { row := seglogAnyUptoRow, standIns := [], harness := (true, "a12d805939acd095a7d78502f2ff62fe0f1d1ad6aa047014ee38034229c393e5"), looks := true }, kinds := [], alts := [], laidByText := true, laidKinds := [.data, .data, .data, .sentinel, .sentinel, .sentinel], laidTests := true, laidLooks := .later }
def SeglogAnyUptoCardSaid : Prop := Claim7.holds Tryz.pinned (.plain (OpenSpec.upto seglogAnySpec)) seglogAnyUptoCard
end Rows
end Go.Proofs.YtbhcmmglmkgjnaaGreatDoor
