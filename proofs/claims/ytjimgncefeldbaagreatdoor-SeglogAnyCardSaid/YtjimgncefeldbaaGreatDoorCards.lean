/-
  DERIVED. GIVEN WITH THE SEED: THE CARDS: each row of YtjimgncefeldbaaGreatDoorRows.lean that lists a variable, with what it lists TIED to the program's text (the seventh form; the later family's looks); each row that meets fmt, with fmt's text TOLD by the authors' own Lean function (tested against real Go, not proved from fmt's source: count such statements apart). THE CARD IS WHAT COUNTS. Prove the row's statement (the work); the ties are given (YtjimgncefeldbaaGreatDoorTie.lean); close each card by the builder's one call (the guide's Derived/Test/ToyasCard.lean, 'card_holds'). Laid BY PROGRAM, IN A SANDBOX (cutbox-door.mjs). By AI agents, Wed Nov 11 2026. No macro, syntax, notation, axiom, sorry.
-/
import Derived.Test.YtjimgncefeldbaaGreatDoorRows
import GoSem.ClaimSeven
namespace Go.Proofs.YtjimgncefeldbaaGreatDoor
namespace Rows

/-- THE TIED CARD OF 'almonrylaw08.SeglogAny'. -/
def seglogAnyCard : Claim7 := { stood := { row := seglogAnyRow, standIns := [], harness := (true, "ed26319178688e0e580aaaac6e7fc9df7cf5d9368b615d5efa674ec5c875e12d"), looks := true }, kinds := [], alts := [], laidByText := true, laidKinds := [.data, .data, .data, .sentinel, .sentinel, .sentinel], laidTests := true, laidLooks := .later }
def SeglogAnyCardSaid : Prop := Claim7.holds Tryz.pinned (.plain (OpenSpec.ofChange seglogAnySpec)) seglogAnyCard

/-- THE TIED CARD OF 'almonrylaw10.BlobLasts'. -/
def blobLastsCard : Claim7 := { stood := { row := blobLastsRow, standIns := [], harness := (true, "ed26319178688e0e580aaaac6e7fc9df7cf5d9368b615d5efa674ec5c875e12d"), looks := true }, kinds := [], alts := [], laidByText := true, laidKinds := [.data, .data, .data, .data, .sentinel, .sentinel, .sentinel], laidTests := true, laidLooks := .later }
def BlobLastsCardSaid : Prop := Claim7.holds Tryz.pinned (.plain (OpenSpec.ofChange blobLastsSpec)) blobLastsCard

/-- THE SECOND FORM's CARD OF 'almonrylaw08.SeglogAny'. -/
def seglogAnyUptoCard : Claim7 := { stood := { row := seglogAnyUptoRow, standIns := [], harness := (true, "ed26319178688e0e580aaaac6e7fc9df7cf5d9368b615d5efa674ec5c875e12d"), looks := true }, kinds := [], alts := [], laidByText := true, laidKinds := [.data, .data, .data, .sentinel, .sentinel, .sentinel], laidTests := true, laidLooks := .later }
def SeglogAnyUptoCardSaid : Prop := Claim7.holds Tryz.pinned (.plain (OpenSpec.upto seglogAnySpec)) seglogAnyUptoCard

/-- THE SECOND FORM's CARD OF 'almonrylaw10.BlobLasts'. -/
def blobLastsUptoCard : Claim7 := { stood := { row := blobLastsUptoRow, standIns := [], harness := (true, "ed26319178688e0e580aaaac6e7fc9df7cf5d9368b615d5efa674ec5c875e12d"), looks := true }, kinds := [], alts := [], laidByText := true, laidKinds := [.data, .data, .data, .data, .sentinel, .sentinel, .sentinel], laidTests := true, laidLooks := .later }
def BlobLastsUptoCardSaid : Prop := Claim7.holds Tryz.pinned (.plain (OpenSpec.upto blobLastsSpec)) blobLastsUptoCard
end Rows
end Go.Proofs.YtjimgncefeldbaaGreatDoor
