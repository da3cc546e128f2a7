/-
  DERIVED. GIVEN WITH THE SEED: THE CARDS: each row of YtjoaijkjocpepaaDoorRows.lean that lists a variable, with what it lists TIED to the program's text (the seventh form; the later family's looks); each row that meets fmt, with fmt's text TOLD by the authors' own Lean function (tested against real Go, not proved from fmt's source: count such statements apart). THE CARD IS WHAT COUNTS. Prove the row's statement (the work); the ties are given (YtjoaijkjocpepaaDoorTie.lean); close each card by the builder's one call (the guide's Derived/Test/ToyasCard.lean, 'card_holds'). Laid BY PROGRAM, IN A SANDBOX (cutbox-door.mjs). By AI agents, Wed Nov 11 2026. No macro, syntax, notation, axiom, sorry.
-/
import Derived.Test.YtjoaijkjocpepaaDoorRows
import GoSem.ClaimSeven
namespace Go.Proofs.YtjoaijkjocpepaaDoor
namespace Rows

/-- THE TIED CARD OF 'almonrylaw03.HexaPuts'. -/
def hexaPutsCard : Claim7 := { stood := { row := hexaPutsRow, standIns := [], harness := (true, "fa67625e638f008c78b3894069d21c1fc202c4a0e09e59429c7e15df4a216bfe"), looks := false }, kinds := [], alts := [], laidByText := true, laidKinds := [.data], laidTests := true, laidLooks := .later }
def HexaPutsCardSaid : Prop := Claim7.holds Tryd.pinned (.plain (OpenSpec.ofChange hexaPutsSpec)) hexaPutsCard

/-- THE TIED CARD OF 'almonrylaw03.HexaBack'. -/
def hexaBackCard : Claim7 := { stood := { row := hexaBackRow, standIns := [], harness := (true, "fa67625e638f008c78b3894069d21c1fc202c4a0e09e59429c7e15df4a216bfe"), looks := false }, kinds := [], alts := [], laidByText := true, laidKinds := [.data], laidTests := true, laidLooks := .later }
def HexaBackCardSaid : Prop := Claim7.holds Tryd.pinned (.plain (OpenSpec.ofChange hexaBackSpec)) hexaBackCard

/-- THE TIED CARD OF 'almonrylaw03.HexaOrder'. -/
def hexaOrderCard : Claim7 := { stood := { row := hexaOrderRow, standIns := [], harness := (true, "fa67625e638f008c78b3894069d21c1fc202c4a0e09e59429c7e15df4a216bfe"), looks := false }, kinds := [], alts := [], laidByText := true, laidKinds := [.data], laidTests := true, laidLooks := .later }
def HexaOrderCardSaid : Prop := Claim7.holds Tryd.pinned (.plain (OpenSpec.ofChange hexaOrderSpec)) hexaOrderCard

/-- THE SECOND FORM's CARD OF 'almonrylaw03.HexaPuts'. -/
def hexaPutsUptoCard : Claim7 := { stood := { row := hexaPutsUptoRow, standIns := [], harness := (true, "fa67625e638f008c78b3894069d21c1fc202c4a0e09e59429c7e15df4a216bfe"), looks := false }, kinds := [], alts := [], laidByText := true, laidKinds := [.data], laidTests := true, laidLooks := .later }
def HexaPutsUptoCardSaid : Prop := Claim7.holds Tryd.pinned (.plain (OpenSpec.upto hexaPutsSpec)) hexaPutsUptoCard

/-- THE SECOND FORM's CARD OF 'almonrylaw03.HexaBack'. -/
def hexaBackUptoCard : Claim7 := { stood := { row := hexaBackUptoRow, standIns := [], harness := (true, "fa67625e638f008c78b3894069d21c1fc202c4a0e09e59429c7e15df4a216bfe"), looks := false }, kinds := [], alts := [], laidByText := true, laidKinds := [.data], laidTests := true, laidLooks := .later }
def HexaBackUptoCardSaid : Prop := Claim7.holds Tryd.pinned (.plain (OpenSpec.upto hexaBackSpec)) hexaBackUptoCard

/-- THE SECOND FORM's CARD OF 'almonrylaw03.HexaOrder'. -/
def hexaOrderUptoCard : Claim7 := { stood := { row := hexaOrderUptoRow, standIns := [], harness := (true, "fa67625e638f008c78b3894069d21c1fc202c4a0e09e59429c7e15df4a216bfe"), looks := false }, kinds := [], alts := [], laidByText := true, laidKinds := [.data], laidTests := true, laidLooks := .later }
def HexaOrderUptoCardSaid : Prop := Claim7.holds Tryd.pinned (.plain (OpenSpec.upto hexaOrderSpec)) hexaOrderUptoCard
end Rows
end Go.Proofs.YtjoaijkjocpepaaDoor
