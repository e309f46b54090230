/-
  DERIVED. GIVEN WITH THE SEED: THE CARDS: each row of YtohkocknpmnakabGreatDoorRows.lean that lists a variable, with what it lists TIED to the program's text (the seventh form; the later family's looks); each row that meets fmt, with fmt's text TOLD by the authors' own Lean function (tested against real Go, not proved from fmt's source: count such statements apart). THE CARD IS WHAT COUNTS. Prove the row's statement (the work); the ties are given (YtohkocknpmnakabGreatDoorTie.lean); close each card by the builder's one call (the guide's Derived/Test/ToyasCard.lean, 'card_holds'). Laid BY PROGRAM, IN A SANDBOX (cutbox-door.mjs). By AI agents, Wed Nov 11 2026. No macro, syntax, notation, axiom, sorry.
-/
import Derived.Test.YtohkocknpmnakabGreatDoorRows
import GoSem.ClaimSeven
namespace Go.Proofs.YtohkocknpmnakabGreatDoor
namespace Rows

/-- THE TIED CARD OF 'stowagelaw13.XmlWhite'. -/
def xmlWhiteCard : Claim7 := { stood := { row := xmlWhiteRow, standIns := [], harness := (true, "2d73f9376e653789736e03689838bdfc257df898ab0b696c94f4a0dabdb3db10"), looks := true }, kinds := [], alts := [], laidByText := true, laidKinds := [.data, .data, .data, .data, .sentinel, .sentinel, .pinned], laidTests := true, laidLooks := .later }
def XmlWhiteCardSaid : Prop := Claim7.holds Tryz.pinned (.plain (OpenSpec.ofChange xmlWhiteSpec)) xmlWhiteCard

/-- THE SECOND FORM's CARD OF 'stowagelaw13.XmlWhite'. -/
def xmlWhiteUptoCard : Claim7 := { stood := { row := xmlWhiteUptoRow, standIns := [], harness := (true, "2d73f9376e653789736e03689838bdfc257df898ab0b696c94f4a0dabdb3db10"), looks := true }, kinds := [], alts := [], laidByText := true, laidKinds := [.data, .data, .data, .data, .sentinel, .sentinel, .pinned], laidTests := true, laidLooks := .later }
def XmlWhiteUptoCardSaid : Prop := Claim7.holds Tryz.pinned (.plain (OpenSpec.upto xmlWhiteSpec)) xmlWhiteUptoCard
end Rows
end Go.Proofs.YtohkocknpmnakabGreatDoor
