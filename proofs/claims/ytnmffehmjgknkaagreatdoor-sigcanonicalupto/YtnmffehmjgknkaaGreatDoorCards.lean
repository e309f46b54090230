/-
  DERIVED. GIVEN WITH THE SEED: THE CARDS: each row of YtnmffehmjgknkaaGreatDoorRows.lean that lists a variable, with what it lists TIED to the program's text (the seventh form; the later family's looks); each row that meets fmt, with fmt's text TOLD by the authors' own Lean function (tested against real Go, not proved from fmt's source: count such statements apart). THE CARD IS WHAT COUNTS. Prove the row's statement (the work); the ties are given (YtnmffehmjgknkaaGreatDoorTie.lean); close each card by the builder's one call (the guide's Derived/Test/ToyasCard.lean, 'card_holds'). Laid BY PROGRAM, IN A SANDBOX (cutbox-door.mjs). By AI agents, Wed Nov 11 2026. No macro, syntax, notation, axiom, sorry.
-/
import Derived.Test.YtnmffehmjgknkaaGreatDoorRows
import GoSem.ClaimSeven
namespace Go.Proofs.YtnmffehmjgknkaaGreatDoor
namespace Rows

/-- THE TIED CARD OF 'stowagelaw18.SigCanonical'. -/
def sigCanonicalCard : Claim7 := { stood := { row := sigCanonicalRow, standIns := [], harness := (true, "e765c76fb1b0534cbc732ac34f9ecd0a5c598663f13aad2f2e1d5e0f500ec66b"), looks := false }, kinds := [], alts := [], laidByText := true, laidKinds := [.data, .data, .data, .data, .data, .pinned], laidTests := true, laidLooks := .later }
def SigCanonicalCardSaid : Prop := Claim7.holds Tryz.pinned (.plain (OpenSpec.ofChange sigCanonicalSpec)) sigCanonicalCard

/-- THE TIED CARD OF 'stowagelaw18.SigSigns'. -/
def sigSignsCard : Claim7 := { stood := { row := sigSignsRow, standIns := [], harness := (true, "e765c76fb1b0534cbc732ac34f9ecd0a5c598663f13aad2f2e1d5e0f500ec66b"), looks := false }, kinds := [], alts := [], laidByText := true, laidKinds := [.data, .data, .data, .data, .data, .pinned], laidTests := true, laidLooks := .later }
def SigSignsCardSaid : Prop := Claim7.holds Tryz.pinned (.plain (OpenSpec.ofChange sigSignsSpec)) sigSignsCard

/-- THE TIED CARD OF 'stowagelaw18.SigVerifies'. -/
def sigVerifiesCard : Claim7 := { stood := { row := sigVerifiesRow, standIns := [], harness := (true, "e765c76fb1b0534cbc732ac34f9ecd0a5c598663f13aad2f2e1d5e0f500ec66b"), looks := false }, kinds := [], alts := [], laidByText := true, laidKinds := [.data, .data, .data, .data, .data, .pinned], laidTests := true, laidLooks := .later }
def SigVerifiesCardSaid : Prop := Claim7.holds Tryz.pinned (.plain (OpenSpec.ofChange sigVerifiesSpec)) sigVerifiesCard

/-- THE TIED CARD OF 'stowagelaw18.SigMakes'. -/
def sigMakesCard : Claim7 := { stood := { row := sigMakesRow, standIns := [], harness := (true, "e765c76fb1b0534cbc732ac34f9ecd0a5c598663f13aad2f2e1d5e0f500ec66b"), looks := false }, kinds := [], alts := [], laidByText := true, laidKinds := [.data, .data, .data, .data, .data, .pinned], laidTests := true, laidLooks := .later }
def SigMakesCardSaid : Prop := Claim7.holds Tryz.pinned (.plain (OpenSpec.ofChange sigMakesSpec)) sigMakesCard

/-- THE TIED CARD OF 'stowagelaw18.SigTakes'. -/
def sigTakesCard : Claim7 := { stood := { row := sigTakesRow, standIns := [], harness := (true, "e765c76fb1b0534cbc732ac34f9ecd0a5c598663f13aad2f2e1d5e0f500ec66b"), looks := false }, kinds := [], alts := [], laidByText := true, laidKinds := [.data, .data, .data, .data, .data, .pinned], laidTests := true, laidLooks := .later }
def SigTakesCardSaid : Prop := Claim7.holds Tryz.pinned (.plain (OpenSpec.ofChange sigTakesSpec)) sigTakesCard

/-- THE TIED CARD OF 'stowagelaw18.SigChanges'. -/
def sigChangesCard : Claim7 := { stood := { row := sigChangesRow, standIns := [], harness := (true, "e765c76fb1b0534cbc732ac34f9ecd0a5c598663f13aad2f2e1d5e0f500ec66b"), looks := false }, kinds := [], alts := [], laidByText := true, laidKinds := [.data, .data, .data, .data, .data, .pinned], laidTests := true, laidLooks := .later }
def SigChangesCardSaid : Prop := Claim7.holds Tryz.pinned (.plain (OpenSpec.ofChange sigChangesSpec)) sigChangesCard

/-- THE SECOND FORM's CARD OF 'stowagelaw18.SigCanonical'. -/
def sigCanonicalUptoCard : Claim7 := { stood := { row := sigCanonicalUptoRow, standIns := [], harness := (true, "e765c76fb1b0534cbc732ac34f9ecd0a5c598663f13aad2f2e1d5e0f500ec66b"), looks := false }, kinds := [], alts := [], laidByText := true, laidKinds := [.data, .data, .data, .data, .data, .pinned], laidTests := true, laidLooks := .later }
def SigCanonicalUptoCardSaid : Prop := Claim7.holds Tryz.pinned (.plain (OpenSpec.upto sigCanonicalSpec)) sigCanonicalUptoCard

/-- THE SECOND FORM's CARD OF 'stowagelaw18.SigSigns'. -/
def sigSignsUptoCard : Claim7 := { stood := { row := sigSignsUptoRow, standIns := [], harness := (true, "e765c76fb1b0534cbc732ac34f9ecd0a5c598663f13aad2f2e1d5e0f500ec66b"), looks := false }, kinds := [], alts := [], laidByText := true, laidKinds := [.data, .data, .data, .data, .data, .pinned], laidTests := true, laidLooks := .later }
def SigSignsUptoCardSaid : Prop := Claim7.holds Tryz.pinned (.plain (OpenSpec.upto sigSignsSpec)) sigSignsUptoCard

/-- THE SECOND FORM's CARD OF 'stowagelaw18.SigVerifies'. -/
def sigVerifiesUptoCard : Claim7 := { stood := { row := sigVerifiesUptoRow, standIns := [], harness := (true, "e765c76fb1b0534cbc732ac34f9ecd0a5c598663f13aad2f2e1d5e0f500ec66b"), looks := false }, kinds := [], alts := [], laidByText := true, laidKinds := [.data, .data, .data, .data, .data, .pinned], laidTests := true, laidLooks := .later }
def SigVerifiesUptoCardSaid : Prop := Claim7.holds Tryz.pinned (.plain (OpenSpec.upto sigVerifiesSpec)) sigVerifiesUptoCard

/-- THE SECOND FORM's CARD OF 'stowagelaw18.SigMakes'. -/
def sigMakesUptoCard : Claim7 := { stood := { row := sigMakesUptoRow, standIns := [], harness := (true, "e765c76fb1b0534cbc732ac34f9ecd0a5c598663f13aad2f2e1d5e0f500ec66b"), looks := false }, kinds := [], alts := [], laidByText := true, laidKinds := [.data, .data, .data, .data, .data, .pinned], laidTests := true, laidLooks := .later }
def SigMakesUptoCardSaid : Prop := Claim7.holds Tryz.pinned (.plain (OpenSpec.upto sigMakesSpec)) sigMakesUptoCard

/-- THE SECOND FORM's CARD OF 'stowagelaw18.SigTakes'. -/
def sigTakesUptoCard : Claim7 := { stood := { row := sigTakesUptoRow, standIns := [], harness := (true, "e765c76fb1b0534cbc732ac34f9ecd0a5c598663f13aad2f2e1d5e0f500ec66b"), looks := false }, kinds := [], alts := [], laidByText := true, laidKinds := [.data, .data, .data, .data, .data, .pinned], laidTests := true, laidLooks := .later }
def SigTakesUptoCardSaid : Prop := Claim7.holds Tryz.pinned (.plain (OpenSpec.upto sigTakesSpec)) sigTakesUptoCard

/-- THE SECOND FORM's CARD OF 'stowagelaw18.SigChanges'. -/
def sigChangesUptoCard : Claim7 := { stood := { row := sigChangesUptoRow, standIns := [], harness := (true, "e765c76fb1b0534cbc732ac34f9ecd0a5c598663f13aad2f2e1d5e0f500ec66b"), looks := false }, kinds := [], alts := [], laidByText := true, laidKinds := [.data, .data, .data, .data, .data, .pinned], laidTests := true, laidLooks := .later }
def SigChangesUptoCardSaid : Prop := Claim7.holds Tryz.pinned (.plain (OpenSpec.upto sigChangesSpec)) sigChangesUptoCard
end Rows
end Go.Proofs.YtnmffehmjgknkaaGreatDoor
