/-
  DERIVED. GIVEN WITH THE SEED: THE CARDS: each row of YtbemlmhchpinhaaDoorRows.lean that lists a variable, with what it lists TIED to the program's text (the seventh form; the later family's looks); each row that meets fmt, with fmt's text TOLD by the authors' own Lean function (tested against real Go, not proved from fmt's source: count such statements apart). THE CARD IS WHAT COUNTS. Prove the row's statement (the work); the ties are given (YtbemlmhchpinhaaDoorTie.lean); close each card by the builder's one call (the guide's Derived/Test/ToyasCard.lean, 'card_holds'). Laid BY PROGRAM, IN A SANDBOX (cutbox-door.mjs). By AI agents, Wed Nov 11 2026. No macro, syntax, notation, axiom, sorry.
-/
import Derived.Test.YtbemlmhchpinhaaDoorRows
import GoSem.ClaimSeven
namespace Go.Proofs.YtbemlmhchpinhaaDoor
namespace Rows

/-- THE TIED CARD OF 'stowagelaw4.WhenSteps'. -/
def whenStepsCard : Claim7 := { stood := { row := whenStepsRow, standIns := [], harness := (true, "144d59ef926aa45b80ba8f0737ddfd4b4cb70a908d720f86be511b47d8795b57"), looks := false }, kinds := [], alts := [], laidByText := true, laidKinds := [.data, .data, .data], laidTests := true, laidLooks := .later }
def WhenStepsCardSaid : Prop := Claim7.holds Tryd.pinned (.plain (OpenSpec.ofChange whenStepsSpec)) whenStepsCard

/-- THE TIED CARD OF 'stowagelaw4.WhenCivil'. -/
def whenCivilCard : Claim7 := { stood := { row := whenCivilRow, standIns := [], harness := (true, "144d59ef926aa45b80ba8f0737ddfd4b4cb70a908d720f86be511b47d8795b57"), looks := false }, kinds := [], alts := [], laidByText := true, laidKinds := [.data, .data, .data], laidTests := true, laidLooks := .later }
def WhenCivilCardSaid : Prop := Claim7.holds Tryd.pinned (.plain (OpenSpec.ofChange whenCivilSpec)) whenCivilCard

/-- THE TIED CARD OF 'stowagelaw4.WhenTexts'. -/
def whenTextsCard : Claim7 := { stood := { row := whenTextsRow, standIns := [], harness := (true, "144d59ef926aa45b80ba8f0737ddfd4b4cb70a908d720f86be511b47d8795b57"), looks := false }, kinds := [], alts := [], laidByText := true, laidKinds := [.data, .data, .data], laidTests := true, laidLooks := .later }
def WhenTextsCardSaid : Prop := Claim7.holds Tryd.pinned (.plain (OpenSpec.ofChange whenTextsSpec)) whenTextsCard

/-- THE TIED CARD OF 'stowagelaw4.WhenParses'. -/
def whenParsesCard : Claim7 := { stood := { row := whenParsesRow, standIns := [], harness := (true, "144d59ef926aa45b80ba8f0737ddfd4b4cb70a908d720f86be511b47d8795b57"), looks := false }, kinds := [], alts := [], laidByText := true, laidKinds := [.data, .data, .data], laidTests := true, laidLooks := .later }
def WhenParsesCardSaid : Prop := Claim7.holds Tryd.pinned (.plain (OpenSpec.ofChange whenParsesSpec)) whenParsesCard

/-- THE TIED CARD OF 'stowagelaw4.WhenBack'. -/
def whenBackCard : Claim7 := { stood := { row := whenBackRow, standIns := [], harness := (true, "144d59ef926aa45b80ba8f0737ddfd4b4cb70a908d720f86be511b47d8795b57"), looks := false }, kinds := [], alts := [], laidByText := true, laidKinds := [.data, .data, .data], laidTests := true, laidLooks := .later }
def WhenBackCardSaid : Prop := Claim7.holds Tryd.pinned (.plain (OpenSpec.ofChange whenBackSpec)) whenBackCard

/-- THE SECOND FORM's CARD OF 'stowagelaw4.WhenSteps'. -/
def whenStepsUptoCard : Claim7 := { stood := { row := whenStepsUptoRow, standIns := [], harness := (true, "144d59ef926aa45b80ba8f0737ddfd4b4cb70a908d720f86be511b47d8795b57"), looks := false }, kinds := [], alts := [], laidByText := true, laidKinds := [.data, .data, .data], laidTests := true, laidLooks := .later }
def WhenStepsUptoCardSaid : Prop := Claim7.holds Tryd.pinned (.plain (OpenSpec.upto whenStepsSpec)) whenStepsUptoCard

/-- THE SECOND FORM's CARD OF 'stowagelaw4.WhenCivil'. -/
def whenCivilUptoCard : Claim7 := { stood := { row := whenCivilUptoRow, standIns := [], harness := (true, "144d59ef926aa45b80ba8f0737ddfd4b4cb70a908d720f86be511b47d8795b57"), looks := false }, kinds := [], alts := [], laidByText := true, laidKinds := [.data, .data, .data], laidTests := true, laidLooks := .later }
def WhenCivilUptoCardSaid : Prop := Claim7.holds Tryd.pinned (.plain (OpenSpec.upto whenCivilSpec)) whenCivilUptoCard

/-- THE SECOND FORM's CARD OF 'stowagelaw4.WhenTexts'. -/
def whenTextsUptoCard : Claim7 := { stood := { row := whenTextsUptoRow, standIns := [], harness := (true, "144d59ef926aa45b80ba8f0737ddfd4b4cb70a908d720f86be511b47d8795b57"), looks := false }, kinds := [], alts := [], laidByText := true, laidKinds := [.data, .data, .data], laidTests := true, laidLooks := .later }
def WhenTextsUptoCardSaid : Prop := Claim7.holds Tryd.pinned (.plain (OpenSpec.upto whenTextsSpec)) whenTextsUptoCard

/-- THE SECOND FORM's CARD OF 'stowagelaw4.WhenParses'. -/
def whenParsesUptoCard : Claim7 := { stood := { row := whenParsesUptoRow, standIns := [], harness := (true, "144d59ef926aa45b80ba8f0737ddfd4b4cb70a908d720f86be511b47d8795b57"), looks := false }, kinds := [], alts := [], laidByText := true, laidKinds := [.data, .data, .data], laidTests := true, laidLooks := .later }
def WhenParsesUptoCardSaid : Prop := Claim7.holds Tryd.pinned (.plain (OpenSpec.upto whenParsesSpec)) whenParsesUptoCard

/-- THE SECOND FORM's CARD OF 'stowagelaw4.WhenBack'. -/
def whenBackUptoCard : Claim7 := { stood := { row := whenBackUptoRow, standIns := [], harness := (true, "144d59ef926aa45b80ba8f0737ddfd4b4cb70a908d720f86be511b47d8795b57"), looks := false }, kinds := [], alts := [], laidByText := true, laidKinds := [.data, .data, .data], laidTests := true, laidLooks := .later }
def WhenBackUptoCardSaid : Prop := Claim7.holds Tryd.pinned (.plain (OpenSpec.upto whenBackSpec)) whenBackUptoCard
end Rows
end Go.Proofs.YtbemlmhchpinhaaDoor
