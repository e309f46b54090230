/-
  DERIVED. GIVEN WITH THE SEED: THE CARDS: each row of YtbhiabcgjnfpoaaGreatDoorRows.lean that lists a variable, with what it lists TIED to the program's text (the seventh form; the later family's looks); each row that meets fmt, with fmt's text TOLD by the authors' own Lean function (tested against real Go, not proved from fmt's source: count such statements apart). THE CARD IS WHAT COUNTS. Prove the row's statement (the work); the ties are given (YtbhiabcgjnfpoaaGreatDoorTie.lean); close each card by the builder's one call (the guide's Derived/Test/ToyasCard.lean, 'card_holds'). Laid BY PROGRAM, IN A SANDBOX (cutbox-door.mjs). By AI agents, Wed Nov 11 2026. No macro, syntax, notation, axiom, sorry.
-/
import Derived.Test.YtbhiabcgjnfpoaaGreatDoorRows
import GoSem.ClaimSeven
namespace Go.Proofs.YtbhiabcgjnfpoaaGreatDoor
namespace Rows

/-- THE TIED CARD OF 'stowagelaw12.MetaRecords'. -/
def metaRecordsCard : Claim7 := { stood := { row := metaRecordsRow, standIns := [], harness := (true, "afb239d52d50ec4bd46d2ba7f280512107f955b5b496de28248bedb943c1a699"), looks := false }, kinds := [], alts := [], laidByText := true, laidKinds := [.data, .data, .data, .data, .pinned], laidTests := true, laidLooks := .later }
def MetaRecordsCardSaid : Prop := Claim7.holds Tryz.pinned (.plain (OpenSpec.ofChange metaRecordsSpec)) metaRecordsCard

/-- THE TIED CARD OF 'stowagelaw12.MetaReads'. -/
def metaReadsCard : Claim7 := { stood := { row := metaReadsRow, standIns := [], harness := (true, "afb239d52d50ec4bd46d2ba7f280512107f955b5b496de28248bedb943c1a699"), looks := false }, kinds := [], alts := [], laidByText := true, laidKinds := [.data, .pinned], laidTests := true, laidLooks := .later }
def MetaReadsCardSaid : Prop := Claim7.holds Tryz.pinned (.plain (OpenSpec.ofChange metaReadsSpec)) metaReadsCard

/-- THE TIED CARD OF 'stowagelaw12.MetaBack'. -/
def metaBackCard : Claim7 := { stood := { row := metaBackRow, standIns := [], harness := (true, "afb239d52d50ec4bd46d2ba7f280512107f955b5b496de28248bedb943c1a699"), looks := false }, kinds := [], alts := [], laidByText := true, laidKinds := [.data, .data, .data, .data, .pinned], laidTests := true, laidLooks := .later }
def MetaBackCardSaid : Prop := Claim7.holds Tryz.pinned (.plain (OpenSpec.ofChange metaBackSpec)) metaBackCard

/-- THE SECOND FORM's CARD OF 'stowagelaw12.MetaRecords'. -/
def metaRecordsUptoCard : Claim7 := { stood := { row := metaRecordsUptoRow, standIns := [], harness := (true, "afb239d52d50ec4bd46d2ba7f280512107f955b5b496de28248bedb943c1a699"), looks := false }, kinds := [], alts := [], laidByText := true, laidKinds := [.data, .data, .data, .data, .pinned], laidTests := true, laidLooks := .later }
def MetaRecordsUptoCardSaid : Prop := Claim7.holds Tryz.pinned (.plain (OpenSpec.upto metaRecordsSpec)) metaRecordsUptoCard

/-- THE SECOND FORM's CARD OF 'stowagelaw12.MetaReads'. -/
def metaReadsUptoCard : Claim7 := { stood := { row := metaReadsUptoRow, standIns := [], harness := (true, "afb239d52d50ec4bd46d2ba7f280512107f955b5b496de28248bedb943c1a699"), looks := false }, kinds := [], alts := [], laidByText := true, laidKinds := [.data, .pinned], laidTests := true, laidLooks := .later }
def MetaReadsUptoCardSaid : Prop := Claim7.holds Tryz.pinned (.plain (OpenSpec.upto metaReadsSpec)) metaReadsUptoCard

/-- THE SECOND FORM's CARD OF 'stowagelaw12.MetaBack'. -/
def metaBackUptoCard : Claim7 := { stood := { row := metaBackUptoRow, standIns := [], harness := (true, "afb239d52d50ec4bd46d2ba7f280512107f955b5b496de28248bedb943c1a699"), looks := false }, kinds := [], alts := [], laidByText := true, laidKinds := [.data, .data, .data, .data, .pinned], laidTests := true, laidLooks := .later }
def MetaBackUptoCardSaid : Prop := Claim7.holds Tryz.pinned (.plain (OpenSpec.upto metaBackSpec)) metaBackUptoCard
end Rows
end Go.Proofs.YtbhiabcgjnfpoaaGreatDoor
