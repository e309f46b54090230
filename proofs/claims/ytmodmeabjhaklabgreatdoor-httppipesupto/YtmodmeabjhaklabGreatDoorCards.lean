/-
  DERIVED. GIVEN WITH THE SEED: THE CARDS: each row of YtmodmeabjhaklabGreatDoorRows.lean that lists a variable, with what it lists TIED to the program's text (the seventh form; the later family's looks); each row that meets fmt, with fmt's text TOLD by the authors' own Lean function (tested against real Go, not proved from fmt's source: count such statements apart). THE CARD IS WHAT COUNTS. Prove the row's statement (the work); the ties are given (YtmodmeabjhaklabGreatDoorTie.lean); close each card by the builder's one call (the guide's Derived/Test/ToyasCard.lean, 'card_holds'). Laid BY PROGRAM, IN A SANDBOX (cutbox-door.mjs). By AI agents, Wed Nov 11 2026. No macro, syntax, notation, axiom, sorry.
-/
import Derived.Test.YtmodmeabjhaklabGreatDoorRows
import GoSem.ClaimSeven
namespace Go.Proofs.YtmodmeabjhaklabGreatDoor
namespace Rows

/-- THE TIED CARD OF 'stowagelaw16.HttpLent'. -/
def httpLentCard : Claim7 := { stood := { row := httpLentRow, standIns := [], harness := (true, "7f5fd881a0725e398cabaeb4092ce10f4cbff2ccdbcfe00a0af39b8f9ff9cf12"), looks := true }, kinds := [], alts := [], laidByText := true, laidKinds := [.data, .data, .data, .data, .sentinel, .sentinel, .pinned], laidTests := true, laidLooks := .later }
def HttpLentCardSaid : Prop := Claim7.holds Tryz.pinned (.plain (OpenSpec.ofChange httpLentSpec)) httpLentCard

/-- THE TIED CARD OF 'stowagelaw16.HttpPipes'. -/
def httpPipesCard : Claim7 := { stood := { row := httpPipesRow, standIns := [], harness := (true, "7f5fd881a0725e398cabaeb4092ce10f4cbff2ccdbcfe00a0af39b8f9ff9cf12"), looks := true }, kinds := [], alts := [], laidByText := true, laidKinds := [.data, .data, .data, .data, .sentinel, .sentinel, .pinned], laidTests := true, laidLooks := .later }
def HttpPipesCardSaid : Prop := Claim7.holds Tryz.pinned (.plain (OpenSpec.ofChange httpPipesSpec)) httpPipesCard

/-- THE TIED CARD OF 'stowagelaw16.HttpCase'. -/
def httpCaseCard : Claim7 := { stood := { row := httpCaseRow, standIns := [], harness := (true, "7f5fd881a0725e398cabaeb4092ce10f4cbff2ccdbcfe00a0af39b8f9ff9cf12"), looks := true }, kinds := [], alts := [], laidByText := true, laidKinds := [.data, .data, .data, .data, .sentinel, .sentinel, .pinned], laidTests := true, laidLooks := .later }
def HttpCaseCardSaid : Prop := Claim7.holds Tryz.pinned (.plain (OpenSpec.ofChange httpCaseSpec)) httpCaseCard

/-- THE SECOND FORM's CARD OF 'stowagelaw16.HttpLent'. -/
def httpLentUptoCard : Claim7 := { stood := { row := httpLentUptoRow, standIns := [], harness := (true, "7f5fd881a0725e398cabaeb4092ce10f4cbff2ccdbcfe00a0af39b8f9ff9cf12"), looks := true }, kinds := [], alts := [], laidByText := true, laidKinds := [.data, .data, .data, .data, .sentinel, .sentinel, .pinned], laidTests := true, laidLooks := .later }
def HttpLentUptoCardSaid : Prop := Claim7.holds Tryz.pinned (.plain (OpenSpec.upto httpLentSpec)) httpLentUptoCard

/-- THE SECOND FORM's CARD OF 'stowagelaw16.HttpPipes'. -/
def httpPipesUptoCard : Claim7 := { stood := { row := httpPipesUptoRow, standIns := [], harness := (true, "7f5fd881a0725e398cabaeb4092ce10f4cbff2ccdbcfe00a0af39b8f9ff9cf12"), looks := true }, kinds := [], alts := [], laidByText := true, laidKinds := [.data, .data, .data, .data, .sentinel, .sentinel, .pinned], laidTests := true, laidLooks := .later }
def HttpPipesUptoCardSaid : Prop := Claim7.holds Tryz.pinned (.plain (OpenSpec.upto httpPipesSpec)) httpPipesUptoCard

/-- THE SECOND FORM's CARD OF 'stowagelaw16.HttpCase'. -/
def httpCaseUptoCard : Claim7 := { stood := { row := httpCaseUptoRow, standIns := [], harness := (true, "7f5fd881a0725e398cabaeb4092ce10f4cbff2ccdbcfe00a0af39b8f9ff9cf12"), looks := true }, kinds := [], alts := [], laidByText := true, laidKinds := [.data, .data, .data, .data, .sentinel, .sentinel, .pinned], laidTests := true, laidLooks := .later }
def HttpCaseUptoCardSaid : Prop := Claim7.holds Tryz.pinned (.plain (OpenSpec.upto httpCaseSpec)) httpCaseUptoCard
end Rows
end Go.Proofs.YtmodmeabjhaklabGreatDoor
