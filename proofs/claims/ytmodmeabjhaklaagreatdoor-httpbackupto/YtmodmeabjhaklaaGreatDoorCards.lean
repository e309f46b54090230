/-
  DERIVED. GIVEN WITH THE SEED: THE CARDS: each row of YtmodmeabjhaklaaGreatDoorRows.lean that lists a variable, with what it lists TIED to the program's text (the seventh form; the later family's looks); each row that meets fmt, with fmt's text TOLD by the authors' own Lean function (tested against real Go, not proved from fmt's source: count such statements apart). THE CARD IS WHAT COUNTS. Prove the row's statement (the work); the ties are given (YtmodmeabjhaklaaGreatDoorTie.lean); close each card by the builder's one call (the guide's Derived/Test/ToyasCard.lean, 'card_holds'). Laid BY PROGRAM, IN A SANDBOX (cutbox-door.mjs). By AI agents, Wed Nov 11 2026. No macro, syntax, notation, axiom, sorry.
-/
import Derived.Test.YtmodmeabjhaklaaGreatDoorRows
import GoSem.ClaimSeven
namespace Go.Proofs.YtmodmeabjhaklaaGreatDoor
namespace Rows

/-- THE TIED CARD OF 'stowagelaw16.HttpParses'. -/
def httpParsesCard : Claim7 := { stood := { row := httpParsesRow, standIns := [], harness := (true, "040ddee4ca6b9a788901b493975079638482198dceb1521491b3b574698309ed"), looks := true }, kinds := [], alts := [], laidByText := true, laidKinds := [.data, .data, .data, .data, .sentinel, .sentinel, .pinned], laidTests := true, laidLooks := .later }
def HttpParsesCardSaid : Prop := Claim7.holds Tryz.pinned (.plain (OpenSpec.ofChange httpParsesSpec)) httpParsesCard

/-- THE TIED CARD OF 'stowagelaw16.HttpCuts'. -/
def httpCutsCard : Claim7 := { stood := { row := httpCutsRow, standIns := [], harness := (true, "040ddee4ca6b9a788901b493975079638482198dceb1521491b3b574698309ed"), looks := true }, kinds := [], alts := [], laidByText := true, laidKinds := [.data, .data, .data, .data, .sentinel, .sentinel, .pinned], laidTests := true, laidLooks := .later }
def HttpCutsCardSaid : Prop := Claim7.holds Tryz.pinned (.plain (OpenSpec.ofChange httpCutsSpec)) httpCutsCard

/-- THE TIED CARD OF 'stowagelaw16.HttpQueries'. -/
def httpQueriesCard : Claim7 := { stood := { row := httpQueriesRow, standIns := [], harness := (true, "040ddee4ca6b9a788901b493975079638482198dceb1521491b3b574698309ed"), looks := true }, kinds := [], alts := [], laidByText := true, laidKinds := [.data, .data, .data, .data, .sentinel, .sentinel, .pinned], laidTests := true, laidLooks := .later }
def HttpQueriesCardSaid : Prop := Claim7.holds Tryz.pinned (.plain (OpenSpec.ofChange httpQueriesSpec)) httpQueriesCard

/-- THE TIED CARD OF 'stowagelaw16.HttpBack'. -/
def httpBackCard : Claim7 := { stood := { row := httpBackRow, standIns := [], harness := (true, "040ddee4ca6b9a788901b493975079638482198dceb1521491b3b574698309ed"), looks := true }, kinds := [], alts := [], laidByText := true, laidKinds := [.data, .data, .data, .data, .sentinel, .sentinel, .pinned], laidTests := true, laidLooks := .later }
def HttpBackCardSaid : Prop := Claim7.holds Tryz.pinned (.plain (OpenSpec.ofChange httpBackSpec)) httpBackCard

/-- THE TIED CARD OF 'stowagelaw16.HttpChunks'. -/
def httpChunksCard : Claim7 := { stood := { row := httpChunksRow, standIns := [], harness := (true, "040ddee4ca6b9a788901b493975079638482198dceb1521491b3b574698309ed"), looks := true }, kinds := [], alts := [], laidByText := true, laidKinds := [.data, .data, .data, .data, .sentinel, .sentinel, .pinned], laidTests := true, laidLooks := .later }
def HttpChunksCardSaid : Prop := Claim7.holds Tryz.pinned (.plain (OpenSpec.ofChange httpChunksSpec)) httpChunksCard

/-- THE TIED CARD OF 'stowagelaw16.HttpLimits'. -/
def httpLimitsCard : Claim7 := { stood := { row := httpLimitsRow, standIns := [], harness := (true, "040ddee4ca6b9a788901b493975079638482198dceb1521491b3b574698309ed"), looks := true }, kinds := [], alts := [], laidByText := true, laidKinds := [.data, .data, .data, .data, .sentinel, .sentinel, .pinned], laidTests := true, laidLooks := .later }
def HttpLimitsCardSaid : Prop := Claim7.holds Tryz.pinned (.plain (OpenSpec.ofChange httpLimitsSpec)) httpLimitsCard

/-- THE SECOND FORM's CARD OF 'stowagelaw16.HttpParses'. -/
def httpParsesUptoCard : Claim7 := { stood := { row := httpParsesUptoRow, standIns := [], harness := (true, "040ddee4ca6b9a788901b493975079638482198dceb1521491b3b574698309ed"), looks := true }, kinds := [], alts := [], laidByText := true, laidKinds := [.data, .data, .data, .data, .sentinel, .sentinel, .pinned], laidTests := true, laidLooks := .later }
def HttpParsesUptoCardSaid : Prop := Claim7.holds Tryz.pinned (.plain (OpenSpec.upto httpParsesSpec)) httpParsesUptoCard

/-- THE SECOND FORM's CARD OF 'stowagelaw16.HttpCuts'. -/
def httpCutsUptoCard : Claim7 := { stood := { row := httpCutsUptoRow, standIns := [], harness := (true, "040ddee4ca6b9a788901b493975079638482198dceb1521491b3b574698309ed"), looks := true }, kinds := [], alts := [], laidByText := true, laidKinds := [.data, .data, .data, .data, .sentinel, .sentinel, .pinned], laidTests := true, laidLooks := .later }
def HttpCutsUptoCardSaid : Prop := Claim7.holds Tryz.pinned (.plain (OpenSpec.upto httpCutsSpec)) httpCutsUptoCard

/-- THE SECOND FORM's CARD OF 'stowagelaw16.HttpQueries'. -/
def httpQueriesUptoCard : Claim7 := { stood := { row := httpQueriesUptoRow, standIns := [], harness := (true, "040ddee4ca6b9a788901b493975079638482198dceb1521491b3b574698309ed"), looks := true }, kinds := [], alts := [], laidByText := true, laidKinds := [.data, .data, .data, .data, .sentinel, .sentinel, .pinned], laidTests := true, laidLooks := .later }
def HttpQueriesUptoCardSaid : Prop := Claim7.holds Tryz.pinned (.plain (OpenSpec.upto httpQueriesSpec)) httpQueriesUptoCard

/-- THE SECOND FORM's CARD OF 'stowagelaw16.HttpBack'. -/
def httpBackUptoCard : Claim7 := { stood := { row := httpBackUptoRow, standIns := [], harness := (true, "040ddee4ca6b9a788901b493975079638482198dceb1521491b3b574698309ed"), looks := true }, kinds := [], alts := [], laidByText := true, laidKinds := [.data, .data, .data, .data, .sentinel, .sentinel, .pinned], laidTests := true, laidLooks := .later }
def HttpBackUptoCardSaid : Prop := Claim7.holds Tryz.pinned (.plain (OpenSpec.upto httpBackSpec)) httpBackUptoCard

/-- THE SECOND FORM's CARD OF 'stowagelaw16.HttpChunks'. -/
def httpChunksUptoCard : Claim7 := { stood := { row := httpChunksUptoRow, standIns := [], harness := (true, "040ddee4ca6b9a788901b493975079638482198dceb1521491b3b574698309ed"), looks := true }, kinds := [], alts := [], laidByText := true, laidKinds := [.data, .data, .data, .data, .sentinel, .sentinel, .pinned], laidTests := true, laidLooks := .later }
def HttpChunksUptoCardSaid : Prop := Claim7.holds Tryz.pinned (.plain (OpenSpec.upto httpChunksSpec)) httpChunksUptoCard

/-- THE SECOND FORM's CARD OF 'stowagelaw16.HttpLimits'. -/
def httpLimitsUptoCard : Claim7 := { stood := { row := httpLimitsUptoRow, standIns := [], harness := (true, "040ddee4ca6b9a788901b493975079638482198dceb1521491b3b574698309ed"), looks := true }, kinds := [], alts := [], laidByText := true, laidKinds := [.data, .data, .data, .data, .sentinel, .sentinel, .pinned], laidTests := true, laidLooks := .later }
def HttpLimitsUptoCardSaid : Prop := Claim7.holds Tryz.pinned (.plain (OpenSpec.upto httpLimitsSpec)) httpLimitsUptoCard
end Rows
end Go.Proofs.YtmodmeabjhaklaaGreatDoor
