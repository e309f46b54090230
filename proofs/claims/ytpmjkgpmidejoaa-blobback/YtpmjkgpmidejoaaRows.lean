/-
  No cell of these rows narrows 'for every input' (looked for: loops, veiled, ifaces, maps, wideKeys, modest, calm, conditions, laid).
  DERIVED. THE GIVEN ROWS OF THIS SEAT. 5 by the template 'for every input the law returns true; each argument reads behind the call as it read before'; 0 by the template 'total and deterministic' (their statements: YtpmjkgpmidejoaaTotals.lean).
  GIVEN WITH THE SEED: the statements are not yours to turn. If you find one false, say at which input.
  Laid BY PROGRAM, IN A SANDBOX (cutbox-rows.mjs): the forced cells as the released guide's own fill.sh prints them over the translation e758fe75121c3ab0… (all of the seat's roots in one cut). By AI agents, Wed Nov 11 2026. No macro, syntax, notation, axiom, sorry.
-/
import Derived.Test.YtpmjkgpmidejoaaChecked
import GoSem.Claim
import GoSem.ClaimJoined
import GoSem.ClaimMapViews
import Derived.JoinedTies
import Derived.KernelRfl
namespace Go.Proofs.Ytpmjkgpmidejoaa
/- THE CELL 'sum', in the pinned program and in every row, IS THE sha256 OF THE DUMP (.gsa) THAT YtpmjkgpmidejoaaProg.lean LOADS. Nothing in Lean hashes anything: it is a label: what it is worth is what the hold of that sum in a sandbox is worth. -/
noncomputable def Try.pinned : Pinned := { name := "ytpmjkgpmidejoaa", sum := "e758fe75121c3ab035107190f187fd50ec0c9ee517fba4ed95190f3ebc82e3c2", checked := Try.checked }
namespace Rows
def none {H : Type} : Left H := { results := [], args := [] }

/-- 'stowagelaw11.BlobPlays': WHATEVER THE INPUT: true; the input reads as it did. -/
def blobPlaysSpec : ChangeSpec := { name := "blobPlays", fn := fun _ => fun
  | [d1, d2, d3, d4, d5] => { results := [.lit (.bool true)], args := [d1, d2, d3, d4, d5] }
  | _ => none }
def blobPlaysRow : OpenClaim := { program := "ytpmjkgpmidejoaa", sum := "e758fe75121c3ab035107190f187fd50ec0c9ee517fba4ed95190f3ebc82e3c2", func := "stowage/stowagelaw11.BlobPlays", spec := "blobPlays", inPlace := ["internal/abi.NoEscape", "internal/bytealg.MakeNoZero"], unfollowed := true, recurses := true, apart := false }
def BlobPlaysSaid : Prop := blobPlaysRow.holds Try.pinned (OpenSpec.ofChange blobPlaysSpec)

/-- ITS FALSE NEIGHBOUR: 'it returns false'. Refute it at one input. -/
def blobPlaysWrong : ChangeSpec := { name := "blobPlays", fn := fun _ => fun
  | [d1, d2, d3, d4, d5] => { results := [.lit (.bool false)], args := [d1, d2, d3, d4, d5] }
  | _ => none }
def BlobPlaysWrongFalsely : Prop := blobPlaysRow.holds Try.pinned (OpenSpec.ofChange blobPlaysWrong)

/-- 'stowagelaw11.BlobSectors': WHATEVER THE INPUT: true; the input reads as it did. -/
def blobSectorsSpec : ChangeSpec := { name := "blobSectors", fn := fun _ => fun
  | [d] => { results := [.lit (.bool true)], args := [d] }
  | _ => none }
def blobSectorsRow : OpenClaim := { program := "ytpmjkgpmidejoaa", sum := "e758fe75121c3ab035107190f187fd50ec0c9ee517fba4ed95190f3ebc82e3c2", func := "stowage/stowagelaw11.BlobSectors", spec := "blobSectors", inPlace := ["internal/abi.NoEscape", "internal/bytealg.MakeNoZero"], unfollowed := true, recurses := true, apart := false }
def BlobSectorsSaid : Prop := blobSectorsRow.holds Try.pinned (OpenSpec.ofChange blobSectorsSpec)

/-- ITS FALSE NEIGHBOUR: 'it returns false'. Refute it at one input. -/
def blobSectorsWrong : ChangeSpec := { name := "blobSectors", fn := fun _ => fun
  | [d] => { results := [.lit (.bool false)], args := [d] }
  | _ => none }
def BlobSectorsWrongFalsely : Prop := blobSectorsRow.holds Try.pinned (OpenSpec.ofChange blobSectorsWrong)

/-- 'stowagelaw11.BlobBack': WHATEVER THE INPUT: true; the input reads as it did. -/
def blobBackSpec : ChangeSpec := { name := "blobBack", fn := fun _ => fun
  | [d1, d2, d3] => { results := [.lit (.bool true)], args := [d1, d2, d3] }
  | _ => none }
def blobBackRow : OpenClaim := { program := "ytpmjkgpmidejoaa", sum := "e758fe75121c3ab035107190f187fd50ec0c9ee517fba4ed95190f3ebc82e3c2", func := "stowage/stowagelaw11.BlobBack", spec := "blobBack", inPlace := ["internal/abi.NoEscape", "internal/bytealg.MakeNoZero"], unfollowed := true, recurses := true, apart := false }
def BlobBackSaid : Prop := blobBackRow.holds Try.pinned (OpenSpec.ofChange blobBackSpec)

/-- ITS FALSE NEIGHBOUR: 'it returns false'. Refute it at one input. -/
def blobBackWrong : ChangeSpec := { name := "blobBack", fn := fun _ => fun
  | [d1, d2, d3] => { results := [.lit (.bool false)], args := [d1, d2, d3] }
  | _ => none }
def BlobBackWrongFalsely : Prop := blobBackRow.holds Try.pinned (OpenSpec.ofChange blobBackWrong)

/-- 'stowagelaw11.BlobTells': WHATEVER THE INPUT: true; the input reads as it did. -/
def blobTellsSpec : ChangeSpec := { name := "blobTells", fn := fun _ => fun
  | [d1, d2, d3] => { results := [.lit (.bool true)], args := [d1, d2, d3] }
  | _ => none }
def blobTellsRow : OpenClaim := { program := "ytpmjkgpmidejoaa", sum := "e758fe75121c3ab035107190f187fd50ec0c9ee517fba4ed95190f3ebc82e3c2", func := "stowage/stowagelaw11.BlobTells", spec := "blobTells", inPlace := ["internal/abi.NoEscape", "internal/bytealg.MakeNoZero"], unfollowed := true, recurses := true, apart := false }
def BlobTellsSaid : Prop := blobTellsRow.holds Try.pinned (OpenSpec.ofChange blobTellsSpec)

/-- ITS FALSE NEIGHBOUR: 'it returns false'. Refute it at one input. -/
def blobTellsWrong : ChangeSpec := { name := "blobTells", fn := fun _ => fun
  | [d1, d2, d3] => { results := [.lit (.bool false)], args := [d1, d2, d3] }
  | _ => none }
def BlobTellsWrongFalsely : Prop := blobTellsRow.holds Try.pinned (OpenSpec.ofChange blobTellsWrong)

/-- 'stowagelaw11.BlobRoom': WHATEVER THE INPUT: true; the input reads as it did. -/
def blobRoomSpec : ChangeSpec := { name := "blobRoom", fn := fun _ => fun
  | [d] => { results := [.lit (.bool true)], args := [d] }
  | _ => none }
def blobRoomRow : OpenClaim := { program := "ytpmjkgpmidejoaa", sum := "e758fe75121c3ab035107190f187fd50ec0c9ee517fba4ed95190f3ebc82e3c2", func := "stowage/stowagelaw11.BlobRoom", spec := "blobRoom", inPlace := ["internal/abi.NoEscape", "internal/bytealg.MakeNoZero"], unfollowed := true, recurses := true, apart := false }
def BlobRoomSaid : Prop := blobRoomRow.holds Try.pinned (OpenSpec.ofChange blobRoomSpec)

/-- ITS FALSE NEIGHBOUR: 'it returns false'. Refute it at one input. -/
def blobRoomWrong : ChangeSpec := { name := "blobRoom", fn := fun _ => fun
  | [d] => { results := [.lit (.bool false)], args := [d] }
  | _ => none }
def BlobRoomWrongFalsely : Prop := blobRoomRow.holds Try.pinned (OpenSpec.ofChange blobRoomWrong)

/- THE SECOND FORM. 'bulk': how many values and letters a reading holds, each counted each time it is reached (what is shared counts as often as it is met; a slice's spare places count too). A statement '..UptoSaid' is the law's where the arguments, and the package variables that the reading takes, are together of bulk at most 1048576: NARROWER than '..Said'. Prove '..Said' where nothing that the law and all that it calls make is longer than what came in: it says more and counts as full. Else prove '..UptoSaid'. A law counts once. -/
mutual
def uptoBulk {H : Type} : DataW H → Nat
  | .lit (.string bytes) => bytes.length + 1
  | .lit _ => 1
  | .nil => 1
  | .ptr d => uptoBulk d + 1
  | .slice elems spare => uptoBulkAll elems + uptoBulkAll spare + 1
  | .agg parts => uptoBulkAll parts + 1
  | .iface _ d => uptoBulk d + 1
  | .map entries => uptoBulkEntries entries + 1
  | .held _ => 1
def uptoBulkAll {H : Type} : List (DataW H) → Nat
  | [] => 0
  | d :: r => uptoBulk d + uptoBulkAll r
def uptoBulkEntries {H : Type} : List (Lit × DataW H) → Nat
  | [] => 0
  | x :: r => uptoBulkEntry x + uptoBulkEntries r
def uptoBulkEntry {H : Type} : Lit × DataW H → Nat
  | (.string bytes, d) => bytes.length + uptoBulk d + 1
  | (_, d) => uptoBulk d + 1
 end
def uptoSmall : (H : Type) → List (DataW H) → Bool := fun _ ds => decide (uptoBulkAll ds ≤ 1048576)
def OpenSpec.upto (s : _root_.Go.ChangeSpec) : _root_.Go.OpenSpec := { _root_.Go.OpenSpec.ofChange s with cond := some uptoSmall }

/-- 'stowagelaw11.BlobPlays', WHERE WHAT IT READS IS OF BULK AT MOST 1048576: true; the input reads as it did. -/
def blobPlaysUptoRow : OpenClaim := { program := "ytpmjkgpmidejoaa", sum := "e758fe75121c3ab035107190f187fd50ec0c9ee517fba4ed95190f3ebc82e3c2", func := "stowage/stowagelaw11.BlobPlays", spec := "blobPlays", inPlace := ["internal/abi.NoEscape", "internal/bytealg.MakeNoZero"], unfollowed := true, recurses := true, apart := false, narrowed := true }
def BlobPlaysUptoSaid : Prop := blobPlaysUptoRow.holds Try.pinned (OpenSpec.upto blobPlaysSpec)

/-- 'stowagelaw11.BlobSectors', WHERE WHAT IT READS IS OF BULK AT MOST 1048576: true; the input reads as it did. -/
def blobSectorsUptoRow : OpenClaim := { program := "ytpmjkgpmidejoaa", sum := "e758fe75121c3ab035107190f187fd50ec0c9ee517fba4ed95190f3ebc82e3c2", func := "stowage/stowagelaw11.BlobSectors", spec := "blobSectors", inPlace := ["internal/abi.NoEscape", "internal/bytealg.MakeNoZero"], unfollowed := true, recurses := true, apart := false, narrowed := true }
def BlobSectorsUptoSaid : Prop := blobSectorsUptoRow.holds Try.pinned (OpenSpec.upto blobSectorsSpec)

/-- 'stowagelaw11.BlobBack', WHERE WHAT IT READS IS OF BULK AT MOST 1048576: true; the input reads as it did. -/
def blobBackUptoRow : OpenClaim := { program := "ytpmjkgpmidejoaa", sum := "e758fe75121c3ab035107190f187fd50ec0c9ee517fba4ed95190f3ebc82e3c2", func := "stowage/stowagelaw11.BlobBack", spec := "blobBack", inPlace := ["internal/abi.NoEscape", "internal/bytealg.MakeNoZero"], unfollowed := true, recurses := true, apart := false, narrowed := true }
def BlobBackUptoSaid : Prop := blobBackUptoRow.holds Try.pinned (OpenSpec.upto blobBackSpec)

/-- 'stowagelaw11.BlobTells', WHERE WHAT IT READS IS OF BULK AT MOST 1048576: true; the input reads as it did. -/
def blobTellsUptoRow : OpenClaim := { program := "ytpmjkgpmidejoaa", sum := "e758fe75121c3ab035107190f187fd50ec0c9ee517fba4ed95190f3ebc82e3c2", func := "stowage/stowagelaw11.BlobTells", spec := "blobTells", inPlace := ["internal/abi.NoEscape", "internal/bytealg.MakeNoZero"], unfollowed := true, recurses := true, apart := false, narrowed := true }
def BlobTellsUptoSaid : Prop := blobTellsUptoRow.holds Try.pinned (OpenSpec.upto blobTellsSpec)

/-- 'stowagelaw11.BlobRoom', WHERE WHAT IT READS IS OF BULK AT MOST 1048576: true; the input reads as it did. -/
def blobRoomUptoRow : OpenClaim := { program := "ytpmjkgpmidejoaa", sum := "e758fe75121c3ab035107190f187fd50ec0c9ee517fba4ed95190f3ebc82e3c2", func := "stowage/stowagelaw11.BlobRoom", spec := "blobRoom", inPlace := ["internal/abi.NoEscape", "internal/bytealg.MakeNoZero"], unfollowed := true, recurses := true, apart := false, narrowed := true }
def BlobRoomUptoSaid : Prop := blobRoomUptoRow.holds Try.pinned (OpenSpec.upto blobRoomSpec)

end Rows
end Go.Proofs.Ytpmjkgpmidejoaa
