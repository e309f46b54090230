/-
  DERIVED. GIVEN WITH THE SEED: THE CARDS: each row of YtaagnckppdaljaaDoorRows.lean that lists a variable, with what it lists TIED to the program's text (the seventh form; the later family's looks); each row that meets fmt, with fmt's text TOLD by the authors' own Lean function (tested against real Go, not proved from fmt's source: count such statements apart). THE CARD IS WHAT COUNTS. Prove the row's statement (the work); the ties are given (YtaagnckppdaljaaDoorTie.lean); close each card by the builder's one call (the guide's Derived/Test/ToyasCard.lean, 'card_holds'). Laid BY PROGRAM, IN A SANDBOX (cutbox-door.mjs). By AI agents, Wed Nov 11 2026. No macro, syntax, notation, axiom, sorry.
-/
import Derived.Test.YtaagnckppdaljaaDoorRows
import GoSem.ClaimSeven
namespace Go.Proofs.YtaagnckppdaljaaDoor
namespace Rows

/-- THE TIED CARD OF 'stowagelaw12.MetaKeys'. -/
def metaKeysCard : Claim7 := { stood := { row := metaKeysRow, standIns := [], harness := (true, "7df82c4e2d06600c6b41dbe101adc1a8a9b1bbf3a2ecef591a07e95cb35a64a9"), looks := false }, kinds := [], alts := [], laidByText := true, laidKinds := [.data, .pinned], laidTests := true, laidLooks := .later }
def MetaKeysCardSaid : Prop := Claim7.holds Tryd.pinned (.plain (OpenSpec.ofChange metaKeysSpec)) metaKeysCard

/-- THE TIED CARD OF 'stowagelaw12.MetaParses'. -/
def metaParsesCard : Claim7 := { stood := { row := metaParsesRow, standIns := [], harness := (true, "7df82c4e2d06600c6b41dbe101adc1a8a9b1bbf3a2ecef591a07e95cb35a64a9"), looks := false }, kinds := [], alts := [], laidByText := true, laidKinds := [.data, .pinned], laidTests := true, laidLooks := .later }
def MetaParsesCardSaid : Prop := Claim7.holds Tryd.pinned (.plain (OpenSpec.ofChange metaParsesSpec)) metaParsesCard

/-- THE TIED CARD OF 'stowagelaw12.MetaOrder'. -/
def metaOrderCard : Claim7 := { stood := { row := metaOrderRow, standIns := [], harness := (true, "7df82c4e2d06600c6b41dbe101adc1a8a9b1bbf3a2ecef591a07e95cb35a64a9"), looks := false }, kinds := [], alts := [], laidByText := true, laidKinds := [.data, .pinned], laidTests := true, laidLooks := .later }
def MetaOrderCardSaid : Prop := Claim7.holds Tryd.pinned (.plain (OpenSpec.ofChange metaOrderSpec)) metaOrderCard

/-- THE TIED CARD OF 'stowagelaw12.MetaApart'. -/
def metaApartCard : Claim7 := { stood := { row := metaApartRow, standIns := [], harness := (true, "7df82c4e2d06600c6b41dbe101adc1a8a9b1bbf3a2ecef591a07e95cb35a64a9"), looks := false }, kinds := [], alts := [], laidByText := true, laidKinds := [.data, .pinned], laidTests := true, laidLooks := .later }
def MetaApartCardSaid : Prop := Claim7.holds Tryd.pinned (.plain (OpenSpec.ofChange metaApartSpec)) metaApartCard

/-- THE SECOND FORM's CARD OF 'stowagelaw12.MetaKeys'. -/
def metaKeysUptoCard : Claim7 := { stood := { row := metaKeysUptoRow, standIns := [], harness := (true, "7df82c4e2d06600c6b41dbe101adc1a8a9b1bbf3a2ecef591a07e95cb35a64a9"), looks := false }, kinds := [], alts := [], laidByText := true, laidKinds := [.data, .pinned], laidTests := true, laidLooks := .later }
def MetaKeysUptoCardSaid : Prop := Claim7.holds Tryd.pinned (.plain (OpenSpec.upto metaKeysSpec)) metaKeysUptoCard

/-- THE SECOND FORM's CARD OF 'stowagelaw12.MetaParses'. -/
def metaParsesUptoCard : Claim7 := { stood := { row := metaParsesUptoRow, standIns := [], harness := (true, "7df82c4e2d06600c6b41dbe101adc1a8a9b1bbf3a2ecef591a07e95cb35a64a9"), looks := false }, kinds := [], alts := [], laidByText := true, laidKinds := [.data, .pinned], laidTests := true, laidLooks := .later }
def MetaParsesUptoCardSaid : Prop := Claim7.holds Tryd.pinned (.plain (OpenSpec.upto metaParsesSpec)) metaParsesUptoCard

/-- THE SECOND FORM's CARD OF 'stowagelaw12.MetaOrder'. -/
def metaOrderUptoCard : Claim7 := { stood := { row := metaOrderUptoRow, standIns := [], harness := (true, "7df82c4e2d06600c6b41dbe101adc1a8a9b1bbf3a2ecef591a07e95cb35a64a9"), looks := false }, kinds := [], alts := [], laidByText := true, laidKinds := [.data, .pinned], laidTests := true, laidLooks := .later }
def MetaOrderUptoCardSaid : Prop := Claim7.holds Tryd.pinned (.plain (OpenSpec.upto metaOrderSpec)) metaOrderUptoCard

/-- THE SECOND FORM's CARD OF 'stowagelaw12.MetaApart'. -/
def metaApartUptoCard : Claim7 := { stood := { row := metaApartUptoRow, standIns := [], harness := (true, "7df82c4e2d06600c6b41dbe101adc1a8a9b1bbf3a2ecef591a07e95cb35a64a9"), looks := false }, kinds := [], alts := [], laidByText := true, laidKinds := [.data, .pinned], laidTests := true, laidLooks := .later }
def MetaApartUptoCardSaid : Prop := Claim7.holds Tryd.pinned (.plain (OpenSpec.upto metaApartSpec)) metaApartUptoCard
end Rows
end Go.Proofs.YtaagnckppdaljaaDoor
