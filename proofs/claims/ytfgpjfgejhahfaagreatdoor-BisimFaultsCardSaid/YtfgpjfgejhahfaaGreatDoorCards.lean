/-
  DERIVED. GIVEN WITH THE SEED: THE CARDS: each row of YtfgpjfgejhahfaaGreatDoorRows.lean that lists a variable, with what it lists TIED to the program's text (the seventh form; the later family's looks); each row that meets fmt, with fmt's text TOLD by the authors' own Lean function (tested against real Go, not proved from fmt's source: count such statements apart). THE CARD IS WHAT COUNTS. Prove the row's statement (the work); the ties are given (YtfgpjfgejhahfaaGreatDoorTie.lean); close each card by the builder's one call (the guide's Derived/Test/ToyasCard.lean, 'card_holds'). Laid BY PROGRAM, IN A SANDBOX (cutbox-door.mjs). By AI agents, Wed Nov 11 2026. No macro, syntax, notation, axiom, sorry.
-/
import Derived.Test.YtfgpjfgejhahfaaGreatDoorRows
import GoSem.ClaimSeven
namespace Go.Proofs.YtfgpjfgejhahfaaGreatDoor
namespace Rows

/-- THE TIED CARD OF 'ectypelaw06.BisimRelated'. -/
def bisimRelatedCard : Claim7 := { stood := { row := bisimRelatedRow, standIns := [], harness := (true, "aa28afab8ee5b5cd2245812b2d9eae96e91b8bb2fe7db9cd8a33ce8977695aac"), looks := false }, kinds := [], alts := [], laidByText := true, laidKinds := [.data], laidTests := true, laidLooks := .later }
def BisimRelatedCardSaid : Prop := Claim7.holds Tryz.pinned (.plain (OpenSpec.ofChange bisimRelatedSpec)) bisimRelatedCard

/-- THE TIED CARD OF 'ectypelaw06.BisimFaults'. -/
def bisimFaultsCard : Claim7 := { stood := { row := bisimFaultsRow, standIns := [], harness := (true, "aa28afab8ee5b5cd2245812b2d9eae96e91b8bb2fe7db9cd8a33ce8977695aac"), looks := false }, kinds := [], alts := [], laidByText := true, laidKinds := [.data], laidTests := true, laidLooks := .later }
def BisimFaultsCardSaid : Prop := Claim7.holds Tryz.pinned (.plain (OpenSpec.ofChange bisimFaultsSpec)) bisimFaultsCard

/-- THE TIED CARD OF 'ectypelaw06.BisimOperations'. -/
def bisimOperationsCard : Claim7 := { stood := { row := bisimOperationsRow, standIns := [], harness := (true, "aa28afab8ee5b5cd2245812b2d9eae96e91b8bb2fe7db9cd8a33ce8977695aac"), looks := false }, kinds := [], alts := [], laidByText := true, laidKinds := [.data], laidTests := true, laidLooks := .later }
def BisimOperationsCardSaid : Prop := Claim7.holds Tryz.pinned (.plain (OpenSpec.ofChange bisimOperationsSpec)) bisimOperationsCard

/-- THE TIED CARD OF 'ectypelaw06.BisimLaws'. -/
def bisimLawsCard : Claim7 := { stood := { row := bisimLawsRow, standIns := [], harness := (true, "aa28afab8ee5b5cd2245812b2d9eae96e91b8bb2fe7db9cd8a33ce8977695aac"), looks := false }, kinds := [], alts := [], laidByText := true, laidKinds := [.data], laidTests := true, laidLooks := .later }
def BisimLawsCardSaid : Prop := Claim7.holds Tryz.pinned (.plain (OpenSpec.ofChange bisimLawsSpec)) bisimLawsCard

/-- THE TIED CARD OF 'ectypelaw06.BisimGraphs'. -/
def bisimGraphsCard : Claim7 := { stood := { row := bisimGraphsRow, standIns := [], harness := (true, "aa28afab8ee5b5cd2245812b2d9eae96e91b8bb2fe7db9cd8a33ce8977695aac"), looks := false }, kinds := [], alts := [], laidByText := true, laidKinds := [.data], laidTests := true, laidLooks := .later }
def BisimGraphsCardSaid : Prop := Claim7.holds Tryz.pinned (.plain (OpenSpec.ofChange bisimGraphsSpec)) bisimGraphsCard

/-- THE TIED CARD OF 'ectypelaw06.BisimOwn'. -/
def bisimOwnCard : Claim7 := { stood := { row := bisimOwnRow, standIns := [], harness := (true, "aa28afab8ee5b5cd2245812b2d9eae96e91b8bb2fe7db9cd8a33ce8977695aac"), looks := false }, kinds := [], alts := [], laidByText := true, laidKinds := [.data], laidTests := true, laidLooks := .later }
def BisimOwnCardSaid : Prop := Claim7.holds Tryz.pinned (.plain (OpenSpec.ofChange bisimOwnSpec)) bisimOwnCard

/-- THE SECOND FORM's CARD OF 'ectypelaw06.BisimRelated'. -/
def bisimRelatedUptoCard : Claim7 := { stood := { row := bisimRelatedUptoRow, standIns := [], harness := (true, "aa28afab8ee5b5cd2245812b2d9eae96e91b8bb2fe7db9cd8a33ce8977695aac"), looks := false }, kinds := [], alts := [], laidByText := true, laidKinds := [.data], laidTests := true, laidLooks := .later }
def BisimRelatedUptoCardSaid : Prop := Claim7.holds Tryz.pinned (.plain (OpenSpec.upto bisimRelatedSpec)) bisimRelatedUptoCard

/-- THE SECOND FORM's CARD OF 'ectypelaw06.BisimFaults'. -/
def bisimFaultsUptoCard : Claim7 := { stood := { row := bisimFaultsUptoRow, standIns := [], harness := (true, "aa28afab8ee5b5cd2245812b2d9eae96e91b8bb2fe7db9cd8a33ce8977695aac"), looks := false }, kinds := [], alts := [], laidByText := true, laidKinds := [.data], laidTests := true, laidLooks := .later }
def BisimFaultsUptoCardSaid : Prop := Claim7.holds Tryz.pinned (.plain (OpenSpec.upto bisimFaultsSpec)) bisimFaultsUptoCard

/-- THE SECOND FORM's CARD OF 'ectypelaw06.BisimOperations'. -/
def bisimOperationsUptoCard : Claim7 := { stood := { row := bisimOperationsUptoRow, standIns := [], harness := (true, "aa28afab8ee5b5cd2245812b2d9eae96e91b8bb2fe7db9cd8a33ce8977695aac"), looks := false }, kinds := [], alts := [], laidByText := true, laidKinds := [.data], laidTests := true, laidLooks := .later }
def BisimOperationsUptoCardSaid : Prop := Claim7.holds Tryz.pinned (.plain (OpenSpec.upto bisimOperationsSpec)) bisimOperationsUptoCard

/-- THE SECOND FORM's CARD OF 'ectypelaw06.BisimLaws'. -/
def bisimLawsUptoCard : Claim7 := { stood := { row := bisimLawsUptoRow, standIns := [], harness := (true, "aa28afab8ee5b5cd2245812b2d9eae96e91b8bb2fe7db9cd8a33ce8977695aac"), looks := false }, kinds := [], alts := [], laidByText := true, laidKinds := [.data], laidTests := true, laidLooks := .later }
def BisimLawsUptoCardSaid : Prop := Claim7.holds Tryz.pinned (.plain (OpenSpec.upto bisimLawsSpec)) bisimLawsUptoCard

/-- THE SECOND FORM's CARD OF 'ectypelaw06.BisimGraphs'. -/
def bisimGraphsUptoCard : Claim7 := { stood := { row := bisimGraphsUptoRow, standIns := [], harness := (true, "aa28afab8ee5b5cd2245812b2d9eae96e91b8bb2fe7db9cd8a33ce8977695aac"), looks := false }, kinds := [], alts := [], laidByText := true, laidKinds := [.data], laidTests := true, laidLooks := .later }
def BisimGraphsUptoCardSaid : Prop := Claim7.holds Tryz.pinned (.plain (OpenSpec.upto bisimGraphsSpec)) bisimGraphsUptoCard

/-- THE SECOND FORM's CARD OF 'ectypelaw06.BisimOwn'. -/
def bisimOwnUptoCard : Claim7 := { stood := { row := bisimOwnUptoRow, standIns := [], harness := (true, "aa28afab8ee5b5cd2245812b2d9eae96e91b8bb2fe7db9cd8a33ce8977695aac"), looks := false }, kinds := [], alts := [], laidByText := true, laidKinds := [.data], laidTests := true, laidLooks := .later }
def BisimOwnUptoCardSaid : Prop := Claim7.holds Tryz.pinned (.plain (OpenSpec.upto bisimOwnSpec)) bisimOwnUptoCard
end Rows
end Go.Proofs.YtfgpjfgejhahfaaGreatDoor
