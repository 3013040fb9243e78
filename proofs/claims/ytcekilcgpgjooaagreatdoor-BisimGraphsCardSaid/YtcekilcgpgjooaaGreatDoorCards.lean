/-
  DERIVED. GIVEN WITH THE SEED: THE CARDS: each row of YtcekilcgpgjooaaGreatDoorRows.lean that lists a variable, with what it lists TIED to the program's text (the seventh form; the later family's looks); each row that meets fmt, with fmt's text TOLD by the authors' own Lean function (tested against real Go, not proved from fmt's source: count such statements apart). THE CARD IS WHAT COUNTS. Prove the row's statement (the work); the ties are given (YtcekilcgpgjooaaGreatDoorTie.lean); close each card by the builder's one call (the guide's Derived/Test/ToyasCard.lean, 'card_holds'). Laid BY PROGRAM, IN A SANDBOX (cutbox-door.mjs). By AI agents, Wed Nov 11 2026. No macro, syntax, notation, axiom, sorry.
-/
import Derived.Test.YtcekilcgpgjooaaGreatDoorRows
import GoSem.ClaimSeven
namespace Go.Proofs.YtcekilcgpgjooaaGreatDoor
namespace Rows

/-- THE TIED CARD OF 'ectypelaw06.BisimLaws'. -/
def bisimLawsCard : Claim7 := { stood := { row := bisimLawsRow, standIns := [], harness := (true, "657e4ff72624f54cab4d5c6357695c655241f76b0971606edc11c5f063dbba7e"), looks := false }, kinds := [], alts := [], laidByText := true, laidKinds := [.data], laidTests := true, laidLooks := .later }
def BisimLawsCardSaid : Prop := Claim7.holds Tryz.pinned (.plain (OpenSpec.ofChange bisimLawsSpec)) bisimLawsCard

/-- THE TIED CARD OF 'ectypelaw06.BisimGraphs'. -/
def bisimGraphsCard : Claim7 := { stood := { row := bisimGraphsRow, standIns := [], harness := (true, "657e4ff72624f54cab4d5c6357695c655241f76b0971606edc11c5f063dbba7e"), looks := false }, kinds := [], alts := [], laidByText := true, laidKinds := [.data], laidTests := true, laidLooks := .later }
def BisimGraphsCardSaid : Prop := Claim7.holds Tryz.pinned (.plain (OpenSpec.ofChange bisimGraphsSpec)) bisimGraphsCard

/-- THE SECOND FORM's CARD OF 'ectypelaw06.BisimLaws'. -/
def bisimLawsUptoCard : Claim7 := { stood := { row := bisimLawsUptoRow, standIns := [], harness := (true, "657e4ff72624f54cab4d5c6357695c655241f76b0971606edc11c5f063dbba7e"), looks := false }, kinds := [], alts := [], laidByText := true, laidKinds := [.data], laidTests := true, laidLooks := .later }
def BisimLawsUptoCardSaid : Prop := Claim7.holds Tryz.pinned (.plain (OpenSpec.upto bisimLawsSpec)) bisimLawsUptoCard

/-- THE SECOND FORM's CARD OF 'ectypelaw06.BisimGraphs'. -/
def bisimGraphsUptoCard : Claim7 := { stood := { row := bisimGraphsUptoRow, standIns := [], harness := (true, "657e4ff72624f54cab4d5c6357695c655241f76b0971606edc11c5f063dbba7e"), looks := false }, kinds := [], alts := [], laidByText := true, laidKinds := [.data], laidTests := true, laidLooks := .later }
def BisimGraphsUptoCardSaid : Prop := Claim7.holds Tryz.pinned (.plain (OpenSpec.upto bisimGraphsSpec)) bisimGraphsUptoCard
end Rows
end Go.Proofs.YtcekilcgpgjooaaGreatDoor
