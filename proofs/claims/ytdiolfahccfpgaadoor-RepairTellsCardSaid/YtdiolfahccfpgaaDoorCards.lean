/-
  DERIVED. GIVEN WITH THE SEED: THE CARDS: each row of YtdiolfahccfpgaaDoorRows.lean that lists a variable, with what it lists TIED to the program's text (the seventh form; the later family's looks); each row that meets fmt, with fmt's text TOLD by the authors' own Lean function (tested against real Go, not proved from fmt's source: count such statements apart). THE CARD IS WHAT COUNTS. Prove the row's statement (the work); the ties are given (YtdiolfahccfpgaaDoorTie.lean); close each card by the builder's one call (the guide's Derived/Test/ToyasCard.lean, 'card_holds'). Laid BY PROGRAM, IN A SANDBOX (cutbox-door.mjs). By AI agents, Wed Nov 11 2026. No macro, syntax, notation, axiom, sorry.
-/
import Derived.Test.YtdiolfahccfpgaaDoorRows
import GoSem.ClaimSeven
namespace Go.Proofs.YtdiolfahccfpgaaDoor
namespace Rows

/-- THE TIED CARD OF 'bowdlerlaw1.RepairTells'. -/
def repairTellsCard : Claim7 := { stood := { row := repairTellsRow, standIns := [], harness := (true, "7109ebd987d7136cd186f24d4457a2c825271022dbef21f679ec434d9422f05a"), looks := false }, kinds := [], alts := [], laidByText := true, laidKinds := [.data, .pinned], laidTests := true, laidLooks := .later }
def RepairTellsCardSaid : Prop := Claim7.holds Tryd.pinned (.plain (OpenSpec.ofChange repairTellsSpec)) repairTellsCard

/-- THE SECOND FORM's CARD OF 'bowdlerlaw1.RepairTells'. -/
def repairTellsUptoCard : Claim7 := { stood := { row := repairTellsUptoRow, standIns := [], harness := (true, "7109ebd987d7136cd186f24d4457a2c825271022dbef21f679ec434d9422f05a"), looks := false }, kinds := [], alts := [], laidByText := true, laidKinds := [.data, .pinned], laidTests := true, laidLooks := .later }
def RepairTellsUptoCardSaid : Prop := Claim7.holds Tryd.pinned (.plain (OpenSpec.upto repairTellsSpec)) repairTellsUptoCard
end Rows
end Go.Proofs.YtdiolfahccfpgaaDoor
