/-
  DERIVED. GIVEN WITH THE SEED: THE CARDS: each row of YtmmdjbbbjlkmoaaDoorRows.lean that lists a variable, with what it lists TIED to the program's text (the seventh form; the later family's looks); each row that meets fmt, with fmt's text TOLD by the authors' own Lean function (tested against real Go, not proved from fmt's source: count such statements apart). THE CARD IS WHAT COUNTS. Prove the row's statement (the work); the ties are given (YtmmdjbbbjlkmoaaDoorTie.lean); close each card by the builder's one call (the guide's Derived/Test/ToyasCard.lean, 'card_holds'). Laid BY PROGRAM, IN A SANDBOX (cutbox-door.mjs). By AI agents, Wed Nov 11 2026. No macro, syntax, notation, axiom, sorry.
-/
import Derived.Test.YtmmdjbbbjlkmoaaDoorRows
import GoSem.ClaimSeven
namespace Go.Proofs.YtmmdjbbbjlkmoaaDoor
namespace Rows

/-- THE TIED CARD OF 'bowdlerlaw5.LatticeTells'. -/
def latticeTellsCard : Claim7 := { stood := { row := latticeTellsRow, standIns := [], harness := (true, "fe57215b80fe26bf6b4dc2ce707fb7234d7c7b4267cddbf71fb5df84cb3d35c4"), looks := false }, kinds := [], alts := [], laidByText := true, laidKinds := [.data], laidTests := true, laidLooks := .later }
def LatticeTellsCardSaid : Prop := Claim7.holds Tryd.pinned (.plain (OpenSpec.ofChange latticeTellsSpec)) latticeTellsCard

/-- THE TIED CARD OF 'bowdlerlaw5.LatticeLaws'. -/
def latticeLawsCard : Claim7 := { stood := { row := latticeLawsRow, standIns := [], harness := (true, "fe57215b80fe26bf6b4dc2ce707fb7234d7c7b4267cddbf71fb5df84cb3d35c4"), looks := false }, kinds := [], alts := [], laidByText := true, laidKinds := [.data], laidTests := true, laidLooks := .later }
def LatticeLawsCardSaid : Prop := Claim7.holds Tryd.pinned (.plain (OpenSpec.ofChange latticeLawsSpec)) latticeLawsCard

/-- THE TIED CARD OF 'bowdlerlaw5.LatticeChains'. -/
def latticeChainsCard : Claim7 := { stood := { row := latticeChainsRow, standIns := [], harness := (true, "fe57215b80fe26bf6b4dc2ce707fb7234d7c7b4267cddbf71fb5df84cb3d35c4"), looks := false }, kinds := [], alts := [], laidByText := true, laidKinds := [.data], laidTests := true, laidLooks := .later }
def LatticeChainsCardSaid : Prop := Claim7.holds Tryd.pinned (.plain (OpenSpec.ofChange latticeChainsSpec)) latticeChainsCard

/-- THE TIED CARD OF 'bowdlerlaw5.LatticeSets'. -/
def latticeSetsCard : Claim7 := { stood := { row := latticeSetsRow, standIns := [], harness := (true, "fe57215b80fe26bf6b4dc2ce707fb7234d7c7b4267cddbf71fb5df84cb3d35c4"), looks := false }, kinds := [], alts := [], laidByText := true, laidKinds := [.data], laidTests := true, laidLooks := .later }
def LatticeSetsCardSaid : Prop := Claim7.holds Tryd.pinned (.plain (OpenSpec.ofChange latticeSetsSpec)) latticeSetsCard

/-- THE TIED CARD OF 'bowdlerlaw5.LatticeBad'. -/
def latticeBadCard : Claim7 := { stood := { row := latticeBadRow, standIns := [], harness := (true, "fe57215b80fe26bf6b4dc2ce707fb7234d7c7b4267cddbf71fb5df84cb3d35c4"), looks := false }, kinds := [], alts := [], laidByText := true, laidKinds := [.data], laidTests := true, laidLooks := .later }
def LatticeBadCardSaid : Prop := Claim7.holds Tryd.pinned (.plain (OpenSpec.ofChange latticeBadSpec)) latticeBadCard

/-- THE TIED CARD OF 'bowdlerlaw5.LatticeTurns'. -/
def latticeTurnsCard : Claim7 := { stood := { row := latticeTurnsRow, standIns := [], harness := (true, "fe57215b80fe26bf6b4dc2ce707fb7234d7c7b4267cddbf71fb5df84cb3d35c4"), looks := false }, kinds := [], alts := [], laidByText := true, laidKinds := [.data], laidTests := true, laidLooks := .later }
def LatticeTurnsCardSaid : Prop := Claim7.holds Tryd.pinned (.plain (OpenSpec.ofChange latticeTurnsSpec)) latticeTurnsCard

/-- THE SECOND FORM's CARD OF 'bowdlerlaw5.LatticeTells'. -/
def latticeTellsUptoCard : Claim7 := { stood := { row := latticeTellsUptoRow, standIns := [], harness := (true, "fe57215b80fe26bf6b4dc2ce707fb7234d7c7b4267cddbf71fb5df84cb3d35c4"), looks := false }, kinds := [], alts := [], laidByText := true, laidKinds := [.data], laidTests := true, laidLooks := .later }
def LatticeTellsUptoCardSaid : Prop := Claim7.holds Tryd.pinned (.plain (OpenSpec.upto latticeTellsSpec)) latticeTellsUptoCard

/-- THE SECOND FORM's CARD OF 'bowdlerlaw5.LatticeLaws'. -/
def latticeLawsUptoCard : Claim7 := { stood := { row := latticeLawsUptoRow, standIns := [], harness := (true, "fe57215b80fe26bf6b4dc2ce707fb7234d7c7b4267cddbf71fb5df84cb3d35c4"), looks := false }, kinds := [], alts := [], laidByText := true, laidKinds := [.data], laidTests := true, laidLooks := .later }
def LatticeLawsUptoCardSaid : Prop := Claim7.holds Tryd.pinned (.plain (OpenSpec.upto latticeLawsSpec)) latticeLawsUptoCard

/-- THE SECOND FORM's CARD OF 'bowdlerlaw5.LatticeChains'. -/
def latticeChainsUptoCard : Claim7 := { stood := { row := latticeChainsUptoRow, standIns := [], harness := (true, "fe57215b80fe26bf6b4dc2ce707fb7234d7c7b4267cddbf71fb5df84cb3d35c4"), looks := false }, kinds := [], alts := [], laidByText := true, laidKinds := [.data], laidTests := true, laidLooks := .later }
def LatticeChainsUptoCardSaid : Prop := Claim7.holds Tryd.pinned (.plain (OpenSpec.upto latticeChainsSpec)) latticeChainsUptoCard

/-- THE SECOND FORM's CARD OF 'bowdlerlaw5.LatticeSets'. -/
def latticeSetsUptoCard : Claim7 := { stood := { row := latticeSetsUptoRow, standIns := [], harness := (true, "fe57215b80fe26bf6b4dc2ce707fb7234d7c7b4267cddbf71fb5df84cb3d35c4"), looks := false }, kinds := [], alts := [], laidByText := true, laidKinds := [.data], laidTests := true, laidLooks := .later }
def LatticeSetsUptoCardSaid : Prop := Claim7.holds Tryd.pinned (.plain (OpenSpec.upto latticeSetsSpec)) latticeSetsUptoCard

/-- THE SECOND FORM's CARD OF 'bowdlerlaw5.LatticeBad'. -/
def latticeBadUptoCard : Claim7 := { stood := { row := latticeBadUptoRow, standIns := [], harness := (true, "fe57215b80fe26bf6b4dc2ce707fb7234d7c7b4267cddbf71fb5df84cb3d35c4"), looks := false }, kinds := [], alts := [], laidByText := true, laidKinds := [.data], laidTests := true, laidLooks := .later }
def LatticeBadUptoCardSaid : Prop := Claim7.holds Tryd.pinned (.plain (OpenSpec.upto latticeBadSpec)) latticeBadUptoCard

/-- THE SECOND FORM's CARD OF 'bowdlerlaw5.LatticeTurns'. -/
def latticeTurnsUptoCard : Claim7 := { stood := { row := latticeTurnsUptoRow, standIns := [], harness := (true, "fe57215b80fe26bf6b4dc2ce707fb7234d7c7b4267cddbf71fb5df84cb3d35c4"), looks := false }, kinds := [], alts := [], laidByText := true, laidKinds := [.data], laidTests := true, laidLooks := .later }
def LatticeTurnsUptoCardSaid : Prop := Claim7.holds Tryd.pinned (.plain (OpenSpec.upto latticeTurnsSpec)) latticeTurnsUptoCard
end Rows
end Go.Proofs.YtmmdjbbbjlkmoaaDoor
