/-
  DERIVED. GIVEN WITH THE SEED: THE CARDS: each row of YtkldloglpbiioaaDoorRows.lean that lists a variable, with what it lists TIED to the program's text (the seventh form; the later family's looks); each row that meets fmt, with fmt's text TOLD by the authors' own Lean function (tested against real Go, not proved from fmt's source: count such statements apart). THE CARD IS WHAT COUNTS. Prove the row's statement (the work); the ties are given (YtkldloglpbiioaaDoorTie.lean); close each card by the builder's one call (the guide's Derived/Test/ToyasCard.lean, 'card_holds'). Laid BY PROGRAM, IN A SANDBOX (cutbox-door.mjs). By AI agents, Wed Nov 11 2026. No macro, syntax, notation, axiom, sorry.
-/
import Derived.Test.YtkldloglpbiioaaDoorRows
import GoSem.ClaimSeven
namespace Go.Proofs.YtkldloglpbiioaaDoor
namespace Rows

/-- THE TIED CARD OF 'bowdlerlaw10.TargetSchemes'. -/
def targetSchemesCard : Claim7 := { stood := { row := targetSchemesRow, standIns := [], harness := (true, "bb9389ef34b13f2313a619a22efd9cf95ebe62abb0b447339fe451fd31d8316f"), looks := false }, kinds := [], alts := [], laidByText := true, laidKinds := [.data, .data], laidTests := true, laidLooks := .later }
def TargetSchemesCardSaid : Prop := Claim7.holds Tryd.pinned (.plain (OpenSpec.ofChange targetSchemesSpec)) targetSchemesCard

/-- THE TIED CARD OF 'bowdlerlaw10.TargetEncodes'. -/
def targetEncodesCard : Claim7 := { stood := { row := targetEncodesRow, standIns := [], harness := (true, "bb9389ef34b13f2313a619a22efd9cf95ebe62abb0b447339fe451fd31d8316f"), looks := false }, kinds := [], alts := [], laidByText := true, laidKinds := [.data, .data], laidTests := true, laidLooks := .later }
def TargetEncodesCardSaid : Prop := Claim7.holds Tryd.pinned (.plain (OpenSpec.ofChange targetEncodesSpec)) targetEncodesCard

/-- THE TIED CARD OF 'bowdlerlaw10.TargetRounds'. -/
def targetRoundsCard : Claim7 := { stood := { row := targetRoundsRow, standIns := [], harness := (true, "bb9389ef34b13f2313a619a22efd9cf95ebe62abb0b447339fe451fd31d8316f"), looks := false }, kinds := [], alts := [], laidByText := true, laidKinds := [.data, .data], laidTests := true, laidLooks := .later }
def TargetRoundsCardSaid : Prop := Claim7.holds Tryd.pinned (.plain (OpenSpec.ofChange targetRoundsSpec)) targetRoundsCard

/-- THE TIED CARD OF 'bowdlerlaw10.TargetBrackets'. -/
def targetBracketsCard : Claim7 := { stood := { row := targetBracketsRow, standIns := [], harness := (true, "bb9389ef34b13f2313a619a22efd9cf95ebe62abb0b447339fe451fd31d8316f"), looks := false }, kinds := [], alts := [], laidByText := true, laidKinds := [.data, .data], laidTests := true, laidLooks := .later }
def TargetBracketsCardSaid : Prop := Claim7.holds Tryd.pinned (.plain (OpenSpec.ofChange targetBracketsSpec)) targetBracketsCard

/-- THE TIED CARD OF 'bowdlerlaw10.TargetQuotes'. -/
def targetQuotesCard : Claim7 := { stood := { row := targetQuotesRow, standIns := [], harness := (true, "bb9389ef34b13f2313a619a22efd9cf95ebe62abb0b447339fe451fd31d8316f"), looks := false }, kinds := [], alts := [], laidByText := true, laidKinds := [.data, .data], laidTests := true, laidLooks := .later }
def TargetQuotesCardSaid : Prop := Claim7.holds Tryd.pinned (.plain (OpenSpec.ofChange targetQuotesSpec)) targetQuotesCard

/-- THE TIED CARD OF 'bowdlerlaw10.TargetPlain'. -/
def targetPlainCard : Claim7 := { stood := { row := targetPlainRow, standIns := [], harness := (true, "bb9389ef34b13f2313a619a22efd9cf95ebe62abb0b447339fe451fd31d8316f"), looks := false }, kinds := [], alts := [], laidByText := true, laidKinds := [.data, .data], laidTests := true, laidLooks := .later }
def TargetPlainCardSaid : Prop := Claim7.holds Tryd.pinned (.plain (OpenSpec.ofChange targetPlainSpec)) targetPlainCard

/-- THE SECOND FORM's CARD OF 'bowdlerlaw10.TargetSchemes'. -/
def targetSchemesUptoCard : Claim7 := { stood := { row := targetSchemesUptoRow, standIns := [], harness := (true, "bb9389ef34b13f2313a619a22efd9cf95ebe62abb0b447339fe451fd31d8316f"), looks := false }, kinds := [], alts := [], laidByText := true, laidKinds := [.data, .data], laidTests := true, laidLooks := .later }
def TargetSchemesUptoCardSaid : Prop := Claim7.holds Tryd.pinned (.plain (OpenSpec.upto targetSchemesSpec)) targetSchemesUptoCard

/-- THE SECOND FORM's CARD OF 'bowdlerlaw10.TargetEncodes'. -/
def targetEncodesUptoCard : Claim7 := { stood := { row := targetEncodesUptoRow, standIns := [], harness := (true, "bb9389ef34b13f2313a619a22efd9cf95ebe62abb0b447339fe451fd31d8316f"), looks := false }, kinds := [], alts := [], laidByText := true, laidKinds := [.data, .data], laidTests := true, laidLooks := .later }
def TargetEncodesUptoCardSaid : Prop := Claim7.holds Tryd.pinned (.plain (OpenSpec.upto targetEncodesSpec)) targetEncodesUptoCard

/-- THE SECOND FORM's CARD OF 'bowdlerlaw10.TargetRounds'. -/
def targetRoundsUptoCard : Claim7 := { stood := { row := targetRoundsUptoRow, standIns := [], harness := (true, "bb9389ef34b13f2313a619a22efd9cf95ebe62abb0b447339fe451fd31d8316f"), looks := false }, kinds := [], alts := [], laidByText := true, laidKinds := [.data, .data], laidTests := true, laidLooks := .later }
def TargetRoundsUptoCardSaid : Prop := Claim7.holds Tryd.pinned (.plain (OpenSpec.upto targetRoundsSpec)) targetRoundsUptoCard

/-- THE SECOND FORM's CARD OF 'bowdlerlaw10.TargetBrackets'. -/
def targetBracketsUptoCard : Claim7 := { stood := { row := targetBracketsUptoRow, standIns := [], harness := (true, "bb9389ef34b13f2313a619a22efd9cf95ebe62abb0b447339fe451fd31d8316f"), looks := false }, kinds := [], alts := [], laidByText := true, laidKinds := [.data, .data], laidTests := true, laidLooks := .later }
def TargetBracketsUptoCardSaid : Prop := Claim7.holds Tryd.pinned (.plain (OpenSpec.upto targetBracketsSpec)) targetBracketsUptoCard

/-- THE SECOND FORM's CARD OF 'bowdlerlaw10.TargetQuotes'. -/
def targetQuotesUptoCard : Claim7 := { stood := { row := targetQuotesUptoRow, standIns := [], harness := (true, "bb9389ef34b13f2313a619a22efd9cf95ebe62abb0b447339fe451fd31d8316f"), looks := false }, kinds := [], alts := [], laidByText := true, laidKinds := [.data, .data], laidTests := true, laidLooks := .later }
def TargetQuotesUptoCardSaid : Prop := Claim7.holds Tryd.pinned (.plain (OpenSpec.upto targetQuotesSpec)) targetQuotesUptoCard

/-- THE SECOND FORM's CARD OF 'bowdlerlaw10.TargetPlain'. -/
def targetPlainUptoCard : Claim7 := { stood := { row := targetPlainUptoRow, standIns := [], harness := (true, "bb9389ef34b13f2313a619a22efd9cf95ebe62abb0b447339fe451fd31d8316f"), looks := false }, kinds := [], alts := [], laidByText := true, laidKinds := [.data, .data], laidTests := true, laidLooks := .later }
def TargetPlainUptoCardSaid : Prop := Claim7.holds Tryd.pinned (.plain (OpenSpec.upto targetPlainSpec)) targetPlainUptoCard
end Rows
end Go.Proofs.YtkldloglpbiioaaDoor
