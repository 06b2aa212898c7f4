/-
  DERIVED. GIVEN WITH THE SEED: THE CARDS: each row of YtioolcnoiaoflaaDoorRows.lean that lists a variable, with what it lists TIED to the program's text (the seventh form; the later family's looks); each row that meets fmt, with fmt's text TOLD by the authors' own Lean function (tested against real Go, not proved from fmt's source: count such statements apart). THE CARD IS WHAT COUNTS. Prove the row's statement (the work); the ties are given (YtioolcnoiaoflaaDoorTie.lean); close each card by the builder's one call (the guide's Derived/Test/ToyasCard.lean, 'card_holds'). Laid BY PROGRAM, IN A SANDBOX (cutbox-door.mjs). By AI agents, Wed Nov 11 2026. No macro, syntax, notation, axiom, sorry.
-/
import Derived.Test.YtioolcnoiaoflaaDoorRows
import GoSem.ClaimSeven
namespace Go.Proofs.YtioolcnoiaoflaaDoor
namespace Rows

/-- THE TIED CARD OF 'bowdlerlaw11.DefineFolds'. -/
def defineFoldsCard : Claim7 := { stood := { row := defineFoldsRow, standIns := [], harness := (true, "3de690bf92e8db3b70fb28279818e619ce6789155957db8fe3d4938f8880b5a0"), looks := false }, kinds := [], alts := [], laidByText := true, laidKinds := [.data], laidTests := true, laidLooks := .later }
def DefineFoldsCardSaid : Prop := Claim7.holds Tryd.pinned (.plain (OpenSpec.ofChange defineFoldsSpec)) defineFoldsCard

/-- THE TIED CARD OF 'bowdlerlaw11.DefineBack'. -/
def defineBackCard : Claim7 := { stood := { row := defineBackRow, standIns := [], harness := (true, "3de690bf92e8db3b70fb28279818e619ce6789155957db8fe3d4938f8880b5a0"), looks := false }, kinds := [], alts := [], laidByText := true, laidKinds := [.data], laidTests := true, laidLooks := .later }
def DefineBackCardSaid : Prop := Claim7.holds Tryd.pinned (.plain (OpenSpec.ofChange defineBackSpec)) defineBackCard

/-- THE TIED CARD OF 'bowdlerlaw11.DefineTakes'. -/
def defineTakesCard : Claim7 := { stood := { row := defineTakesRow, standIns := [], harness := (true, "3de690bf92e8db3b70fb28279818e619ce6789155957db8fe3d4938f8880b5a0"), looks := false }, kinds := [], alts := [], laidByText := true, laidKinds := [.data], laidTests := true, laidLooks := .later }
def DefineTakesCardSaid : Prop := Claim7.holds Tryd.pinned (.plain (OpenSpec.ofChange defineTakesSpec)) defineTakesCard

/-- THE TIED CARD OF 'bowdlerlaw11.DefineNone'. -/
def defineNoneCard : Claim7 := { stood := { row := defineNoneRow, standIns := [], harness := (true, "3de690bf92e8db3b70fb28279818e619ce6789155957db8fe3d4938f8880b5a0"), looks := false }, kinds := [], alts := [], laidByText := true, laidKinds := [.data], laidTests := true, laidLooks := .later }
def DefineNoneCardSaid : Prop := Claim7.holds Tryd.pinned (.plain (OpenSpec.ofChange defineNoneSpec)) defineNoneCard

/-- THE SECOND FORM's CARD OF 'bowdlerlaw11.DefineFolds'. -/
def defineFoldsUptoCard : Claim7 := { stood := { row := defineFoldsUptoRow, standIns := [], harness := (true, "3de690bf92e8db3b70fb28279818e619ce6789155957db8fe3d4938f8880b5a0"), looks := false }, kinds := [], alts := [], laidByText := true, laidKinds := [.data], laidTests := true, laidLooks := .later }
def DefineFoldsUptoCardSaid : Prop := Claim7.holds Tryd.pinned (.plain (OpenSpec.upto defineFoldsSpec)) defineFoldsUptoCard

/-- THE SECOND FORM's CARD OF 'bowdlerlaw11.DefineBack'. -/
def defineBackUptoCard : Claim7 := { stood := { row := defineBackUptoRow, standIns := [], harness := (true, "3de690bf92e8db3b70fb28279818e619ce6789155957db8fe3d4938f8880b5a0"), looks := false }, kinds := [], alts := [], laidByText := true, laidKinds := [.data], laidTests := true, laidLooks := .later }
def DefineBackUptoCardSaid : Prop := Claim7.holds Tryd.pinned (.plain (OpenSpec.upto defineBackSpec)) defineBackUptoCard

/-- THE SECOND FORM's CARD OF 'bowdlerlaw11.DefineTakes'. -/
def defineTakesUptoCard : Claim7 := { stood := { row := defineTakesUptoRow, standIns := [], harness := (true, "3de690bf92e8db3b70fb28279818e619ce6789155957db8fe3d4938f8880b5a0"), looks := false }, kinds := [], alts := [], laidByText := true, laidKinds := [.data], laidTests := true, laidLooks := .later }
def DefineTakesUptoCardSaid : Prop := Claim7.holds Tryd.pinned (.plain (OpenSpec.upto defineTakesSpec)) defineTakesUptoCard

/-- THE SECOND FORM's CARD OF 'bowdlerlaw11.DefineNone'. -/
def defineNoneUptoCard : Claim7 := { stood := { row := defineNoneUptoRow, standIns := [], harness := (true, "3de690bf92e8db3b70fb28279818e619ce6789155957db8fe3d4938f8880b5a0"), looks := false }, kinds := [], alts := [], laidByText := true, laidKinds := [.data], laidTests := true, laidLooks := .later }
def DefineNoneUptoCardSaid : Prop := Claim7.holds Tryd.pinned (.plain (OpenSpec.upto defineNoneSpec)) defineNoneUptoCard
end Rows
end Go.Proofs.YtioolcnoiaoflaaDoor
