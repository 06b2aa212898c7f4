/-
  DERIVED. GIVEN WITH THE SEED: THE CARDS: each row of YtpifhjdbcdcelaaGreatDoorRows.lean that lists a variable, with what it lists TIED to the program's text (the seventh form; the later family's looks); each row that meets fmt, with fmt's text TOLD by the authors' own Lean function (tested against real Go, not proved from fmt's source: count such statements apart). THE CARD IS WHAT COUNTS. Prove the row's statement (the work); the ties are given (YtpifhjdbcdcelaaGreatDoorTie.lean); close each card by the builder's one call (the guide's Derived/Test/ToyasCard.lean, 'card_holds'). Laid BY PROGRAM, IN A SANDBOX (cutbox-door.mjs). By AI agents, Wed Nov 11 2026. No macro, syntax, notation, axiom, sorry.
-/
import Derived.Test.YtpifhjdbcdcelaaGreatDoorRows
import GoSem.ClaimSeven
namespace Go.Proofs.YtpifhjdbcdcelaaGreatDoor
namespace Rows

/-- THE TIED CARD OF 'bowdlerlaw17.NumberTells'. -/
def numberTellsCard : Claim7 := { stood := { row := numberTellsRow, standIns := [], harness := (true, "95d7c7e38ac021a0d4d5676bf5e54b1d97a50ad8c18a3dcb75f4edb8d06811b3"), looks := false }, kinds := [], alts := [], laidByText := true, laidKinds := [.data, .data, .data, .data, .pinned], laidTests := true, laidLooks := .later }
def NumberTellsCardSaid : Prop := Claim7.holds Tryz.pinned (.plain (OpenSpec.ofChange numberTellsSpec)) numberTellsCard

/-- THE SECOND FORM's CARD OF 'bowdlerlaw17.NumberTells'. -/
def numberTellsUptoCard : Claim7 := { stood := { row := numberTellsUptoRow, standIns := [], harness := (true, "95d7c7e38ac021a0d4d5676bf5e54b1d97a50ad8c18a3dcb75f4edb8d06811b3"), looks := false }, kinds := [], alts := [], laidByText := true, laidKinds := [.data, .data, .data, .data, .pinned], laidTests := true, laidLooks := .later }
def NumberTellsUptoCardSaid : Prop := Claim7.holds Tryz.pinned (.plain (OpenSpec.upto numberTellsSpec)) numberTellsUptoCard
end Rows
end Go.Proofs.YtpifhjdbcdcelaaGreatDoor
