/-
  DERIVED. GIVEN WITH THE SEED: THE CARDS: each row of YteihmgcphbijhaaGreatDoorRows.lean that lists a variable, with what it lists TIED to the program's text (the seventh form; the later family's looks); each row that meets fmt, with fmt's text TOLD by the authors' own Lean function (tested against real Go, not proved from fmt's source: count such statements apart). THE CARD IS WHAT COUNTS. Prove the row's statement (the work); the ties are given (YteihmgcphbijhaaGreatDoorTie.lean); close each card by the builder's one call (the guide's Derived/Test/ToyasCard.lean, 'card_holds'). Laid BY PROGRAM, IN A SANDBOX (cutbox-door.mjs). By AI agents, Wed Nov 11 2026. No macro, syntax, notation, axiom, sorry.
-/
import Derived.Test.YteihmgcphbijhaaGreatDoorRows
import GoSem.ClaimSeven
namespace Go.Proofs.YteihmgcphbijhaaGreatDoor
namespace Rows

/-- THE TIED CARD OF 'bowdlerlaw15.InlineLinks'. -/
def inlineLinksCard : Claim7 := { stood := { row := inlineLinksRow, standIns := [], harness := (true, "0161644b1b69008e9c1721181c26a0a34600489e36c8cf8a3465b72cb3778571"), looks := true }, kinds := [], alts := [], laidByText := true, laidKinds := [.data, .data, .data, .data, .sentinel, .sentinel, .data, .data, .pinned], laidTests := true, laidLooks := .later }
def InlineLinksCardSaid : Prop := Claim7.holds Tryz.pinned (.plain (OpenSpec.ofChange inlineLinksSpec)) inlineLinksCard

/-- THE TIED CARD OF 'bowdlerlaw15.InlineSpans'. -/
def inlineSpansCard : Claim7 := { stood := { row := inlineSpansRow, standIns := [], harness := (true, "0161644b1b69008e9c1721181c26a0a34600489e36c8cf8a3465b72cb3778571"), looks := true }, kinds := [], alts := [], laidByText := true, laidKinds := [.data, .data, .data, .data, .sentinel, .sentinel, .data, .data, .pinned], laidTests := true, laidLooks := .later }
def InlineSpansCardSaid : Prop := Claim7.holds Tryz.pinned (.plain (OpenSpec.ofChange inlineSpansSpec)) inlineSpansCard

/-- THE SECOND FORM's CARD OF 'bowdlerlaw15.InlineLinks'. -/
def inlineLinksUptoCard : Claim7 := { stood := { row := inlineLinksUptoRow, standIns := [], harness := (true, "0161644b1b69008e9c1721181c26a0a34600489e36c8cf8a3465b72cb3778571"), looks := true }, kinds := [], alts := [], laidByText := true, laidKinds := [.data, .data, .data, .data, .sentinel, .sentinel, .data, .data, .pinned], laidTests := true, laidLooks := .later }
def InlineLinksUptoCardSaid : Prop := Claim7.holds Tryz.pinned (.plain (OpenSpec.upto inlineLinksSpec)) inlineLinksUptoCard

/-- THE SECOND FORM's CARD OF 'bowdlerlaw15.InlineSpans'. -/
def inlineSpansUptoCard : Claim7 := { stood := { row := inlineSpansUptoRow, standIns := [], harness := (true, "0161644b1b69008e9c1721181c26a0a34600489e36c8cf8a3465b72cb3778571"), looks := true }, kinds := [], alts := [], laidByText := true, laidKinds := [.data, .data, .data, .data, .sentinel, .sentinel, .data, .data, .pinned], laidTests := true, laidLooks := .later }
def InlineSpansUptoCardSaid : Prop := Claim7.holds Tryz.pinned (.plain (OpenSpec.upto inlineSpansSpec)) inlineSpansUptoCard
end Rows
end Go.Proofs.YteihmgcphbijhaaGreatDoor
