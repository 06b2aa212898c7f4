/-
  DERIVED. GIVEN WITH THE SEED: THE CARDS: each row of YtggdpmaomhmobaaGreatDoorRows.lean that lists a variable, with what it lists TIED to the program's text (the seventh form; the later family's looks); each row that meets fmt, with fmt's text TOLD by the authors' own Lean function (tested against real Go, not proved from fmt's source: count such statements apart). THE CARD IS WHAT COUNTS. Prove the row's statement (the work); the ties are given (YtggdpmaomhmobaaGreatDoorTie.lean); close each card by the builder's one call (the guide's Derived/Test/ToyasCard.lean, 'card_holds'). Laid BY PROGRAM, IN A SANDBOX (cutbox-door.mjs). By AI agents, Wed Nov 11 2026. No macro, syntax, notation, axiom, sorry.
-/
import Derived.Test.YtggdpmaomhmobaaGreatDoorRows
import GoSem.ClaimSeven
namespace Go.Proofs.YtggdpmaomhmobaaGreatDoor
namespace Rows

/-- THE TIED CARD OF 'bowdlerlaw12.TokenWords'. -/
def tokenWordsCard : Claim7 := { stood := { row := tokenWordsRow, standIns := [], harness := (true, "7a3b449534a301ade9ba1a7225f184385c5ca362d4a022c939b40ee9356092e8"), looks := true }, kinds := [], alts := [], laidByText := true, laidKinds := [.data, .data, .data, .data, .sentinel, .sentinel, .data, .data, .pinned], laidTests := true, laidLooks := .later }
def TokenWordsCardSaid : Prop := Claim7.holds Tryz.pinned (.plain (OpenSpec.ofChange tokenWordsSpec)) tokenWordsCard

/-- THE TIED CARD OF 'bowdlerlaw12.TokenCodes'. -/
def tokenCodesCard : Claim7 := { stood := { row := tokenCodesRow, standIns := [], harness := (true, "7a3b449534a301ade9ba1a7225f184385c5ca362d4a022c939b40ee9356092e8"), looks := true }, kinds := [], alts := [], laidByText := true, laidKinds := [.data, .data, .data, .data, .sentinel, .sentinel, .data, .data, .pinned], laidTests := true, laidLooks := .later }
def TokenCodesCardSaid : Prop := Claim7.holds Tryz.pinned (.plain (OpenSpec.ofChange tokenCodesSpec)) tokenCodesCard

/-- THE TIED CARD OF 'bowdlerlaw12.TokenSigns'. -/
def tokenSignsCard : Claim7 := { stood := { row := tokenSignsRow, standIns := [], harness := (true, "7a3b449534a301ade9ba1a7225f184385c5ca362d4a022c939b40ee9356092e8"), looks := true }, kinds := [], alts := [], laidByText := true, laidKinds := [.data, .data, .data, .data, .sentinel, .sentinel, .data, .data, .pinned], laidTests := true, laidLooks := .later }
def TokenSignsCardSaid : Prop := Claim7.holds Tryz.pinned (.plain (OpenSpec.ofChange tokenSignsSpec)) tokenSignsCard

/-- THE TIED CARD OF 'bowdlerlaw12.TokenRuns'. -/
def tokenRunsCard : Claim7 := { stood := { row := tokenRunsRow, standIns := [], harness := (true, "7a3b449534a301ade9ba1a7225f184385c5ca362d4a022c939b40ee9356092e8"), looks := true }, kinds := [], alts := [], laidByText := true, laidKinds := [.data, .data, .data, .data, .sentinel, .sentinel, .data, .data, .pinned], laidTests := true, laidLooks := .later }
def TokenRunsCardSaid : Prop := Claim7.holds Tryz.pinned (.plain (OpenSpec.ofChange tokenRunsSpec)) tokenRunsCard

/-- THE TIED CARD OF 'bowdlerlaw12.TokenBreaks'. -/
def tokenBreaksCard : Claim7 := { stood := { row := tokenBreaksRow, standIns := [], harness := (true, "7a3b449534a301ade9ba1a7225f184385c5ca362d4a022c939b40ee9356092e8"), looks := true }, kinds := [], alts := [], laidByText := true, laidKinds := [.data, .data, .data, .data, .sentinel, .sentinel, .data, .data, .pinned], laidTests := true, laidLooks := .later }
def TokenBreaksCardSaid : Prop := Claim7.holds Tryz.pinned (.plain (OpenSpec.ofChange tokenBreaksSpec)) tokenBreaksCard

/-- THE TIED CARD OF 'bowdlerlaw12.TokenAutos'. -/
def tokenAutosCard : Claim7 := { stood := { row := tokenAutosRow, standIns := [], harness := (true, "7a3b449534a301ade9ba1a7225f184385c5ca362d4a022c939b40ee9356092e8"), looks := true }, kinds := [], alts := [], laidByText := true, laidKinds := [.data, .data, .data, .data, .sentinel, .sentinel, .data, .data, .pinned], laidTests := true, laidLooks := .later }
def TokenAutosCardSaid : Prop := Claim7.holds Tryz.pinned (.plain (OpenSpec.ofChange tokenAutosSpec)) tokenAutosCard

/-- THE TIED CARD OF 'bowdlerlaw12.TokenTags'. -/
def tokenTagsCard : Claim7 := { stood := { row := tokenTagsRow, standIns := [], harness := (true, "7a3b449534a301ade9ba1a7225f184385c5ca362d4a022c939b40ee9356092e8"), looks := true }, kinds := [], alts := [], laidByText := true, laidKinds := [.data, .data, .data, .data, .sentinel, .sentinel, .data, .data, .pinned], laidTests := true, laidLooks := .later }
def TokenTagsCardSaid : Prop := Claim7.holds Tryz.pinned (.plain (OpenSpec.ofChange tokenTagsSpec)) tokenTagsCard

/-- THE TIED CARD OF 'bowdlerlaw12.TokenEntities'. -/
def tokenEntitiesCard : Claim7 := { stood := { row := tokenEntitiesRow, standIns := [], harness := (true, "7a3b449534a301ade9ba1a7225f184385c5ca362d4a022c939b40ee9356092e8"), looks := true }, kinds := [], alts := [], laidByText := true, laidKinds := [.data, .data, .data, .data, .sentinel, .sentinel, .data, .data, .pinned], laidTests := true, laidLooks := .later }
def TokenEntitiesCardSaid : Prop := Claim7.holds Tryz.pinned (.plain (OpenSpec.ofChange tokenEntitiesSpec)) tokenEntitiesCard

/-- THE SECOND FORM's CARD OF 'bowdlerlaw12.TokenWords'. -/
def tokenWordsUptoCard : Claim7 := { stood := { row := tokenWordsUptoRow, standIns := [], harness := (true, "7a3b449534a301ade9ba1a7225f184385c5ca362d4a022c939b40ee9356092e8"), looks := true }, kinds := [], alts := [], laidByText := true, laidKinds := [.data, .data, .data, .data, .sentinel, .sentinel, .data, .data, .pinned], laidTests := true, laidLooks := .later }
def TokenWordsUptoCardSaid : Prop := Claim7.holds Tryz.pinned (.plain (OpenSpec.upto tokenWordsSpec)) tokenWordsUptoCard

/-- THE SECOND FORM's CARD OF 'bowdlerlaw12.TokenCodes'. -/
def tokenCodesUptoCard : Claim7 := { stood := { row := tokenCodesUptoRow, standIns := [], harness := (true, "7a3b449534a301ade9ba1a7225f184385c5ca362d4a022c939b40ee9356092e8"), looks := true }, kinds := [], alts := [], laidByText := true, laidKinds := [.data, .data, .data, .data, .sentinel, .sentinel, .data, .data, .pinned], laidTests := true, laidLooks := .later }
def TokenCodesUptoCardSaid : Prop := Claim7.holds Tryz.pinned (.plain (OpenSpec.upto tokenCodesSpec)) tokenCodesUptoCard

/-- THE SECOND FORM's CARD OF 'bowdlerlaw12.TokenSigns'. -/
def tokenSignsUptoCard : Claim7 := { stood := { row := tokenSignsUptoRow, standIns := [], harness := (true, "7a3b449534a301ade9ba1a7225f184385c5ca362d4a022c939b40ee9356092e8"), looks := true }, kinds := [], alts := [], laidByText := true, laidKinds := [.data, .data, .data, .data, .sentinel, .sentinel, .data, .data, .pinned], laidTests := true, laidLooks := .later }
def TokenSignsUptoCardSaid : Prop := Claim7.holds Tryz.pinned (.plain (OpenSpec.upto tokenSignsSpec)) tokenSignsUptoCard

/-- THE SECOND FORM's CARD OF 'bowdlerlaw12.TokenRuns'. -/
def tokenRunsUptoCard : Claim7 := { stood := { row := tokenRunsUptoRow, standIns := [], harness := (true, "7a3b449534a301ade9ba1a7225f184385c5ca362d4a022c939b40ee9356092e8"), looks := true }, kinds := [], alts := [], laidByText := true, laidKinds := [.data, .data, .data, .data, .sentinel, .sentinel, .data, .data, .pinned], laidTests := true, laidLooks := .later }
def TokenRunsUptoCardSaid : Prop := Claim7.holds Tryz.pinned (.plain (OpenSpec.upto tokenRunsSpec)) tokenRunsUptoCard

/-- THE SECOND FORM's CARD OF 'bowdlerlaw12.TokenBreaks'. -/
def tokenBreaksUptoCard : Claim7 := { stood := { row := tokenBreaksUptoRow, standIns := [], harness := (true, "7a3b449534a301ade9ba1a7225f184385c5ca362d4a022c939b40ee9356092e8"), looks := true }, kinds := [], alts := [], laidByText := true, laidKinds := [.data, .data, .data, .data, .sentinel, .sentinel, .data, .data, .pinned], laidTests := true, laidLooks := .later }
def TokenBreaksUptoCardSaid : Prop := Claim7.holds Tryz.pinned (.plain (OpenSpec.upto tokenBreaksSpec)) tokenBreaksUptoCard

/-- THE SECOND FORM's CARD OF 'bowdlerlaw12.TokenAutos'. -/
def tokenAutosUptoCard : Claim7 := { stood := { row := tokenAutosUptoRow, standIns := [], harness := (true, "7a3b449534a301ade9ba1a7225f184385c5ca362d4a022c939b40ee9356092e8"), looks := true }, kinds := [], alts := [], laidByText := true, laidKinds := [.data, .data, .data, .data, .sentinel, .sentinel, .data, .data, .pinned], laidTests := true, laidLooks := .later }
def TokenAutosUptoCardSaid : Prop := Claim7.holds Tryz.pinned (.plain (OpenSpec.upto tokenAutosSpec)) tokenAutosUptoCard

/-- THE SECOND FORM's CARD OF 'bowdlerlaw12.TokenTags'. -/
def tokenTagsUptoCard : Claim7 := { stood := { row := tokenTagsUptoRow, standIns := [], harness := (true, "7a3b449534a301ade9ba1a7225f184385c5ca362d4a022c939b40ee9356092e8"), looks := true }, kinds := [], alts := [], laidByText := true, laidKinds := [.data, .data, .data, .data, .sentinel, .sentinel, .data, .data, .pinned], laidTests := true, laidLooks := .later }
def TokenTagsUptoCardSaid : Prop := Claim7.holds Tryz.pinned (.plain (OpenSpec.upto tokenTagsSpec)) tokenTagsUptoCard

/-- THE SECOND FORM's CARD OF 'bowdlerlaw12.TokenEntities'. -/
def tokenEntitiesUptoCard : Claim7 := { stood := { row := tokenEntitiesUptoRow, standIns := [], harness := (true, "7a3b449534a301ade9ba1a7225f184385c5ca362d4a022c939b40ee9356092e8"), looks := true }, kinds := [], alts := [], laidByText := true, laidKinds := [.data, .data, .data, .data, .sentinel, .sentinel, .data, .data, .pinned], laidTests := true, laidLooks := .later }
def TokenEntitiesUptoCardSaid : Prop := Claim7.holds Tryz.pinned (.plain (OpenSpec.upto tokenEntitiesSpec)) tokenEntitiesUptoCard
end Rows
end Go.Proofs.YtggdpmaomhmobaaGreatDoor
