/-
  NARROWER THAN 'FOR EVERY INPUT', by the rows' own cells (each row's printed sentence says how): TargetSchemes: laid · TargetEncodes: laid · TargetRounds: laid · TargetBrackets: laid · TargetQuotes: laid · TargetPlain: laid.
  DERIVED. THE GIVEN ROWS OF THIS SEAT. 6 by the template 'for every input the law returns true; each argument reads behind the call as it read before'; 0 by the template 'total and deterministic' (their statements: YtkldloglpbiioaaDoorTotals.lean).
  GIVEN WITH THE SEED: the statements are not yours to turn. If you find one false, say at which input.
  Laid BY PROGRAM, IN A SANDBOX (cutbox-rows.mjs): the forced cells as the released guide's own fill.sh prints them over the translation 0ceae72c094a1b22… (all of the seat's roots in one cut). By AI agents, Wed Nov 11 2026. No macro, syntax, notation, axiom, sorry.
-/
import Derived.Test.YtkldloglpbiioaaDoorChecked
import GoSem.Claim
import GoSem.ClaimJoined
import GoSem.ClaimMapViews
import Derived.JoinedTies
import Derived.KernelRfl
namespace Go.Proofs.YtkldloglpbiioaaDoor
/- THE CELL 'sum', in the pinned program and in every row, IS THE sha256 OF THE DUMP (.gsa) THAT YtkldloglpbiioaaDoorProg.lean LOADS. Nothing in Lean hashes anything: it is a label: what it is worth is what the hold of that sum in a sandbox is worth. -/
noncomputable def Tryd.pinned : Pinned := { name := "ytkldloglpbiioaadoor", sum := "0ceae72c094a1b226678a12d6f2840eafd9a6489aa538c5ef61f0f9cfbc44a85", checked := Tryd.checked }
namespace Rows
def none {H : Type} : Left H := { results := [], args := [] }

/- WHAT THE LISTED PACKAGE-LEVEL VARIABLES READ AS WHEN THE CALL BEGINS. Each datum BY PROGRAM (the guide's laid-datum.mjs) off the statement by which the dump's own 'gosem.cut.vars' lays the variable. In a bare row this is a premise. The card (YtkldloglpbiioaaDoorCards.lean) ties it to the program's text. -/
def laid_bowdler_entity_named {H : Type} : DataW H := .agg [.agg [.lit (.string [97, 109, 112]), .lit (.string [38])], .agg [.lit (.string [108, 116]), .lit (.string [60])], .agg [.lit (.string [103, 116]), .lit (.string [62])], .agg [.lit (.string [113, 117, 111, 116]), .lit (.string [34])], .agg [.lit (.string [97, 112, 111, 115]), .lit (.string [39])], .agg [.lit (.string [110, 98, 115, 112]), .lit (.string [194, 160])], .agg [.lit (.string [99, 111, 112, 121]), .lit (.string [194, 169])], .agg [.lit (.string [114, 101, 103]), .lit (.string [194, 174])], .agg [.lit (.string [100, 101, 103]), .lit (.string [194, 176])], .agg [.lit (.string [115, 101, 99, 116]), .lit (.string [194, 167])], .agg [.lit (.string [112, 97, 114, 97]), .lit (.string [194, 182])], .agg [.lit (.string [109, 105, 100, 100, 111, 116]), .lit (.string [194, 183])], .agg [.lit (.string [101, 97, 99, 117, 116, 101]), .lit (.string [195, 169])], .agg [.lit (.string [97, 117, 109, 108]), .lit (.string [195, 164])], .agg [.lit (.string [111, 117, 109, 108]), .lit (.string [195, 182])], .agg [.lit (.string [117, 117, 109, 108]), .lit (.string [195, 188])], .agg [.lit (.string [115, 122, 108, 105, 103]), .lit (.string [195, 159])], .agg [.lit (.string [110, 100, 97, 115, 104]), .lit (.string [226, 128, 147])], .agg [.lit (.string [109, 100, 97, 115, 104]), .lit (.string [226, 128, 148])], .agg [.lit (.string [104, 101, 108, 108, 105, 112]), .lit (.string [226, 128, 166])], .agg [.lit (.string [101, 117, 114, 111]), .lit (.string [226, 130, 172])], .agg [.lit (.string [108, 97, 114, 114]), .lit (.string [226, 134, 144])], .agg [.lit (.string [114, 97, 114, 114]), .lit (.string [226, 134, 146])]]
def laid_bowdler_target_barred {H : Type} : DataW H := .agg [.lit (.string [106, 97, 118, 97, 115, 99, 114, 105, 112, 116, 58]), .lit (.string [118, 98, 115, 99, 114, 105, 112, 116, 58]), .lit (.string [102, 105, 108, 101, 58]), .lit (.string [100, 97, 116, 97, 58])]

/-- 'bowdlerlaw10.TargetSchemes': WHATEVER THE INPUT: true; the input reads as it did. -/
def targetSchemesSpec : ChangeSpec := { name := "targetSchemes", fn := fun _ => fun
  | [d1, d2, d3, d4, d5] => { results := [.lit (.bool true)], args := [d1, d2, d3, d4, d5] }
  | _ => none }
def targetSchemesRow : OpenClaim := { program := "ytkldloglpbiioaadoor", sum := "0ceae72c094a1b226678a12d6f2840eafd9a6489aa538c5ef61f0f9cfbc44a85", func := "bowdler/bowdlerlaw10.TargetSchemes", spec := "targetSchemes", inPlace := ["internal/abi.NoEscape", "internal/bytealg.IndexByteString", "internal/bytealg.IndexString"], named := ["bowdler/entity.named", "bowdler/target.barred", "internal/bytealg.MaxLen"], apart := false, laid := [("bowdler/entity.named", laid_bowdler_entity_named), ("bowdler/target.barred", laid_bowdler_target_barred)] }
def TargetSchemesSaid : Prop := targetSchemesRow.holds Tryd.pinned (OpenSpec.ofChange targetSchemesSpec)

/-- ITS FALSE NEIGHBOUR: 'it returns false'. Refute it at one input. -/
def targetSchemesWrong : ChangeSpec := { name := "targetSchemes", fn := fun _ => fun
  | [d1, d2, d3, d4, d5] => { results := [.lit (.bool false)], args := [d1, d2, d3, d4, d5] }
  | _ => none }
def TargetSchemesWrongFalsely : Prop := targetSchemesRow.holds Tryd.pinned (OpenSpec.ofChange targetSchemesWrong)

/-- 'bowdlerlaw10.TargetEncodes': WHATEVER THE INPUT: true; the input reads as it did. -/
def targetEncodesSpec : ChangeSpec := { name := "targetEncodes", fn := fun _ => fun
  | [d] => { results := [.lit (.bool true)], args := [d] }
  | _ => none }
def targetEncodesRow : OpenClaim := { program := "ytkldloglpbiioaadoor", sum := "0ceae72c094a1b226678a12d6f2840eafd9a6489aa538c5ef61f0f9cfbc44a85", func := "bowdler/bowdlerlaw10.TargetEncodes", spec := "targetEncodes", inPlace := ["internal/abi.NoEscape", "internal/bytealg.IndexByteString", "internal/bytealg.IndexString"], named := ["bowdler/entity.named", "bowdler/target.barred", "internal/bytealg.MaxLen"], apart := false, laid := [("bowdler/entity.named", laid_bowdler_entity_named), ("bowdler/target.barred", laid_bowdler_target_barred)] }
def TargetEncodesSaid : Prop := targetEncodesRow.holds Tryd.pinned (OpenSpec.ofChange targetEncodesSpec)

/-- ITS FALSE NEIGHBOUR: 'it returns false'. Refute it at one input. -/
def targetEncodesWrong : ChangeSpec := { name := "targetEncodes", fn := fun _ => fun
  | [d] => { results := [.lit (.bool false)], args := [d] }
  | _ => none }
def TargetEncodesWrongFalsely : Prop := targetEncodesRow.holds Tryd.pinned (OpenSpec.ofChange targetEncodesWrong)

/-- 'bowdlerlaw10.TargetRounds': WHATEVER THE INPUT: true; the input reads as it did. -/
def targetRoundsSpec : ChangeSpec := { name := "targetRounds", fn := fun _ => fun
  | [d1, d2, d3, d4, d5, d6] => { results := [.lit (.bool true)], args := [d1, d2, d3, d4, d5, d6] }
  | _ => none }
def targetRoundsRow : OpenClaim := { program := "ytkldloglpbiioaadoor", sum := "0ceae72c094a1b226678a12d6f2840eafd9a6489aa538c5ef61f0f9cfbc44a85", func := "bowdler/bowdlerlaw10.TargetRounds", spec := "targetRounds", inPlace := ["internal/abi.NoEscape", "internal/bytealg.IndexByteString", "internal/bytealg.IndexString"], named := ["bowdler/entity.named", "bowdler/target.barred", "internal/bytealg.MaxLen"], apart := false, laid := [("bowdler/entity.named", laid_bowdler_entity_named), ("bowdler/target.barred", laid_bowdler_target_barred)] }
def TargetRoundsSaid : Prop := targetRoundsRow.holds Tryd.pinned (OpenSpec.ofChange targetRoundsSpec)

/-- ITS FALSE NEIGHBOUR: 'it returns false'. Refute it at one input. -/
def targetRoundsWrong : ChangeSpec := { name := "targetRounds", fn := fun _ => fun
  | [d1, d2, d3, d4, d5, d6] => { results := [.lit (.bool false)], args := [d1, d2, d3, d4, d5, d6] }
  | _ => none }
def TargetRoundsWrongFalsely : Prop := targetRoundsRow.holds Tryd.pinned (OpenSpec.ofChange targetRoundsWrong)

/-- 'bowdlerlaw10.TargetBrackets': WHATEVER THE INPUT: true; the input reads as it did. -/
def targetBracketsSpec : ChangeSpec := { name := "targetBrackets", fn := fun _ => fun
  | [d1, d2] => { results := [.lit (.bool true)], args := [d1, d2] }
  | _ => none }
def targetBracketsRow : OpenClaim := { program := "ytkldloglpbiioaadoor", sum := "0ceae72c094a1b226678a12d6f2840eafd9a6489aa538c5ef61f0f9cfbc44a85", func := "bowdler/bowdlerlaw10.TargetBrackets", spec := "targetBrackets", inPlace := ["internal/abi.NoEscape", "internal/bytealg.IndexByteString", "internal/bytealg.IndexString"], named := ["bowdler/entity.named", "bowdler/target.barred", "internal/bytealg.MaxLen"], apart := false, laid := [("bowdler/entity.named", laid_bowdler_entity_named), ("bowdler/target.barred", laid_bowdler_target_barred)] }
def TargetBracketsSaid : Prop := targetBracketsRow.holds Tryd.pinned (OpenSpec.ofChange targetBracketsSpec)

/-- ITS FALSE NEIGHBOUR: 'it returns false'. Refute it at one input. -/
def targetBracketsWrong : ChangeSpec := { name := "targetBrackets", fn := fun _ => fun
  | [d1, d2] => { results := [.lit (.bool false)], args := [d1, d2] }
  | _ => none }
def TargetBracketsWrongFalsely : Prop := targetBracketsRow.holds Tryd.pinned (OpenSpec.ofChange targetBracketsWrong)

/-- 'bowdlerlaw10.TargetQuotes': WHATEVER THE INPUT: true; the input reads as it did. -/
def targetQuotesSpec : ChangeSpec := { name := "targetQuotes", fn := fun _ => fun
  | [d1, d2, d3] => { results := [.lit (.bool true)], args := [d1, d2, d3] }
  | _ => none }
def targetQuotesRow : OpenClaim := { program := "ytkldloglpbiioaadoor", sum := "0ceae72c094a1b226678a12d6f2840eafd9a6489aa538c5ef61f0f9cfbc44a85", func := "bowdler/bowdlerlaw10.TargetQuotes", spec := "targetQuotes", inPlace := ["internal/abi.NoEscape", "internal/bytealg.IndexByteString", "internal/bytealg.IndexString"], named := ["bowdler/entity.named", "bowdler/target.barred", "internal/bytealg.MaxLen"], apart := false, laid := [("bowdler/entity.named", laid_bowdler_entity_named), ("bowdler/target.barred", laid_bowdler_target_barred)] }
def TargetQuotesSaid : Prop := targetQuotesRow.holds Tryd.pinned (OpenSpec.ofChange targetQuotesSpec)

/-- ITS FALSE NEIGHBOUR: 'it returns false'. Refute it at one input. -/
def targetQuotesWrong : ChangeSpec := { name := "targetQuotes", fn := fun _ => fun
  | [d1, d2, d3] => { results := [.lit (.bool false)], args := [d1, d2, d3] }
  | _ => none }
def TargetQuotesWrongFalsely : Prop := targetQuotesRow.holds Tryd.pinned (OpenSpec.ofChange targetQuotesWrong)

/-- 'bowdlerlaw10.TargetPlain': WHATEVER THE INPUT: true; the input reads as it did. -/
def targetPlainSpec : ChangeSpec := { name := "targetPlain", fn := fun _ => fun
  | [d1, d2] => { results := [.lit (.bool true)], args := [d1, d2] }
  | _ => none }
def targetPlainRow : OpenClaim := { program := "ytkldloglpbiioaadoor", sum := "0ceae72c094a1b226678a12d6f2840eafd9a6489aa538c5ef61f0f9cfbc44a85", func := "bowdler/bowdlerlaw10.TargetPlain", spec := "targetPlain", inPlace := ["internal/abi.NoEscape", "internal/bytealg.IndexByteString", "internal/bytealg.IndexString"], named := ["bowdler/entity.named", "bowdler/target.barred", "internal/bytealg.MaxLen"], apart := false, laid := [("bowdler/entity.named", laid_bowdler_entity_named), ("bowdler/target.barred", laid_bowdler_target_barred)] }
def TargetPlainSaid : Prop := targetPlainRow.holds Tryd.pinned (OpenSpec.ofChange targetPlainSpec)

/-- ITS FALSE NEIGHBOUR: 'it returns false'. Refute it at one input. -/
def targetPlainWrong : ChangeSpec := { name := "targetPlain", fn := fun _ => fun
  | [d1, d2] => { results := [.lit (.bool false)], args := [d1, d2] }
  | _ => none }
def TargetPlainWrongFalsely : Prop := targetPlainRow.holds Tryd.pinned (OpenSpec.ofChange targetPlainWrong)

/- THE SECOND FORM. 'bulk': how many values and letters a reading holds, each counted each time it is reached (what is shared counts as often as it is met; a slice's spare places count too). A statement '..UptoSaid' is the law's where the arguments, and the package variables that the reading takes, are together of bulk at most 1048576: NARROWER than '..Said'. Prove '..Said' where nothing that the law and all that it calls make is longer than what came in: it says more and counts as full. Else prove '..UptoSaid'. A law counts once. -/
mutual
def uptoBulk {H : Type} : DataW H → Nat
  | .lit (.string bytes) => bytes.length + 1
  | .lit _ => 1
  | .nil => 1
  | .ptr d => uptoBulk d + 1
  | .slice elems spare => uptoBulkAll elems + uptoBulkAll spare + 1
  | .agg parts => uptoBulkAll parts + 1
  | .iface _ d => uptoBulk d + 1
  | .map entries => uptoBulkEntries entries + 1
  | .held _ => 1
def uptoBulkAll {H : Type} : List (DataW H) → Nat
  | [] => 0
  | d :: r => uptoBulk d + uptoBulkAll r
def uptoBulkEntries {H : Type} : List (Lit × DataW H) → Nat
  | [] => 0
  | x :: r => uptoBulkEntry x + uptoBulkEntries r
def uptoBulkEntry {H : Type} : Lit × DataW H → Nat
  | (.string bytes, d) => bytes.length + uptoBulk d + 1
  | (_, d) => uptoBulk d + 1
 end
def uptoSmall : (H : Type) → List (DataW H) → Bool := fun _ ds => decide (uptoBulkAll ds ≤ 1048576)
def OpenSpec.upto (s : _root_.Go.ChangeSpec) : _root_.Go.OpenSpec := { _root_.Go.OpenSpec.ofChange s with cond := some uptoSmall }

/-- 'bowdlerlaw10.TargetSchemes', WHERE WHAT IT READS IS OF BULK AT MOST 1048576: true; the input reads as it did. -/
def targetSchemesUptoRow : OpenClaim := { program := "ytkldloglpbiioaadoor", sum := "0ceae72c094a1b226678a12d6f2840eafd9a6489aa538c5ef61f0f9cfbc44a85", func := "bowdler/bowdlerlaw10.TargetSchemes", spec := "targetSchemes", inPlace := ["internal/abi.NoEscape", "internal/bytealg.IndexByteString", "internal/bytealg.IndexString"], named := ["bowdler/entity.named", "bowdler/target.barred", "internal/bytealg.MaxLen"], apart := false, laid := [("bowdler/entity.named", laid_bowdler_entity_named), ("bowdler/target.barred", laid_bowdler_target_barred)], narrowed := true }
def TargetSchemesUptoSaid : Prop := targetSchemesUptoRow.holds Tryd.pinned (OpenSpec.upto targetSchemesSpec)

/-- 'bowdlerlaw10.TargetEncodes', WHERE WHAT IT READS IS OF BULK AT MOST 1048576: true; the input reads as it did. -/
def targetEncodesUptoRow : OpenClaim := { program := "ytkldloglpbiioaadoor", sum := "0ceae72c094a1b226678a12d6f2840eafd9a6489aa538c5ef61f0f9cfbc44a85", func := "bowdler/bowdlerlaw10.TargetEncodes", spec := "targetEncodes", inPlace := ["internal/abi.NoEscape", "internal/bytealg.IndexByteString", "internal/bytealg.IndexString"], named := ["bowdler/entity.named", "bowdler/target.barred", "internal/bytealg.MaxLen"], apart := false, laid := [("bowdler/entity.named", laid_bowdler_entity_named), ("bowdler/target.barred", laid_bowdler_target_barred)], narrowed := true }
def TargetEncodesUptoSaid : Prop := targetEncodesUptoRow.holds Tryd.pinned (OpenSpec.upto targetEncodesSpec)

/-- 'bowdlerlaw10.TargetRounds', WHERE WHAT IT READS IS OF BULK AT MOST 1048576: true; the input reads as it did. -/
def targetRoundsUptoRow : OpenClaim := { program := "ytkldloglpbiioaadoor", sum := "0ceae72c094a1b226678a12d6f2840eafd9a6489aa538c5ef61f0f9cfbc44a85", func := "bowdler/bowdlerlaw10.TargetRounds", spec := "targetRounds", inPlace := ["internal/abi.NoEscape", "internal/bytealg.IndexByteString", "internal/bytealg.IndexString"], named := ["bowdler/entity.named", "bowdler/target.barred", "internal/bytealg.MaxLen"], apart := false, laid := [("bowdler/entity.named", laid_bowdler_entity_named), ("bowdler/target.barred", laid_bowdler_target_barred)], narrowed := true }
def TargetRoundsUptoSaid : Prop := targetRoundsUptoRow.holds Tryd.pinned (OpenSpec.upto targetRoundsSpec)

/-- 'bowdlerlaw10.TargetBrackets', WHERE WHAT IT READS IS OF BULK AT MOST 1048576: true; the input reads as it did. -/
def targetBracketsUptoRow : OpenClaim := { program := "ytkldloglpbiioaadoor", sum := "0ceae72c094a1b226678a12d6f2840eafd9a6489aa538c5ef61f0f9cfbc44a85", func := "bowdler/bowdlerlaw10.TargetBrackets", spec := "targetBrackets", inPlace := ["internal/abi.NoEscape", "internal/bytealg.IndexByteString", "internal/bytealg.IndexString"], named := ["bowdler/entity.named", "bowdler/target.barred", "internal/bytealg.MaxLen"], apart := false, laid := [("bowdler/entity.named", laid_bowdler_entity_named), ("bowdler/target.barred", laid_bowdler_target_barred)], narrowed := true }
def TargetBracketsUptoSaid : Prop := targetBracketsUptoRow.holds Tryd.pinned (OpenSpec.upto targetBracketsSpec)

/-- 'bowdlerlaw10.TargetQuotes', WHERE WHAT IT READS IS OF BULK AT MOST 1048576: true; the input reads as it did. -/
def targetQuotesUptoRow : OpenClaim := { program := "ytkldloglpbiioaadoor", sum := "0ceae72c094a1b226678a12d6f2840eafd9a6489aa538c5ef61f0f9cfbc44a85", func := "bowdler/bowdlerlaw10.TargetQuotes", spec := "targetQuotes", inPlace := ["internal/abi.NoEscape", "internal/bytealg.IndexByteString", "internal/bytealg.IndexString"], named := ["bowdler/entity.named", "bowdler/target.barred", "internal/bytealg.MaxLen"], apart := false, laid := [("bowdler/entity.named", laid_bowdler_entity_named), ("bowdler/target.barred", laid_bowdler_target_barred)], narrowed := true }
def TargetQuotesUptoSaid : Prop := targetQuotesUptoRow.holds Tryd.pinned (OpenSpec.upto targetQuotesSpec)

/-- 'bowdlerlaw10.TargetPlain', WHERE WHAT IT READS IS OF BULK AT MOST 1048576: true; the input reads as it did. -/
def targetPlainUptoRow : OpenClaim := { program := "ytkldloglpbiioaadoor", sum := "0ceae72c094a1b226678a12d6f2840eafd9a6489aa538c5ef61f0f9cfbc44a85", func := "bowdler/bowdlerlaw10.TargetPlain", spec := "targetPlain", inPlace := ["internal/abi.NoEscape", "internal/bytealg.IndexByteString", "internal/bytealg.IndexString"], named := ["bowdler/entity.named", "bowdler/target.barred", "internal/bytealg.MaxLen"], apart := false, laid := [("bowdler/entity.named", laid_bowdler_entity_named), ("bowdler/target.barred", laid_bowdler_target_barred)], narrowed := true }
def TargetPlainUptoSaid : Prop := targetPlainUptoRow.holds Tryd.pinned (OpenSpec.upto targetPlainSpec)

end Rows
end Go.Proofs.YtkldloglpbiioaaDoor
