/-
  NARROWER THAN 'FOR EVERY INPUT', by the rows' own cells (each row's printed sentence says how): EntityTells: laid · EntityNumbers: laid · EntityPlain: laid · EntityNames: laid · EntityLengths: laid.
  DERIVED. THE GIVEN ROWS OF THIS SEAT. 5 by the template 'for every input the law returns true; each argument reads behind the call as it read before'; 0 by the template 'total and deterministic' (their statements: YtggfllbaomfjhaaDoorTotals.lean).
  GIVEN WITH THE SEED: the statements are not yours to turn. If you find one false, say at which input.
  Laid BY PROGRAM, IN A SANDBOX (cutbox-rows.mjs): the forced cells as the released guide's own fill.sh prints them over the translation a8665f6e02904068… (all of the seat's roots in one cut). By AI agents, Wed Nov 11 2026. No macro, syntax, notation, axiom, sorry.
-/
import Derived.Test.YtggfllbaomfjhaaDoorChecked
import GoSem.Claim
import GoSem.ClaimJoined
import GoSem.ClaimMapViews
import Derived.JoinedTies
import Derived.KernelRfl
namespace Go.Proofs.YtggfllbaomfjhaaDoor
/- THE CELL 'sum', in the pinned program and in every row, IS THE sha256 OF THE DUMP (.gsa) THAT YtggfllbaomfjhaaDoorProg.lean LOADS. Nothing in Lean hashes anything: it is a label: what it is worth is what the hold of that sum in a sandbox is worth. -/
noncomputable def Tryd.pinned : Pinned := { name := "ytggfllbaomfjhaadoor", sum := "a8665f6e02904068d976ff1eac62fe886ecdf91ac7f0dc5810d857f6e222c3bc", checked := Tryd.checked }
namespace Rows
def none {H : Type} : Left H := { results := [], args := [] }

/- WHAT THE LISTED PACKAGE-LEVEL VARIABLES READ AS WHEN THE CALL BEGINS. Each datum BY PROGRAM (the guide's laid-datum.mjs) off the statement by which the dump's own 'gosem.cut.vars' lays the variable. In a bare row this is a premise. The card (YtggfllbaomfjhaaDoorCards.lean) ties it to the program's text. -/
def laid_bowdler_entity_named {H : Type} : DataW H := .agg [.agg [.lit (.string [97, 109, 112]), .lit (.string [38])], .agg [.lit (.string [108, 116]), .lit (.string [60])], .agg [.lit (.string [103, 116]), .lit (.string [62])], .agg [.lit (.string [113, 117, 111, 116]), .lit (.string [34])], .agg [.lit (.string [97, 112, 111, 115]), .lit (.string [39])], .agg [.lit (.string [110, 98, 115, 112]), .lit (.string [194, 160])], .agg [.lit (.string [99, 111, 112, 121]), .lit (.string [194, 169])], .agg [.lit (.string [114, 101, 103]), .lit (.string [194, 174])], .agg [.lit (.string [100, 101, 103]), .lit (.string [194, 176])], .agg [.lit (.string [115, 101, 99, 116]), .lit (.string [194, 167])], .agg [.lit (.string [112, 97, 114, 97]), .lit (.string [194, 182])], .agg [.lit (.string [109, 105, 100, 100, 111, 116]), .lit (.string [194, 183])], .agg [.lit (.string [101, 97, 99, 117, 116, 101]), .lit (.string [195, 169])], .agg [.lit (.string [97, 117, 109, 108]), .lit (.string [195, 164])], .agg [.lit (.string [111, 117, 109, 108]), .lit (.string [195, 182])], .agg [.lit (.string [117, 117, 109, 108]), .lit (.string [195, 188])], .agg [.lit (.string [115, 122, 108, 105, 103]), .lit (.string [195, 159])], .agg [.lit (.string [110, 100, 97, 115, 104]), .lit (.string [226, 128, 147])], .agg [.lit (.string [109, 100, 97, 115, 104]), .lit (.string [226, 128, 148])], .agg [.lit (.string [104, 101, 108, 108, 105, 112]), .lit (.string [226, 128, 166])], .agg [.lit (.string [101, 117, 114, 111]), .lit (.string [226, 130, 172])], .agg [.lit (.string [108, 97, 114, 114]), .lit (.string [226, 134, 144])], .agg [.lit (.string [114, 97, 114, 114]), .lit (.string [226, 134, 146])]]

/-- 'bowdlerlaw3.EntityTells': WHATEVER THE INPUT: true; the input reads as it did. -/
def entityTellsSpec : ChangeSpec := { name := "entityTells", fn := fun _ => fun
  | [d1, d2] => { results := [.lit (.bool true)], args := [d1, d2] }
  | _ => none }
def entityTellsRow : OpenClaim := { program := "ytggfllbaomfjhaadoor", sum := "a8665f6e02904068d976ff1eac62fe886ecdf91ac7f0dc5810d857f6e222c3bc", func := "bowdler/bowdlerlaw3.EntityTells", spec := "entityTells", named := ["bowdler/entity.named"], apart := false, laid := [("bowdler/entity.named", laid_bowdler_entity_named)] }
def EntityTellsSaid : Prop := entityTellsRow.holds Tryd.pinned (OpenSpec.ofChange entityTellsSpec)

/-- ITS FALSE NEIGHBOUR: 'it returns false'. Refute it at one input. -/
def entityTellsWrong : ChangeSpec := { name := "entityTells", fn := fun _ => fun
  | [d1, d2] => { results := [.lit (.bool false)], args := [d1, d2] }
  | _ => none }
def EntityTellsWrongFalsely : Prop := entityTellsRow.holds Tryd.pinned (OpenSpec.ofChange entityTellsWrong)

/-- 'bowdlerlaw3.EntityNumbers': WHATEVER THE INPUT: true; the input reads as it did. -/
def entityNumbersSpec : ChangeSpec := { name := "entityNumbers", fn := fun _ => fun
  | [d1, d2, d3] => { results := [.lit (.bool true)], args := [d1, d2, d3] }
  | _ => none }
def entityNumbersRow : OpenClaim := { program := "ytggfllbaomfjhaadoor", sum := "a8665f6e02904068d976ff1eac62fe886ecdf91ac7f0dc5810d857f6e222c3bc", func := "bowdler/bowdlerlaw3.EntityNumbers", spec := "entityNumbers", named := ["bowdler/entity.named"], apart := false, laid := [("bowdler/entity.named", laid_bowdler_entity_named)] }
def EntityNumbersSaid : Prop := entityNumbersRow.holds Tryd.pinned (OpenSpec.ofChange entityNumbersSpec)

/-- ITS FALSE NEIGHBOUR: 'it returns false'. Refute it at one input. -/
def entityNumbersWrong : ChangeSpec := { name := "entityNumbers", fn := fun _ => fun
  | [d1, d2, d3] => { results := [.lit (.bool false)], args := [d1, d2, d3] }
  | _ => none }
def EntityNumbersWrongFalsely : Prop := entityNumbersRow.holds Tryd.pinned (OpenSpec.ofChange entityNumbersWrong)

/-- 'bowdlerlaw3.EntityPlain': WHATEVER THE INPUT: true; the input reads as it did. -/
def entityPlainSpec : ChangeSpec := { name := "entityPlain", fn := fun _ => fun
  | [d] => { results := [.lit (.bool true)], args := [d] }
  | _ => none }
def entityPlainRow : OpenClaim := { program := "ytggfllbaomfjhaadoor", sum := "a8665f6e02904068d976ff1eac62fe886ecdf91ac7f0dc5810d857f6e222c3bc", func := "bowdler/bowdlerlaw3.EntityPlain", spec := "entityPlain", named := ["bowdler/entity.named"], apart := false, laid := [("bowdler/entity.named", laid_bowdler_entity_named)] }
def EntityPlainSaid : Prop := entityPlainRow.holds Tryd.pinned (OpenSpec.ofChange entityPlainSpec)

/-- ITS FALSE NEIGHBOUR: 'it returns false'. Refute it at one input. -/
def entityPlainWrong : ChangeSpec := { name := "entityPlain", fn := fun _ => fun
  | [d] => { results := [.lit (.bool false)], args := [d] }
  | _ => none }
def EntityPlainWrongFalsely : Prop := entityPlainRow.holds Tryd.pinned (OpenSpec.ofChange entityPlainWrong)

/-- 'bowdlerlaw3.EntityNames': WHATEVER THE INPUT: true; the input reads as it did. -/
def entityNamesSpec : ChangeSpec := { name := "entityNames", fn := fun _ => fun
  | [d1, d2] => { results := [.lit (.bool true)], args := [d1, d2] }
  | _ => none }
def entityNamesRow : OpenClaim := { program := "ytggfllbaomfjhaadoor", sum := "a8665f6e02904068d976ff1eac62fe886ecdf91ac7f0dc5810d857f6e222c3bc", func := "bowdler/bowdlerlaw3.EntityNames", spec := "entityNames", named := ["bowdler/entity.named"], apart := false, laid := [("bowdler/entity.named", laid_bowdler_entity_named)] }
def EntityNamesSaid : Prop := entityNamesRow.holds Tryd.pinned (OpenSpec.ofChange entityNamesSpec)

/-- ITS FALSE NEIGHBOUR: 'it returns false'. Refute it at one input. -/
def entityNamesWrong : ChangeSpec := { name := "entityNames", fn := fun _ => fun
  | [d1, d2] => { results := [.lit (.bool false)], args := [d1, d2] }
  | _ => none }
def EntityNamesWrongFalsely : Prop := entityNamesRow.holds Tryd.pinned (OpenSpec.ofChange entityNamesWrong)

/-- 'bowdlerlaw3.EntityLengths': WHATEVER THE INPUT: true; the input reads as it did. -/
def entityLengthsSpec : ChangeSpec := { name := "entityLengths", fn := fun _ => fun
  | [d1, d2] => { results := [.lit (.bool true)], args := [d1, d2] }
  | _ => none }
def entityLengthsRow : OpenClaim := { program := "ytggfllbaomfjhaadoor", sum := "a8665f6e02904068d976ff1eac62fe886ecdf91ac7f0dc5810d857f6e222c3bc", func := "bowdler/bowdlerlaw3.EntityLengths", spec := "entityLengths", named := ["bowdler/entity.named"], apart := false, laid := [("bowdler/entity.named", laid_bowdler_entity_named)] }
def EntityLengthsSaid : Prop := entityLengthsRow.holds Tryd.pinned (OpenSpec.ofChange entityLengthsSpec)

/-- ITS FALSE NEIGHBOUR: 'it returns false'. Refute it at one input. -/
def entityLengthsWrong : ChangeSpec := { name := "entityLengths", fn := fun _ => fun
  | [d1, d2] => { results := [.lit (.bool false)], args := [d1, d2] }
  | _ => none }
def EntityLengthsWrongFalsely : Prop := entityLengthsRow.holds Tryd.pinned (OpenSpec.ofChange entityLengthsWrong)

/- THE SECOND FORM. 'bulk': how many values and letters a reading holds, each counted each time it is reached (what is shared counts as often as it is met; a slice's spare places count too). A statement '..UptoSaid' is the law's where the arguments, and the package variables that the reading takes, are together of bulk at most 1048576: NARROWER than '..Said'. Prove '..Said' where nothing that the law and all that it calls make is longer than what came in: it says more and counts as full. Else prove '..UptoSaid'. A law counts once. -/
mutual
def uptoBulk {H : Type} : DataW H → Nat
  | .lit (.string bytes) => bytes.length + 1
  | .lit _ => 1
  | .nil => 1
  | .ptr d => uptoBulk d + 1
  | .slice elems spare => uptoBulkAll elems + uptoBulkAll spare + 1
  | .agg parts => uptoBulkAll parts + 1
  | .iface _ d => uptoBulk d + 1
  | .map entries => uptoBulkEntries entries + 1
  | .held _ => 1
def uptoBulkAll {H : Type} : List (DataW H) → Nat
  | [] => 0
  | d :: r => uptoBulk d + uptoBulkAll r
def uptoBulkEntries {H : Type} : List (Lit × DataW H) → Nat
  | [] => 0
  | x :: r => uptoBulkEntry x + uptoBulkEntries r
def uptoBulkEntry {H : Type} : Lit × DataW H → Nat
  | (.string bytes, d) => bytes.length + uptoBulk d + 1
  | (_, d) => uptoBulk d + 1
 end
def uptoSmall : (H : Type) → List (DataW H) → Bool := fun _ ds => decide (uptoBulkAll ds ≤ 1048576)
def OpenSpec.upto (s : _root_.Go.ChangeSpec) : _root_.Go.OpenSpec := { _root_.Go.OpenSpec.ofChange s with cond := some uptoSmall }

/-- 'bowdlerlaw3.EntityTells', WHERE WHAT IT READS IS OF BULK AT MOST 1048576: true; the input reads as it did. -/
def entityTellsUptoRow : OpenClaim := { program := "ytggfllbaomfjhaadoor", sum := "a8665f6e02904068d976ff1eac62fe886ecdf91ac7f0dc5810d857f6e222c3bc", func := "bowdler/bowdlerlaw3.EntityTells", spec := "entityTells", named := ["bowdler/entity.named"], apart := false, laid := [("bowdler/entity.named", laid_bowdler_entity_named)], narrowed := true }
def EntityTellsUptoSaid : Prop := entityTellsUptoRow.holds Tryd.pinned (OpenSpec.upto entityTellsSpec)

/-- 'bowdlerlaw3.EntityNumbers', WHERE WHAT IT READS IS OF BULK AT MOST 1048576: true; the input reads as it did. -/
def entityNumbersUptoRow : OpenClaim := { program := "ytggfllbaomfjhaadoor", sum := "a8665f6e02904068d976ff1eac62fe886ecdf91ac7f0dc5810d857f6e222c3bc", func := "bowdler/bowdlerlaw3.EntityNumbers", spec := "entityNumbers", named := ["bowdler/entity.named"], apart := false, laid := [("bowdler/entity.named", laid_bowdler_entity_named)], narrowed := true }
def EntityNumbersUptoSaid : Prop := entityNumbersUptoRow.holds Tryd.pinned (OpenSpec.upto entityNumbersSpec)

/-- 'bowdlerlaw3.EntityPlain', WHERE WHAT IT READS IS OF BULK AT MOST 1048576: true; the input reads as it did. -/
def entityPlainUptoRow : OpenClaim := { program := "ytggfllbaomfjhaadoor", sum := "a8665f6e02904068d976ff1eac62fe886ecdf91ac7f0dc5810d857f6e222c3bc", func := "bowdler/bowdlerlaw3.EntityPlain", spec := "entityPlain", named := ["bowdler/entity.named"], apart := false, laid := [("bowdler/entity.named", laid_bowdler_entity_named)], narrowed := true }
def EntityPlainUptoSaid : Prop := entityPlainUptoRow.holds Tryd.pinned (OpenSpec.upto entityPlainSpec)

/-- 'bowdlerlaw3.EntityNames', WHERE WHAT IT READS IS OF BULK AT MOST 1048576: true; the input reads as it did. -/
def entityNamesUptoRow : OpenClaim := { program := "ytggfllbaomfjhaadoor", sum := "a8665f6e02904068d976ff1eac62fe886ecdf91ac7f0dc5810d857f6e222c3bc", func := "bowdler/bowdlerlaw3.EntityNames", spec := "entityNames", named := ["bowdler/entity.named"], apart := false, laid := [("bowdler/entity.named", laid_bowdler_entity_named)], narrowed := true }
def EntityNamesUptoSaid : Prop := entityNamesUptoRow.holds Tryd.pinned (OpenSpec.upto entityNamesSpec)

/-- 'bowdlerlaw3.EntityLengths', WHERE WHAT IT READS IS OF BULK AT MOST 1048576: true; the input reads as it did. -/
def entityLengthsUptoRow : OpenClaim := { program := "ytggfllbaomfjhaadoor", sum := "a8665f6e02904068d976ff1eac62fe886ecdf91ac7f0dc5810d857f6e222c3bc", func := "bowdler/bowdlerlaw3.EntityLengths", spec := "entityLengths", named := ["bowdler/entity.named"], apart := false, laid := [("bowdler/entity.named", laid_bowdler_entity_named)], narrowed := true }
def EntityLengthsUptoSaid : Prop := entityLengthsUptoRow.holds Tryd.pinned (OpenSpec.upto entityLengthsSpec)

end Rows
end Go.Proofs.YtggfllbaomfjhaaDoor
