/-
  NARROWER THAN 'FOR EVERY INPUT', by the rows' own cells (each row's printed sentence says how): DefineFolds: laid · DefineBack: laid · DefineTakes: laid · DefineNone: laid.
  DERIVED. THE GIVEN ROWS OF THIS SEAT. 4 by the template 'for every input the law returns true; each argument reads behind the call as it read before'; 0 by the template 'total and deterministic' (their statements: YtioolcnoiaoflaaDoorTotals.lean).
  GIVEN WITH THE SEED: the statements are not yours to turn. If you find one false, say at which input.
  Laid BY PROGRAM, IN A SANDBOX (cutbox-rows.mjs): the forced cells as the released guide's own fill.sh prints them over the translation d51f2182f57f2bea… (all of the seat's roots in one cut). By AI agents, Wed Nov 11 2026. No macro, syntax, notation, axiom, sorry.
-/
import Derived.Test.YtioolcnoiaoflaaDoorChecked
import GoSem.Claim
import GoSem.ClaimJoined
import GoSem.ClaimMapViews
import Derived.JoinedTies
import Derived.KernelRfl
namespace Go.Proofs.YtioolcnoiaoflaaDoor
/- THE CELL 'sum', in the pinned program and in every row, IS THE sha256 OF THE DUMP (.gsa) THAT YtioolcnoiaoflaaDoorProg.lean LOADS. Nothing in Lean hashes anything: it is a label: what it is worth is what the hold of that sum in a sandbox is worth. -/
noncomputable def Tryd.pinned : Pinned := { name := "ytioolcnoiaoflaadoor", sum := "d51f2182f57f2bea9ea581f07c28cae141e6d12751ef9745507b46615f0518c6", checked := Tryd.checked }
namespace Rows
def none {H : Type} : Left H := { results := [], args := [] }

/- WHAT THE LISTED PACKAGE-LEVEL VARIABLES READ AS WHEN THE CALL BEGINS. Each datum BY PROGRAM (the guide's laid-datum.mjs) off the statement by which the dump's own 'gosem.cut.vars' lays the variable. In a bare row this is a premise. The card (YtioolcnoiaoflaaDoorCards.lean) ties it to the program's text. -/
def laid_bowdler_entity_named {H : Type} : DataW H := .agg [.agg [.lit (.string [97, 109, 112]), .lit (.string [38])], .agg [.lit (.string [108, 116]), .lit (.string [60])], .agg [.lit (.string [103, 116]), .lit (.string [62])], .agg [.lit (.string [113, 117, 111, 116]), .lit (.string [34])], .agg [.lit (.string [97, 112, 111, 115]), .lit (.string [39])], .agg [.lit (.string [110, 98, 115, 112]), .lit (.string [194, 160])], .agg [.lit (.string [99, 111, 112, 121]), .lit (.string [194, 169])], .agg [.lit (.string [114, 101, 103]), .lit (.string [194, 174])], .agg [.lit (.string [100, 101, 103]), .lit (.string [194, 176])], .agg [.lit (.string [115, 101, 99, 116]), .lit (.string [194, 167])], .agg [.lit (.string [112, 97, 114, 97]), .lit (.string [194, 182])], .agg [.lit (.string [109, 105, 100, 100, 111, 116]), .lit (.string [194, 183])], .agg [.lit (.string [101, 97, 99, 117, 116, 101]), .lit (.string [195, 169])], .agg [.lit (.string [97, 117, 109, 108]), .lit (.string [195, 164])], .agg [.lit (.string [111, 117, 109, 108]), .lit (.string [195, 182])], .agg [.lit (.string [117, 117, 109, 108]), .lit (.string [195, 188])], .agg [.lit (.string [115, 122, 108, 105, 103]), .lit (.string [195, 159])], .agg [.lit (.string [110, 100, 97, 115, 104]), .lit (.string [226, 128, 147])], .agg [.lit (.string [109, 100, 97, 115, 104]), .lit (.string [226, 128, 148])], .agg [.lit (.string [104, 101, 108, 108, 105, 112]), .lit (.string [226, 128, 166])], .agg [.lit (.string [101, 117, 114, 111]), .lit (.string [226, 130, 172])], .agg [.lit (.string [108, 97, 114, 114]), .lit (.string [226, 134, 144])], .agg [.lit (.string [114, 97, 114, 114]), .lit (.string [226, 134, 146])]]

/-- 'bowdlerlaw11.DefineFolds': WHATEVER THE INPUT: true; the input reads as it did. -/
def defineFoldsSpec : ChangeSpec := { name := "defineFolds", fn := fun _ => fun
  | [d] => { results := [.lit (.bool true)], args := [d] }
  | _ => none }
def defineFoldsRow : OpenClaim := { program := "ytioolcnoiaoflaadoor", sum := "d51f2182f57f2bea9ea581f07c28cae141e6d12751ef9745507b46615f0518c6", func := "bowdler/bowdlerlaw11.DefineFolds", spec := "defineFolds", inPlace := ["internal/bytealg.IndexByteString", "internal/bytealg.IndexString", "internal/abi.NoEscape"], named := ["internal/bytealg.MaxLen", "bowdler/entity.named"], apart := false, laid := [("bowdler/entity.named", laid_bowdler_entity_named)] }
def DefineFoldsSaid : Prop := defineFoldsRow.holds Tryd.pinned (OpenSpec.ofChange defineFoldsSpec)

/-- ITS FALSE NEIGHBOUR: 'it returns false'. Refute it at one input. -/
def defineFoldsWrong : ChangeSpec := { name := "defineFolds", fn := fun _ => fun
  | [d] => { results := [.lit (.bool false)], args := [d] }
  | _ => none }
def DefineFoldsWrongFalsely : Prop := defineFoldsRow.holds Tryd.pinned (OpenSpec.ofChange defineFoldsWrong)

/-- 'bowdlerlaw11.DefineBack': WHATEVER THE INPUT: true; the input reads as it did. -/
def defineBackSpec : ChangeSpec := { name := "defineBack", fn := fun _ => fun
  | [d1, d2, d3, d4] => { results := [.lit (.bool true)], args := [d1, d2, d3, d4] }
  | _ => none }
def defineBackRow : OpenClaim := { program := "ytioolcnoiaoflaadoor", sum := "d51f2182f57f2bea9ea581f07c28cae141e6d12751ef9745507b46615f0518c6", func := "bowdler/bowdlerlaw11.DefineBack", spec := "defineBack", inPlace := ["internal/bytealg.IndexByteString", "internal/bytealg.IndexString", "internal/abi.NoEscape"], named := ["internal/bytealg.MaxLen", "bowdler/entity.named"], apart := false, laid := [("bowdler/entity.named", laid_bowdler_entity_named)] }
def DefineBackSaid : Prop := defineBackRow.holds Tryd.pinned (OpenSpec.ofChange defineBackSpec)

/-- ITS FALSE NEIGHBOUR: 'it returns false'. Refute it at one input. -/
def defineBackWrong : ChangeSpec := { name := "defineBack", fn := fun _ => fun
  | [d1, d2, d3, d4] => { results := [.lit (.bool false)], args := [d1, d2, d3, d4] }
  | _ => none }
def DefineBackWrongFalsely : Prop := defineBackRow.holds Tryd.pinned (OpenSpec.ofChange defineBackWrong)

/-- 'bowdlerlaw11.DefineTakes': WHATEVER THE INPUT: true; the input reads as it did. -/
def defineTakesSpec : ChangeSpec := { name := "defineTakes", fn := fun _ => fun
  | [d1, d2] => { results := [.lit (.bool true)], args := [d1, d2] }
  | _ => none }
def defineTakesRow : OpenClaim := { program := "ytioolcnoiaoflaadoor", sum := "d51f2182f57f2bea9ea581f07c28cae141e6d12751ef9745507b46615f0518c6", func := "bowdler/bowdlerlaw11.DefineTakes", spec := "defineTakes", inPlace := ["internal/bytealg.IndexByteString", "internal/bytealg.IndexString", "internal/abi.NoEscape"], named := ["internal/bytealg.MaxLen", "bowdler/entity.named"], apart := false, laid := [("bowdler/entity.named", laid_bowdler_entity_named)] }
def DefineTakesSaid : Prop := defineTakesRow.holds Tryd.pinned (OpenSpec.ofChange defineTakesSpec)

/-- ITS FALSE NEIGHBOUR: 'it returns false'. Refute it at one input. -/
def defineTakesWrong : ChangeSpec := { name := "defineTakes", fn := fun _ => fun
  | [d1, d2] => { results := [.lit (.bool false)], args := [d1, d2] }
  | _ => none }
def DefineTakesWrongFalsely : Prop := defineTakesRow.holds Tryd.pinned (OpenSpec.ofChange defineTakesWrong)

/-- 'bowdlerlaw11.DefineNone': WHATEVER THE INPUT: true; the input reads as it did. -/
def defineNoneSpec : ChangeSpec := { name := "defineNone", fn := fun _ => fun
  | [d1, d2] => { results := [.lit (.bool true)], args := [d1, d2] }
  | _ => none }
def defineNoneRow : OpenClaim := { program := "ytioolcnoiaoflaadoor", sum := "d51f2182f57f2bea9ea581f07c28cae141e6d12751ef9745507b46615f0518c6", func := "bowdler/bowdlerlaw11.DefineNone", spec := "defineNone", inPlace := ["internal/bytealg.IndexByteString", "internal/bytealg.IndexString", "internal/abi.NoEscape"], named := ["internal/bytealg.MaxLen", "bowdler/entity.named"], apart := false, laid := [("bowdler/entity.named", laid_bowdler_entity_named)] }
def DefineNoneSaid : Prop := defineNoneRow.holds Tryd.pinned (OpenSpec.ofChange defineNoneSpec)

/-- ITS FALSE NEIGHBOUR: 'it returns false'. Refute it at one input. -/
def defineNoneWrong : ChangeSpec := { name := "defineNone", fn := fun _ => fun
  | [d1, d2] => { results := [.lit (.bool false)], args := [d1, d2] }
  | _ => none }
def DefineNoneWrongFalsely : Prop := defineNoneRow.holds Tryd.pinned (OpenSpec.ofChange defineNoneWrong)

/- THE SECOND FORM. 'bulk': how many values and letters a reading holds, each counted each time it is reached (what is shared counts as often as it is met; a slice's spare places count too). A statement '..UptoSaid' is the law's where the arguments, and the package variables that the reading takes, are together of bulk at most 1048576: NARROWER than '..Said'. Prove '..Said' where nothing that the law and all that it calls make is longer than what came in: it says more and counts as full. Else prove '..UptoSaid'. A law counts once. -/
mutual
def uptoBulk {H : Type} : DataW H → Nat
  | .lit (.string bytes) => bytes.length + 1
  | .lit _ => 1
  | .nil => 1
  | .ptr d => uptoBulk d + 1
  | .slice elems spare => uptoBulkAll elems + uptoBulkAll spare + 1
  | .agg parts => uptoBulkAll parts + 1
  | .iface _ d => uptoBulk d + 1
  | .map entries => uptoBulkEntries entries + 1
  | .held _ => 1
def uptoBulkAll {H : Type} : List (DataW H) → Nat
  | [] => 0
  | d :: r => uptoBulk d + uptoBulkAll r
def uptoBulkEntries {H : Type} : List (Lit × DataW H) → Nat
  | [] => 0
  | x :: r => uptoBulkEntry x + uptoBulkEntries r
def uptoBulkEntry {H : Type} : Lit × DataW H → Nat
  | (.string bytes, d) => bytes.length + uptoBulk d + 1
  | (_, d) => uptoBulk d + 1
 end
def uptoSmall : (H : Type) → List (DataW H) → Bool := fun _ ds => decide (uptoBulkAll ds ≤ 1048576)
def OpenSpec.upto (s : _root_.Go.ChangeSpec) : _root_.Go.OpenSpec := { _root_.Go.OpenSpec.ofChange s with cond := some uptoSmall }

/-- 'bowdlerlaw11.DefineFolds', WHERE WHAT IT READS IS OF BULK AT MOST 1048576: true; the input reads as it did. -/
def defineFoldsUptoRow : OpenClaim := { program := "ytioolcnoiaoflaadoor", sum := "d51f2182f57f2bea9ea581f07c28cae141e6d12751ef9745507b46615f0518c6", func := "bowdler/bowdlerlaw11.DefineFolds", spec := "defineFolds", inPlace := ["internal/bytealg.IndexByteString", "internal/bytealg.IndexString", "internal/abi.NoEscape"], named := ["internal/bytealg.MaxLen", "bowdler/entity.named"], apart := false, laid := [("bowdler/entity.named", laid_bowdler_entity_named)], narrowed := true }
def DefineFoldsUptoSaid : Prop := defineFoldsUptoRow.holds Tryd.pinned (OpenSpec.upto defineFoldsSpec)

/-- 'bowdlerlaw11.DefineBack', WHERE WHAT IT READS IS OF BULK AT MOST 1048576: true; the input reads as it did. -/
def defineBackUptoRow : OpenClaim := { program := "ytioolcnoiaoflaadoor", sum := "d51f2182f57f2bea9ea581f07c28cae141e6d12751ef9745507b46615f0518c6", func := "bowdler/bowdlerlaw11.DefineBack", spec := "defineBack", inPlace := ["internal/bytealg.IndexByteString", "internal/bytealg.IndexString", "internal/abi.NoEscape"], named := ["internal/bytealg.MaxLen", "bowdler/entity.named"], apart := false, laid := [("bowdler/entity.named", laid_bowdler_entity_named)], narrowed := true }
def DefineBackUptoSaid : Prop := defineBackUptoRow.holds Tryd.pinned (OpenSpec.upto defineBackSpec)

/-- 'bowdlerlaw11.DefineTakes', WHERE WHAT IT READS IS OF BULK AT MOST 1048576: true; the input reads as it did. -/
def defineTakesUptoRow : OpenClaim := { program := "ytioolcnoiaoflaadoor", sum := "d51f2182f57f2bea9ea581f07c28cae141e6d12751ef9745507b46615f0518c6", func := "bowdler/bowdlerlaw11.DefineTakes", spec := "defineTakes", inPlace := ["internal/bytealg.IndexByteString", "internal/bytealg.IndexString", "internal/abi.NoEscape"], named := ["internal/bytealg.MaxLen", "bowdler/entity.named"], apart := false, laid := [("bowdler/entity.named", laid_bowdler_entity_named)], narrowed := true }
def DefineTakesUptoSaid : Prop := defineTakesUptoRow.holds Tryd.pinned (OpenSpec.upto defineTakesSpec)

/-- 'bowdlerlaw11.DefineNone', WHERE WHAT IT READS IS OF BULK AT MOST 1048576: true; the input reads as it did. -/
def defineNoneUptoRow : OpenClaim := { program := "ytioolcnoiaoflaadoor", sum := "d51f2182f57f2bea9ea581f07c28cae141e6d12751ef9745507b46615f0518c6", func := "bowdler/bowdlerlaw11.DefineNone", spec := "defineNone", inPlace := ["internal/bytealg.IndexByteString", "internal/bytealg.IndexString", "internal/abi.NoEscape"], named := ["internal/bytealg.MaxLen", "bowdler/entity.named"], apart := false, laid := [("bowdler/entity.named", laid_bowdler_entity_named)], narrowed := true }
def DefineNoneUptoSaid : Prop := defineNoneUptoRow.holds Tryd.pinned (OpenSpec.upto defineNoneSpec)

end Rows
end Go.Proofs.YtioolcnoiaoflaaDoor
