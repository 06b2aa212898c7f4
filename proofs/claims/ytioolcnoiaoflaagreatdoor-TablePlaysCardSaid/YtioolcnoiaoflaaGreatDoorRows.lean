/-
  NARROWER THAN 'FOR EVERY INPUT', by the rows' own cells (each row's printed sentence says how): DefineTells: laid · TablePlays: laid.
  DERIVED. THE GIVEN ROWS OF THIS SEAT. 2 by the template 'for every input the law returns true; each argument reads behind the call as it read before'; 0 by the template 'total and deterministic' (their statements: YtioolcnoiaoflaaGreatDoorTotals.lean).
  GIVEN WITH THE SEED: the statements are not yours to turn. If you find one false, say at which input.
  Laid BY PROGRAM, IN A SANDBOX (cutbox-rows.mjs): the forced cells as the released guide's own fill.sh prints them over the translation 4fb0fd26c8194e05… (all of the seat's roots in one cut). By AI agents, Wed Nov 11 2026. No macro, syntax, notation, axiom, sorry.
-/
import Derived.Test.YtioolcnoiaoflaaGreatDoorChecked
import GoSem.PinnedTables
import GoSem.Claim
import GoSem.ClaimJoined
import GoSem.ClaimMapViews
import Derived.JoinedTies
import Derived.KernelRfl
namespace Go.Proofs.YtioolcnoiaoflaaGreatDoor
/- THE CELL 'sum', in the pinned program and in every row, IS THE sha256 OF THE DUMP (.gsa) THAT YtioolcnoiaoflaaGreatDoorProg.lean LOADS. Nothing in Lean hashes anything: it is a label: what it is worth is what the hold of that sum in a sandbox is worth. -/
noncomputable def Tryz.pinned : Pinned := { name := "ytioolcnoiaoflaagreatdoor", sum := "4fb0fd26c8194e0565cc84b9be3df95d1f1b0a263f5aa6aba7689b8bf0a9bd11", checked := Tryz.checked }
namespace Rows
def none {H : Type} : Left H := { results := [], args := [] }

/- WHAT THE LISTED PACKAGE-LEVEL VARIABLES READ AS WHEN THE CALL BEGINS. Each datum BY PROGRAM (the guide's laid-datum.mjs) off the statement by which the dump's own 'gosem.cut.vars' lays the variable. In a bare row this is a premise. The card (YtioolcnoiaoflaaGreatDoorCards.lean) ties it to the program's text. -/
def laid_unicode_utf8_acceptRanges {H : Type} : DataW H := .agg [.agg [.lit (.int .u8 128), .lit (.int .u8 191)], .agg [.lit (.int .u8 160), .lit (.int .u8 191)], .agg [.lit (.int .u8 128), .lit (.int .u8 159)], .agg [.lit (.int .u8 144), .lit (.int .u8 191)], .agg [.lit (.int .u8 128), .lit (.int .u8 143)], .agg [.lit (.int .u8 0), .lit (.int .u8 0)], .agg [.lit (.int .u8 0), .lit (.int .u8 0)], .agg [.lit (.int .u8 0), .lit (.int .u8 0)], .agg [.lit (.int .u8 0), .lit (.int .u8 0)], .agg [.lit (.int .u8 0), .lit (.int .u8 0)], .agg [.lit (.int .u8 0), .lit (.int .u8 0)], .agg [.lit (.int .u8 0), .lit (.int .u8 0)], .agg [.lit (.int .u8 0), .lit (.int .u8 0)], .agg [.lit (.int .u8 0), .lit (.int .u8 0)], .agg [.lit (.int .u8 0), .lit (.int .u8 0)], .agg [.lit (.int .u8 0), .lit (.int .u8 0)]]
def laid_bowdler_entity_named {H : Type} : DataW H := .agg [.agg [.lit (.string [97, 109, 112]), .lit (.string [38])], .agg [.lit (.string [108, 116]), .lit (.string [60])], .agg [.lit (.string [103, 116]), .lit (.string [62])], .agg [.lit (.string [113, 117, 111, 116]), .lit (.string [34])], .agg [.lit (.string [97, 112, 111, 115]), .lit (.string [39])], .agg [.lit (.string [110, 98, 115, 112]), .lit (.string [194, 160])], .agg [.lit (.string [99, 111, 112, 121]), .lit (.string [194, 169])], .agg [.lit (.string [114, 101, 103]), .lit (.string [194, 174])], .agg [.lit (.string [100, 101, 103]), .lit (.string [194, 176])], .agg [.lit (.string [115, 101, 99, 116]), .lit (.string [194, 167])], .agg [.lit (.string [112, 97, 114, 97]), .lit (.string [194, 182])], .agg [.lit (.string [109, 105, 100, 100, 111, 116]), .lit (.string [194, 183])], .agg [.lit (.string [101, 97, 99, 117, 116, 101]), .lit (.string [195, 169])], .agg [.lit (.string [97, 117, 109, 108]), .lit (.string [195, 164])], .agg [.lit (.string [111, 117, 109, 108]), .lit (.string [195, 182])], .agg [.lit (.string [117, 117, 109, 108]), .lit (.string [195, 188])], .agg [.lit (.string [115, 122, 108, 105, 103]), .lit (.string [195, 159])], .agg [.lit (.string [110, 100, 97, 115, 104]), .lit (.string [226, 128, 147])], .agg [.lit (.string [109, 100, 97, 115, 104]), .lit (.string [226, 128, 148])], .agg [.lit (.string [104, 101, 108, 108, 105, 112]), .lit (.string [226, 128, 166])], .agg [.lit (.string [101, 117, 114, 111]), .lit (.string [226, 130, 172])], .agg [.lit (.string [108, 97, 114, 114]), .lit (.string [226, 134, 144])], .agg [.lit (.string [114, 97, 114, 114]), .lit (.string [226, 134, 146])]]
/-- One of Go's own tables, pinned by name: the form's constant. -/
def laid_unicode_utf8_first : DataW Unit := Go.Pinned.utf8First

/-- 'bowdlerlaw11.DefineTells': WHATEVER THE INPUT: true; the input reads as it did. -/
def defineTellsSpec : ChangeSpec := { name := "defineTells", fn := fun _ => fun
  | [d1, d2, d3] => { results := [.lit (.bool true)], args := [d1, d2, d3] }
  | _ => none }
def defineTellsRow : OpenClaim := { program := "ytioolcnoiaoflaagreatdoor", sum := "4fb0fd26c8194e0565cc84b9be3df95d1f1b0a263f5aa6aba7689b8bf0a9bd11", func := "bowdler/bowdlerlaw11.DefineTells", spec := "defineTells", inPlace := ["internal/bytealg.IndexByteString", "internal/bytealg.IndexString", "internal/abi.NoEscape"], named := ["internal/bytealg.MaxLen", "bowdler/entity.named", "unicode/utf8.first", "unicode/utf8.acceptRanges"], plainKeys := false, apart := false, laid := [("unicode/utf8.acceptRanges", laid_unicode_utf8_acceptRanges), ("bowdler/entity.named", laid_bowdler_entity_named), ("unicode/utf8.first", laid_unicode_utf8_first)] }
def DefineTellsSaid : Prop := defineTellsRow.holds Tryz.pinned (OpenSpec.ofChange defineTellsSpec)

/-- ITS FALSE NEIGHBOUR: 'it returns false'. Refute it at one input. -/
def defineTellsWrong : ChangeSpec := { name := "defineTells", fn := fun _ => fun
  | [d1, d2, d3] => { results := [.lit (.bool false)], args := [d1, d2, d3] }
  | _ => none }
def DefineTellsWrongFalsely : Prop := defineTellsRow.holds Tryz.pinned (OpenSpec.ofChange defineTellsWrong)

/-- 'bowdlerlaw11.TablePlays': WHATEVER THE INPUT: true; the input reads as it did. -/
def tablePlaysSpec : ChangeSpec := { name := "tablePlays", fn := fun _ => fun
  | [d1, d2] => { results := [.lit (.bool true)], args := [d1, d2] }
  | _ => none }
def tablePlaysRow : OpenClaim := { program := "ytioolcnoiaoflaagreatdoor", sum := "4fb0fd26c8194e0565cc84b9be3df95d1f1b0a263f5aa6aba7689b8bf0a9bd11", func := "bowdler/bowdlerlaw11.TablePlays", spec := "tablePlays", inPlace := ["internal/bytealg.IndexByteString", "internal/bytealg.IndexString", "internal/abi.NoEscape"], named := ["internal/bytealg.MaxLen", "bowdler/entity.named", "unicode/utf8.first", "unicode/utf8.acceptRanges"], plainKeys := false, apart := false, laid := [("unicode/utf8.acceptRanges", laid_unicode_utf8_acceptRanges), ("bowdler/entity.named", laid_bowdler_entity_named), ("unicode/utf8.first", laid_unicode_utf8_first)] }
def TablePlaysSaid : Prop := tablePlaysRow.holds Tryz.pinned (OpenSpec.ofChange tablePlaysSpec)

/-- ITS FALSE NEIGHBOUR: 'it returns false'. Refute it at one input. -/
def tablePlaysWrong : ChangeSpec := { name := "tablePlays", fn := fun _ => fun
  | [d1, d2] => { results := [.lit (.bool false)], args := [d1, d2] }
  | _ => none }
def TablePlaysWrongFalsely : Prop := tablePlaysRow.holds Tryz.pinned (OpenSpec.ofChange tablePlaysWrong)

/- THE SECOND FORM. 'bulk': how many values and letters a reading holds, each counted each time it is reached (what is shared counts as often as it is met; a slice's spare places count too). A statement '..UptoSaid' is the law's where the arguments, and the package variables that the reading takes, are together of bulk at most 1048576: NARROWER than '..Said'. Prove '..Said' where nothing that the law and all that it calls make is longer than what came in: it says more and counts as full. Else prove '..UptoSaid'. A law counts once. -/
mutual
def uptoBulk {H : Type} : DataW H → Nat
  | .lit (.string bytes) => bytes.length + 1
  | .lit _ => 1
  | .nil => 1
  | .ptr d => uptoBulk d + 1
  | .slice elems spare => uptoBulkAll elems + uptoBulkAll spare + 1
  | .agg parts => uptoBulkAll parts + 1
  | .iface _ d => uptoBulk d + 1
  | .map entries => uptoBulkEntries entries + 1
  | .held _ => 1
def uptoBulkAll {H : Type} : List (DataW H) → Nat
  | [] => 0
  | d :: r => uptoBulk d + uptoBulkAll r
def uptoBulkEntries {H : Type} : List (Lit × DataW H) → Nat
  | [] => 0
  | x :: r => uptoBulkEntry x + uptoBulkEntries r
def uptoBulkEntry {H : Type} : Lit × DataW H → Nat
  | (.string bytes, d) => bytes.length + uptoBulk d + 1
  | (_, d) => uptoBulk d + 1
 end
def uptoSmall : (H : Type) → List (DataW H) → Bool := fun _ ds => decide (uptoBulkAll ds ≤ 1048576)
def OpenSpec.upto (s : _root_.Go.ChangeSpec) : _root_.Go.OpenSpec := { _root_.Go.OpenSpec.ofChange s with cond := some uptoSmall }

/-- 'bowdlerlaw11.DefineTells', WHERE WHAT IT READS IS OF BULK AT MOST 1048576: true; the input reads as it did. -/
def defineTellsUptoRow : OpenClaim := { program := "ytioolcnoiaoflaagreatdoor", sum := "4fb0fd26c8194e0565cc84b9be3df95d1f1b0a263f5aa6aba7689b8bf0a9bd11", func := "bowdler/bowdlerlaw11.DefineTells", spec := "defineTells", inPlace := ["internal/bytealg.IndexByteString", "internal/bytealg.IndexString", "internal/abi.NoEscape"], named := ["internal/bytealg.MaxLen", "bowdler/entity.named", "unicode/utf8.first", "unicode/utf8.acceptRanges"], plainKeys := false, apart := false, laid := [("unicode/utf8.acceptRanges", laid_unicode_utf8_acceptRanges), ("bowdler/entity.named", laid_bowdler_entity_named), ("unicode/utf8.first", laid_unicode_utf8_first)], narrowed := true }
def DefineTellsUptoSaid : Prop := defineTellsUptoRow.holds Tryz.pinned (OpenSpec.upto defineTellsSpec)

/-- 'bowdlerlaw11.TablePlays', WHERE WHAT IT READS IS OF BULK AT MOST 1048576: true; the input reads as it did. -/
def tablePlaysUptoRow : OpenClaim := { program := "ytioolcnoiaoflaagreatdoor", sum := "4fb0fd26c8194e0565cc84b9be3df95d1f1b0a263f5aa6aba7689b8bf0a9bd11", func := "bowdler/bowdlerlaw11.TablePlays", spec := "tablePlays", inPlace := ["internal/bytealg.IndexByteString", "internal/bytealg.IndexString", "internal/abi.NoEscape"], named := ["internal/bytealg.MaxLen", "bowdler/entity.named", "unicode/utf8.first", "unicode/utf8.acceptRanges"], plainKeys := false, apart := false, laid := [("unicode/utf8.acceptRanges", laid_unicode_utf8_acceptRanges), ("bowdler/entity.named", laid_bowdler_entity_named), ("unicode/utf8.first", laid_unicode_utf8_first)], narrowed := true }
def TablePlaysUptoSaid : Prop := tablePlaysUptoRow.holds Tryz.pinned (OpenSpec.upto tablePlaysSpec)

end Rows
end Go.Proofs.YtioolcnoiaoflaaGreatDoor
