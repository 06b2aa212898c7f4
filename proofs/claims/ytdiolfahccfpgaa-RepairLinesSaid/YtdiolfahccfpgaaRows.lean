/-
  No cell of these rows narrows 'for every input' (looked for: loops, veiled, ifaces, maps, wideKeys, modest, calm, conditions, laid).
  DERIVED. THE GIVEN ROWS OF THIS SEAT. 5 by the template 'for every input the law returns true; each argument reads behind the call as it read before'; 0 by the template 'total and deterministic' (their statements: YtdiolfahccfpgaaTotals.lean).
  GIVEN WITH THE SEED: the statements are not yours to turn. If you find one false, say at which input.
  Laid BY PROGRAM, IN A SANDBOX (cutbox-rows.mjs): the forced cells as the released guide's own fill.sh prints them over the translation 2cc02e3f7c6fc45c… (all of the seat's roots in one cut). By AI agents, Wed Nov 11 2026. No macro, syntax, notation, axiom, sorry.
-/
import Derived.Test.YtdiolfahccfpgaaChecked
import GoSem.Claim
import GoSem.ClaimJoined
import GoSem.ClaimMapViews
import Derived.JoinedTies
import Derived.KernelRfl
namespace Go.Proofs.Ytdiolfahccfpgaa
/- THE CELL 'sum', in the pinned program and in every row, IS THE sha256 OF THE DUMP (.gsa) THAT YtdiolfahccfpgaaProg.lean LOADS. Nothing in Lean hashes anything: it is a label: what it is worth is what the hold of that sum in a sandbox is worth. -/
noncomputable def Try.pinned : Pinned := { name := "ytdiolfahccfpgaa", sum := "2cc02e3f7c6fc45c4b90e07298051413afea6785344622b360721ca91bfa8523", checked := Try.checked }
namespace Rows
def none {H : Type} : Left H := { results := [], args := [] }

/-- 'bowdlerlaw1.RepairTwice': WHATEVER THE INPUT: true; the input reads as it did. -/
def repairTwiceSpec : ChangeSpec := { name := "repairTwice", fn := fun _ => fun
  | [d1, d2, d3] => { results := [.lit (.bool true)], args := [d1, d2, d3] }
  | _ => none }
def repairTwiceRow : OpenClaim := { program := "ytdiolfahccfpgaa", sum := "2cc02e3f7c6fc45c4b90e07298051413afea6785344622b360721ca91bfa8523", func := "bowdler/bowdlerlaw1.RepairTwice", spec := "repairTwice", inPlace := ["internal/abi.NoEscape", "internal/bytealg.MakeNoZero"], apart := false }
def RepairTwiceSaid : Prop := repairTwiceRow.holds Try.pinned (OpenSpec.ofChange repairTwiceSpec)

/-- ITS FALSE NEIGHBOUR: 'it returns false'. Refute it at one input. -/
def repairTwiceWrong : ChangeSpec := { name := "repairTwice", fn := fun _ => fun
  | [d1, d2, d3] => { results := [.lit (.bool false)], args := [d1, d2, d3] }
  | _ => none }
def RepairTwiceWrongFalsely : Prop := repairTwiceRow.holds Try.pinned (OpenSpec.ofChange repairTwiceWrong)

/-- 'bowdlerlaw1.RepairLines': WHATEVER THE INPUT: true; the input reads as it did. -/
def repairLinesSpec : ChangeSpec := { name := "repairLines", fn := fun _ => fun
  | [d1, d2] => { results := [.lit (.bool true)], args := [d1, d2] }
  | _ => none }
def repairLinesRow : OpenClaim := { program := "ytdiolfahccfpgaa", sum := "2cc02e3f7c6fc45c4b90e07298051413afea6785344622b360721ca91bfa8523", func := "bowdler/bowdlerlaw1.RepairLines", spec := "repairLines", inPlace := ["internal/abi.NoEscape", "internal/bytealg.MakeNoZero"], apart := false }
def RepairLinesSaid : Prop := repairLinesRow.holds Try.pinned (OpenSpec.ofChange repairLinesSpec)

/-- ITS FALSE NEIGHBOUR: 'it returns false'. Refute it at one input. -/
def repairLinesWrong : ChangeSpec := { name := "repairLines", fn := fun _ => fun
  | [d1, d2] => { results := [.lit (.bool false)], args := [d1, d2] }
  | _ => none }
def RepairLinesWrongFalsely : Prop := repairLinesRow.holds Try.pinned (OpenSpec.ofChange repairLinesWrong)

/-- 'bowdlerlaw1.RepairGood': WHATEVER THE INPUT: true; the input reads as it did. -/
def repairGoodSpec : ChangeSpec := { name := "repairGood", fn := fun _ => fun
  | [d] => { results := [.lit (.bool true)], args := [d] }
  | _ => none }
def repairGoodRow : OpenClaim := { program := "ytdiolfahccfpgaa", sum := "2cc02e3f7c6fc45c4b90e07298051413afea6785344622b360721ca91bfa8523", func := "bowdler/bowdlerlaw1.RepairGood", spec := "repairGood", inPlace := ["internal/abi.NoEscape", "internal/bytealg.MakeNoZero"], apart := false }
def RepairGoodSaid : Prop := repairGoodRow.holds Try.pinned (OpenSpec.ofChange repairGoodSpec)

/-- ITS FALSE NEIGHBOUR: 'it returns false'. Refute it at one input. -/
def repairGoodWrong : ChangeSpec := { name := "repairGood", fn := fun _ => fun
  | [d] => { results := [.lit (.bool false)], args := [d] }
  | _ => none }
def RepairGoodWrongFalsely : Prop := repairGoodRow.holds Try.pinned (OpenSpec.ofChange repairGoodWrong)

/-- 'bowdlerlaw1.RepairClasses': WHATEVER THE INPUT: true; the input reads as it did. -/
def repairClassesSpec : ChangeSpec := { name := "repairClasses", fn := fun _ => fun
  | [d] => { results := [.lit (.bool true)], args := [d] }
  | _ => none }
def repairClassesRow : OpenClaim := { program := "ytdiolfahccfpgaa", sum := "2cc02e3f7c6fc45c4b90e07298051413afea6785344622b360721ca91bfa8523", func := "bowdler/bowdlerlaw1.RepairClasses", spec := "repairClasses", inPlace := ["internal/abi.NoEscape", "internal/bytealg.MakeNoZero"], apart := false }
def RepairClassesSaid : Prop := repairClassesRow.holds Try.pinned (OpenSpec.ofChange repairClassesSpec)

/-- ITS FALSE NEIGHBOUR: 'it returns false'. Refute it at one input. -/
def repairClassesWrong : ChangeSpec := { name := "repairClasses", fn := fun _ => fun
  | [d] => { results := [.lit (.bool false)], args := [d] }
  | _ => none }
def RepairClassesWrongFalsely : Prop := repairClassesRow.holds Try.pinned (OpenSpec.ofChange repairClassesWrong)

/-- 'bowdlerlaw1.RepairFolds': WHATEVER THE INPUT: true; the input reads as it did. -/
def repairFoldsSpec : ChangeSpec := { name := "repairFolds", fn := fun _ => fun
  | [d1, d2] => { results := [.lit (.bool true)], args := [d1, d2] }
  | _ => none }
def repairFoldsRow : OpenClaim := { program := "ytdiolfahccfpgaa", sum := "2cc02e3f7c6fc45c4b90e07298051413afea6785344622b360721ca91bfa8523", func := "bowdler/bowdlerlaw1.RepairFolds", spec := "repairFolds", inPlace := ["internal/abi.NoEscape", "internal/bytealg.MakeNoZero"], apart := false }
def RepairFoldsSaid : Prop := repairFoldsRow.holds Try.pinned (OpenSpec.ofChange repairFoldsSpec)

/-- ITS FALSE NEIGHBOUR: 'it returns false'. Refute it at one input. -/
def repairFoldsWrong : ChangeSpec := { name := "repairFolds", fn := fun _ => fun
  | [d1, d2] => { results := [.lit (.bool false)], args := [d1, d2] }
  | _ => none }
def RepairFoldsWrongFalsely : Prop := repairFoldsRow.holds Try.pinned (OpenSpec.ofChange repairFoldsWrong)

/- THE SECOND FORM. 'bulk': how many values and letters a reading holds, each counted each time it is reached (what is shared counts as often as it is met; a slice's spare places count too). A statement '..UptoSaid' is the law's where the arguments, and the package variables that the reading takes, are together of bulk at most 1048576: NARROWER than '..Said'. Prove '..Said' where nothing that the law and all that it calls make is longer than what came in: it says more and counts as full. Else prove '..UptoSaid'. A law counts once. -/
mutual
def uptoBulk {H : Type} : DataW H → Nat
  | .lit (.string bytes) => bytes.length + 1
  | .lit _ => 1
  | .nil => 1
  | .ptr d => uptoBulk d + 1
  | .slice elems spare => uptoBulkAll elems + uptoBulkAll spare + 1
  | .agg parts => uptoBulkAll parts + 1
  | .iface _ d => uptoBulk d + 1
  | .map entries => uptoBulkEntries entries + 1
  | .held _ => 1
def uptoBulkAll {H : Type} : List (DataW H) → Nat
  | [] => 0
  | d :: r => uptoBulk d + uptoBulkAll r
def uptoBulkEntries {H : Type} : List (Lit × DataW H) → Nat
  | [] => 0
  | x :: r => uptoBulkEntry x + uptoBulkEntries r
def uptoBulkEntry {H : Type} : Lit × DataW H → Nat
  | (.string bytes, d) => bytes.length + uptoBulk d + 1
  | (_, d) => uptoBulk d + 1
 end
def uptoSmall : (H : Type) → List (DataW H) → Bool := fun _ ds => decide (uptoBulkAll ds ≤ 1048576)
def OpenSpec.upto (s : _root_.Go.ChangeSpec) : _root_.Go.OpenSpec := { _root_.Go.OpenSpec.ofChange s with cond := some uptoSmall }

/-- 'bowdlerlaw1.RepairTwice', WHERE WHAT IT READS IS OF BULK AT MOST 1048576: true; the input reads as it did. -/
def repairTwiceUptoRow : OpenClaim := { program := "ytdiolfahccfpgaa", sum := "2cc02e3f7c6fc45c4b90e07298051413afea6785344622b360721ca91bfa8523", func := "bowdler/bowdlerlaw1.RepairTwice", spec := "repairTwice", inPlace := ["internal/abi.NoEscape", "internal/bytealg.MakeNoZero"], apart := false, narrowed := true }
def RepairTwiceUptoSaid : Prop := repairTwiceUptoRow.holds Try.pinned (OpenSpec.upto repairTwiceSpec)

/-- 'bowdlerlaw1.RepairLines', WHERE WHAT IT READS IS OF BULK AT MOST 1048576: true; the input reads as it did. -/
def repairLinesUptoRow : OpenClaim := { program := "ytdiolfahccfpgaa", sum := "2cc02e3f7c6fc45c4b90e07298051413afea6785344622b360721ca91bfa8523", func := "bowdler/bowdlerlaw1.RepairLines", spec := "repairLines", inPlace := ["internal/abi.NoEscape", "internal/bytealg.MakeNoZero"], apart := false, narrowed := true }
def RepairLinesUptoSaid : Prop := repairLinesUptoRow.holds Try.pinned (OpenSpec.upto repairLinesSpec)

/-- 'bowdlerlaw1.RepairGood', WHERE WHAT IT READS IS OF BULK AT MOST 1048576: true; the input reads as it did. -/
def repairGoodUptoRow : OpenClaim := { program := "ytdiolfahccfpgaa", sum := "2cc02e3f7c6fc45c4b90e07298051413afea6785344622b360721ca91bfa8523", func := "bowdler/bowdlerlaw1.RepairGood", spec := "repairGood", inPlace := ["internal/abi.NoEscape", "internal/bytealg.MakeNoZero"], apart := false, narrowed := true }
def RepairGoodUptoSaid : Prop := repairGoodUptoRow.holds Try.pinned (OpenSpec.upto repairGoodSpec)

/-- 'bowdlerlaw1.RepairClasses', WHERE WHAT IT READS IS OF BULK AT MOST 1048576: true; the input reads as it did. -/
def repairClassesUptoRow : OpenClaim := { program := "ytdiolfahccfpgaa", sum := "2cc02e3f7c6fc45c4b90e07298051413afea6785344622b360721ca91bfa8523", func := "bowdler/bowdlerlaw1.RepairClasses", spec := "repairClasses", inPlace := ["internal/abi.NoEscape", "internal/bytealg.MakeNoZero"], apart := false, narrowed := true }
def RepairClassesUptoSaid : Prop := repairClassesUptoRow.holds Try.pinned (OpenSpec.upto repairClassesSpec)

/-- 'bowdlerlaw1.RepairFolds', WHERE WHAT IT READS IS OF BULK AT MOST 1048576: true; the input reads as it did. -/
def repairFoldsUptoRow : OpenClaim := { program := "ytdiolfahccfpgaa", sum := "2cc02e3f7c6fc45c4b90e07298051413afea6785344622b360721ca91bfa8523", func := "bowdler/bowdlerlaw1.RepairFolds", spec := "repairFolds", inPlace := ["internal/abi.NoEscape", "internal/bytealg.MakeNoZero"], apart := false, narrowed := true }
def RepairFoldsUptoSaid : Prop := repairFoldsUptoRow.holds Try.pinned (OpenSpec.upto repairFoldsSpec)

end Rows
end Go.Proofs.Ytdiolfahccfpgaa
