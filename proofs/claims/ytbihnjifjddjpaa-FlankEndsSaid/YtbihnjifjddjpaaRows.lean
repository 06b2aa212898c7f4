/-
  No cell of these rows narrows 'for every input' (looked for: loops, veiled, ifaces, maps, wideKeys, modest, calm, conditions, laid).
  DERIVED. THE GIVEN ROWS OF THIS SEAT. 4 by the template 'for every input the law returns true; each argument reads behind the call as it read before'; 0 by the template 'total and deterministic' (their statements: YtbihnjifjddjpaaTotals.lean).
  GIVEN WITH THE SEED: the statements are not yours to turn. If you find one false, say at which input.
  Laid BY PROGRAM, IN A SANDBOX (cutbox-rows.mjs): the forced cells as the released guide's own fill.sh prints them over the translation 139a320060d3cdad… (all of the seat's roots in one cut). By AI agents, Wed Nov 11 2026. No macro, syntax, notation, axiom, sorry.
-/
import Derived.Test.YtbihnjifjddjpaaChecked
import GoSem.Claim
import GoSem.ClaimJoined
import GoSem.ClaimMapViews
import Derived.JoinedTies
import Derived.KernelRfl
namespace Go.Proofs.Ytbihnjifjddjpaa
/- THE CELL 'sum', in the pinned program and in every row, IS THE sha256 OF THE DUMP (.gsa) THAT YtbihnjifjddjpaaProg.lean LOADS. Nothing in Lean hashes anything: it is a label: what it is worth is what the hold of that sum in a sandbox is worth. -/
noncomputable def Try.pinned : Pinned := { name := "ytbihnjifjddjpaa", sum := "139a320060d3cdad487189bd4f81ba0aa6072a3984303d9583e72daebd5b33ef", checked := Try.checked }
namespace Rows
def none {H : Type} : Left H := { results := [], args := [] }

/-- 'bowdlerlaw13.FlankTurns': WHATEVER THE INPUT: true; the input reads as it did. -/
def flankTurnsSpec : ChangeSpec := { name := "flankTurns", fn := fun _ => fun
  | [d1, d2, d3] => { results := [.lit (.bool true)], args := [d1, d2, d3] }
  | _ => none }
def flankTurnsRow : OpenClaim := { program := "ytbihnjifjddjpaa", sum := "139a320060d3cdad487189bd4f81ba0aa6072a3984303d9583e72daebd5b33ef", func := "bowdler/bowdlerlaw13.FlankTurns", spec := "flankTurns", apart := false }
def FlankTurnsSaid : Prop := flankTurnsRow.holds Try.pinned (OpenSpec.ofChange flankTurnsSpec)

/-- ITS FALSE NEIGHBOUR: 'it returns false'. Refute it at one input. -/
def flankTurnsWrong : ChangeSpec := { name := "flankTurns", fn := fun _ => fun
  | [d1, d2, d3] => { results := [.lit (.bool false)], args := [d1, d2, d3] }
  | _ => none }
def FlankTurnsWrongFalsely : Prop := flankTurnsRow.holds Try.pinned (OpenSpec.ofChange flankTurnsWrong)

/-- 'bowdlerlaw13.FlankWords': WHATEVER THE INPUT: true; the input reads as it did. -/
def flankWordsSpec : ChangeSpec := { name := "flankWords", fn := fun _ => fun
  | [d1, d2] => { results := [.lit (.bool true)], args := [d1, d2] }
  | _ => none }
def flankWordsRow : OpenClaim := { program := "ytbihnjifjddjpaa", sum := "139a320060d3cdad487189bd4f81ba0aa6072a3984303d9583e72daebd5b33ef", func := "bowdler/bowdlerlaw13.FlankWords", spec := "flankWords", apart := false }
def FlankWordsSaid : Prop := flankWordsRow.holds Try.pinned (OpenSpec.ofChange flankWordsSpec)

/-- ITS FALSE NEIGHBOUR: 'it returns false'. Refute it at one input. -/
def flankWordsWrong : ChangeSpec := { name := "flankWords", fn := fun _ => fun
  | [d1, d2] => { results := [.lit (.bool false)], args := [d1, d2] }
  | _ => none }
def FlankWordsWrongFalsely : Prop := flankWordsRow.holds Try.pinned (OpenSpec.ofChange flankWordsWrong)

/-- 'bowdlerlaw13.FlankEnds': WHATEVER THE INPUT: true; the input reads as it did. -/
def flankEndsSpec : ChangeSpec := { name := "flankEnds", fn := fun _ => fun
  | [d] => { results := [.lit (.bool true)], args := [d] }
  | _ => none }
def flankEndsRow : OpenClaim := { program := "ytbihnjifjddjpaa", sum := "139a320060d3cdad487189bd4f81ba0aa6072a3984303d9583e72daebd5b33ef", func := "bowdler/bowdlerlaw13.FlankEnds", spec := "flankEnds", apart := false }
def FlankEndsSaid : Prop := flankEndsRow.holds Try.pinned (OpenSpec.ofChange flankEndsSpec)

/-- ITS FALSE NEIGHBOUR: 'it returns false'. Refute it at one input. -/
def flankEndsWrong : ChangeSpec := { name := "flankEnds", fn := fun _ => fun
  | [d] => { results := [.lit (.bool false)], args := [d] }
  | _ => none }
def FlankEndsWrongFalsely : Prop := flankEndsRow.holds Try.pinned (OpenSpec.ofChange flankEndsWrong)

/-- 'bowdlerlaw13.FlankPuncts': WHATEVER THE INPUT: true; the input reads as it did. -/
def flankPunctsSpec : ChangeSpec := { name := "flankPuncts", fn := fun _ => fun
  | [d1, d2, d3] => { results := [.lit (.bool true)], args := [d1, d2, d3] }
  | _ => none }
def flankPunctsRow : OpenClaim := { program := "ytbihnjifjddjpaa", sum := "139a320060d3cdad487189bd4f81ba0aa6072a3984303d9583e72daebd5b33ef", func := "bowdler/bowdlerlaw13.FlankPuncts", spec := "flankPuncts", apart := false }
def FlankPunctsSaid : Prop := flankPunctsRow.holds Try.pinned (OpenSpec.ofChange flankPunctsSpec)

/-- ITS FALSE NEIGHBOUR: 'it returns false'. Refute it at one input. -/
def flankPunctsWrong : ChangeSpec := { name := "flankPuncts", fn := fun _ => fun
  | [d1, d2, d3] => { results := [.lit (.bool false)], args := [d1, d2, d3] }
  | _ => none }
def FlankPunctsWrongFalsely : Prop := flankPunctsRow.holds Try.pinned (OpenSpec.ofChange flankPunctsWrong)

/- THE SECOND FORM. 'bulk': how many values and letters a reading holds, each counted each time it is reached (what is shared counts as often as it is met; a slice's spare places count too). A statement '..UptoSaid' is the law's where the arguments, and the package variables that the reading takes, are together of bulk at most 1048576: NARROWER than '..Said'. Prove '..Said' where nothing that the law and all that it calls make is longer than what came in: it says more and counts as full. Else prove '..UptoSaid'. A law counts once. -/
mutual
def uptoBulk {H : Type} : DataW H → Nat
  | .lit (.string bytes) => bytes.length + 1
  | .lit _ => 1
  | .nil => 1
  | .ptr d => uptoBulk d + 1
  | .slice elems spare => uptoBulkAll elems + uptoBulkAll spare + 1
  | .agg parts => uptoBulkAll parts + 1
  | .iface _ d => uptoBulk d + 1
  | .map entries => uptoBulkEntries entries + 1
  | .held _ => 1
def uptoBulkAll {H : Type} : List (DataW H) → Nat
  | [] => 0
  | d :: r => uptoBulk d + uptoBulkAll r
def uptoBulkEntries {H : Type} : List (Lit × DataW H) → Nat
  | [] => 0
  | x :: r => uptoBulkEntry x + uptoBulkEntries r
def uptoBulkEntry {H : Type} : Lit × DataW H → Nat
  | (.string bytes, d) => bytes.length + uptoBulk d + 1
  | (_, d) => uptoBulk d + 1
 end
def uptoSmall : (H : Type) → List (DataW H) → Bool := fun _ ds => decide (uptoBulkAll ds ≤ 1048576)
def OpenSpec.upto (s : _root_.Go.ChangeSpec) : _root_.Go.OpenSpec := { _root_.Go.OpenSpec.ofChange s with cond := some uptoSmall }

/-- 'bowdlerlaw13.FlankTurns', WHERE WHAT IT READS IS OF BULK AT MOST 1048576: true; the input reads as it did. -/
def flankTurnsUptoRow : OpenClaim := { program := "ytbihnjifjddjpaa", sum := "139a320060d3cdad487189bd4f81ba0aa6072a3984303d9583e72daebd5b33ef", func := "bowdler/bowdlerlaw13.FlankTurns", spec := "flankTurns", apart := false, narrowed := true }
def FlankTurnsUptoSaid : Prop := flankTurnsUptoRow.holds Try.pinned (OpenSpec.upto flankTurnsSpec)

/-- 'bowdlerlaw13.FlankWords', WHERE WHAT IT READS IS OF BULK AT MOST 1048576: true; the input reads as it did. -/
def flankWordsUptoRow : OpenClaim := { program := "ytbihnjifjddjpaa", sum := "139a320060d3cdad487189bd4f81ba0aa6072a3984303d9583e72daebd5b33ef", func := "bowdler/bowdlerlaw13.FlankWords", spec := "flankWords", apart := false, narrowed := true }
def FlankWordsUptoSaid : Prop := flankWordsUptoRow.holds Try.pinned (OpenSpec.upto flankWordsSpec)

/-- 'bowdlerlaw13.FlankEnds', WHERE WHAT IT READS IS OF BULK AT MOST 1048576: true; the input reads as it did. -/
def flankEndsUptoRow : OpenClaim := { program := "ytbihnjifjddjpaa", sum := "139a320060d3cdad487189bd4f81ba0aa6072a3984303d9583e72daebd5b33ef", func := "bowdler/bowdlerlaw13.FlankEnds", spec := "flankEnds", apart := false, narrowed := true }
def FlankEndsUptoSaid : Prop := flankEndsUptoRow.holds Try.pinned (OpenSpec.upto flankEndsSpec)

/-- 'bowdlerlaw13.FlankPuncts', WHERE WHAT IT READS IS OF BULK AT MOST 1048576: true; the input reads as it did. -/
def flankPunctsUptoRow : OpenClaim := { program := "ytbihnjifjddjpaa", sum := "139a320060d3cdad487189bd4f81ba0aa6072a3984303d9583e72daebd5b33ef", func := "bowdler/bowdlerlaw13.FlankPuncts", spec := "flankPuncts", apart := false, narrowed := true }
def FlankPunctsUptoSaid : Prop := flankPunctsUptoRow.holds Try.pinned (OpenSpec.upto flankPunctsSpec)

end Rows
end Go.Proofs.Ytbihnjifjddjpaa
