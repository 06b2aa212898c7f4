/-
  No cell of these rows narrows 'for every input' (looked for: loops, veiled, ifaces, maps, wideKeys, modest, calm, conditions, laid).
  DERIVED. THE GIVEN ROWS OF THIS SEAT. 4 by the template 'for every input the law returns true; each argument reads behind the call as it read before'; 0 by the template 'total and deterministic' (their statements: YtobmmbhmaaednaaTotals.lean).
  GIVEN WITH THE SEED: the statements are not yours to turn. If you find one false, say at which input.
  Laid BY PROGRAM, IN A SANDBOX (cutbox-rows.mjs): the forced cells as the released guide's own fill.sh prints them over the translation 2d65d806e4914bf0… (all of the seat's roots in one cut). By AI agents, Wed Nov 11 2026. No macro, syntax, notation, axiom, sorry.
-/
import Derived.Test.YtobmmbhmaaednaaChecked
import GoSem.Claim
import GoSem.ClaimJoined
import GoSem.ClaimMapViews
import Derived.JoinedTies
import Derived.KernelRfl
namespace Go.Proofs.Ytobmmbhmaaednaa
/- THE CELL 'sum', in the pinned program and in every row, IS THE sha256 OF THE DUMP (.gsa) THAT YtobmmbhmaaednaaProg.lean LOADS. Nothing in Lean hashes anything: it is a label: what it is worth is what the hold of that sum in a sandbox is worth. -/
noncomputable def Try.pinned : Pinned := { name := "ytobmmbhmaaednaa", sum := "2d65d806e4914bf06fbe47582d3fe441531db06bc0938f9fa0890f80c0da2102", checked := Try.checked }
namespace Rows
def none {H : Type} : Left H := { results := [], args := [] }

/-- 'bowdlerlaw4.PolicyLines': WHATEVER THE INPUT: true; the input reads as it did. -/
def policyLinesSpec : ChangeSpec := { name := "policyLines", fn := fun _ => fun
  | [d1, d2, d3, d4] => { results := [.lit (.bool true)], args := [d1, d2, d3, d4] }
  | _ => none }
def policyLinesRow : OpenClaim := { program := "ytobmmbhmaaednaa", sum := "2d65d806e4914bf06fbe47582d3fe441531db06bc0938f9fa0890f80c0da2102", func := "bowdler/bowdlerlaw4.PolicyLines", spec := "policyLines", inPlace := ["internal/abi.NoEscape", "internal/bytealg.MakeNoZero", "internal/bytealg.IndexByteString", "internal/bytealg.IndexString"], named := ["internal/bytealg.MaxLen"], apart := false }
def PolicyLinesSaid : Prop := policyLinesRow.holds Try.pinned (OpenSpec.ofChange policyLinesSpec)

/-- ITS FALSE NEIGHBOUR: 'it returns false'. Refute it at one input. -/
def policyLinesWrong : ChangeSpec := { name := "policyLines", fn := fun _ => fun
  | [d1, d2, d3, d4] => { results := [.lit (.bool false)], args := [d1, d2, d3, d4] }
  | _ => none }
def PolicyLinesWrongFalsely : Prop := policyLinesRow.holds Try.pinned (OpenSpec.ofChange policyLinesWrong)

/-- 'bowdlerlaw4.PolicyBad': WHATEVER THE INPUT: true; the input reads as it did. -/
def policyBadSpec : ChangeSpec := { name := "policyBad", fn := fun _ => fun
  | [d] => { results := [.lit (.bool true)], args := [d] }
  | _ => none }
def policyBadRow : OpenClaim := { program := "ytobmmbhmaaednaa", sum := "2d65d806e4914bf06fbe47582d3fe441531db06bc0938f9fa0890f80c0da2102", func := "bowdler/bowdlerlaw4.PolicyBad", spec := "policyBad", inPlace := ["internal/abi.NoEscape", "internal/bytealg.MakeNoZero", "internal/bytealg.IndexByteString", "internal/bytealg.IndexString"], named := ["internal/bytealg.MaxLen"], apart := false }
def PolicyBadSaid : Prop := policyBadRow.holds Try.pinned (OpenSpec.ofChange policyBadSpec)

/-- ITS FALSE NEIGHBOUR: 'it returns false'. Refute it at one input. -/
def policyBadWrong : ChangeSpec := { name := "policyBad", fn := fun _ => fun
  | [d] => { results := [.lit (.bool false)], args := [d] }
  | _ => none }
def PolicyBadWrongFalsely : Prop := policyBadRow.holds Try.pinned (OpenSpec.ofChange policyBadWrong)

/-- 'bowdlerlaw4.PolicyMany': WHATEVER THE INPUT: true; the input reads as it did. -/
def policyManySpec : ChangeSpec := { name := "policyMany", fn := fun _ => fun
  | [d] => { results := [.lit (.bool true)], args := [d] }
  | _ => none }
def policyManyRow : OpenClaim := { program := "ytobmmbhmaaednaa", sum := "2d65d806e4914bf06fbe47582d3fe441531db06bc0938f9fa0890f80c0da2102", func := "bowdler/bowdlerlaw4.PolicyMany", spec := "policyMany", inPlace := ["internal/abi.NoEscape", "internal/bytealg.MakeNoZero", "internal/bytealg.IndexByteString", "internal/bytealg.IndexString"], named := ["internal/bytealg.MaxLen"], apart := false }
def PolicyManySaid : Prop := policyManyRow.holds Try.pinned (OpenSpec.ofChange policyManySpec)

/-- ITS FALSE NEIGHBOUR: 'it returns false'. Refute it at one input. -/
def policyManyWrong : ChangeSpec := { name := "policyMany", fn := fun _ => fun
  | [d] => { results := [.lit (.bool false)], args := [d] }
  | _ => none }
def PolicyManyWrongFalsely : Prop := policyManyRow.holds Try.pinned (OpenSpec.ofChange policyManyWrong)

/-- 'bowdlerlaw4.PolicyIndex': WHATEVER THE INPUT: true; the input reads as it did. -/
def policyIndexSpec : ChangeSpec := { name := "policyIndex", fn := fun _ => fun
  | [d1, d2, d3] => { results := [.lit (.bool true)], args := [d1, d2, d3] }
  | _ => none }
def policyIndexRow : OpenClaim := { program := "ytobmmbhmaaednaa", sum := "2d65d806e4914bf06fbe47582d3fe441531db06bc0938f9fa0890f80c0da2102", func := "bowdler/bowdlerlaw4.PolicyIndex", spec := "policyIndex", inPlace := ["internal/abi.NoEscape", "internal/bytealg.MakeNoZero", "internal/bytealg.IndexByteString", "internal/bytealg.IndexString"], named := ["internal/bytealg.MaxLen"], apart := false }
def PolicyIndexSaid : Prop := policyIndexRow.holds Try.pinned (OpenSpec.ofChange policyIndexSpec)

/-- ITS FALSE NEIGHBOUR: 'it returns false'. Refute it at one input. -/
def policyIndexWrong : ChangeSpec := { name := "policyIndex", fn := fun _ => fun
  | [d1, d2, d3] => { results := [.lit (.bool false)], args := [d1, d2, d3] }
  | _ => none }
def PolicyIndexWrongFalsely : Prop := policyIndexRow.holds Try.pinned (OpenSpec.ofChange policyIndexWrong)

/- THE SECOND FORM. 'bulk': how many values and letters a reading holds, each counted each time it is reached (what is shared counts as often as it is met; a slice's spare places count too). A statement '..UptoSaid' is the law's where the arguments, and the package variables that the reading takes, are together of bulk at most 1048576: NARROWER than '..Said'. Prove '..Said' where nothing that the law and all that it calls make is longer than what came in: it says more and counts as full. Else prove '..UptoSaid'. A law counts once. -/
mutual
def uptoBulk {H : Type} : DataW H → Nat
  | .lit (.string bytes) => bytes.length + 1
  | .lit _ => 1
  | .nil => 1
  | .ptr d => uptoBulk d + 1
  | .slice elems spare => uptoBulkAll elems + uptoBulkAll spare + 1
  | .agg parts => uptoBulkAll parts + 1
  | .iface _ d => uptoBulk d + 1
  | .map entries => uptoBulkEntries entries + 1
  | .held _ => 1
def uptoBulkAll {H : Type} : List (DataW H) → Nat
  | [] => 0
  | d :: r => uptoBulk d + uptoBulkAll r
def uptoBulkEntries {H : Type} : List (Lit × DataW H) → Nat
  | [] => 0
  | x :: r => uptoBulkEntry x + uptoBulkEntries r
def uptoBulkEntry {H : Type} : Lit × DataW H → Nat
  | (.string bytes, d) => bytes.length + uptoBulk d + 1
  | (_, d) => uptoBulk d + 1
 end
def uptoSmall : (H : Type) → List (DataW H) → Bool := fun _ ds => decide (uptoBulkAll ds ≤ 1048576)
def OpenSpec.upto (s : _root_.Go.ChangeSpec) : _root_.Go.OpenSpec := { _root_.Go.OpenSpec.ofChange s with cond := some uptoSmall }

/-- 'bowdlerlaw4.PolicyLines', WHERE WHAT IT READS IS OF BULK AT MOST 1048576: true; the input reads as it did. -/
def policyLinesUptoRow : OpenClaim := { program := "ytobmmbhmaaednaa", sum := "2d65d806e4914bf06fbe47582d3fe441531db06bc0938f9fa0890f80c0da2102", func := "bowdler/bowdlerlaw4.PolicyLines", spec := "policyLines", inPlace := ["internal/abi.NoEscape", "internal/bytealg.MakeNoZero", "internal/bytealg.IndexByteString", "internal/bytealg.IndexString"], named := ["internal/bytealg.MaxLen"], apart := false, narrowed := true }
def PolicyLinesUptoSaid : Prop := policyLinesUptoRow.holds Try.pinned (OpenSpec.upto policyLinesSpec)

/-- 'bowdlerlaw4.PolicyBad', WHERE WHAT IT READS IS OF BULK AT MOST 1048576: true; the input reads as it did. -/
def policyBadUptoRow : OpenClaim := { program := "ytobmmbhmaaednaa", sum := "2d65d806e4914bf06fbe47582d3fe441531db06bc0938f9fa0890f80c0da2102", func := "bowdler/bowdlerlaw4.PolicyBad", spec := "policyBad", inPlace := ["internal/abi.NoEscape", "internal/bytealg.MakeNoZero", "internal/bytealg.IndexByteString", "internal/bytealg.IndexString"], named := ["internal/bytealg.MaxLen"], apart := false, narrowed := true }
def PolicyBadUptoSaid : Prop := policyBadUptoRow.holds Try.pinned (OpenSpec.upto policyBadSpec)

/-- 'bowdlerlaw4.PolicyMany', WHERE WHAT IT READS IS OF BULK AT MOST 1048576: true; the input reads as it did. -/
def policyManyUptoRow : OpenClaim := { program := "ytobmmbhmaaednaa", sum := "2d65d806e4914bf06fbe47582d3fe441531db06bc0938f9fa0890f80c0da2102", func := "bowdler/bowdlerlaw4.PolicyMany", spec := "policyMany", inPlace := ["internal/abi.NoEscape", "internal/bytealg.MakeNoZero", "internal/bytealg.IndexByteString", "internal/bytealg.IndexString"], named := ["internal/bytealg.MaxLen"], apart := false, narrowed := true }
def PolicyManyUptoSaid : Prop := policyManyUptoRow.holds Try.pinned (OpenSpec.upto policyManySpec)

/-- 'bowdlerlaw4.PolicyIndex', WHERE WHAT IT READS IS OF BULK AT MOST 1048576: true; the input reads as it did. -/
def policyIndexUptoRow : OpenClaim := { program := "ytobmmbhmaaednaa", sum := "2d65d806e4914bf06fbe47582d3fe441531db06bc0938f9fa0890f80c0da2102", func := "bowdler/bowdlerlaw4.PolicyIndex", spec := "policyIndex", inPlace := ["internal/abi.NoEscape", "internal/bytealg.MakeNoZero", "internal/bytealg.IndexByteString", "internal/bytealg.IndexString"], named := ["internal/bytealg.MaxLen"], apart := false, narrowed := true }
def PolicyIndexUptoSaid : Prop := policyIndexUptoRow.holds Try.pinned (OpenSpec.upto policyIndexSpec)

end Rows
end Go.Proofs.Ytobmmbhmaaednaa
