/-
  No cell of these rows narrows 'for every input' (looked for: loops, veiled, ifaces, maps, wideKeys, modest, calm, conditions, laid).
  DERIVED. THE GIVEN ROWS OF THIS SEAT. 3 by the template 'for every input the law returns true; each argument reads behind the call as it read before'; 0 by the template 'total and deterministic' (their statements: YtoomkhmmgjiniaaTotals.lean).
  GIVEN WITH THE SEED: the statements are not yours to turn. If you find one false, say at which input.
  Laid BY PROGRAM, IN A SANDBOX (cutbox-rows.mjs): the forced cells as the released guide's own fill.sh prints them over the translation e00d51c9f7271a1c… (all of the seat's roots in one cut). By AI agents, Wed Nov 11 2026. No macro, syntax, notation, axiom, sorry.
-/
import Derived.Test.YtoomkhmmgjiniaaChecked
import GoSem.Claim
import GoSem.ClaimJoined
import GoSem.ClaimMapViews
import Derived.JoinedTies
import Derived.KernelRfl
namespace Go.Proofs.Ytoomkhmmgjiniaa
/- THE CELL 'sum', in the pinned program and in every row, IS THE sha256 OF THE DUMP (.gsa) THAT YtoomkhmmgjiniaaProg.lean LOADS. Nothing in Lean hashes anything: it is a label: what it is worth is what the hold of that sum in a sandbox is worth. -/
noncomputable def Try.pinned : Pinned := { name := "ytoomkhmmgjiniaa", sum := "e00d51c9f7271a1ca90d0d22a0a44d41a239fb02ba998ee8dccbe3ee7d2225b0", checked := Try.checked }
namespace Rows
def none {H : Type} : Left H := { results := [], args := [] }

/-- 'bowdlerlaw14.EmphNone': WHATEVER THE INPUT: true; the input reads as it did. -/
def emphNoneSpec : ChangeSpec := { name := "emphNone", fn := fun _ => fun
  | [d] => { results := [.lit (.bool true)], args := [d] }
  | _ => none }
def emphNoneRow : OpenClaim := { program := "ytoomkhmmgjiniaa", sum := "e00d51c9f7271a1ca90d0d22a0a44d41a239fb02ba998ee8dccbe3ee7d2225b0", func := "bowdler/bowdlerlaw14.EmphNone", spec := "emphNone", inPlace := ["internal/abi.NoEscape", "internal/bytealg.MakeNoZero"], unfollowed := true, recurses := true, plainKeys := false, apart := false }
def EmphNoneSaid : Prop := emphNoneRow.holds Try.pinned (OpenSpec.ofChange emphNoneSpec)

/-- ITS FALSE NEIGHBOUR: 'it returns false'. Refute it at one input. -/
def emphNoneWrong : ChangeSpec := { name := "emphNone", fn := fun _ => fun
  | [d] => { results := [.lit (.bool false)], args := [d] }
  | _ => none }
def EmphNoneWrongFalsely : Prop := emphNoneRow.holds Try.pinned (OpenSpec.ofChange emphNoneWrong)

/-- 'bowdlerlaw14.EmphMerges': WHATEVER THE INPUT: true; the input reads as it did. -/
def emphMergesSpec : ChangeSpec := { name := "emphMerges", fn := fun _ => fun
  | [d] => { results := [.lit (.bool true)], args := [d] }
  | _ => none }
def emphMergesRow : OpenClaim := { program := "ytoomkhmmgjiniaa", sum := "e00d51c9f7271a1ca90d0d22a0a44d41a239fb02ba998ee8dccbe3ee7d2225b0", func := "bowdler/bowdlerlaw14.EmphMerges", spec := "emphMerges", inPlace := ["internal/abi.NoEscape", "internal/bytealg.MakeNoZero"], unfollowed := true, recurses := true, plainKeys := false, apart := false }
def EmphMergesSaid : Prop := emphMergesRow.holds Try.pinned (OpenSpec.ofChange emphMergesSpec)

/-- ITS FALSE NEIGHBOUR: 'it returns false'. Refute it at one input. -/
def emphMergesWrong : ChangeSpec := { name := "emphMerges", fn := fun _ => fun
  | [d] => { results := [.lit (.bool false)], args := [d] }
  | _ => none }
def EmphMergesWrongFalsely : Prop := emphMergesRow.holds Try.pinned (OpenSpec.ofChange emphMergesWrong)

/-- 'bowdlerlaw14.EmphNests': WHATEVER THE INPUT: true; the input reads as it did. -/
def emphNestsSpec : ChangeSpec := { name := "emphNests", fn := fun _ => fun
  | [d1, d2] => { results := [.lit (.bool true)], args := [d1, d2] }
  | _ => none }
def emphNestsRow : OpenClaim := { program := "ytoomkhmmgjiniaa", sum := "e00d51c9f7271a1ca90d0d22a0a44d41a239fb02ba998ee8dccbe3ee7d2225b0", func := "bowdler/bowdlerlaw14.EmphNests", spec := "emphNests", inPlace := ["internal/abi.NoEscape", "internal/bytealg.MakeNoZero"], unfollowed := true, recurses := true, plainKeys := false, apart := false }
def EmphNestsSaid : Prop := emphNestsRow.holds Try.pinned (OpenSpec.ofChange emphNestsSpec)

/-- ITS FALSE NEIGHBOUR: 'it returns false'. Refute it at one input. -/
def emphNestsWrong : ChangeSpec := { name := "emphNests", fn := fun _ => fun
  | [d1, d2] => { results := [.lit (.bool false)], args := [d1, d2] }
  | _ => none }
def EmphNestsWrongFalsely : Prop := emphNestsRow.holds Try.pinned (OpenSpec.ofChange emphNestsWrong)

/- THE SECOND FORM. 'bulk': how many values and letters a reading holds, each counted each time it is reached (what is shared counts as often as it is met; a slice's spare places count too). A statement '..UptoSaid' is the law's where the arguments, and the package variables that the reading takes, are together of bulk at most 1048576: NARROWER than '..Said'. Prove '..Said' where nothing that the law and all that it calls make is longer than what came in: it says more and counts as full. Else prove '..UptoSaid'. A law counts once. -/
mutual
def uptoBulk {H : Type} : DataW H → Nat
  | .lit (.string bytes) => bytes.length + 1
  | .lit _ => 1
  | .nil => 1
  | .ptr d => uptoBulk d + 1
  | .slice elems spare => uptoBulkAll elems + uptoBulkAll spare + 1
  | .agg parts => uptoBulkAll parts + 1
  | .iface _ d => uptoBulk d + 1
  | .map entries => uptoBulkEntries entries + 1
  | .held _ => 1
def uptoBulkAll {H : Type} : List (DataW H) → Nat
  | [] => 0
  | d :: r => uptoBulk d + uptoBulkAll r
def uptoBulkEntries {H : Type} : List (Lit × DataW H) → Nat
  | [] => 0
  | x :: r => uptoBulkEntry x + uptoBulkEntries r
def uptoBulkEntry {H : Type} : Lit × DataW H → Nat
  | (.string bytes, d) => bytes.length + uptoBulk d + 1
  | (_, d) => uptoBulk d + 1
 end
def uptoSmall : (H : Type) → List (DataW H) → Bool := fun _ ds => decide (uptoBulkAll ds ≤ 1048576)
def OpenSpec.upto (s : _root_.Go.ChangeSpec) : _root_.Go.OpenSpec := { _root_.Go.OpenSpec.ofChange s with cond := some uptoSmall }

/-- 'bowdlerlaw14.EmphNone', WHERE WHAT IT READS IS OF BULK AT MOST 1048576: true; the input reads as it did. -/
def emphNoneUptoRow : OpenClaim := { program := "ytoomkhmmgjiniaa", sum := "e00d51c9f7271a1ca90d0d22a0a44d41a239fb02ba998ee8dccbe3ee7d2225b0", func := "bowdler/bowdlerlaw14.EmphNone", spec := "emphNone", inPlace := ["internal/abi.NoEscape", "internal/bytealg.MakeNoZero"], unfollowed := true, recurses := true, plainKeys := false, apart := false, narrowed := true }
def EmphNoneUptoSaid : Prop := emphNoneUptoRow.holds Try.pinned (OpenSpec.upto emphNoneSpec)

/-- 'bowdlerlaw14.EmphMerges', WHERE WHAT IT READS IS OF BULK AT MOST 1048576: true; the input reads as it did. -/
def emphMergesUptoRow : OpenClaim := { program := "ytoomkhmmgjiniaa", sum := "e00d51c9f7271a1ca90d0d22a0a44d41a239fb02ba998ee8dccbe3ee7d2225b0", func := "bowdler/bowdlerlaw14.EmphMerges", spec := "emphMerges", inPlace := ["internal/abi.NoEscape", "internal/bytealg.MakeNoZero"], unfollowed := true, recurses := true, plainKeys := false, apart := false, narrowed := true }
def EmphMergesUptoSaid : Prop := emphMergesUptoRow.holds Try.pinned (OpenSpec.upto emphMergesSpec)

/-- 'bowdlerlaw14.EmphNests', WHERE WHAT IT READS IS OF BULK AT MOST 1048576: true; the input reads as it did. -/
def emphNestsUptoRow : OpenClaim := { program := "ytoomkhmmgjiniaa", sum := "e00d51c9f7271a1ca90d0d22a0a44d41a239fb02ba998ee8dccbe3ee7d2225b0", func := "bowdler/bowdlerlaw14.EmphNests", spec := "emphNests", inPlace := ["internal/abi.NoEscape", "internal/bytealg.MakeNoZero"], unfollowed := true, recurses := true, plainKeys := false, apart := false, narrowed := true }
def EmphNestsUptoSaid : Prop := emphNestsUptoRow.holds Try.pinned (OpenSpec.upto emphNestsSpec)

end Rows
end Go.Proofs.Ytoomkhmmgjiniaa
