/-
  The statements' helpers over lists of texts: SameTexts, copyTexts, LentTexts, StaysTexts.
-/
import Derived.Test.YtoomkhmmgjiniaaBase
import Derived.RegionTactic
namespace Go.Proofs.Ytoomkhmmgjiniaa
open Go.RowKit
set_option linter.unusedSimpArgs false
set_option linter.unusedVariables false

def SameRel (la lb : List (List UInt8)) (w : World) (i : Value) (wr : World) : Prop :=
  ∃ k n : Nat, i = .int .i64 k ∧ k ≤ la.length ∧ wr = w.drewN n ∧ la.take k = lb.take k

end Go.Proofs.Ytoomkhmmgjiniaa
