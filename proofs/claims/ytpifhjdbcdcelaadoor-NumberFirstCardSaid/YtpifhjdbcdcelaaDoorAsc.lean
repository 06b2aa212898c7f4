/-
  Package repair: Ascii, and the call within that it asks: what each answers, in plain words.
-/
import Derived.Test.YtpifhjdbcdcelaaDoorBase
import Derived.WalkKit
import Derived.BigCall
import Derived.BigQuiet
import Derived.Deep.QuietTactic
import Derived.Lib.Hide
namespace Go.Proofs.YtpifhjdbcdcelaaDoor
open Go.RowKit

def inB (x a b : Int) : Bool := decide (a ≤ x) && decide (x ≤ b)
theorem inB_t {x a b : Int} (h1 : a ≤ x) (h2 : x ≤ b) : inB x a b = true := by simp [inB, h1, h2]
theorem inB_f {x a b : Int} (h : ¬ (a ≤ x ∧ x ≤ b)) : inB x a b = false := by simp [inB]; omega
theorem inB_iff (x a b : Int) : inB x a b = true ↔ a ≤ x ∧ x ≤ b := by simp [inB]
def asciiB (c : Int) : Bool := inB c 33 47 || inB c 58 64 || inB c 91 96 || inB c 123 126

end Go.Proofs.YtpifhjdbcdcelaaDoor
