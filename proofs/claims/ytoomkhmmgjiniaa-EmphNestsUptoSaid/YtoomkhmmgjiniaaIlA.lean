/-
  The statements' book of lists of inline nodes: markInls.
-/
import Derived.Test.YtoomkhmmgjiniaaIln
import Derived.Test.YtoomkhmmgjiniaaBookA
namespace Go.Proofs.Ytoomkhmmgjiniaa
open Go.RowKit
set_option linter.unusedSimpArgs false
set_option linter.unusedVariables false

/-- The marks of list i from 'from' on. -/
def imark (i k : Int) : Iln := ⟨0, -1000 * i - k - 1, [], [], []⟩
def imarks (i : Int) (from' n : Nat) : List Iln := (List.range n).map fun j => imark i ((from' + j : Nat) : Int)
theorem imarks_length (i : Int) (f n : Nat) : (imarks i f n).length = n := by simp [imarks]
theorem imarks_succ (i : Int) (f n : Nat) : imarks i f (n + 1) = imarks i f n ++ [imark i ((f + n : Nat) : Int)] := by simp [imarks, List.range_succ]
theorem imarks_add (i : Int) (a b : Nat) : imarks i 0 a ++ imarks i a b = imarks i 0 (a + b) := by
  induction b with
  | zero => simp [imarks]
  | succ b ih => rw [imarks_succ, ← List.append_assoc, ih, ← Nat.add_assoc, imarks_succ]; simp
theorem imarks_take (i : Int) (n k : Nat) (h : k ≤ n) : (imarks i 0 n).take k = imarks i 0 k := by
  obtain ⟨d, rfl⟩ := Nat.le.dest h
  rw [← imarks_add, List.take_append_of_le_length (by rw [imarks_length]; omega), List.take_of_length_le (by rw [imarks_length]; omega)]

def ImarkRel (i : Int) (f n : Nat) (w : World) (v k : Value) (wr : World) : Prop :=
  ∃ j q : Nat, k = .int .i64 q ∧ q = f + j ∧ j ≤ n ∧ wr.ownsRow w.heap.size 30 5 v j (flt ilC (imarks i f j)) ∧ Below w.heap.size w wr

end Go.Proofs.Ytoomkhmmgjiniaa
