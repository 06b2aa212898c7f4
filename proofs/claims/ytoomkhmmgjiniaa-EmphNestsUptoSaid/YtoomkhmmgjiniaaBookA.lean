/-
  The statements' book of lists: name, markTexts.
-/
import Derived.Test.YtoomkhmmgjiniaaTexts
import Derived.Laws.BytesArg
import Derived.Maps.AppendAt
namespace Go.Proofs.Ytoomkhmmgjiniaa
open Go.RowKit
set_option linter.unusedSimpArgs false
set_option linter.unusedVariables false

def nameN (i k : Int) : List Int := [109, 65 + i % 26, 65 + i / 26 % 26, 48 + k % 10, 48 + k / 10 % 10, 48 + k / 100 % 10]
def nameL (i k : Int) : List UInt8 := (nameN i k).map fun n => UInt8.ofNat n.toNat

/-- The marks of list i from 'from' on. -/
def marks (i : Int) (from' n : Nat) : List (List UInt8) := (List.range n).map fun j => nameL i ((from' + j : Nat) : Int)
theorem marks_length (i : Int) (f n : Nat) : (marks i f n).length = n := by simp [marks]
theorem marks_succ (i : Int) (f n : Nat) : marks i f (n + 1) = marks i f n ++ [nameL i ((f + n : Nat) : Int)] := by simp [marks, List.range_succ]
theorem marks_add (i : Int) (a b : Nat) : marks i 0 a ++ marks i a b = marks i 0 (a + b) := by
  induction b with
  | zero => simp [marks]
  | succ b ih => rw [marks_succ, ← List.append_assoc, ih, ← Nat.add_assoc, marks_succ]; simp
theorem marks_take (i : Int) (n k : Nat) (h : k ≤ n) : (marks i 0 n).take k = marks i 0 k := by
  obtain ⟨d, rfl⟩ := Nat.le.dest h
  rw [← marks_add, List.take_append_of_le_length (by rw [marks_length]; omega), List.take_of_length_le (by rw [marks_length]; omega)]

def MarkRel (i : Int) (f n : Nat) (w : World) (v k : Value) (wr : World) : Prop :=
  ∃ j q : Nat, k = .int .i64 q ∧ q = f + j ∧ j ≤ n ∧ wr.ownsRow w.heap.size 9 1 v j (strs (marks i f j)) ∧ Below w.heap.size w wr

end Go.Proofs.Ytoomkhmmgjiniaa
