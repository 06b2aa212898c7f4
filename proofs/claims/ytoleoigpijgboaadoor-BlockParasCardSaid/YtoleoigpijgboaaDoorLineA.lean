/-
  Package line: pad, Indent, Strip: what each answers, in plain words.
-/
import Derived.Test.YtoleoigpijgboaaDoorLineM
import Derived.Test.YtoleoigpijgboaaDoorShelf
import Derived.WalkKit
import Derived.BigCall
import Derived.BigQuiet
import Derived.Deep.QuietTactic
import Derived.Lib.Hide
import Derived.Lib.OthersKept
namespace Go.Proofs.YtoleoigpijgboaaDoor
open Go.RowKit
set_option linter.unusedSimpArgs false
set_option linter.unusedVariables false

def spaces (n : Nat) : List UInt8 := List.replicate n 32
theorem repeat_spaces (n : Nat) : Lib.repeatL [32] n = spaces n := by
  unfold spaces
  induction n with
  | zero => rfl
  | succ n ih => rw [List.replicate_succ, ← ih]; simp [Lib.repeatL]

theorem spaces_length (n : Nat) : (spaces n).length = n := by simp [spaces]
theorem rep_any (n : Int) (w : World) (h0 : 0 ≤ n) (hn : n ≤ 140737488355328) :
    Calls Tryd.prog 29 #[.string ⟨#[32]⟩, .int .i64 n] w fun e w' => e = .returned (.string ⟨(spaces n.toNat).toArray⟩) ∧ Below w.heap.size w w' := by
  have hr := Tryd.strings_Repeat ⟨#[32]⟩ n.toNat w (by omega) (by show 1 * n.toNat ≤ _; omega)
  have e1 : ((⟨#[32]⟩ : ByteArray)).data.toList = [32] := rfl
  rw [e1, repeat_spaces, show ((n.toNat : Nat) : Int) = n from by omega] at hr
  exact hr

theorem pad_any (n : Int) (s : ByteArray) (w : World) (hn : n ≤ 140737488355328) (hs : s.size ≤ 140737488355328) :
    Calls Tryd.prog 27 #[.int .i64 n, .string s] w fun e w' => e = .returned (.string ⟨(spaces n.toNat ++ s.data.toList).toArray⟩) ∧ Below w.heap.size w w' := by
  have HT := Lib.hid (show (max n 0).toNat = n.toNat from by omega)
  have hl := spaces_length (max n 0).toNat
  have hz := str_size (spaces (max n 0).toNat)
  have HE := Lib.hid (str_append (spaces (max n 0).toNat) s)
  have hr := rep_any (max n 0) w (by omega) (by omega)
  generalize hB : (⟨(spaces (max n 0).toNat).toArray⟩ : ByteArray) = B at *
  have hB2 : B.size ≤ 140737488355328 := by omega
  have HB := Lib.hid hB
  clear hz hl hB
  go_enter Tryd.func27, Tryd.ntmps27
  go_wp2_with fail
  refine hr.mono ?_
  rintro e w1 ⟨rfl, b1⟩
  go_wp2
  go_ret
  exact ⟨ret_string (by rw [← HT.out]; exact HE.out), b1⟩

/-- A line as Expand tells it; without its first n blanks. -/
def stripL (l : List UInt8) (n : Nat) : List UInt8 := spaces (mCols l 0 - n) ++ l.drop (mSize l)
def expandL (l : List UInt8) : List UInt8 := stripL l 0

theorem indent_any (s : ByteArray) (w : World) (hs : s.size ≤ 35184372088832) :
    Calls Tryd.prog 45 #[.string s] w fun e w' => e = .returned (.int .i64 (mCols s.data.toList 0)) ∧ Below w.heap.size w w' := by
  go_enter Tryd.func45, Tryd.ntmps45
  go_wp2_with fail
  refine (margin_any s w (by omega)).mono ?_
  rintro e w1 ⟨rfl, b1⟩
  go_wp2
  go_ret
  exact ⟨rfl, b1⟩

theorem drop_str (s : ByteArray) (k : Nat) : List.take (s.size - k) (List.drop k s.data.toList) = s.data.toList.drop k := List.take_of_length_le (by simp)

theorem strip_any (s : ByteArray) (n : Int) (w : World) (hs : s.size ≤ 35184372088832) (hn : n ≤ 9223372036854775807) :
    Calls Tryd.prog 78 #[.string s, .int .i64 n] w fun e w' => e = .returned (.string ⟨(stripL s.data.toList n.toNat).toArray⟩) ∧ Below w.heap.size w w' := by
  have h1 := mSize_le s.data.toList
  have h2 := mCols_le s.data.toList 0
  have hb : s.data.toList.length = s.size := by simp
  rw [hb] at h1
  clear hb
  go_enter Tryd.func78, Tryd.ntmps78
  go_wp2_with fail
  refine (margin_any s w (by omega)).mono ?_
  rintro e w1 ⟨rfl, b1⟩
  go_wp2_with fail
  have hx : (s.extract (mSize s.data.toList) s.size).size ≤ 140737488355328 := by rw [ByteArray.size_extract]; omega
  refine (pad_any _ _ w1 (by omega) hx).mono ?_
  rintro e w2 ⟨rfl, b2⟩
  go_wp2
  go_ret
  exact ⟨ret_string (by rw [drop_str, stripL, show ((mCols s.data.toList 0 : Int) - max n 0).toNat = mCols s.data.toList 0 - n.toNat from by omega]), b1.trans (b2.mono b1.size)⟩

end Go.Proofs.YtoleoigpijgboaaDoor
