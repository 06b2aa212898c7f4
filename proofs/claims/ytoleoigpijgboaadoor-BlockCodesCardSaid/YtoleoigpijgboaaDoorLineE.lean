/-
  Package line: Expand: what it answers, in plain words.
-/
import Derived.Test.YtoleoigpijgboaaDoorLineA
namespace Go.Proofs.YtoleoigpijgboaaDoor
open Go.RowKit
set_option linter.unusedSimpArgs false
set_option linter.unusedVariables false

theorem expand_any (s : ByteArray) (w : World) (hs : s.size ≤ 35184372088832) :
    Calls Tryd.prog 20 #[.string s] w fun e w' => e = .returned (.string ⟨(expandL s.data.toList).toArray⟩) ∧ Below w.heap.size w w' := by
  have h1 := mSize_le s.data.toList
  have h2 := mCols_le s.data.toList 0
  have hb : s.data.toList.length = s.size := by simp
  rw [hb] at h1
  clear hb
  go_enter Tryd.func20, Tryd.ntmps20
  go_wp2_with fail
  refine (margin_any s w (by omega)).mono ?_
  rintro e w1 ⟨rfl, b1⟩
  go_wp2_with fail
  have hx : (s.extract (mSize s.data.toList) s.size).size ≤ 140737488355328 := by rw [ByteArray.size_extract]; omega
  refine (pad_any _ _ w1 (by omega) hx).mono ?_
  rintro e w2 ⟨rfl, b2⟩
  go_wp2
  go_ret
  exact ⟨ret_string (by rw [drop_str]; rfl), b1.trans (b2.mono b1.size)⟩

end Go.Proofs.YtoleoigpijgboaaDoor
