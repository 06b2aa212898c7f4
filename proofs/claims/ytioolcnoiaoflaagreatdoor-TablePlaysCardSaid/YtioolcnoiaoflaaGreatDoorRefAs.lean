/-
  The document's own answers for chapter 1: Ascii.
-/
import Derived.Test.YtioolcnoiaoflaaGreatDoorAsc
namespace Go.Proofs.YtioolcnoiaoflaaGreatDoor
open Go.RowKit
set_option linter.unusedSimpArgs false
set_option linter.unusedVariables false

theorem refAscii_any (c : Int) (w : World) :
    Calls Tryz.prog 108 #[.int .u8 c] w fun e w' => e = .returned (.bool (asciiB c)) ∧ w = w' := by
  go_enter Tryz.func108, Tryz.ntmps108
  go_wp2
  all_goals (go_ret; exact ⟨ret_bool (by apply Bool.eq_iff_iff.2; first | (simp [asciiB, inB]; done) | (simp [asciiB, inB]; omega)), rfl⟩)

end Go.Proofs.YtioolcnoiaoflaaGreatDoor
