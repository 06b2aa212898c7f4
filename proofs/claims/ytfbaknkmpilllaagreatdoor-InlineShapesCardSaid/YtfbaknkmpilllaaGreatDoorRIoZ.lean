/- Texts joined: IoZ. -/
import Derived.Test.YtfbaknkmpilllaaGreatDoorQAN
namespace Go.Proofs.YtfbaknkmpilllaaGreatDoor
open Go.ChangeShapes Go.WideShapes Go.ChangeAt Go.RowKit
set_option linter.unusedSimpArgs false
set_option linter.unusedVariables false
theorem tkwi_of {W : World} (h : laidMetH Tryz.prog Rows.inlinePlainRow.laid W) (hs : W.ShapedOpen Tryz.prog) : TkW W := by
  rw [MakeChecks.laidMetH_plain _ _ _ (by kernel_rfl)] at h
  exact ⟨named_met (by simp [Rows.inlinePlainRow]) h, marks_met (by simp [Rows.inlinePlainRow]) h, maxL_of hs⟩
end Go.Proofs.YtfbaknkmpilllaaGreatDoor
