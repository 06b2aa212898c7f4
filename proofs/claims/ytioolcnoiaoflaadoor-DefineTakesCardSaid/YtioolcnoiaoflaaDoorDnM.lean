/-
  From a row's list of laid variables to what the walks of the layer define ask: the variable 'named' of package entity is listed, the library's MaxLen is named.
-/
import Derived.Test.YtioolcnoiaoflaaDoorEntL
import Derived.Test.YtioolcnoiaoflaaDoorDnL
import Derived.Test.YtioolcnoiaoflaaDoorHna
namespace Go.Proofs.YtioolcnoiaoflaaDoor
open Go.ChangeShapes Go.WideShapes Go.ChangeAt Go.RowKit
set_option linter.unusedVariables false

theorem elv_of {W : World} (h : laidMetH Tryd.prog [("bowdler/entity.named", Rows.laid_bowdler_entity_named)] W) (hs : W.ShapedOpen Tryd.prog) : Elv W := by
  rw [MakeChecks.laidMetH_plain _ _ _ (by kernel_rfl)] at h
  exact ⟨named_met (by simp) h, maxL_of hs⟩

end Go.Proofs.YtioolcnoiaoflaaDoor
