/-
  From a row's list of laid variables to what the walks of the layer define ask, where the tables of unicode/utf8 are listed too.
-/
import Derived.Test.YtioolcnoiaoflaaGreatDoorEntL
import Derived.Test.YtioolcnoiaoflaaGreatDoorRefA
import Derived.Test.YtioolcnoiaoflaaGreatDoorDnL
import Derived.Test.YtioolcnoiaoflaaGreatDoorHna
import Derived.PinnedBridge
import Derived.Lib.LaidU8
namespace Go.Proofs.YtioolcnoiaoflaaGreatDoor
open Go.ChangeShapes Go.WideShapes Go.ChangeAt Go.RowKit Go.Lib
set_option linter.unusedVariables false

/-- What the walks ask of variables. -/
structure Elz (w : World) : Prop where
  ev : Elv w
  tb : Tabs w
theorem Elz.below {w w' : World} (h : Elz w) (hb : Below w.heap.size w w') : Elz w' := ⟨h.ev.below hb, h.tb.below hb⟩
theorem u8extraZ : U8Extra Tryz.prog Tryz.lays260_ren := { n3 := by kernel_rfl, n4 := by kernel_rfl, y3 := by kernel_rfl, y4 := by kernel_rfl, c5 := by kernel_rfl, c119 := by kernel_rfl, c138 := by kernel_rfl }
theorem accept_eqZ : (Rows.laid_unicode_utf8_acceptRanges : DataW Unit) = Lib.acceptData := by kernel_rfl
theorem elz_of {W : World} (h : laidMetH Tryz.prog [("unicode/utf8.acceptRanges", Rows.laid_unicode_utf8_acceptRanges), ("bowdler/entity.named", Rows.laid_bowdler_entity_named), ("unicode/utf8.first", Rows.laid_unicode_utf8_first)] W) (hs : W.ShapedOpen Tryz.prog) : Elz W := by
  rw [MakeChecks.laidMetH_plain _ _ _ (by kernel_rfl)] at h
  have h3 := Lib.laidMet.reads h (n := "unicode/utf8.first") (d := Rows.laid_unicode_utf8_first) (by simp)
  have h4 := Lib.laidMet.reads h (n := "unicode/utf8.acceptRanges") (d := Rows.laid_unicode_utf8_acceptRanges) (by simp)
  rw [accept_eqZ] at h4
  rw [show Rows.laid_unicode_utf8_first = Lib.firstData from Pinned.utf8First_eq] at h3
  exact ⟨⟨named_met (by simp) h, maxL_of hs⟩, utf8Tabs_of_reads Tryz.lays260 u8extraZ h3 h4⟩

end Go.Proofs.YtioolcnoiaoflaaGreatDoor
