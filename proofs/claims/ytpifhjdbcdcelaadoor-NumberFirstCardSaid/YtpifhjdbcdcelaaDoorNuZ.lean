/-
  From a row's list of laid variables to what the number laws' walks ask: nothing.
-/
import Derived.Test.YtpifhjdbcdcelaaDoorHna
import Derived.Test.YtpifhjdbcdcelaaDoorRows
namespace Go.Proofs.YtpifhjdbcdcelaaDoor
open Go.ChangeShapes Go.WideShapes Go.ChangeAt Go.RowKit
set_option linter.unusedSimpArgs false
set_option linter.unusedVariables false

def NuW (w : World) : Prop := True
theorem nuw_of {W : World} (h : laidMetH Tryd.prog Rows.numberPartsRow.laid W) (hs : W.ShapedOpen Tryd.prog) : NuW W := trivial

end Go.Proofs.YtpifhjdbcdcelaaDoor
