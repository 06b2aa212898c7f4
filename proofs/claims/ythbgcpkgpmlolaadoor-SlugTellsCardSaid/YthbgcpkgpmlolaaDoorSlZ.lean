/-
  From a row's list of laid variables to what the slug laws' walks ask: nothing.
-/
import Derived.Test.YthbgcpkgpmlolaaDoorHna
import Derived.Test.YthbgcpkgpmlolaaDoorRows
namespace Go.Proofs.YthbgcpkgpmlolaaDoor
open Go.ChangeShapes Go.WideShapes Go.ChangeAt Go.RowKit
set_option linter.unusedSimpArgs false
set_option linter.unusedVariables false

def SlW (w : World) : Prop := True
theorem slw_of {W : World} (h : laidMetH Tryd.prog Rows.slugFoldsRow.laid W) (hs : W.ShapedOpen Tryd.prog) : SlW W := trivial

end Go.Proofs.YthbgcpkgpmlolaaDoor
