/-
  laidOut, for NumberTells' last file over bundles (bundle.py left it out).
-/
import Derived.Test.YtpifhjdbcdcelaaGreatDoorRNuL
namespace Go.Proofs.YtpifhjdbcdcelaaGreatDoor
open Go.ChangeShapes Go.WideShapes Go.ChangeAt Go.RowKit

theorem laidOut : laidOutB Tryz.prog = true := by kernel_rfl

end Go.Proofs.YtpifhjdbcdcelaaGreatDoor
