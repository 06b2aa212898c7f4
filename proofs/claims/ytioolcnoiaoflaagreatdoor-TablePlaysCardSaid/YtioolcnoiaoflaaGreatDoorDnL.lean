/-
  What the walks of the layer define ask of variables: 'named' of package entity, and the library's MaxLen.
-/
import Derived.Test.YtioolcnoiaoflaaGreatDoorEntA
import Derived.Test.YtioolcnoiaoflaaGreatDoorMaxL
namespace Go.Proofs.YtioolcnoiaoflaaGreatDoor
open Go.ChangeShapes Go.WideShapes Go.ChangeAt Go.RowKit
set_option linter.unusedVariables false

/-- What the walks ask of variables. -/
structure Elv (w : World) : Prop where
  nm : NamedIs w
  ml : MaxL w
theorem Elv.below {w w' : World} (h : Elv w) (hb : Below w.heap.size w w') : Elv w' := ⟨h.nm.below hb, h.ml.below hb⟩
end Go.Proofs.YtioolcnoiaoflaaGreatDoor
