/- Texts joined: DfO. -/
import Derived.Test.YtfbaknkmpilllaaGreatDoorQAJ
import Derived.Deep.Slices
import Derived.OpenShut
import Derived.Lib.Strings
namespace Go.Proofs.YtfbaknkmpilllaaGreatDoor
open Go.ChangeShapes Go.WideShapes Go.ChangeAt Go.RowKit
set_option linter.unusedSimpArgs false
set_option linter.unusedVariables false
set_option maxRecDepth 100000
/-- What is so of every definition that comes in. -/
def DfnWf (x : Dfn) : Prop := x.nm.length ≤ maxLen ∧ x.url.length ≤ maxLen ∧ x.ttl.length ≤ maxLen ∧ x.txt.length ≤ maxLen
def DfnsWf (X : List Dfn) : Prop := ∀ x ∈ X, DfnWf x
section
variable {H : Type} {enc : TypeId × Value → H} {w : World} {held : Bool}
end
end Go.Proofs.YtfbaknkmpilllaaGreatDoor
