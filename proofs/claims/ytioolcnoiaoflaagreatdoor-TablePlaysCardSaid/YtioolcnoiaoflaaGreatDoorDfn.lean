/-
  A definition: its fields, its cells.
-/
import Derived.Test.YtioolcnoiaoflaaGreatDoorBase
namespace Go.Proofs.YtioolcnoiaoflaaGreatDoor
open Go.RowKit
set_option linter.unusedSimpArgs false
set_option linter.unusedVariables false

/-- A definition. -/
structure Dfn where
  nm : List UInt8
  url : List UInt8
  ttl : List UInt8
  txt : List UInt8
  nt : Bool
deriving DecidableEq, Inhabited
/-- Its five cells. -/
def dfC (x : Dfn) : List Value := [.string ⟨x.nm.toArray⟩, .string ⟨x.url.toArray⟩, .string ⟨x.ttl.toArray⟩, .string ⟨x.txt.toArray⟩, .bool x.nt]
theorem dfC_length (x : Dfn) : (dfC x).length = 5 := rfl
theorem dfC_one (x : Dfn) : ∀ u ∈ dfC x, u.oneCell' = true := by
  intro u hu
  simp [dfC] at hu
  rcases hu with rfl | rfl | rfl | rfl | rfl <;> rfl
theorem infoDef : (Tryz.prog.info? 26).map (fun i => (i.zero, i.size, i.bytes)) = some (some (.agg #[.string ByteArray.empty, .string ByteArray.empty, .string ByteArray.empty, .string ByteArray.empty, .bool false]), 5, 72) := by kernel_rfl

end Go.Proofs.YtioolcnoiaoflaaGreatDoor
