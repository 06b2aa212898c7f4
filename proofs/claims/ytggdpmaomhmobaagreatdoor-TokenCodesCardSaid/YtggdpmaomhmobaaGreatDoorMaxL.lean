/-
  The library's variable MaxLen: it holds some number, and stays.
-/
import Derived.Test.YtggdpmaomhmobaaGreatDoorBase
namespace Go.Proofs.YtggdpmaomhmobaaGreatDoor
open Go.RowKit
set_option linter.unusedVariables false

/-- The library's variable, whatever number it holds. -/
def MaxL (w : World) : Prop := ∃ m : Int, w.cell? ⟨2, 0, none⟩ = some (.int .i64 m)
theorem MaxL.below {w w' : World} (h : MaxL w) (hb : Below w.heap.size w w') : MaxL w' := by
  obtain ⟨m, hm⟩ := h
  exact ⟨m, (hb.cell (p := ⟨2, 0, none⟩) (World.block_lt_of_cell? _ _ hm)).trans hm⟩
theorem MaxL.lt {w : World} (h : MaxL w) : 2 < w.heap.size := by
  obtain ⟨m, hm⟩ := h
  exact World.block_lt_of_cell? _ _ hm
theorem MaxL.belowB {w w' : World} {B : Nat} (h : MaxL w) (hb : Below B w w') (hB : 2 < B) : MaxL w' := by
  obtain ⟨m, hm⟩ := h
  exact ⟨m, (hb.cell (p := ⟨2, 0, none⟩) hB).trans hm⟩
theorem MaxL.heap {w w' : World} (h : MaxL w) (hh : w'.heap = w.heap) : MaxL w' := by
  obtain ⟨m, hm⟩ := h
  exact ⟨m, by simpa [World.cell?, hh] using hm⟩
theorem MaxL.alloc {w : World} (h : MaxL w) (o : Obj) : MaxL (w.alloc o) := h.below ((Below.refl _ w).alloc (Nat.le_refl _) o)
theorem maxL_of {w : World} (h : w.ShapedOpen Tryz.prog) : MaxL w := Go.Proofs.cell_of_shapedOpen_int (zero := #[.int .i64 0]) (t := 3) h (of_decide_eq_true (by kernel_rfl)) (by kernel_rfl) rfl (by kernel_rfl) (by kernel_rfl) Tryz.underlying3

end Go.Proofs.YtggdpmaomhmobaaGreatDoor
