/-
  A list of pairs that is written out; the diamond of four levels.
-/
import Derived.Test.YtkcmhdkhdjmjeaaGreatDoorLatC
import Derived.KernelRfl
namespace Go.Proofs.YtkcmhdkhdjmjeaaGreatDoor
open Go.RowKit
set_option linter.unusedSimpArgs false
set_option linter.unusedVariables false

theorem pairs_lit (w : World) (ps : List (Int × Int)) (t : TypeId) (hm : ps.length ≤ maxLen) : PairsAt (w.alloc (.cells (prCells ps).toArray t)) (some ⟨w.heap.size, 0, none⟩) ps.length ps := by
  refine ⟨Nat.le_refl _, hm, Or.inr ⟨w.heap.size, 0, rfl, by rw [alloc_size]; omega, fun i hi => ?_⟩⟩
  have hc := prCells_get ps i hi
  rw [Nat.zero_add, cell_of_row _ _ (i * 2) _ t (0, 0) (heap_alloc_new w _), cell_of_row _ _ (i * 2 + 1) _ t (0, 0) (heap_alloc_new w _)]
  simpa using hc
theorem pairs_nil (w : World) : PairsAt w none 0 [] := ⟨Nat.le_refl _, Nat.zero_le _, Or.inl rfl⟩

def ps4 : List (Int × Int) := [(0, 1), (0, 2), (1, 3), (2, 3)]
def T4 : Rel := fun a b => a == b || a == 0 || b == 3
theorem same4 : SameR 4 (leqS 4 ps4) T4 :=
  sameR_of (fun a b m ha hb hm h1 h2 => (by decide +kernel : ∀ a, a < 4 → ∀ b, b < 4 → ∀ m, m < 4 → T4 a m = true → T4 m b = true → T4 a b = true) a ha b hb m hm h1 h2)
    (fun a b ha hb h => (by decide +kernel : ∀ a, a < 4 → ∀ b, b < 4 → baseR ps4 a b = true → T4 a b = true) a ha b hb h)
    (fun a b ha hb h => by
      obtain ⟨c, hc, h1, h2⟩ := (by decide +kernel : ∀ a, a < 4 → ∀ b, b < 4 → T4 a b = true → ∃ c, c < 4 ∧ baseR ps4 a c = true ∧ baseR ps4 c b = true) a ha b hb h
      exact leqS_trans hc (warN_base _ _ _ _ h1) (warN_base _ _ _ _ h2))
theorem sound4 : Sound 4 T4 := by decide +kernel
theorem err4 : errS 4 ps4 = 0 := by
  unfold errS
  rw [if_neg (by decide), if_neg (by decide +kernel), if_pos]
  exact same4.symm.sound sound4
theorem err2 : errS 2 [] = 1 := by
  unfold errS
  rw [if_neg (by decide), if_neg (by decide +kernel), if_neg]
  show ¬ Sound 2 (leqS 2 [])
  decide +kernel

end Go.Proofs.YtkcmhdkhdjmjeaaGreatDoor
