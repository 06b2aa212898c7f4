/-
  The laws' first call 'alive'.
-/
import Derived.Test.YtdiolfahccfpgaaDoorRepairC
import Derived.KernelRfl
namespace Go.Proofs.YtdiolfahccfpgaaDoor
open Go.RowKit
set_option linter.unusedSimpArgs false
set_option linter.unusedVariables false

theorem alive_text : textB ⟨#[97, 0, 255, 13, 10, 98, 13]⟩ = [97, 239, 191, 189, 239, 191, 189, 10, 98, 10] := by decide +kernel
theorem alive_fold : foldB ⟨#[32, 32, 195, 132, 32, 98]⟩ = [195, 164, 32, 98] := by decide +kernel
theorem alive_space : spaceB 160 = true := by decide +kernel
theorem alive_ascii : asciiB 126 = true := by decide +kernel
theorem alive_punct : punctB 8364 = true := by decide +kernel

set_option maxHeartbeats 1000000 in
theorem alive_any (w : World) :
    Calls Tryd.prog 4 #[] w fun e w' => e = .returned (.bool true) ∧ Below w.heap.size w w' := by
  have c1 := fun w1 => text_any ⟨#[97, 0, 255, 13, 10, 98, 13]⟩ w1 (by decide)
  have c2 := fun w1 => fold_any ⟨#[32, 32, 195, 132, 32, 98]⟩ w1 (by decide)
  have c3 := fun w1 => space_any 160 w1
  have c4 := fun w1 => ascii_any 126 w1
  have c5 := fun w1 => punct_any 8364 w1
  rw [alive_text] at c1
  rw [alive_fold] at c2
  rw [alive_space] at c3
  rw [alive_ascii] at c4
  rw [alive_punct] at c5
  go_enter Tryd.func4, Tryd.ntmps4
  go_wp2_with fail
  refine (c1 _).mono ?_
  rintro e w1 ⟨rfl, b1⟩
  go_wp2_with fail
  refine (c2 _).mono ?_
  rintro e w2 ⟨rfl, b2⟩
  go_wp2_with fail
  refine (c3 _).mono ?_
  rintro e w3 ⟨rfl, rfl⟩
  go_wp2_with fail
  refine (c4 _).mono ?_
  rintro e w4 ⟨rfl, rfl⟩
  go_wp2_with fail
  refine (c5 _).mono ?_
  rintro e w5 ⟨rfl, rfl⟩
  go_wp2
  go_ret
  exact ⟨rfl, b1.trans (b2.mono b1.size)⟩

end Go.Proofs.YtdiolfahccfpgaaDoor
