/-
  Package target: the laws' first call 'alive'.
-/
import Derived.Test.YtkldloglpbiioaaDoorTgtG
import Derived.Test.YtkldloglpbiioaaDoorTgtD
namespace Go.Proofs.YtkldloglpbiioaaDoor
open Go.RowKit
set_option linter.unusedSimpArgs false
set_option linter.unusedVariables false

theorem alive_inside : insideL [40, 47, 97, 32, 34, 116, 34, 41, 120] = ([47, 97], [116], 8, true) := by decide +kernel
theorem alive_bad : safeL [32, 74, 97, 118, 97, 83, 99, 114, 105, 112, 116, 58, 120] = false := by decide +kernel
theorem alive_good : safeL [47, 97] = true := by decide +kernel
theorem alive_enc : encL [97, 32, 98] = [97, 37, 50, 48, 98] := by decide +kernel
theorem alive_un : unL [92, 42, 38, 97, 109, 112, 59] = [42, 38] := by decide +kernel

set_option maxHeartbeats 1000000 in
theorem alive10_any (w : World) (hn : TenIs w) :
    Calls Tryd.prog 9 #[] w fun e w' => e = .returned (.bool true) ∧ Below w.heap.size w w' := by
  have c1 := inside_any ⟨#[40, 47, 97, 32, 34, 116, 34, 41, 120]⟩ w hn.1 (by decide)
  have c2 := fun w1 hn => safe_any ⟨#[32, 74, 97, 118, 97, 83, 99, 114, 105, 112, 116, 58, 120]⟩ w1 hn (by decide)
  have c3 := fun w1 hn => safe_any ⟨#[47, 97]⟩ w1 hn (by decide)
  have c4 := fun w1 => encode_any ⟨#[97, 32, 98]⟩ w1 (by decide)
  have c5 := fun w1 hn => unescape_any ⟨#[92, 42, 38, 97, 109, 112, 59]⟩ w1 hn (by decide)
  rw [show (⟨#[40, 47, 97, 32, 34, 116, 34, 41, 120]⟩ : ByteArray).data.toList = [40, 47, 97, 32, 34, 116, 34, 41, 120] from rfl, alive_inside] at c1
  rw [show (⟨#[32, 74, 97, 118, 97, 83, 99, 114, 105, 112, 116, 58, 120]⟩ : ByteArray).data.toList = [32, 74, 97, 118, 97, 83, 99, 114, 105, 112, 116, 58, 120] from rfl, alive_bad] at c2
  rw [show (⟨#[47, 97]⟩ : ByteArray).data.toList = [47, 97] from rfl, alive_good] at c3
  rw [show (⟨#[97, 32, 98]⟩ : ByteArray).data.toList = [97, 32, 98] from rfl, alive_enc] at c4
  rw [show (⟨#[92, 42, 38, 97, 109, 112, 59]⟩ : ByteArray).data.toList = [92, 42, 38, 97, 109, 112, 59] from rfl, alive_un] at c5
  unfold ttib at c1
  simp only at c1
  have HN := Lib.hid hn
  clear hn
  go_enter Tryd.func9, Tryd.ntmps9
  go_wp2_with fail
  refine c1.mono ?_
  rintro e w1 ⟨rfl, b1⟩
  go_wp2_with fail
  refine (c2 _ (HN.out.below b1).2).mono ?_
  rintro e w2 ⟨rfl, b2⟩
  have q2 := b1.then b2
  go_wp2_with fail
  refine (c3 _ (HN.out.below q2).2).mono ?_
  rintro e w3 ⟨rfl, b3⟩
  have q3 := q2.then b3
  go_wp2_with fail
  refine (c4 _).mono ?_
  rintro e w4 ⟨rfl, b4⟩
  have q4 := q3.then b4
  go_wp2_with fail
  refine (c5 _ (HN.out.below q4).1).mono ?_
  rintro e w5 ⟨rfl, b5⟩
  have q5 := q4.then b5
  go_wp2
  go_ret
  exact ⟨rfl, q5⟩

end Go.Proofs.YtkldloglpbiioaaDoor
