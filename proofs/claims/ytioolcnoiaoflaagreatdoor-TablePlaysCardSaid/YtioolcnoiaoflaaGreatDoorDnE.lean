/-
  Package define: the laws' first call 'alive'.
-/
import Derived.Test.YtioolcnoiaoflaaGreatDoorDnA
namespace Go.Proofs.YtioolcnoiaoflaaGreatDoor
open Go.RowKit
set_option linter.unusedSimpArgs false
set_option linter.unusedVariables false
set_option maxRecDepth 100000

theorem alive_link : dlL [91, 65, 32, 98, 93, 58, 32, 47, 120, 32, 34, 116, 34] = (⟨[97, 32, 98], [47, 120], [116], [], false⟩, true) := by decide +kernel
theorem alive_note : dlL [91, 94, 110, 93, 58, 32, 116, 101, 120, 116] = (⟨[110], [], [], [116, 101, 120, 116], true⟩, true) := by decide +kernel
set_option maxHeartbeats 1000000 in
theorem alive11_any (w : World) (hv : Elv w) :
    Calls Tryz.prog 5 #[] w fun e w' => e = .returned (.bool true) ∧ Below w.heap.size w w' := by
  have c1 := dline_any ⟨#[91, 65, 32, 98, 93, 58, 32, 47, 120, 32, 34, 116, 34]⟩ w hv (by decide)
  have c2 := fun w1 h => dline_any ⟨#[91, 94, 110, 93, 58, 32, 116, 101, 120, 116]⟩ w1 h (by decide)
  rw [show (⟨#[91, 65, 32, 98, 93, 58, 32, 47, 120, 32, 34, 116, 34]⟩ : ByteArray).data.toList = [91, 65, 32, 98, 93, 58, 32, 47, 120, 32, 34, 116, 34] from rfl, alive_link] at c1
  rw [show (⟨#[91, 94, 110, 93, 58, 32, 116, 101, 120, 116]⟩ : ByteArray).data.toList = [91, 94, 110, 93, 58, 32, 116, 101, 120, 116] from rfl, alive_note] at c2
  unfold dfTib dfV at c1 c2
  simp only at c1 c2
  have HV := Lib.hid hv
  clear hv
  go_enter Tryz.func5, Tryz.ntmps5
  go_wp2_with fail
  refine c1.mono ?_
  rintro e w1 ⟨rfl, b1⟩
  have hz := dfAt_new w1 ⟨[97, 32, 98], [47, 120], [116], [], false⟩
  have q1 := b1.alloc b1.size (.cells #[.string ⟨#[97, 32, 98]⟩, .string ⟨#[47, 120]⟩, .string ⟨#[116]⟩, .string ⟨#[]⟩, .bool false] 26)
  have hs1 := alloc_size w1 (.cells #[.string ⟨#[97, 32, 98]⟩, .string ⟨#[47, 120]⟩, .string ⟨#[116]⟩, .string ⟨#[]⟩, .bool false] 26)
  have HQ := Lib.hid q1
  have HS1 := Lib.hid hs1
  have HZ := Lib.hid hz
  clear q1 hs1 hz
  go_wp2_with fail
  refine (c2 _ (HV.out.below HQ.out)).mono ?_
  rintro e w2 ⟨rfl, b2⟩
  have hz2 := HZ.out.below b2
  obtain ⟨k0, k1, k2, k3, k4, kf⟩ := hz2.cells
  have HB := Lib.hid (HQ.out.then b2)
  have hlt : w1.heap.size < w2.heap.size := by have := b2.size; have := HS1.out; omega
  clear hz2
  go_wp2
  go_ret
  exact ⟨rfl, HB.out.alloc HB.out.size _⟩

end Go.Proofs.YtioolcnoiaoflaaGreatDoor
