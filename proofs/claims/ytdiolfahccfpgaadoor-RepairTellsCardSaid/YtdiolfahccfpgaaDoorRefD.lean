/-
  RepairTells' walk.
-/
import Derived.Test.YtdiolfahccfpgaaDoorRefC
import Derived.Test.YtdiolfahccfpgaaDoorRepairD
namespace Go.Proofs.YtdiolfahccfpgaaDoor
open Go.RowKit
set_option linter.unusedSimpArgs false
set_option linter.unusedVariables false

set_option maxHeartbeats 2000000 in
theorem repairTells_walk (w : World) (hT : Tabs w) (a0 : ByteArray) (w0 : a0.size ≤ maxLen) (a1 : ByteArray) (w1 : a1.size ≤ maxLen) (a2 : Int) (w2 : (Lit.int .i32 a2).wf = true) (a3 : Int) (w3 : (Lit.int .u8 a3).wf = true) :
    Calls Tryd.prog 3 #[.string a0, .string a1, .int .i32 a2, .int .u8 a3] w fun e w' => e = .returned (.bool true) ∧ Below w.heap.size w w' := by
  unfold maxLen at w0 w1
  have HT := Lib.hid hT
  clear hT
  by_cases h0 : 400 < a0.size
  · go_enter Tryd.func3, Tryd.ntmps3
    go_wp2_with (go_at_call 4; refine (alive_any _).mono ?_; rintro e w3 ⟨rfl, b1⟩)
    go_ret
    exact ⟨rfl, by assumption⟩
  · by_cases h1 : 200 < a1.size
    · go_enter Tryd.func3, Tryd.ntmps3
      go_wp2_with (go_at_call 4; refine (alive_any _).mono ?_; rintro e w3 ⟨rfl, b1⟩)
      go_ret
      exact ⟨rfl, by assumption⟩
    · have cT := textIs a0 (by omega)
      have cF := foldIs a1 (by omega)
      have rT := fun W (hW : Tabs W) => refText_any a0 W (by omega) hW
      have rF := fun W (hW : Tabs W) => refFold_any a1 W (by omega) hW
      have s1 := fun W => space_any a2 W
      have s2 := fun W => refSpace_any a2 W
      have p1 := fun W => punct_any a2 W
      have p2 := fun W => refPunct_any a2 W
      have c1 := fun W => ascii_any a3 W
      have c2 := fun W => refAscii_any a3 W
      generalize textOf a0 = X at *
      generalize foldOf a1 = F at *
      generalize spaceB a2 = bs at *
      generalize punctB a2 = bp at *
      generalize asciiB a3 = ba at *
      go_enter Tryd.func3, Tryd.ntmps3
      go_wp2_with fail
      refine (alive_any _).mono ?_
      rintro e W1 ⟨rfl, b1⟩
      go_wp2_with fail
      refine (cT _).mono ?_
      rintro e W2 ⟨rfl, b2⟩
      have hT2 := Lib.hid ((HT.out.below b1).below b2)
      go_wp2_with fail
      refine (rT _ hT2.out).mono ?_
      rintro e W3 ⟨rfl, b3⟩
      go_wp2_with fail
      refine (s1 _).mono ?_
      rintro e W4 ⟨rfl, rfl⟩
      go_wp2_with fail
      refine (s2 _).mono ?_
      rintro e W5 ⟨rfl, rfl⟩
      go_wp2_with fail
      refine (p1 _).mono ?_
      rintro e W6 ⟨rfl, rfl⟩
      go_wp2_with fail
      refine (p2 _).mono ?_
      rintro e W7 ⟨rfl, rfl⟩
      go_wp2_with fail
      refine (c1 _).mono ?_
      rintro e W8 ⟨rfl, rfl⟩
      go_wp2_with fail
      refine (c2 _).mono ?_
      rintro e W9 ⟨rfl, rfl⟩
      go_wp2_with fail
      refine (cF _).mono ?_
      rintro e W10 ⟨rfl, b10⟩
      have hT10 := Lib.hid ((hT2.out.below b3).below b10)
      go_wp2_with fail
      refine (rF _ hT10.out).mono ?_
      rintro e W11 ⟨rfl, b11⟩
      go_wp2
      go_ret
      have z1 := b1.size
      have z2 := b2.size
      have z3 := b3.size
      have z10 := b10.size
      exact ⟨ret_bool (by simp), (((b1.trans (b2.mono (by omega))).trans (b3.mono (by omega))).trans (b10.mono (by omega))).trans (b11.mono (by omega))⟩

end Go.Proofs.YtdiolfahccfpgaaDoor
