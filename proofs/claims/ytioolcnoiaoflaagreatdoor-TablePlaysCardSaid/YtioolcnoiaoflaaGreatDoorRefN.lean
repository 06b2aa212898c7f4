/-
  bowdlerref1's gap: what it answers, in plain words.
  bowdlerref1's Blank: what it answers, in plain words.
-/
import Derived.Test.YtioolcnoiaoflaaGreatDoorBase
import Derived.Test.YtioolcnoiaoflaaGreatDoorLineP
namespace Go.Proofs.YtioolcnoiaoflaaGreatDoor
open Go.RowKit
set_option linter.unusedSimpArgs false
set_option linter.unusedVariables false

theorem gap_any (c : UInt8) (w : World) :
    Calls Tryz.prog 27 #[.int .u8 c.toNat] w fun e w' => e = .returned (.bool (isGap c)) ∧ w = w' := by
  by_cases h : c = 32
  · have f : ((c.toNat : Int) == 32) = true := by simp [h]
    have HG := Lib.hid (show isGap c = true from by rw [h]; rfl)
    clear h
    go_enter Tryz.func27, Tryz.ntmps27
    go_wp2
    go_ret
    exact ⟨ret_bool (by rw [HG.out]), rfl⟩
  · have f : ((c.toNat : Int) == 32) = false := by
      simp only [beq_eq_false_iff_ne, ne_eq]
      intro e
      exact h (UInt8.toNat_inj.1 (by simp; omega))
    by_cases h9 : c = 9
    · have f9 : ((c.toNat : Int) == 9) = true := by simp [h9]
      have HG := Lib.hid (show isGap c = true from by rw [h9]; rfl)
      clear h h9
      go_enter Tryz.func27, Tryz.ntmps27
      go_wp2
      go_ret
      exact ⟨ret_bool (by rw [HG.out]), rfl⟩
    · have f9 : ((c.toNat : Int) == 9) = false := by
        simp only [beq_eq_false_iff_ne, ne_eq]
        intro e
        exact h9 (UInt8.toNat_inj.1 (by simp; omega))
      have HG := Lib.hid (show isGap c = false from by simp [isGap, h, h9])
      clear h h9
      go_enter Tryz.func27, Tryz.ntmps27
      go_wp2
      go_ret
      exact ⟨ret_bool (by rw [HG.out]), rfl⟩

end Go.Proofs.YtioolcnoiaoflaaGreatDoor

namespace Go.Proofs.YtioolcnoiaoflaaGreatDoor
open Go.RowKit
set_option linter.unusedSimpArgs false
set_option linter.unusedVariables false

def RBlankRel (s : ByteArray) (w : World) (i : Value) (wr : World) : Prop := ∃ k : Nat, i = .int .i64 k ∧ k ≤ s.size ∧ s.data.toList.all isGap = (s.data.toList.drop k).all isGap ∧ wr = w

set_option maxHeartbeats 1000000 in
theorem rblank_any (s : ByteArray) (w : World) (hs : s.size ≤ 4398046511104) :
    Calls Tryz.prog 30 #[.string s] w fun e w' => e = .returned (.bool (s.data.toList.all isGap)) ∧ w = w' := by
  go_enter Tryz.func30, Tryz.ntmps30
  go_wp2_with fail
  go_loopw [3] (fun i wr => RBlankRel s w i wr) (fun i _ => s.size - (intOf i).toNat)
  case atStart => exact ⟨0, rfl, Nat.zero_le _, by simp, rfl⟩
  case round =>
    obtain ⟨k, rfl, hk, hall, rfl⟩ := hrel
    by_cases hp : k < s.size
    · rw [get_list s k hp, List.all_cons] at hall
      have cg := gap_any s[k] wr
      cases hg : isGap s[k] with
      | true =>
        rw [hg, Bool.true_and] at hall
        rw [hg] at cg
        have HA := Lib.hid hall
        have HC := Lib.hid cg
        clear hall hg cg
        go_wp2_with (go_at_call 27; refine HC.out.mono ?_; rintro e w' ⟨rfl, rfl⟩)
        exact ⟨⟨k + 1, by go_num, by omega, HA.out, rfl⟩, by simp [intOf]; omega⟩
      | false =>
        rw [hg, Bool.false_and] at hall
        rw [hg] at cg
        have HA := Lib.hid hall
        have HC := Lib.hid cg
        clear hall hg cg
        go_wp2_with (go_at_call 27; refine HC.out.mono ?_; rintro e w' ⟨rfl, rfl⟩)
        go_ret
        exact ⟨ret_bool (by rw [HA.out]), rfl⟩
    · have HA := Lib.hid (show s.data.toList.all isGap = true from by rw [hall, List.drop_eq_nil_of_le (by simp; omega)]; rfl)
      clear hall
      go_wp2
      go_ret
      exact ⟨ret_bool (by rw [HA.out]), rfl⟩

end Go.Proofs.YtioolcnoiaoflaaGreatDoor
