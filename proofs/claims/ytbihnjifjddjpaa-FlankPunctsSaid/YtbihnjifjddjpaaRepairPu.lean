/-
  Package repair: Punct: what it answers, in plain words.
-/
import Derived.Test.YtbihnjifjddjpaaSpc
namespace Go.Proofs.Ytbihnjifjddjpaa
open Go.RowKit

theorem punct_any (r : Int) (w : World) :
    Calls Try.prog 13 #[.int .i32 r] w fun e w' => e = .returned (.bool (punctB r)) ∧ w = w' := by
  by_cases h : inB r 0 127 = true
  · have h' := h
    unfold inB at h'
    simp at h'
    obtain ⟨hl, hu⟩ := h'
    go_enter Try.func13, Try.ntmps13
    go_wp2_with (first | (go_at_call 16; refine (within32 _ _ _ _).mono ?_; rintro e w' ⟨rfl, rfl⟩) | (go_at_call 17; refine (ascii_any _ _).mono ?_; rintro e w' ⟨rfl, rfl⟩))
    go_ret
    exact ⟨ret_bool (by simp [punctB, *]), rfl⟩
  · go_enter Try.func13, Try.ntmps13
    go_wp2_with (go_at_call 16; refine (within32 _ _ _ _).mono ?_; rintro e w' ⟨rfl, rfl⟩)
    all_goals (go_ret; exact ⟨ret_bool (by simp [punctB, *]), rfl⟩)

end Go.Proofs.Ytbihnjifjddjpaa
