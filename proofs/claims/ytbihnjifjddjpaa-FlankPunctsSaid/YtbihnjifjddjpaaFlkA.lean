/-
  Package flank: Left, Right, Opens, Closes: what each answers, in plain words.
-/
import Derived.Test.YtbihnjifjddjpaaRepairPu
namespace Go.Proofs.Ytbihnjifjddjpaa
open Go.RowKit

def leftB (b a : Int) : Bool := !spaceB a && (!punctB a || spaceB b || punctB b)
def opensB (c b a : Int) : Bool := if c = 42 then leftB b a else if c = 95 then leftB b a && (!leftB a b || punctB b) else false

theorem left_any (b a : Int) (w : World) :
    Calls Try.prog 10 #[.int .i32 b, .int .i32 a] w fun e w' => e = .returned (.bool (leftB b a)) ∧ w = w' := by
  go_enter Try.func10, Try.ntmps10
  go_wp2_with (first | (go_at_call 14; refine (space_any _ _).mono ?_; rintro e w' ⟨rfl, rfl⟩) | (go_at_call 13; refine (punct_any _ _).mono ?_; rintro e w' ⟨rfl, rfl⟩))
  all_goals (go_ret; exact ⟨ret_bool (by simp [leftB, *]), rfl⟩)

theorem right_any (b a : Int) (w : World) :
    Calls Try.prog 11 #[.int .i32 b, .int .i32 a] w fun e w' => e = .returned (.bool (leftB a b)) ∧ w = w' := by
  go_enter Try.func11, Try.ntmps11
  go_wp2_with (go_at_call 10; refine (left_any _ _ _).mono ?_; rintro e w' ⟨rfl, rfl⟩)
  all_goals (go_ret; exact ⟨rfl, rfl⟩)

theorem opens_any (c b a : Int) (w : World) :
    Calls Try.prog 8 #[.int .u8 c, .int .i32 b, .int .i32 a] w fun e w' => e = .returned (.bool (opensB c b a)) ∧ w = w' := by
  go_enter Try.func8, Try.ntmps8
  go_wp2_with (first | (go_at_call 10; refine (left_any _ _ _).mono ?_; rintro e w' ⟨rfl, rfl⟩) | (go_at_call 11; refine (right_any _ _ _).mono ?_; rintro e w' ⟨rfl, rfl⟩) | (go_at_call 13; refine (punct_any _ _).mono ?_; rintro e w' ⟨rfl, rfl⟩))
  all_goals (go_ret; exact ⟨ret_bool (by simp_all [opensB]), rfl⟩)

theorem closes_any (c b a : Int) (w : World) :
    Calls Try.prog 9 #[.int .u8 c, .int .i32 b, .int .i32 a] w fun e w' => e = .returned (.bool (opensB c a b)) ∧ w = w' := by
  go_enter Try.func9, Try.ntmps9
  go_wp2_with (go_at_call 8; refine (opens_any _ _ _ _).mono ?_; rintro e w' ⟨rfl, rfl⟩)
  all_goals (go_ret; exact ⟨rfl, rfl⟩)

end Go.Proofs.Ytbihnjifjddjpaa
