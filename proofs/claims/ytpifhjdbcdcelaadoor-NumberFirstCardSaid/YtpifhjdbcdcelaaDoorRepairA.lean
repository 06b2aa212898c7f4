/-
  Package repair: strayByte and small: what each answers, in plain words.
-/
import Derived.Test.YtpifhjdbcdcelaaDoorSpc
namespace Go.Proofs.YtpifhjdbcdcelaaDoor
open Go.RowKit

theorem stray_any (s : ByteArray) (r : Int) (w : World) :
    Calls Tryd.prog 32 #[.string s, .int .i32 r] w fun e w' => e = .returned (.bool (r == 65533 && !Lib.hasPrefix s.data.toList [239, 191, 189])) ∧ w = w' := by
  go_enter Tryd.func32, Tryd.ntmps32
  go_wp2_with (go_at_call 28; refine (Tryd.strings_HasPrefix _ _ _).mono ?_; rintro e w' ⟨rfl, rfl⟩)
  all_goals (go_ret; exact ⟨ret_bool (by simp [*]), rfl⟩)

theorem small_any (r : Int) (w : World) :
    Calls Tryd.prog 34 #[.int .i32 r] w fun e w' => e = .returned (.int .i32 (smallI r)) ∧ w = w' := by
  go_enter Tryd.func34, Tryd.ntmps34
  go_wp2_with (go_at_call 40; refine (within32 _ _ _ _).mono ?_; rintro e w' ⟨rfl, rfl⟩)
  · have := (inB_iff r 65 90).1 (by assumption)
    go_ret
    exact ⟨ret_i32 (by rw [IntWalk.wrap32_in _ ⟨by omega, by omega⟩]; simp [smallI, *]), rfl⟩
  · have := (inB_iff r 192 222).1 (by assumption)
    go_ret
    exact ⟨ret_i32 (by rw [IntWalk.wrap32_in _ ⟨by omega, by omega⟩]; simp [smallI, *]), rfl⟩
  all_goals (go_ret; exact ⟨ret_i32 (by simp [smallI, *]), rfl⟩)

end Go.Proofs.YtpifhjdbcdcelaaDoor
