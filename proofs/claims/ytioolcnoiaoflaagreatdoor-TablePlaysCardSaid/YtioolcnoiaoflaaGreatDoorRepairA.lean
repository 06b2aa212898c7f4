/-
  Package repair: the small calls (within, Ascii, Space, Punct, small, strayByte): what each answers, in plain words.
-/
import Derived.Test.YtioolcnoiaoflaaGreatDoorAsc
import Derived.WalkKit
import Derived.BigCall
import Derived.BigQuiet
import Derived.Deep.QuietTactic
import Derived.Lib.Hide
namespace Go.Proofs.YtioolcnoiaoflaaGreatDoor
open Go.RowKit


def spaceB (r : Int) : Bool := r == 9 || r == 10 || r == 12 || r == 13 || r == 32 || r == 160 || r == 5760 || r == 8239 || r == 8287 || r == 12288 || inB r 8192 8202
def punctB (r : Int) : Bool := if inB r 0 127 then asciiB r else r == 161 || r == 167 || r == 171 || r == 182 || r == 183 || r == 187 || r == 191 || r == 8364 || (inB r 8208 8231 || inB r 8240 8259 || inB r 12289 12305)
def smallI (r : Int) : Int := if inB r 65 90 || (inB r 192 222 && r != 215) then r + 32 else r

theorem within32 (x a b : Int) (w : World) :
    Calls Tryz.prog 97 #[.int .i32 x, .int .i32 a, .int .i32 b] w fun e w' => e = .returned (.bool (inB x a b)) ∧ w = w' := by
  by_cases h1 : a ≤ x
  · go_enter Tryz.func97, Tryz.ntmps97
    go_wp2
    go_ret
    exact ⟨ret_bool (by simp [inB, h1]), rfl⟩
  · go_enter Tryz.func97, Tryz.ntmps97
    go_wp2
    go_ret
    exact ⟨ret_bool (inB_f (by omega)).symm, rfl⟩

theorem space_any (r : Int) (w : World) :
    Calls Tryz.prog 66 #[.int .i32 r] w fun e w' => e = .returned (.bool (spaceB r)) ∧ w = w' := by
  go_enter Tryz.func66, Tryz.ntmps66
  go_wp2_with (go_at_call 97; refine (within32 _ _ _ _).mono ?_; rintro e w' ⟨rfl, rfl⟩)
  all_goals (go_ret; exact ⟨ret_bool (by simp [spaceB, *]), rfl⟩)

theorem stray_any (s : ByteArray) (r : Int) (w : World) :
    Calls Tryz.prog 69 #[.string s, .int .i32 r] w fun e w' => e = .returned (.bool (r == 65533 && !Lib.hasPrefix s.data.toList [239, 191, 189])) ∧ w = w' := by
  go_enter Tryz.func69, Tryz.ntmps69
  go_wp2_with (go_at_call 99; refine (Tryz.strings_HasPrefix _ _ _).mono ?_; rintro e w' ⟨rfl, rfl⟩)
  all_goals (go_ret; exact ⟨ret_bool (by simp [*]), rfl⟩)

theorem small_any (r : Int) (w : World) :
    Calls Tryz.prog 71 #[.int .i32 r] w fun e w' => e = .returned (.int .i32 (smallI r)) ∧ w = w' := by
  go_enter Tryz.func71, Tryz.ntmps71
  go_wp2_with (go_at_call 97; refine (within32 _ _ _ _).mono ?_; rintro e w' ⟨rfl, rfl⟩)
  · have := (inB_iff r 65 90).1 (by assumption)
    go_ret
    exact ⟨ret_i32 (by rw [IntWalk.wrap32_in _ ⟨by omega, by omega⟩]; simp [smallI, *]), rfl⟩
  · have := (inB_iff r 192 222).1 (by assumption)
    go_ret
    exact ⟨ret_i32 (by rw [IntWalk.wrap32_in _ ⟨by omega, by omega⟩]; simp [smallI, *]), rfl⟩
  all_goals (go_ret; exact ⟨ret_i32 (by simp [smallI, *]), rfl⟩)

end Go.Proofs.YtioolcnoiaoflaaGreatDoor
