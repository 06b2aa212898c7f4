/-
  Package repair: within and Space: what each answers, in plain words (spaceB, punctB, smallI).
-/
import Derived.Test.YtbihnjifjddjpaaAsc
import Derived.WalkKit
import Derived.BigCall
import Derived.BigQuiet
import Derived.Deep.QuietTactic
import Derived.Lib.Hide
namespace Go.Proofs.Ytbihnjifjddjpaa
open Go.RowKit


def spaceB (r : Int) : Bool := r == 9 || r == 10 || r == 12 || r == 13 || r == 32 || r == 160 || r == 5760 || r == 8239 || r == 8287 || r == 12288 || inB r 8192 8202
def punctB (r : Int) : Bool := if inB r 0 127 then asciiB r else r == 161 || r == 167 || r == 171 || r == 182 || r == 183 || r == 187 || r == 191 || r == 8364 || (inB r 8208 8231 || inB r 8240 8259 || inB r 12289 12305)
def smallI (r : Int) : Int := if inB r 65 90 || (inB r 192 222 && r != 215) then r + 32 else r

theorem within32 (x a b : Int) (w : World) :
    Calls Try.prog 16 #[.int .i32 x, .int .i32 a, .int .i32 b] w fun e w' => e = .returned (.bool (inB x a b)) ∧ w = w' := by
  by_cases h1 : a ≤ x
  · go_enter Try.func16, Try.ntmps16
    go_wp2
    go_ret
    exact ⟨ret_bool (by simp [inB, h1]), rfl⟩
  · go_enter Try.func16, Try.ntmps16
    go_wp2
    go_ret
    exact ⟨ret_bool (inB_f (by omega)).symm, rfl⟩

theorem space_any (r : Int) (w : World) :
    Calls Try.prog 14 #[.int .i32 r] w fun e w' => e = .returned (.bool (spaceB r)) ∧ w = w' := by
  go_enter Try.func14, Try.ntmps14
  go_wp2_with (go_at_call 16; refine (within32 _ _ _ _).mono ?_; rintro e w' ⟨rfl, rfl⟩)
  all_goals (go_ret; exact ⟨ret_bool (by simp [spaceB, *]), rfl⟩)

end Go.Proofs.Ytbihnjifjddjpaa
