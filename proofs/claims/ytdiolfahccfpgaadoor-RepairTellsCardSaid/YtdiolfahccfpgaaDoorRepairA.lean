/-
  Package repair: the small calls (within, Ascii, Space, Punct, small, strayByte): what each answers, in plain words.
-/
import Derived.Test.YtdiolfahccfpgaaDoorShelf
import Derived.WalkKit
import Derived.BigCall
import Derived.BigQuiet
import Derived.Deep.QuietTactic
import Derived.Lib.Hide
namespace Go.Proofs.YtdiolfahccfpgaaDoor
open Go.RowKit

theorem ret_bool {a b : Bool} (h : a = b) : Ending.returned (.bool a) = .returned (.bool b) := by rw [h]
theorem ret_i32 {a b : Int} (h : a = b) : Ending.returned (.int .i32 a) = .returned (.int .i32 b) := by rw [h]

def inB (x a b : Int) : Bool := decide (a ≤ x) && decide (x ≤ b)
theorem inB_t {x a b : Int} (h1 : a ≤ x) (h2 : x ≤ b) : inB x a b = true := by simp [inB, h1, h2]
theorem inB_f {x a b : Int} (h : ¬ (a ≤ x ∧ x ≤ b)) : inB x a b = false := by simp [inB]; omega
theorem inB_iff (x a b : Int) : inB x a b = true ↔ a ≤ x ∧ x ≤ b := by simp [inB]
def asciiB (c : Int) : Bool := inB c 33 47 || inB c 58 64 || inB c 91 96 || inB c 123 126
def spaceB (r : Int) : Bool := r == 9 || r == 10 || r == 12 || r == 13 || r == 32 || r == 160 || r == 5760 || r == 8239 || r == 8287 || r == 12288 || inB r 8192 8202
def punctB (r : Int) : Bool := if inB r 0 127 then asciiB r else r == 161 || r == 167 || r == 171 || r == 182 || r == 183 || r == 187 || r == 191 || r == 8364 || (inB r 8208 8231 || inB r 8240 8259 || inB r 12289 12305)
def smallI (r : Int) : Int := if inB r 65 90 || (inB r 192 222 && r != 215) then r + 32 else r

theorem within32 (x a b : Int) (w : World) :
    Calls Tryd.prog 20 #[.int .i32 x, .int .i32 a, .int .i32 b] w fun e w' => e = .returned (.bool (inB x a b)) ∧ w = w' := by
  by_cases h1 : a ≤ x
  · go_enter Tryd.func20, Tryd.ntmps20
    go_wp2
    go_ret
    exact ⟨ret_bool (by simp [inB, h1]), rfl⟩
  · go_enter Tryd.func20, Tryd.ntmps20
    go_wp2
    go_ret
    exact ⟨ret_bool (inB_f (by omega)).symm, rfl⟩

theorem within8 (x a b : Int) (w : World) :
    Calls Tryd.prog 21 #[.int .u8 x, .int .u8 a, .int .u8 b] w fun e w' => e = .returned (.bool (inB x a b)) ∧ w = w' := by
  by_cases h1 : a ≤ x
  · go_enter Tryd.func21, Tryd.ntmps21
    go_wp2
    go_ret
    exact ⟨ret_bool (by simp [inB, h1]), rfl⟩
  · go_enter Tryd.func21, Tryd.ntmps21
    go_wp2
    go_ret
    exact ⟨ret_bool (inB_f (by omega)).symm, rfl⟩

theorem ascii_any (c : Int) (w : World) :
    Calls Tryd.prog 11 #[.int .u8 c] w fun e w' => e = .returned (.bool (asciiB c)) ∧ w = w' := by
  go_enter Tryd.func11, Tryd.ntmps11
  go_wp2_with (go_at_call 21; refine (within8 _ _ _ _).mono ?_; rintro e w' ⟨rfl, rfl⟩)
  all_goals (go_ret; exact ⟨ret_bool (by simp [asciiB, *]), rfl⟩)

theorem space_any (r : Int) (w : World) :
    Calls Tryd.prog 7 #[.int .i32 r] w fun e w' => e = .returned (.bool (spaceB r)) ∧ w = w' := by
  go_enter Tryd.func7, Tryd.ntmps7
  go_wp2_with (go_at_call 20; refine (within32 _ _ _ _).mono ?_; rintro e w' ⟨rfl, rfl⟩)
  all_goals (go_ret; exact ⟨ret_bool (by simp [spaceB, *]), rfl⟩)

theorem stray_any (s : ByteArray) (r : Int) (w : World) :
    Calls Tryd.prog 23 #[.string s, .int .i32 r] w fun e w' => e = .returned (.bool (r == 65533 && !Lib.hasPrefix s.data.toList [239, 191, 189])) ∧ w = w' := by
  go_enter Tryd.func23, Tryd.ntmps23
  go_wp2_with (go_at_call 29; refine (Tryd.strings_HasPrefix _ _ _).mono ?_; rintro e w' ⟨rfl, rfl⟩)
  all_goals (go_ret; exact ⟨ret_bool (by simp [*]), rfl⟩)

theorem punct_any (r : Int) (w : World) :
    Calls Tryd.prog 9 #[.int .i32 r] w fun e w' => e = .returned (.bool (punctB r)) ∧ w = w' := by
  by_cases h : inB r 0 127 = true
  · have h' := h
    unfold inB at h'
    simp at h'
    obtain ⟨hl, hu⟩ := h'
    go_enter Tryd.func9, Tryd.ntmps9
    go_wp2_with (first | (go_at_call 20; refine (within32 _ _ _ _).mono ?_; rintro e w' ⟨rfl, rfl⟩) | (go_at_call 11; refine (ascii_any _ _).mono ?_; rintro e w' ⟨rfl, rfl⟩))
    go_ret
    exact ⟨ret_bool (by simp [punctB, *]), rfl⟩
  · go_enter Tryd.func9, Tryd.ntmps9
    go_wp2_with (go_at_call 20; refine (within32 _ _ _ _).mono ?_; rintro e w' ⟨rfl, rfl⟩)
    all_goals (go_ret; exact ⟨ret_bool (by simp [punctB, *]), rfl⟩)

theorem small_any (r : Int) (w : World) :
    Calls Tryd.prog 24 #[.int .i32 r] w fun e w' => e = .returned (.int .i32 (smallI r)) ∧ w = w' := by
  go_enter Tryd.func24, Tryd.ntmps24
  go_wp2_with (go_at_call 20; refine (within32 _ _ _ _).mono ?_; rintro e w' ⟨rfl, rfl⟩)
  · have := (inB_iff r 65 90).1 (by assumption)
    go_ret
    exact ⟨ret_i32 (by rw [IntWalk.wrap32_in _ ⟨by omega, by omega⟩]; simp [smallI, *]), rfl⟩
  · have := (inB_iff r 192 222).1 (by assumption)
    go_ret
    exact ⟨ret_i32 (by rw [IntWalk.wrap32_in _ ⟨by omega, by omega⟩]; simp [smallI, *]), rfl⟩
  all_goals (go_ret; exact ⟨ret_i32 (by simp [smallI, *]), rfl⟩)

end Go.Proofs.YtdiolfahccfpgaaDoor
