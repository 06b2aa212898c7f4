/-
  Package token: the kinds of bytes.
-/
import Derived.Test.YtggdpmaomhmobaaGreatDoorTkP
import Derived.WalkKit
namespace Go.Proofs.YtggdpmaomhmobaaGreatDoor
open Go.RowKit
set_option linter.unusedSimpArgs false
set_option linter.unusedVariables false

theorem tkLetter_any (x : Int) (w : World) :
    Calls Tryz.prog 56 #[.int .u8 x] w fun e w' => e = .returned (.bool (tkLetterI x)) ∧ w = w' := by
  go_enter Tryz.func56, Tryz.ntmps56
  go_wp2
  all_goals (go_ret; exact ⟨ret_bool (by simp [tkLetterI, inR, *] <;> omega), rfl⟩)

theorem tkDigit_any (x : Int) (w : World) :
    Calls Tryz.prog 34 #[.int .u8 x] w fun e w' => e = .returned (.bool (tkDigitI x)) ∧ w = w' := by
  go_enter Tryz.func34, Tryz.ntmps34
  go_wp2
  all_goals (go_ret; exact ⟨ret_bool (by simp [tkDigitI, inR, *] <;> omega), rfl⟩)

theorem tkBlank_any (x : Int) (w : World) :
    Calls Tryz.prog 37 #[.int .u8 x] w fun e w' => e = .returned (.bool (tkBlankI x)) ∧ w = w' := by
  go_enter Tryz.func37, Tryz.ntmps37
  go_wp2
  all_goals (go_ret; exact ⟨ret_bool (by simp [tkBlankI, *]), rfl⟩)

theorem tkInTag_any (x : Int) (w : World) :
    Calls Tryz.prog 61 #[.int .u8 x] w fun e w' => e = .returned (.bool (tkInTagI x)) ∧ w = w' := by
  go_enter Tryz.func61, Tryz.ntmps61
  go_wp2
  all_goals (go_ret; exact ⟨ret_bool (by simp [tkInTagI, *]), rfl⟩)

theorem tkUrl_any (x : Int) (w : World) :
    Calls Tryz.prog 57 #[.int .u8 x] w fun e w' => e = .returned (.bool (tkUrlI x)) ∧ w = w' := by
  go_enter Tryz.func57, Tryz.ntmps57
  go_wp2
  all_goals (go_ret; exact ⟨ret_bool (by simp [tkUrlI, *] <;> omega), rfl⟩)

theorem tkTagName_any (x : Int) (w : World) :
    Calls Tryz.prog 60 #[.int .u8 x] w fun e w' => e = .returned (.bool (tkTagNameI x)) ∧ w = w' := by
  go_enter Tryz.func60, Tryz.ntmps60
  go_wp2_with (first | (go_at_call 56; refine (tkLetter_any _ _).mono ?_; rintro e w' ⟨rfl, rfl⟩) | (go_at_call 34; refine (tkDigit_any _ _).mono ?_; rintro e w' ⟨rfl, rfl⟩))
  all_goals (go_ret; exact ⟨ret_bool (by simp [tkTagNameI, *]), rfl⟩)

theorem tkScheme_any (x : Int) (w : World) :
    Calls Tryz.prog 55 #[.int .u8 x] w fun e w' => e = .returned (.bool (tkSchemeI x)) ∧ w = w' := by
  go_enter Tryz.func55, Tryz.ntmps55
  go_wp2_with (first | (go_at_call 56; refine (tkLetter_any _ _).mono ?_; rintro e w' ⟨rfl, rfl⟩) | (go_at_call 34; refine (tkDigit_any _ _).mono ?_; rintro e w' ⟨rfl, rfl⟩))
  all_goals (go_ret; exact ⟨ret_bool (by simp [tkSchemeI, *]), rfl⟩)

theorem tkHost_any (x : Int) (w : World) :
    Calls Tryz.prog 59 #[.int .u8 x] w fun e w' => e = .returned (.bool (tkHostI x)) ∧ w = w' := by
  go_enter Tryz.func59, Tryz.ntmps59
  go_wp2_with (go_at_call 60; refine (tkTagName_any _ _).mono ?_; rintro e w' ⟨rfl, rfl⟩)
  all_goals (go_ret; exact ⟨ret_bool (by simp [tkHostI, *]), rfl⟩)

theorem tkMail_any (x : Int) (w : World) :
    Calls Tryz.prog 58 #[.int .u8 x] w fun e w' => e = .returned (.bool (tkMailI x)) ∧ w = w' := by
  go_enter Tryz.func58, Tryz.ntmps58
  go_wp2_with (go_at_call 59; refine (tkHost_any _ _).mono ?_; rintro e w' ⟨rfl, rfl⟩)
  all_goals (go_ret; exact ⟨ret_bool (by simp [tkMailI, *]), rfl⟩)

theorem tkWord_any (b : UInt8) (w : World) :
    Calls Tryz.prog 33 #[.int .u8 b.toNat] w fun e w' => e = .returned (.bool (tkWord b)) ∧ w = w' := by
  have c1 := fun W => Tryz.strings_IndexByte ⟨tkStops.toArray⟩ b.toNat W
  go_enter Tryz.func33, Tryz.ntmps33
  go_wp2_with (go_at_call 48; refine (c1 _).mono ?_; rintro e w' ⟨rfl, rfl⟩)
  go_ret
  exact ⟨ret_bool (by simp [tkWord]), rfl⟩

end Go.Proofs.YtggdpmaomhmobaaGreatDoor
