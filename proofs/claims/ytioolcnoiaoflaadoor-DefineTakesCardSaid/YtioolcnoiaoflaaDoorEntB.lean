/-
  Package entity: digit, text, byNumber, byName, At: what each answers, in plain words.
-/
import Derived.Test.YtioolcnoiaoflaaDoorEntA
namespace Go.Proofs.YtioolcnoiaoflaaDoor
open Go.RowKit
set_option linter.unusedSimpArgs false
set_option linter.unusedVariables false

theorem ret_i32b {a b : Int} {c d : Bool} (h : a = b) (k : c = d) : Ending.returned (.tuple #[.int .i32 a, .bool c]) = .returned (.tuple #[.int .i32 b, .bool d]) := by rw [h, k]
theorem ret_strint {a b : ByteArray} {c d : Int} (h : a = b) (k : c = d) : Ending.returned (.tuple #[.string a, .int .i64 c]) = .returned (.tuple #[.string b, .int .i64 d]) := by rw [h, k]

theorem digit_any (r base : Int) (w : World) (hb : base = 10 ∨ base = 16) :
    Calls Tryd.prog 61 #[.int .i32 r, .int .i32 base] w fun e w' => e = .returned (.tuple #[.int .i32 (digV base r), .bool (digOk base r)]) ∧ w = w' := by
  rcases hb with rfl | rfl
  · by_cases h1 : 48 ≤ r ∧ r ≤ 57
    · have HV := Lib.hid (show digV 10 r = r - 48 ∧ digOk 10 r = true from by simp [digV, digOk, (inR_iff _ _ _).2 h1])
      obtain ⟨h1, h2⟩ := h1
      go_enter Tryd.func61, Tryd.ntmps61
      go_wp2
      go_ret2
      exact ⟨ret_i32b HV.out.1.symm HV.out.2.symm, rfl⟩
    · have HV := Lib.hid (show digV 10 r = 0 ∧ digOk 10 r = false from by simp [digV, digOk, (inR_f _ _ _).2 h1])
      go_enter Tryd.func61, Tryd.ntmps61
      go_wp2
      all_goals first | omega | (go_ret2; exact ⟨ret_i32b HV.out.1.symm HV.out.2.symm, rfl⟩)
  · by_cases h1 : 48 ≤ r ∧ r ≤ 57
    · have HV := Lib.hid (show digV 16 r = r - 48 ∧ digOk 16 r = true from by simp [digV, digOk, (inR_iff _ _ _).2 h1])
      obtain ⟨h1, h2⟩ := h1
      go_enter Tryd.func61, Tryd.ntmps61
      go_wp2
      go_ret2
      exact ⟨ret_i32b HV.out.1.symm HV.out.2.symm, rfl⟩
    · have n1 := (inR_f _ _ _).2 h1
      by_cases h2 : 97 ≤ r ∧ r ≤ 102
      · have HV := Lib.hid (show digV 16 r = r - 97 + 10 ∧ digOk 16 r = true from by simp [digV, digOk, n1, (inR_iff _ _ _).2 h2]; omega)
        clear n1 h1
        obtain ⟨h1, h2⟩ := h2
        go_enter Tryd.func61, Tryd.ntmps61
        go_wp2
        go_ret2
        exact ⟨ret_i32b HV.out.1.symm HV.out.2.symm, rfl⟩
      · have n2 := (inR_f _ _ _).2 h2
        by_cases h3 : 65 ≤ r ∧ r ≤ 70
        · have HV := Lib.hid (show digV 16 r = r - 65 + 10 ∧ digOk 16 r = true from by simp [digV, digOk, n1, n2, (inR_iff _ _ _).2 h3]; omega)
          clear n1 n2 h1 h2
          obtain ⟨h1, h2⟩ := h3
          go_enter Tryd.func61, Tryd.ntmps61
          go_wp2
          go_ret2
          exact ⟨ret_i32b HV.out.1.symm HV.out.2.symm, rfl⟩
        · have HV := Lib.hid (show digV 16 r = 0 ∧ digOk 16 r = false from by simp [digV, digOk, n1, n2, (inR_f _ _ _).2 h3])
          clear n1 n2
          go_enter Tryd.func61, Tryd.ntmps61
          go_wp2
          all_goals first | omega | (go_ret2; exact ⟨ret_i32b HV.out.1.symm HV.out.2.symm, rfl⟩)

theorem validRune_ok (v : Int) (h : v ≠ 0) : Lib.validRune v = okRune v := by
  rw [Bool.eq_iff_iff]
  simp [Lib.validRune, okRune, inR]
  omega
theorem etext_any (v : Int) (w : World) :
    Calls Tryd.prog 60 #[.int .i32 v] w fun e w' => e = .returned (.string (chrB v)) ∧ w = w' := by
  by_cases h0 : v = 0
  · subst h0
    have HV := Lib.hid (show chrB 0 = Utf8.encode 65533 from rfl)
    go_enter Tryd.func60, Tryd.ntmps60
    go_wp2
    go_ret
    exact ⟨ret_string HV.out.symm, rfl⟩
  · have f0 : (v == 0) = false := by simpa using h0
    have hr := Tryd.utf8_ValidRune v w
    rw [validRune_ok v h0] at hr
    cases ho : okRune v with
    | false =>
      have HV := Lib.hid (show chrB v = Utf8.encode 65533 from by simp [chrB, ho])
      rw [ho] at hr
      have HR := Lib.hid hr
      clear hr ho h0
      go_enter Tryd.func60, Tryd.ntmps60
      go_wp2_with (go_at_call 56; refine HR.out.mono ?_; rintro e w' ⟨rfl, rfl⟩)
      go_ret
      exact ⟨ret_string HV.out.symm, rfl⟩
    | true =>
      have HV := Lib.hid (show chrB v = Utf8.encode v from by simp [chrB, ho])
      rw [ho] at hr
      have HR := Lib.hid hr
      clear hr ho h0
      go_enter Tryd.func60, Tryd.ntmps60
      go_wp2_with (go_at_call 56; refine HR.out.mono ?_; rintro e w' ⟨rfl, rfl⟩)
      go_ret
      exact ⟨ret_string HV.out.symm, rfl⟩

end Go.Proofs.YtioolcnoiaoflaaDoor
