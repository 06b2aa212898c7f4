/-
  The laws' first call 'alive', and RepairClasses' walk.
-/
import Derived.Test.YtdiolfahccfpgaaRepairC
import Derived.KernelRfl
namespace Go.Proofs.Ytdiolfahccfpgaa
open Go.RowKit
set_option linter.unusedSimpArgs false
set_option linter.unusedVariables false

theorem alive_text : textB ⟨#[97, 0, 255, 13, 10, 98, 13]⟩ = [97, 239, 191, 189, 239, 191, 189, 10, 98, 10] := by decide +kernel
theorem alive_fold : foldB ⟨#[32, 32, 195, 132, 32, 98]⟩ = [195, 164, 32, 98] := by decide +kernel
theorem alive_space : spaceB 160 = true := by decide +kernel
theorem alive_ascii : asciiB 126 = true := by decide +kernel
theorem alive_punct : punctB 8364 = true := by decide +kernel

set_option maxHeartbeats 1000000 in
theorem alive_any (w : World) :
    Calls Try.prog 8 #[] w fun e w' => e = .returned (.bool true) ∧ Below w.heap.size w w' := by
  have c1 := fun w1 => text_any ⟨#[97, 0, 255, 13, 10, 98, 13]⟩ w1 (by decide)
  have c2 := fun w1 => fold_any ⟨#[32, 32, 195, 132, 32, 98]⟩ w1 (by decide)
  have c3 := fun w1 => space_any 160 w1
  have c4 := fun w1 => ascii_any 126 w1
  have c5 := fun w1 => punct_any 8364 w1
  rw [alive_text] at c1
  rw [alive_fold] at c2
  rw [alive_space] at c3
  rw [alive_ascii] at c4
  rw [alive_punct] at c5
  go_enter Try.func8, Try.ntmps8
  go_wp2_with fail
  refine (c1 _).mono ?_
  rintro e w1 ⟨rfl, b1⟩
  go_wp2_with fail
  refine (c2 _).mono ?_
  rintro e w2 ⟨rfl, b2⟩
  go_wp2_with fail
  refine (c3 _).mono ?_
  rintro e w3 ⟨rfl, rfl⟩
  go_wp2_with fail
  refine (c4 _).mono ?_
  rintro e w4 ⟨rfl, rfl⟩
  go_wp2_with fail
  refine (c5 _).mono ?_
  rintro e w5 ⟨rfl, rfl⟩
  go_wp2
  go_ret
  exact ⟨rfl, b1.trans (b2.mono b1.size)⟩

theorem space_punct (r : Int) (h : spaceB r = true) : punctB r = false := by
  simp [spaceB, inB] at h
  rcases h with ((((((((((rfl | rfl) | rfl) | rfl) | rfl) | rfl) | rfl) | rfl) | rfl) | rfl) | ⟨h1, h2⟩)
  all_goals first | decide +kernel | skip
  unfold punctB
  rw [inB_f (a := 0) (b := 127) (by omega), inB_f (a := 8208) (b := 8231) (by omega), inB_f (a := 8240) (b := 8259) (by omega), inB_f (a := 12289) (b := 12305) (by omega)]
  simp
  omega
theorem plain_space (r : Int) (h : 48 ≤ r) (h2 : r ≤ 122) : spaceB r = false := by
  simp [spaceB, inB]
  omega
theorem plain_punct (r : Int) (h : (97 ≤ r ∧ r ≤ 122) ∨ (65 ≤ r ∧ r ≤ 90) ∨ (48 ≤ r ∧ r ≤ 57)) : punctB r = false := by
  unfold punctB asciiB
  rw [inB_t (a := 0) (b := 127) (by omega) (by omega), inB_f (a := 33) (b := 47) (by omega), inB_f (a := 58) (b := 64) (by omega), inB_f (a := 91) (b := 96) (by omega), inB_f (a := 123) (b := 126) (by omega)]
  rfl

set_option maxHeartbeats 1000000 in
theorem classes_space (w : World) (a0 : Int) (hn : ¬ (48 ≤ a0 ∧ a0 ≤ 122)) (c11 : ∀ w1 : World, Calls Try.prog 11 #[.int .i32 a0] w1 fun e w' => e = .returned (.bool true) ∧ w1 = w') (c12 : ∀ w1 : World, Calls Try.prog 12 #[.int .i32 a0] w1 fun e w' => e = .returned (.bool false) ∧ w1 = w') :
    Calls Try.prog 6 #[.int .i32 a0] w fun e w' => e = .returned (.bool true) ∧ Below w.heap.size w w' := by
  by_cases h1 : a0 < 48
  · clear hn
    go_enter Try.func6, Try.ntmps6
    go_wp2_with fail
    refine (alive_any _).mono ?_
    rintro e w1 ⟨rfl, b1⟩
    go_wp2_with (first | (go_at_call 11; refine (c11 _).mono ?_; rintro e w' ⟨rfl, rfl⟩) | (go_at_call 12; refine (c12 _).mono ?_; rintro e w' ⟨rfl, rfl⟩))
    all_goals (go_ret; exact ⟨rfl, b1⟩)
  · have h2 : 122 < a0 := by omega
    clear hn h1
    go_enter Try.func6, Try.ntmps6
    go_wp2_with fail
    refine (alive_any _).mono ?_
    rintro e w1 ⟨rfl, b1⟩
    go_wp2_with (first | (go_at_call 11; refine (c11 _).mono ?_; rintro e w' ⟨rfl, rfl⟩) | (go_at_call 12; refine (c12 _).mono ?_; rintro e w' ⟨rfl, rfl⟩))
    all_goals (go_ret; exact ⟨rfl, b1⟩)

set_option maxHeartbeats 1000000 in
theorem classes_other (w : World) (a0 : Int) (c11 : ∀ w1 : World, Calls Try.prog 11 #[.int .i32 a0] w1 fun e w' => e = .returned (.bool false) ∧ w1 = w') (p : Bool) (hp : (97 ≤ a0 ∧ a0 ≤ 122) ∨ (65 ≤ a0 ∧ a0 ≤ 90) ∨ (48 ≤ a0 ∧ a0 ≤ 57) → p = false) (c12 : ∀ w1 : World, Calls Try.prog 12 #[.int .i32 a0] w1 fun e w' => e = .returned (.bool p) ∧ w1 = w') :
    Calls Try.prog 6 #[.int .i32 a0] w fun e w' => e = .returned (.bool true) ∧ Below w.heap.size w w' := by
  by_cases h1 : (97 ≤ a0 ∧ a0 ≤ 122) ∨ (65 ≤ a0 ∧ a0 ≤ 90) ∨ (48 ≤ a0 ∧ a0 ≤ 57)
  · obtain rfl := hp h1
    clear hp
    rcases h1 with ⟨h1, h2⟩ | ⟨h1, h2⟩ | ⟨h1, h2⟩
    all_goals
      go_enter Try.func6, Try.ntmps6
      go_wp2_with fail
      refine (alive_any _).mono ?_
      rintro e w1 ⟨rfl, b1⟩
      go_wp2_with (first | (go_at_call 11; refine (c11 _).mono ?_; rintro e w' ⟨rfl, rfl⟩) | (go_at_call 12; refine (c12 _).mono ?_; rintro e w' ⟨rfl, rfl⟩))
      go_ret
      exact ⟨rfl, b1⟩
  · clear hp
    have h1a : ¬ (97 ≤ a0 ∧ a0 ≤ 122) := by omega
    have h1b : ¬ (65 ≤ a0 ∧ a0 ≤ 90) := by omega
    have h1c : ¬ (48 ≤ a0 ∧ a0 ≤ 57) := by omega
    clear h1
    by_cases g1 : 97 ≤ a0
    all_goals by_cases g2 : 65 ≤ a0
    all_goals by_cases g3 : 48 ≤ a0
    all_goals first | (exfalso; omega) | skip
    all_goals
      go_enter Try.func6, Try.ntmps6
      go_wp2_with fail
      refine (alive_any _).mono ?_
      rintro e w1 ⟨rfl, b1⟩
      go_wp2_with (first | (go_at_call 11; refine (c11 _).mono ?_; rintro e w' ⟨rfl, rfl⟩) | (go_at_call 12; refine (c12 _).mono ?_; rintro e w' ⟨rfl, rfl⟩))
      go_ret
      exact ⟨rfl, b1⟩

theorem repairClasses_walk (w : World) (a0 : Int) (w0 : (Lit.int .i32 a0).wf = true) :
    Calls Try.prog 6 #[.int .i32 a0] w fun e w' => e = .returned (.bool true) ∧ Below w.heap.size w w' := by
  have c11 := fun w1 => space_any a0 w1
  have c12 := fun w1 => punct_any a0 w1
  cases hsp : spaceB a0 with
  | true =>
    rw [hsp] at c11
    rw [space_punct a0 hsp] at c12
    exact classes_space w a0 (fun h => by rw [plain_space a0 h.1 h.2] at hsp; cases hsp) c11 c12
  | false =>
    rw [hsp] at c11
    exact classes_other w a0 c11 _ (plain_punct a0) c12

end Go.Proofs.Ytdiolfahccfpgaa
