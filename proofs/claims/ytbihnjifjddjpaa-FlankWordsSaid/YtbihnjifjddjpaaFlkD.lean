/-
  FlankWords, FlankPuncts: letters, blanks, punctuation around a row.
-/
import Derived.Test.YtbihnjifjddjpaaFlkC
namespace Go.Proofs.Ytbihnjifjddjpaa
open Go.RowKit
set_option linter.unusedVariables false

theorem small_space (x : Int) (h : 97 ≤ x) (h' : x ≤ 122) : spaceB x = false := by
  simp [spaceB, inB]; omega
theorem small_punct (x : Int) (h : 97 ≤ x) (h' : x ≤ 122) : punctB x = false := by
  unfold punctB asciiB
  rw [inB_t (a := 0) (b := 127) (by omega) (by omega), inB_f (a := 33) (b := 47) (by omega), inB_f (a := 58) (b := 64) (by omega), inB_f (a := 91) (b := 96) (by omega), inB_f (a := 123) (b := 126) (by omega)]
  rfl
theorem sign_space (x : Int) (h : (33 ≤ x ∧ x ≤ 47) ∨ (58 ≤ x ∧ x ≤ 64)) : spaceB x = false := by
  simp [spaceB, inB]; omega
theorem sign_punct (x : Int) (h : (33 ≤ x ∧ x ≤ 47) ∨ (58 ≤ x ∧ x ≤ 64)) : punctB x = true := by
  unfold punctB asciiB
  rw [inB_t (a := 0) (b := 127) (by omega) (by omega)]
  rcases h with h | h
  · rw [inB_t (a := 33) (b := 47) (by omega) (by omega)]; rfl
  · rw [inB_t (a := 58) (b := 64) (by omega) (by omega)]; simp
theorem blank_space : spaceB 32 = true := by decide +kernel
theorem blank_punct : punctB 32 = false := by decide +kernel

set_option maxHeartbeats 8000000 in
set_option maxRecDepth 100000 in
theorem flankWords_walk (w : World) (a0 : Int) (w0 : (Lit.int .u8 a0).wf = true) (a1 : Int) (w1 : (Lit.int .u8 a1).wf = true) :
    Calls Try.prog 4 #[.int .u8 a0, .int .u8 a1] w fun e w' => e = .returned (.bool true) ∧ Below w.heap.size w w' := by
  have hal := fun W => alive13_any W
  by_cases h : (97 ≤ a0 ∧ a0 ≤ 122) ∧ 97 ≤ a1 ∧ a1 ≤ 122
  · obtain ⟨⟨h1, h2⟩, h3, h4⟩ := h
    have sx := small_space a0 h1 h2
    have px := small_punct a0 h1 h2
    have sy := small_space a1 h3 h4
    have py := small_punct a1 h3 h4
    have c1 := fun W => opens_any 42 a0 a1 W
    have c2 := fun W => closes_any 42 a0 a1 W
    have c3 := fun W => opens_any 95 a0 a1 W
    have c4 := fun W => closes_any 95 a0 a1 W
    have c5 := fun W => opens_any 95 32 a1 W
    have c6 := fun W => closes_any 95 a0 32 W
    have c7 := fun W => opens_any 42 a0 32 W
    have c8 := fun W => closes_any 42 32 a1 W
    rw [show opensB 42 a0 a1 = true from by simp [opensB, leftB, *]] at c1
    rw [show opensB 42 a1 a0 = true from by simp [opensB, leftB, *]] at c2
    rw [show opensB 95 a0 a1 = false from by simp [opensB, leftB, *]] at c3
    rw [show opensB 95 a1 a0 = false from by simp [opensB, leftB, *]] at c4
    rw [show opensB 95 32 a1 = true from by simp [opensB, leftB, blank_space, blank_punct, *]] at c5
    rw [show opensB 95 32 a0 = true from by simp [opensB, leftB, blank_space, blank_punct, *]] at c6
    rw [show opensB 42 a0 32 = false from by simp [opensB, leftB, blank_space, blank_punct, *]] at c7
    rw [show opensB 42 a1 32 = false from by simp [opensB, leftB, blank_space, blank_punct, *]] at c8
    clear sx px sy py
    go_enter Try.func4, Try.ntmps4
    go_wp2_with fail
    refine (hal _).mono ?_
    rintro e w2 ⟨rfl, b1⟩
    go_wp2_with (first | (with_reducible refine (c1 _).mono ?_; rintro e w' ⟨rfl, rfl⟩) | (with_reducible refine (c2 _).mono ?_; rintro e w' ⟨rfl, rfl⟩) | (with_reducible refine (c3 _).mono ?_; rintro e w' ⟨rfl, rfl⟩) | (with_reducible refine (c4 _).mono ?_; rintro e w' ⟨rfl, rfl⟩) | (with_reducible refine (c5 _).mono ?_; rintro e w' ⟨rfl, rfl⟩) | (with_reducible refine (c6 _).mono ?_; rintro e w' ⟨rfl, rfl⟩) | (with_reducible refine (c7 _).mono ?_; rintro e w' ⟨rfl, rfl⟩) | (with_reducible refine (c8 _).mono ?_; rintro e w' ⟨rfl, rfl⟩))
    go_ret
    exact ⟨rfl, b1⟩
  · have h5 : a0 < 97 ∨ (97 ≤ a0 ∧ 122 < a0) ∨ (97 ≤ a0 ∧ a0 ≤ 122 ∧ a1 < 97) ∨ (97 ≤ a0 ∧ a0 ≤ 122 ∧ 97 ≤ a1 ∧ 122 < a1) := by omega
    clear h
    rcases h5 with h | ⟨h1, h2⟩ | ⟨h1, h2, h3⟩ | ⟨h1, h2, h3, h4⟩ <;> (
      go_enter Try.func4, Try.ntmps4
      go_wp2_with fail
      refine (hal _).mono ?_
      rintro e w2 ⟨rfl, b1⟩
      go_wp2
      go_ret
      exact ⟨rfl, b1⟩)

set_option maxHeartbeats 8000000 in
set_option maxRecDepth 100000 in
theorem puncts_core (w : World) (p a c : Int) (hp : (33 ≤ p ∧ p ≤ 47) ∨ (58 ≤ p ∧ p ≤ 64)) (h3 : 97 ≤ a) (h4 : a ≤ 122) (hc : c = 42 ∨ c = 95) :
    Calls Try.prog 6 #[.int .u8 p, .int .u8 a, .int .u8 c] w fun e w' => e = .returned (.bool true) ∧ Below w.heap.size w w' := by
  have hal := fun W => alive13_any W
  have sx := sign_space p hp
  have px := sign_punct p hp
  have sy := small_space a h3 h4
  have py := small_punct a h3 h4
  have c1 := fun W => opens_any c p a W
  have c2 := fun W => closes_any c p a W
  have c3 := fun W => closes_any c a p W
  have c4 := fun W => opens_any c a p W
  have c5 := fun W => opens_any c 32 p W
  have c6 := fun W => closes_any c 32 p W
  rw [show opensB c p a = true from by rcases hc with rfl | rfl <;> simp [opensB, leftB, *]] at c1 c3
  rw [show opensB c a p = false from by rcases hc with rfl | rfl <;> simp [opensB, leftB, *]] at c2 c4
  rw [show opensB c 32 p = true from by rcases hc with rfl | rfl <;> simp [opensB, leftB, blank_space, blank_punct, *]] at c5
  rw [show opensB c p 32 = false from by rcases hc with rfl | rfl <;> simp [opensB, leftB, blank_space, blank_punct, *]] at c6
  clear sx px sy py
  rcases hp with ⟨h1, h2⟩ | ⟨h1, h2⟩ <;> rcases hc with rfl | rfl <;> (
    go_enter Try.func6, Try.ntmps6
    go_wp2_with fail
    refine (hal _).mono ?_
    rintro e w2 ⟨rfl, b1⟩
    go_wp2_with (first | (with_reducible refine (c1 _).mono ?_; rintro e w' ⟨rfl, rfl⟩) | (with_reducible refine (c2 _).mono ?_; rintro e w' ⟨rfl, rfl⟩) | (with_reducible refine (c3 _).mono ?_; rintro e w' ⟨rfl, rfl⟩) | (with_reducible refine (c4 _).mono ?_; rintro e w' ⟨rfl, rfl⟩) | (with_reducible refine (c5 _).mono ?_; rintro e w' ⟨rfl, rfl⟩) | (with_reducible refine (c6 _).mono ?_; rintro e w' ⟨rfl, rfl⟩))
    go_ret
    exact ⟨rfl, b1⟩)

set_option maxHeartbeats 8000000 in
set_option maxRecDepth 100000 in
theorem puncts_none (w : World) (p a c : Int) (hn : ¬ (((33 ≤ p ∧ p ≤ 47) ∨ (58 ≤ p ∧ p ≤ 64)) ∧ 97 ≤ a ∧ a ≤ 122 ∧ (c = 42 ∨ c = 95))) :
    Calls Try.prog 6 #[.int .u8 p, .int .u8 a, .int .u8 c] w fun e w' => e = .returned (.bool true) ∧ Below w.heap.size w w' := by
  have hal := fun W => alive13_any W
  have h5 : p < 33 ∨ (47 < p ∧ p < 58) ∨ 64 < p ∨ (33 ≤ p ∧ p ≤ 47 ∧ a < 97) ∨ (33 ≤ p ∧ p ≤ 47 ∧ 122 < a) ∨ (33 ≤ p ∧ p ≤ 47 ∧ 97 ≤ a ∧ a ≤ 122 ∧ ¬ c = 42 ∧ ¬ c = 95) ∨ (58 ≤ p ∧ p ≤ 64 ∧ a < 97) ∨ (58 ≤ p ∧ p ≤ 64 ∧ 122 < a) ∨ (58 ≤ p ∧ p ≤ 64 ∧ 97 ≤ a ∧ a ≤ 122 ∧ ¬ c = 42 ∧ ¬ c = 95) := by omega
  clear hn
  rcases h5 with h | ⟨h1, h2⟩ | h | ⟨h1, h2, h3⟩ | ⟨h1, h2, h3⟩ | ⟨h1, h2, h3, h4, h6, h7⟩ | ⟨h1, h2, h3⟩ | ⟨h1, h2, h3⟩ | ⟨h1, h2, h3, h4, h6, h7⟩ <;> (
    try (have e1 : (c != 42) = true := by simp [h6])
    try (have e2 : (c != 95) = true := by simp [h7])
    try clear h6 h7
    go_enter Try.func6, Try.ntmps6
    go_wp2_with fail
    refine (hal _).mono ?_
    rintro e w2 ⟨rfl, b1⟩
    go_wp2
    go_ret
    exact ⟨rfl, b1⟩)

theorem flankPuncts_walk (w : World) (a0 : Int) (w0 : (Lit.int .u8 a0).wf = true) (a1 : Int) (w1 : (Lit.int .u8 a1).wf = true) (a2 : Int) (w2 : (Lit.int .u8 a2).wf = true) :
    Calls Try.prog 6 #[.int .u8 a0, .int .u8 a1, .int .u8 a2] w fun e w' => e = .returned (.bool true) ∧ Below w.heap.size w w' := by
  by_cases h : ((33 ≤ a0 ∧ a0 ≤ 47) ∨ (58 ≤ a0 ∧ a0 ≤ 64)) ∧ 97 ≤ a1 ∧ a1 ≤ 122 ∧ (a2 = 42 ∨ a2 = 95)
  · exact puncts_core w a0 a1 a2 h.1 h.2.1 h.2.2.1 h.2.2.2
  · exact puncts_none w a0 a1 a2 h

end Go.Proofs.Ytbihnjifjddjpaa
