/-
  The laws of chapter 13: their first call; turned around, what may open may close; letters, ends of a text, punctuation.
-/
import Derived.Test.YtbihnjifjddjpaaFlkB
namespace Go.Proofs.Ytbihnjifjddjpaa
open Go.RowKit
set_option linter.unusedVariables false

theorem alive_around : bsB ⟨#[195, 169, 42, 120]⟩ 2 = (233, 42) ∧ bsB ⟨#[195, 169, 42, 120]⟩ 3 = (42, 120) := by decide +kernel
theorem alive13_a (w : World) : Calls Try.prog 12 #[.string ⟨#[195, 169, 42, 120]⟩, .int .i64 2, .int .i64 3] w fun e w' => e = .returned (.tuple #[.int .i32 233, .int .i32 120]) ∧ Below w.heap.size w w' := by
  have h := around_any ⟨#[195, 169, 42, 120]⟩ 2 3 w (by decide)
  unfold aroundB at h
  rw [alive_around.1, alive_around.2] at h
  exact h
set_option maxHeartbeats 8000000 in
set_option maxRecDepth 100000 in
theorem alive13_any (w : World) :
    Calls Try.prog 7 #[] w fun e w' => e = .returned (.bool true) ∧ Below w.heap.size w w' := by
  have c1 := alive13_a w
  have c2 := fun W => opens_any 42 32 97 W
  have c3 := fun W => opens_any 95 97 98 W
  have c4 := fun W => closes_any 42 97 32 W
  have c5 := fun W => left_any 97 32 W
  rw [show opensB 42 32 97 = true from by decide +kernel] at c2 c4
  rw [show opensB 95 97 98 = false from by decide +kernel] at c3
  rw [show leftB 97 32 = false from by decide +kernel] at c5
  go_enter Try.func7, Try.ntmps7
  go_wp2_with fail
  refine c1.mono ?_
  rintro e w1 ⟨rfl, b1⟩
  go_wp2_with (first | (with_reducible refine (c2 _).mono ?_; rintro e w' ⟨rfl, rfl⟩) | (with_reducible refine (c3 _).mono ?_; rintro e w' ⟨rfl, rfl⟩) | (with_reducible refine (c4 _).mono ?_; rintro e w' ⟨rfl, rfl⟩) | (with_reducible refine (c5 _).mono ?_; rintro e w' ⟨rfl, rfl⟩))
  go_ret
  exact ⟨rfl, b1⟩

theorem opens_none (c b a : Int) (h : ¬ c = 42) (h' : ¬ c = 95) : opensB c b a = false := by simp [opensB, h, h']
theorem opens_under (b a : Int) (h : opensB 95 b a = true) : opensB 42 b a = true := by
  simp [opensB] at h ⊢; exact h.1

set_option maxHeartbeats 8000000 in
set_option maxRecDepth 100000 in
theorem turns_core (w : World) (c b a : Int) (o l u t : Bool) (h4 : u = true → t = true)
    (c1 : ∀ W : World, Calls Try.prog 8 #[.int .u8 c, .int .i32 b, .int .i32 a] W fun e w' => e = .returned (.bool o) ∧ W = w')
    (c2 : ∀ W : World, Calls Try.prog 9 #[.int .u8 c, .int .i32 a, .int .i32 b] W fun e w' => e = .returned (.bool o) ∧ W = w')
    (c3 : ∀ W : World, Calls Try.prog 10 #[.int .i32 b, .int .i32 a] W fun e w' => e = .returned (.bool l) ∧ W = w')
    (c4 : ∀ W : World, Calls Try.prog 11 #[.int .i32 a, .int .i32 b] W fun e w' => e = .returned (.bool l) ∧ W = w')
    (c5 : ∀ W : World, Calls Try.prog 8 #[.int .u8 95, .int .i32 b, .int .i32 a] W fun e w' => e = .returned (.bool u) ∧ W = w')
    (c6 : ∀ W : World, Calls Try.prog 8 #[.int .u8 42, .int .i32 b, .int .i32 a] W fun e w' => e = .returned (.bool t) ∧ W = w')
    (f1 f2 : Bool) (hf1 : (c == 42) = f1) (hf2 : (c == 95) = f2) (h3 : f1 = true ∨ f2 = true ∨ o = false) :
    Calls Try.prog 3 #[.int .u8 c, .int .i32 b, .int .i32 a] w fun e w' => e = .returned (.bool true) ∧ Below w.heap.size w w' := by
  have hal := alive13_any w
  have hoo : (o == o) = true := by simp
  have hll : (l == l) = true := by simp
  have h5 : (f1 = true) ∨ (f1 = false ∧ f2 = true) ∨ (f1 = false ∧ f2 = false ∧ o = false) := by
    rcases h3 with h | h | h
    · exact Or.inl h
    · cases f1
      · exact Or.inr (Or.inl ⟨rfl, h⟩)
      · exact Or.inl rfl
    · cases f1
      · cases f2
        · exact Or.inr (Or.inr ⟨rfl, rfl, h⟩)
        · exact Or.inr (Or.inl ⟨rfl, rfl⟩)
      · exact Or.inl rfl
  have h6 : u = false ∨ (u = true ∧ t = true) := by
    cases u
    · exact Or.inl rfl
    · exact Or.inr ⟨rfl, h4 rfl⟩
  clear h3 h4
  rcases h5 with rfl | ⟨rfl, rfl⟩ | ⟨rfl, rfl, rfl⟩ <;> rcases h6 with rfl | ⟨rfl, rfl⟩ <;> (
    go_enter Try.func3, Try.ntmps3
    go_wp2_with fail
    refine hal.mono ?_
    rintro e w1 ⟨rfl, b1⟩
    go_wp2_with (first | (with_reducible refine (c1 _).mono ?_; rintro e w' ⟨rfl, rfl⟩) | (with_reducible refine (c2 _).mono ?_; rintro e w' ⟨rfl, rfl⟩) | (with_reducible refine (c3 _).mono ?_; rintro e w' ⟨rfl, rfl⟩) | (with_reducible refine (c4 _).mono ?_; rintro e w' ⟨rfl, rfl⟩) | (with_reducible refine (c5 _).mono ?_; rintro e w' ⟨rfl, rfl⟩) | (with_reducible refine (c6 _).mono ?_; rintro e w' ⟨rfl, rfl⟩))
    go_ret
    exact ⟨rfl, b1⟩)

theorem flankTurns_walk (w : World) (a0 : Int) (w0 : (Lit.int .u8 a0).wf = true) (a1 : Int) (w1 : (Lit.int .i32 a1).wf = true) (a2 : Int) (w2 : (Lit.int .i32 a2).wf = true) :
    Calls Try.prog 3 #[.int .u8 a0, .int .i32 a1, .int .i32 a2] w fun e w' => e = .returned (.bool true) ∧ Below w.heap.size w w' := by
  refine turns_core w a0 a1 a2 (opensB a0 a1 a2) (leftB a1 a2) (opensB 95 a1 a2) (opensB 42 a1 a2) (opens_under a1 a2) (fun W => opens_any a0 a1 a2 W) (fun W => closes_any a0 a2 a1 W) (fun W => left_any a1 a2 W) (fun W => right_any a2 a1 W) (fun W => opens_any 95 a1 a2 W) (fun W => opens_any 42 a1 a2 W) _ _ rfl rfl ?_
  by_cases h : a0 = 42
  · exact Or.inl (by simp [h])
  · by_cases h' : a0 = 95
    · exact Or.inr (Or.inl (by simp [h']))
    · exact Or.inr (Or.inr (opens_none _ _ _ h h'))

theorem bsFrom_zero (z : ByteArray) (e : Bool) (f : Nat) (h : 0 < z.size → 0 < f) (he : z.size = 0 → e = true) : (bsFrom z 0 e f 0 10).1 = 10 := by
  by_cases hz : 0 < z.size
  · obtain ⟨g, rfl⟩ : ∃ g, f = g + 1 := ⟨f - 1, by have := h hz; omega⟩
    simp [bsFrom, hz]
  · rw [bsFrom_end z 0 e f 0 10 hz, he (by omega)]; rfl
theorem bsFrom_last (z : ByteArray) (k : Nat) (e : Bool) (hk : z.size ≤ k) : ∀ (f pos : Nat) (last : Int), (bsFrom z k e f pos last).2 = 10
  | 0, pos, last => by cases e <;> rfl
  | f + 1, pos, last => by
    by_cases hp : pos < z.size
    · unfold bsFrom
      rw [if_pos hp, if_neg (by omega)]
      exact bsFrom_last z k e hk f _ _
    · rw [bsFrom_end z k e _ pos last hp]; cases e <;> rfl
theorem ends_first (s : ByteArray) : (bsB s 0).1 = 10 := by
  rw [show (0 : Int) = ((0 : Nat) : Int) from rfl, bsB_in s 0 (Nat.zero_le _)]
  refine bsFrom_zero _ _ _ (fun h => h) (fun h => ?_)
  rw [ByteArray.size_extract] at h
  simp only [beq_iff_eq]; omega
theorem ends_last (s : ByteArray) : (bsB s s.size).2 = 10 := by
  rw [bsB_in s s.size (Nat.le_refl _)]
  refine bsFrom_last _ _ _ ?_ _ _ _
  rw [ByteArray.size_extract]; omega
set_option maxHeartbeats 8000000 in
set_option maxRecDepth 100000 in
theorem flankEnds_walk (w : World) (a0 : ByteArray) (w0 : a0.size ≤ maxLen) :
    Calls Try.prog 5 #[.string a0] w fun e w' => e = .returned (.bool true) ∧ Below w.heap.size w w' := by
  have hal := fun W => alive13_any W
  by_cases hl : (a0.size : Int) ≤ 100
  · have c1 := fun W => around_any a0 0 a0.size W (by omega)
    have c2 := fun W => around_any a0 (-1) (-1) W (by omega)
    unfold aroundB at c1 c2
    rw [ends_first, ends_last] at c1
    rw [bsB_out a0 (-1) (Or.inl (by decide))] at c2
    go_enter Try.func5, Try.ntmps5
    go_wp2_with fail
    refine (hal _).mono ?_
    rintro e w1 ⟨rfl, b1⟩
    go_wp2_with fail
    refine (c1 _).mono ?_
    rintro e w2 ⟨rfl, b2⟩
    go_wp2_with fail
    refine (c2 _).mono ?_
    rintro e w3 ⟨rfl, b3⟩
    go_wp2
    go_ret
    exact ⟨rfl, (b1.then b2).then b3⟩
  · go_enter Try.func5, Try.ntmps5
    go_wp2_with fail
    refine (hal _).mono ?_
    rintro e w1 ⟨rfl, b1⟩
    go_wp2
    go_ret
    exact ⟨rfl, b1⟩

end Go.Proofs.Ytbihnjifjddjpaa
