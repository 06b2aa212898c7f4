/-
  Plain facts of bits: numbers as sets.
-/
import Derived.Test.YtmmdjbbbjlkmoaaDoorBase
import Derived.Lib.TrailingZeros
import Derived.Laws.Bits64b
namespace Go.Proofs.YtmmdjbbbjlkmoaaDoor
open Go.RowKit
set_option linter.unusedVariables false
set_option linter.unusedSimpArgs false

/-- The set of those below n at which f. -/
def bitsOf (f : Nat → Bool) : Nat → Nat
  | 0 => 0
  | n + 1 => bitsOf f n ||| (if f n then 2 ^ n else 0)
theorem testBit_bitsOf (f : Nat → Bool) (i : Nat) : ∀ n, (bitsOf f n).testBit i = (decide (i < n) && f i)
  | 0 => by simp [bitsOf]
  | n + 1 => by
    rw [bitsOf, Nat.testBit_or, testBit_bitsOf f i n]
    by_cases h : i = n
    · subst h
      cases hf : f i <;> simp [hf, Nat.testBit_two_pow]
    · by_cases h2 : i < n
      · have h3 : i < n + 1 := by omega
        have h4 : ¬ n = i := by omega
        cases hf : f n <;> simp [h2, h3, h4, Nat.testBit_two_pow]
      · have h3 : ¬ i < n + 1 := by omega
        have h4 : ¬ n = i := by omega
        cases hf : f n <;> simp [h2, h3, h4, Nat.testBit_two_pow]
theorem lt_two_pow_of_bits {x n : Nat} (h : ∀ i, n ≤ i → x.testBit i = false) : x < 2 ^ n := Nat.lt_pow_two_of_testBit x h
theorem bitsOf_lt (f : Nat → Bool) (n : Nat) : bitsOf f n < 2 ^ n := lt_two_pow_of_bits fun i hi => by rw [testBit_bitsOf]; simp; omega
theorem testBit_ge {x n i : Nat} (h : x < 2 ^ n) (hi : n ≤ i) : x.testBit i = false := by
  apply Nat.testBit_lt_two_pow
  exact Nat.lt_of_lt_of_le h (Nat.pow_le_pow_right (by decide) hi)
theorem testBit_lt {x n i : Nat} (h : x < 2 ^ n) (hb : x.testBit i = true) : i < n := by
  apply Nat.lt_of_not_le
  intro hi
  rw [testBit_ge h hi] at hb
  cases hb

/-- The least of a set. -/
theorem ctz_spec {x : Nat} (h0 : x ≠ 0) (h : x < 2 ^ 64) : Lib.ctz 64 x < 64 ∧ x.testBit (Lib.ctz 64 x) = true ∧ (∀ i, i < Lib.ctz 64 x → x.testBit i = false) ∧
    ∀ i, (x &&& (x - 1)).testBit i = (x.testBit i && decide (i ≠ Lib.ctz 64 x)) := by
  obtain ⟨m, hm, hk⟩ := Lib.ctzFrom_spec 64 x (by omega) h
  have e : Lib.ctz 64 x = Lib.ctzFrom 64 x := by simp [Lib.ctz, h0]
  rw [e]
  generalize Lib.ctzFrom 64 x = k at *
  have hx1 : x - 1 = 2 ^ k * (2 * m) + (2 ^ k - 1) := by
    have h1 : 1 ≤ 2 ^ k := Nat.one_le_two_pow
    rw [hm, Nat.mul_add, Nat.mul_one]
    omega
  have hb : ∀ i, x.testBit i = (decide (k ≤ i) && (2 * m + 1).testBit (i - k)) := fun i => by
    rw [hm, Nat.mul_comm, Nat.testBit_mul_two_pow]
  have hlt : 2 ^ k - 1 < 2 ^ k := by have := Nat.one_le_two_pow (n := k); omega
  have hb1 : ∀ i, k ≤ i → (x - 1).testBit i = (2 * m).testBit (i - k) := fun i hi => by
    rw [hx1, Nat.testBit_two_pow_mul_add _ hlt, if_neg (by omega)]
  have hk0 : x.testBit k = true := by rw [hb]; simp
  refine ⟨hk, hk0, fun i hi => ?_, fun i => ?_⟩
  · rw [hb, decide_eq_false (by omega)]; rfl
  · rw [Nat.testBit_and]
    by_cases h1 : i < k
    · rw [hb i, decide_eq_false (by omega)]; rfl
    · rw [hb1 i (by omega)]
      by_cases h2 : i = k
      · subst h2; simp
      · obtain ⟨j, rfl⟩ : ∃ j, i = k + (j + 1) := ⟨i - k - 1, by omega⟩
        rw [hb, show k + (j + 1) - k = j + 1 from by omega, Nat.testBit_succ, Nat.testBit_succ, show (2 * m + 1) / 2 = m from by omega, show 2 * m / 2 = m from by omega]
        simp

theorem u64_sub1 (x : Nat) (h0 : x ≠ 0) (h : x < 2 ^ 64) : IntKind.u64.wrap ((x : Int) - 1) = ((x - 1 : Nat) : Int) := by
  rw [IntKind.wrap_u64]
  omega
theorem wrap_pow {k : Nat} (hk : k < 64) : IntKind.u64.wrap ((2 : Int) ^ k) = ((2 ^ k : Nat) : Int) := by
  have h : 2 ^ k < 2 ^ 64 := Nat.pow_lt_pow_right (by decide) hk
  rw [IntKind.wrap_u64, show ((2 : Int) ^ k) = ((2 ^ k : Nat) : Int) from by simp]
  generalize 2 ^ k = p at h ⊢
  omega
/-- What was found; -1. -/
def atI : Option Nat → Int
  | some x => (x : Int)
  | none => -1
/-- The first one is found. -/
theorem find_first {n x : Nat} {p : Nat → Bool} (hx : x < n) (hp : p x = true) (hf : ∀ y, y < x → p y = false) : (List.range n).find? p = some x := by
  rw [List.find?_range_eq_some]
  exact ⟨hp, List.mem_range.2 hx, fun y hy => by simp [hf y hy]⟩
theorem find_none {n : Nat} {p : Nat → Bool} (h : ∀ y, y < n → p y = false) : (List.range n).find? p = none := by
  rw [List.find?_eq_none]
  intro y hy
  rw [h y (List.mem_range.1 hy)]
  decide
theorem and_lt64 {a b : Nat} (ha : a < 2 ^ 64) : a &&& b < 2 ^ 64 := Nat.lt_of_le_of_lt Nat.and_le_left ha
theorem or_lt64 {a b : Nat} (ha : a < 2 ^ 64) (hb : b < 2 ^ 64) : a ||| b < 2 ^ 64 := Nat.or_lt_two_pow ha hb
theorem pow_lt64 {a : Nat} (ha : a < 64) : 2 ^ a < 2 ^ 64 := Nat.pow_lt_pow_right (by decide) ha

end Go.Proofs.YtmmdjbbbjlkmoaaDoor
