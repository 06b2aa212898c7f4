/-
  Plain facts of bits: numbers as sets.
  Package lattice, plain: who is not above whom, by pairs; the least one above two; what New answers.
  Plain facts of lattices: what joins and meets are, and which laws they keep.
-/
import Derived.Test.YtkcmhdkhdjmjeaaGreatDoorBase
import Derived.Lib.TrailingZeros
import Derived.Laws.Bits64b
namespace Go.Proofs.YtkcmhdkhdjmjeaaGreatDoor
open Go.RowKit
set_option linter.unusedVariables false
set_option linter.unusedSimpArgs false

/-- The set of those below n at which f. -/
def bitsOf (f : Nat → Bool) : Nat → Nat
  | 0 => 0
  | n + 1 => bitsOf f n ||| (if f n then 2 ^ n else 0)
theorem testBit_bitsOf (f : Nat → Bool) (i : Nat) : ∀ n, (bitsOf f n).testBit i = (decide (i < n) && f i)
  | 0 => by simp [bitsOf]
  | n + 1 => by
    rw [bitsOf, Nat.testBit_or, testBit_bitsOf f i n]
    by_cases h : i = n
    · subst h
      cases hf : f i <;> simp [hf, Nat.testBit_two_pow]
    · by_cases h2 : i < n
      · have h3 : i < n + 1 := by omega
        have h4 : ¬ n = i := by omega
        cases hf : f n <;> simp [h2, h3, h4, Nat.testBit_two_pow]
      · have h3 : ¬ i < n + 1 := by omega
        have h4 : ¬ n = i := by omega
        cases hf : f n <;> simp [h2, h3, h4, Nat.testBit_two_pow]
theorem lt_two_pow_of_bits {x n : Nat} (h : ∀ i, n ≤ i → x.testBit i = false) : x < 2 ^ n := Nat.lt_pow_two_of_testBit x h
theorem bitsOf_lt (f : Nat → Bool) (n : Nat) : bitsOf f n < 2 ^ n := lt_two_pow_of_bits fun i hi => by rw [testBit_bitsOf]; simp; omega
theorem testBit_ge {x n i : Nat} (h : x < 2 ^ n) (hi : n ≤ i) : x.testBit i = false := by
  apply Nat.testBit_lt_two_pow
  exact Nat.lt_of_lt_of_le h (Nat.pow_le_pow_right (by decide) hi)
theorem testBit_lt {x n i : Nat} (h : x < 2 ^ n) (hb : x.testBit i = true) : i < n := by
  apply Nat.lt_of_not_le
  intro hi
  rw [testBit_ge h hi] at hb
  cases hb

/-- The least of a set. -/
theorem ctz_spec {x : Nat} (h0 : x ≠ 0) (h : x < 2 ^ 64) : Lib.ctz 64 x < 64 ∧ x.testBit (Lib.ctz 64 x) = true ∧ (∀ i, i < Lib.ctz 64 x → x.testBit i = false) ∧
    ∀ i, (x &&& (x - 1)).testBit i = (x.testBit i && decide (i ≠ Lib.ctz 64 x)) := by
  obtain ⟨m, hm, hk⟩ := Lib.ctzFrom_spec 64 x (by omega) h
  have e : Lib.ctz 64 x = Lib.ctzFrom 64 x := by simp [Lib.ctz, h0]
  rw [e]
  generalize Lib.ctzFrom 64 x = k at *
  have hx1 : x - 1 = 2 ^ k * (2 * m) + (2 ^ k - 1) := by
    have h1 : 1 ≤ 2 ^ k := Nat.one_le_two_pow
    rw [hm, Nat.mul_add, Nat.mul_one]
    omega
  have hb : ∀ i, x.testBit i = (decide (k ≤ i) && (2 * m + 1).testBit (i - k)) := fun i => by
    rw [hm, Nat.mul_comm, Nat.testBit_mul_two_pow]
  have hlt : 2 ^ k - 1 < 2 ^ k := by have := Nat.one_le_two_pow (n := k); omega
  have hb1 : ∀ i, k ≤ i → (x - 1).testBit i = (2 * m).testBit (i - k) := fun i hi => by
    rw [hx1, Nat.testBit_two_pow_mul_add _ hlt, if_neg (by omega)]
  have hk0 : x.testBit k = true := by rw [hb]; simp
  refine ⟨hk, hk0, fun i hi => ?_, fun i => ?_⟩
  · rw [hb, decide_eq_false (by omega)]; rfl
  · rw [Nat.testBit_and]
    by_cases h1 : i < k
    · rw [hb i, decide_eq_false (by omega)]; rfl
    · rw [hb1 i (by omega)]
      by_cases h2 : i = k
      · subst h2; simp
      · obtain ⟨j, rfl⟩ : ∃ j, i = k + (j + 1) := ⟨i - k - 1, by omega⟩
        rw [hb, show k + (j + 1) - k = j + 1 from by omega, Nat.testBit_succ, Nat.testBit_succ, show (2 * m + 1) / 2 = m from by omega, show 2 * m / 2 = m from by omega]
        simp

theorem u64_sub1 (x : Nat) (h0 : x ≠ 0) (h : x < 2 ^ 64) : IntKind.u64.wrap ((x : Int) - 1) = ((x - 1 : Nat) : Int) := by
  rw [IntKind.wrap_u64]
  omega
theorem wrap_pow {k : Nat} (hk : k < 64) : IntKind.u64.wrap ((2 : Int) ^ k) = ((2 ^ k : Nat) : Int) := by
  have h : 2 ^ k < 2 ^ 64 := Nat.pow_lt_pow_right (by decide) hk
  rw [IntKind.wrap_u64, show ((2 : Int) ^ k) = ((2 ^ k : Nat) : Int) from by simp]
  generalize 2 ^ k = p at h ⊢
  omega
/-- What was found; -1. -/
def atI : Option Nat → Int
  | some x => (x : Int)
  | none => -1
/-- The first one is found. -/
theorem find_first {n x : Nat} {p : Nat → Bool} (hx : x < n) (hp : p x = true) (hf : ∀ y, y < x → p y = false) : (List.range n).find? p = some x := by
  rw [List.find?_range_eq_some]
  exact ⟨hp, List.mem_range.2 hx, fun y hy => by simp [hf y hy]⟩
theorem find_none {n : Nat} {p : Nat → Bool} (h : ∀ y, y < n → p y = false) : (List.range n).find? p = none := by
  rw [List.find?_eq_none]
  intro y hy
  rw [h y (List.mem_range.1 hy)]
  decide
theorem and_lt64 {a b : Nat} (ha : a < 2 ^ 64) : a &&& b < 2 ^ 64 := Nat.lt_of_le_of_lt Nat.and_le_left ha
theorem or_lt64 {a b : Nat} (ha : a < 2 ^ 64) (hb : b < 2 ^ 64) : a ||| b < 2 ^ 64 := Nat.or_lt_two_pow ha hb
theorem pow_lt64 {a : Nat} (ha : a < 64) : 2 ^ a < 2 ^ 64 := Nat.pow_lt_pow_right (by decide) ha

end Go.Proofs.YtkcmhdkhdjmjeaaGreatDoor

namespace Go.Proofs.YtkcmhdkhdjmjeaaGreatDoor
set_option linter.unusedVariables false
set_option linter.unusedSimpArgs false

abbrev Rel := Nat → Nat → Bool
def warStep (k : Nat) (R : Rel) : Rel := fun a b => R a b || (R a k && R k b)
def warN (R : Rel) : Nat → Rel
  | 0 => R
  | k + 1 => warStep k (warN R k)
def baseR (ps : List (Int × Int)) : Rel := fun a b => decide (a = b) || ps.contains ((a : Int), (b : Int))
/-- a is b, or comes to b by pairs. -/
def leqS (n : Nat) (ps : List (Int × Int)) : Rel := warN (baseR ps) n
def flipR (R : Rel) : Rel := fun a b => R b a

theorem warN_trans (R : Rel) : ∀ k a b m, m < k → warN R k a m = true → warN R k m b = true → warN R k a b = true
  | 0, a, b, m, h, _, _ => absurd h (Nat.not_lt_zero _)
  | k + 1, a, b, m, h, h1, h2 => by
    have ih := warN_trans R k
    simp only [warN, warStep, Bool.or_eq_true, Bool.and_eq_true] at h1 h2 ⊢
    by_cases hm : m = k
    · subst hm
      refine Or.inr ⟨?_, ?_⟩
      · rcases h1 with h1 | h1
        · exact h1
        · exact h1.1
      · rcases h2 with h2 | h2
        · exact h2
        · exact h2.2
    · have hmk : m < k := by omega
      rcases h1 with h1 | h1 <;> rcases h2 with h2 | h2
      · exact Or.inl (ih a b m hmk h1 h2)
      · exact Or.inr ⟨ih a k m hmk h1 h2.1, h2.2⟩
      · exact Or.inr ⟨h1.1, ih k b m hmk h1.2 h2⟩
      · exact Or.inr ⟨h1.1, h2.2⟩
theorem warN_base (R : Rel) : ∀ k a b, R a b = true → warN R k a b = true
  | 0, a, b, h => h
  | k + 1, a, b, h => by
    simp only [warN, warStep, Bool.or_eq_true]
    exact Or.inl (warN_base R k a b h)
theorem warN_least (R T : Rel) (n : Nat) (hT : ∀ a b m, a < n → b < n → m < n → T a m = true → T m b = true → T a b = true) (hb : ∀ a b, a < n → b < n → R a b = true → T a b = true) :
    ∀ k, k ≤ n → ∀ a b, a < n → b < n → warN R k a b = true → T a b = true
  | 0, _, a, b, ha, hb', h => hb a b ha hb' h
  | k + 1, hk, a, b, ha, hb', h => by
    have ih := warN_least R T n hT hb k (by omega)
    simp only [warN, warStep, Bool.or_eq_true, Bool.and_eq_true] at h
    rcases h with h | h
    · exact ih a b ha hb' h
    · exact hT a b k ha hb' (by omega) (ih a k ha (by omega) h.1) (ih k b (by omega) hb' h.2)
theorem leqS_refl (n : Nat) (ps : List (Int × Int)) (a : Nat) : leqS n ps a a = true := warN_base _ _ _ _ (by simp [baseR])
theorem leqS_trans {n : Nat} {ps : List (Int × Int)} {a b m : Nat} (hm : m < n) (h1 : leqS n ps a m = true) (h2 : leqS n ps m b = true) : leqS n ps a b = true := warN_trans _ _ _ _ _ hm h1 h2

/-- The least one above both; -1. -/
def joinR (n : Nat) (R : Rel) (a b : Nat) : Int :=
  atI ((List.range n).find? fun x => R a x && R b x && (List.range n).all fun y => !(R a y && R b y) || R x y)
def meetR (n : Nat) (R : Rel) (a b : Nat) : Int := joinR n (flipR R) a b
def topR (n : Nat) (R : Rel) : Int :=
  atI ((List.range n).find? fun x => (List.range n).all fun y => R y x)
def botR (n : Nat) (R : Rel) : Int := topR n (flipR R)
def Sound (n : Nat) (R : Rel) : Prop := (∀ a, a < n → ∀ b, b < n → R a b = true → R b a = true → a = b) ∧ (∀ a, a < n → ∀ b, b < n → 0 ≤ joinR n R a b) ∧ (∀ a, a < n → ∀ b, b < n → 0 ≤ meetR n R a b)
instance (n : Nat) (R : Rel) : Decidable (Sound n R) := by unfold Sound; infer_instance

/-- Are two answers the same where it counts? -/
theorem find_congr {α : Type} {p q : α → Bool} : ∀ {l : List α}, (∀ x ∈ l, p x = q x) → l.find? p = l.find? q
  | [], _ => rfl
  | x :: l, h => by
    rw [List.find?_cons, List.find?_cons, h x (by simp), find_congr fun y hy => h y (by simp [hy])]
theorem all_congr {α : Type} {p q : α → Bool} : ∀ {l : List α}, (∀ x ∈ l, p x = q x) → l.all p = l.all q
  | [], _ => rfl
  | x :: l, h => by
    rw [List.all_cons, List.all_cons, h x (by simp), all_congr fun y hy => h y (by simp [hy])]
def SameR (n : Nat) (R T : Rel) : Prop := ∀ a b, a < n → b < n → R a b = T a b
theorem SameR.flip {n : Nat} {R T : Rel} (h : SameR n R T) : SameR n (flipR R) (flipR T) := fun a b ha hb => h b a hb ha
theorem SameR.join {n : Nat} {R T : Rel} (h : SameR n R T) {a b : Nat} (ha : a < n) (hb : b < n) : joinR n R a b = joinR n T a b := by
  unfold joinR
  refine congrArg atI (find_congr ?_)
  intro x hx
  have hx' := List.mem_range.1 hx
  rw [h a x ha hx', h b x hb hx', all_congr (q := fun y => !(T a y && T b y) || T x y)]
  intro y hy
  have hy' := List.mem_range.1 hy
  rw [h a y ha hy', h b y hb hy', h x y hx' hy']
theorem SameR.meet {n : Nat} {R T : Rel} (h : SameR n R T) {a b : Nat} (ha : a < n) (hb : b < n) : meetR n R a b = meetR n T a b := h.flip.join ha hb
theorem SameR.top {n : Nat} {R T : Rel} (h : SameR n R T) : topR n R = topR n T := by
  unfold topR
  refine congrArg atI (find_congr ?_)
  intro x hx
  rw [all_congr]
  intro y hy
  exact h y x (List.mem_range.1 hy) (List.mem_range.1 hx)
theorem SameR.bot {n : Nat} {R T : Rel} (h : SameR n R T) : botR n R = botR n T := h.flip.top
theorem SameR.sound {n : Nat} {R T : Rel} (h : SameR n R T) (hs : Sound n R) : Sound n T := by
  refine ⟨fun a ha b hb h1 h2 => hs.1 a ha b hb ?_ ?_, fun a ha b hb => ?_, fun a ha b hb => ?_⟩
  · rw [h a b ha hb]; exact h1
  · rw [h b a hb ha]; exact h2
  · rw [← h.join ha hb]; exact hs.2.1 a ha b hb
  · rw [← h.meet ha hb]; exact hs.2.2 a ha b hb
theorem SameR.symm {n : Nat} {R T : Rel} (h : SameR n R T) : SameR n T R := fun a b ha hb => (h a b ha hb).symm
theorem sameR_of {n : Nat} {ps : List (Int × Int)} {T : Rel} (hT : ∀ a b m, a < n → b < n → m < n → T a m = true → T m b = true → T a b = true) (hb : ∀ a b, a < n → b < n → baseR ps a b = true → T a b = true)
    (hc : ∀ a b, a < n → b < n → T a b = true → leqS n ps a b = true) : SameR n (leqS n ps) T := by
  intro a b ha hb'
  apply Bool.eq_iff_iff.2
  exact ⟨fun h => warN_least _ T n hT hb n (Nat.le_refl _) a b ha hb' h, hc a b ha hb'⟩

/-- What find? finds. -/
theorem find_range {n : Nat} {p : Nat → Bool} : (∃ x, (List.range n).find? p = some x ∧ x < n ∧ p x = true) ∨ ((List.range n).find? p = none ∧ ∀ x, x < n → p x = false) := by
  cases h : (List.range n).find? p with
  | none =>
    refine Or.inr ⟨rfl, fun x hx => ?_⟩
    have := List.find?_eq_none.1 h x (List.mem_range.2 hx)
    simpa using this
  | some x =>
    exact Or.inl ⟨x, rfl, List.mem_range.1 (List.mem_of_find?_eq_some h), List.find?_some h⟩

def IsJoin (n : Nat) (R : Rel) (a b x : Nat) : Prop := x < n ∧ R a x = true ∧ R b x = true ∧ ∀ y, y < n → R a y = true → R b y = true → R x y = true
theorem joinR_some {n : Nat} {R : Rel} {a b : Nat} (h : 0 ≤ joinR n R a b) : ∃ x : Nat, joinR n R a b = (x : Int) ∧ IsJoin n R a b x := by
  unfold joinR at h ⊢
  rcases find_range (n := n) (p := fun x => R a x && R b x && (List.range n).all fun y => !(R a y && R b y) || R x y) with ⟨x, hx, hn, hp⟩ | ⟨hx, _⟩
  · rw [hx]
    refine ⟨x, rfl, hn, ?_⟩
    simp only [Bool.and_eq_true, List.all_eq_true, List.mem_range, Bool.or_eq_true, Bool.not_eq_true'] at hp
    refine ⟨hp.1.1, hp.1.2, fun y hy h1 h2 => ?_⟩
    rcases hp.2 y hy with h3 | h3
    · rw [h1, h2] at h3; cases h3
    · exact h3
  · rw [hx] at h
    exact absurd h (by decide)
theorem joinR_range (n : Nat) (R : Rel) (a b : Nat) : -1 ≤ joinR n R a b ∧ joinR n R a b < n ∨ joinR n R a b = -1 := by
  unfold joinR
  rcases find_range (n := n) (p := fun x => R a x && R b x && (List.range n).all fun y => !(R a y && R b y) || R x y) with ⟨x, hx, hn, hp⟩ | ⟨hx, _⟩
  · rw [hx]; left; simp only [atI]; omega
  · rw [hx]; right; rfl
theorem joinR_none {n : Nat} {R : Rel} {a b : Nat} (h : ∀ x, ¬ IsJoin n R a b x) : joinR n R a b = -1 := by
  by_cases h0 : 0 ≤ joinR n R a b
  · obtain ⟨x, _, hx⟩ := joinR_some h0
    exact absurd hx (h x)
  · rcases joinR_range n R a b with h1 | h1
    · omega
    · exact h1
theorem joinR_nonneg {n : Nat} {R : Rel} {a b x : Nat} (hx : IsJoin n R a b x) : 0 ≤ joinR n R a b := by
  apply Int.not_lt.1
  intro hlt
  unfold joinR at hlt
  rcases find_range (n := n) (p := fun x => R a x && R b x && (List.range n).all fun y => !(R a y && R b y) || R x y) with ⟨z, hz, _, _⟩ | ⟨hz, hall⟩
  · rw [hz] at hlt; simp only [atI] at hlt; omega
  · have h1 := hall x hx.1
    simp only [hx.2.1, hx.2.2.1, Bool.true_and, List.all_eq_false, List.mem_range, Bool.not_eq_true, Bool.or_eq_false_iff, Bool.not_eq_false', Bool.and_eq_true] at h1
    obtain ⟨y, hy, h2, h3⟩ := h1
    rw [hx.2.2.2 y hy h2.1 h2.2] at h3
    cases h3
theorem joinR_is {n : Nat} {R : Rel} {a b x : Nat} (hx : IsJoin n R a b x) (ha : ∀ y, y < n → R x y = true → R y x = true → x = y) : joinR n R a b = x := by
  obtain ⟨y, e, hy⟩ := joinR_some (joinR_nonneg hx)
  rw [e, ha y hy.1 (hx.2.2.2 y hy.1 hy.2.1 hy.2.2.1) (hy.2.2.2 x hx.1 hx.2.1 hx.2.2.1)]
theorem joinR_comm (n : Nat) (R : Rel) (a b : Nat) : joinR n R a b = joinR n R b a := by
  unfold joinR
  refine congrArg atI (find_congr fun x _ => ?_)
  rw [Bool.and_comm (R a x), all_congr]
  intro y _
  rw [Bool.and_comm (R a y)]
theorem meetR_comm (n : Nat) (R : Rel) (a b : Nat) : meetR n R a b = meetR n R b a := joinR_comm _ _ _ _
theorem joinR_self {n : Nat} {R : Rel} (hr : ∀ a, a < n → R a a = true) {a : Nat} (ha : a < n) : 0 ≤ joinR n R a a := joinR_nonneg ⟨ha, hr a ha, hr a ha, fun _ _ h _ => h⟩
/-- Sound, as it is looked through: each against those below its number. -/
def SoundTo (n : Nat) (R : Rel) (k : Nat) : Prop := ∀ a, a < k → (∀ y, y < n → R a y = true → R y a = true → y = a) ∧ ∀ b, b < a → 0 ≤ joinR n R a b ∧ 0 ≤ meetR n R a b
theorem sound_of_to {n : Nat} {R : Rel} (hr : ∀ a, a < n → R a a = true) (h : SoundTo n R n) : Sound n R := by
  refine ⟨fun a ha b hb h1 h2 => ((h a ha).1 b hb h1 h2).symm, fun a ha b hb => ?_, fun a ha b hb => ?_⟩
  · rcases Nat.lt_trichotomy a b with h1 | h1 | h1
    · rw [joinR_comm]; exact ((h b hb).2 a h1).1
    · subst h1; exact joinR_self hr ha
    · exact ((h a ha).2 b h1).1
  · rcases Nat.lt_trichotomy a b with h1 | h1 | h1
    · rw [meetR_comm]; exact ((h b hb).2 a h1).2
    · subst h1; exact joinR_self (R := flipR R) hr ha
    · exact ((h a ha).2 b h1).2

/-! What New answers. -/
def okPair (n : Int) (p : Int × Int) : Bool := decide (0 ≤ p.1 ∧ p.1 < n ∧ 0 ≤ p.2 ∧ p.2 < n)
def errS (n : Int) (ps : List (Int × Int)) : Int :=
  if n < 1 ∨ 64 < n then 6 else if ps.all (okPair n) = false then 6 else if Sound n.toNat (leqS n.toNat ps) then 0 else 1
theorem errS_zero {n : Int} {ps : List (Int × Int)} (h : errS n ps = 0) : 1 ≤ n ∧ n ≤ 64 ∧ ps.all (okPair n) = true ∧ Sound n.toNat (leqS n.toNat ps) := by
  unfold errS at h
  split at h
  · cases h
  · rename_i h1
    split at h
    · cases h
    · rename_i h2
      split at h
      · rename_i h3
        exact ⟨by omega, by omega, by simpa using h2, h3⟩
      · cases h

end Go.Proofs.YtkcmhdkhdjmjeaaGreatDoor

namespace Go.Proofs.YtkcmhdkhdjmjeaaGreatDoor
open Go.RowKit
set_option linter.unusedVariables false
set_option linter.unusedSimpArgs false

/-- An order of n levels in which each two have a join and a meet. -/
structure Lat (n : Nat) (R : Rel) : Prop where
  refl : ∀ a, a < n → R a a = true
  trans : ∀ a b m, a < n → b < n → m < n → R a m = true → R m b = true → R a b = true
  sound : Sound n R
section
variable {n : Nat} {R : Rel}
theorem Lat.flip (h : Lat n R) : Lat n (flipR R) :=
  ⟨h.refl, fun a b m ha hb hm h1 h2 => h.trans b a m hb ha hm h2 h1, ⟨fun a ha b hb h1 h2 => (h.sound.1 b hb a ha h1 h2).symm, h.sound.2.2, h.sound.2.1⟩⟩
theorem Lat.anti (h : Lat n R) {a b : Nat} (ha : a < n) (hb : b < n) (h1 : R a b = true) (h2 : R b a = true) : a = b := h.sound.1 a ha b hb h1 h2
theorem Lat.join (h : Lat n R) {a b : Nat} (ha : a < n) (hb : b < n) : ∃ j : Nat, joinR n R a b = (j : Int) ∧ IsJoin n R a b j := joinR_some (h.sound.2.1 a ha b hb)
theorem Lat.meet (h : Lat n R) {a b : Nat} (ha : a < n) (hb : b < n) : ∃ j : Nat, meetR n R a b = (j : Int) ∧ IsJoin n (flipR R) a b j := h.flip.join ha hb
theorem Lat.join_eq (h : Lat n R) {a b x : Nat} (hx : IsJoin n R a b x) : joinR n R a b = x := joinR_is hx fun y hy h1 h2 => h.anti hx.1 hy h1 h2
theorem Lat.meet_eq (h : Lat n R) {a b x : Nat} (hx : IsJoin n (flipR R) a b x) : meetR n R a b = x := h.flip.join_eq hx
theorem Lat.leq_join (h : Lat n R) {a b : Nat} (ha : a < n) (hb : b < n) {j : Nat} (hj : IsJoin n R a b j) : R a b = true ↔ j = b := by
  constructor
  · intro h1
    have h2 := h.join_eq (a := a) (b := b) (x := b) ⟨hb, h1, h.refl b hb, fun y _ _ h3 => h3⟩
    have h3 := h.join_eq hj
    omega
  · rintro rfl
    exact hj.2.1
theorem Lat.leq_meet (h : Lat n R) {a b : Nat} (ha : a < n) (hb : b < n) {m : Nat} (hm : IsJoin n (flipR R) a b m) : R a b = true ↔ m = a := by
  constructor
  · intro h1
    have h2 := h.flip.join_eq (a := a) (b := b) (x := a) ⟨ha, h.refl a ha, h1, fun y _ h3 _ => h3⟩
    have h3 := h.flip.join_eq hm
    omega
  · rintro rfl
    exact hm.2.2.1
theorem Lat.assoc (h : Lat n R) {a b c j k x y : Nat} (ha : a < n) (hb : b < n) (hc : c < n) (hj : IsJoin n R a b j) (hk : IsJoin n R b c k) (hx : IsJoin n R j c x) (hy : IsJoin n R a k y) : x = y := by
  have hax : R a x = true := h.trans a x j ha hx.1 hj.1 hj.2.1 hx.2.1
  have hbx : R b x = true := h.trans b x j hb hx.1 hj.1 hj.2.2.1 hx.2.1
  have hcy : R c y = true := h.trans c y k hc hy.1 hk.1 hk.2.2.1 hy.2.2.1
  have hby : R b y = true := h.trans b y k hb hy.1 hk.1 hk.2.1 hy.2.2.1
  exact h.anti hx.1 hy.1 (hx.2.2.2 y hy.1 (hj.2.2.2 y hy.1 hy.2.1 hby) hcy) (hy.2.2.2 x hx.1 hax (hk.2.2.2 x hx.1 hbx hx.2.2.1))
theorem Lat.absorb (h : Lat n R) {a b m : Nat} (ha : a < n) (hm : IsJoin n (flipR R) a b m) : joinR n R a m = a :=
  h.join_eq ⟨ha, h.refl a ha, hm.2.1, fun y _ h1 _ => h1⟩
theorem Lat.absorb' (h : Lat n R) {a b j : Nat} (ha : a < n) (hj : IsJoin n R a b j) : meetR n R a j = a :=
  h.flip.join_eq ⟨ha, h.refl a ha, hj.2.1, fun y _ h1 _ => h1⟩
theorem Lat.above (h : Lat n R) (hn : 1 ≤ n) : ∀ k, k ≤ n → ∃ x, x < n ∧ ∀ y, y < k → R y x = true
  | 0, _ => ⟨0, by omega, fun y hy => absurd hy (Nat.not_lt_zero _)⟩
  | k + 1, hk => by
    obtain ⟨x, hx, hall⟩ := Lat.above h hn k (by omega)
    obtain ⟨j, _, hj⟩ := h.join (a := x) (b := k) hx (by omega)
    refine ⟨j, hj.1, fun y hy => ?_⟩
    by_cases e : y = k
    · subst e; exact hj.2.2.1
    · exact h.trans y j x (by omega) hj.1 hx (hall y (by omega)) hj.2.1
theorem Lat.top (h : Lat n R) (hn : 1 ≤ n) : ∃ t : Nat, topR n R = (t : Int) ∧ t < n ∧ ∀ y, y < n → R y t = true := by
  obtain ⟨x, hx, hall⟩ := h.above hn n (Nat.le_refl _)
  unfold topR
  rcases find_range (n := n) (p := fun x => (List.range n).all fun y => R y x) with ⟨t, ht, hn, hp⟩ | ⟨_, hp⟩
  · rw [ht]
    exact ⟨t, rfl, hn, fun y hy => by simpa using List.all_eq_true.1 hp y (List.mem_range.2 hy)⟩
  · have := hp x hx
    rw [List.all_eq_false] at this
    obtain ⟨y, hy, h1⟩ := this
    exact absurd (hall y (List.mem_range.1 hy)) h1
theorem Lat.bot (h : Lat n R) (hn : 1 ≤ n) : ∃ t : Nat, botR n R = (t : Int) ∧ t < n ∧ ∀ y, y < n → R t y = true := h.flip.top hn
end

/-- A number's place among n. -/
theorem mod_place (a : Int) {n : Nat} (h1 : 1 ≤ n) (h12 : n ≤ 1000) : ∃ j : Nat, j < n ∧ (wrap64 (a.tmod n + n)).tmod n = (j : Int) := by
  have h2 : a.tmod n < n := Int.tmod_lt_of_pos a (by omega)
  have h3 : -(n : Int) < a.tmod n := by
    have := Int.neg_lt_of_neg_lt (show -(n : Int) < n from by omega)
    rcases Int.le_total 0 a with h | h
    · have := Int.tmod_nonneg (a := a) (n : Int) h; omega
    · have h4 := Int.tmod_lt_of_pos (-a) (b := (n : Int)) (by omega)
      rw [Int.neg_tmod] at h4
      omega
  generalize a.tmod n = z at *
  have hw : wrap64 (z + n) = z + n := by unfold wrap64; omega
  rw [hw, Int.tmod_eq_emod_of_nonneg (by omega)]
  have h5 := Int.emod_nonneg (z + n) (show (n : Int) ≠ 0 by omega)
  have h6 := Int.emod_lt_of_pos (z + n) (show (0 : Int) < n by omega)
  exact ⟨((z + n) % n).toNat, by omega, by omega⟩

end Go.Proofs.YtkcmhdkhdjmjeaaGreatDoor
