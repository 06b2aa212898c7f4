/-
  Plain facts for bowdlerref1's Orders.
-/
import Derived.Test.YtkcmhdkhdjmjeaaGreatDoorOrdA
namespace Go.Proofs.YtkcmhdkhdjmjeaaGreatDoor
open Go.RowKit
set_option linter.unusedVariables false
set_option linter.unusedSimpArgs false

theorem basePair_step {ps : List (Int × Int)} {j x y : Nat} (hj : j < ps.length) (he : ps[j] = ((x : Int), (y : Int))) (a b : Nat) :
    (if a = x ∧ b = y then true else baseR (ps.take j) a b) = baseR (ps.take (j + 1)) a b := by
  rw [List.take_succ_eq_append_getElem hj, he]
  simp only [baseR, List.contains_append, List.contains_cons, List.contains_nil, Bool.or_false]
  by_cases e : a = x ∧ b = y
  · obtain ⟨rfl, rfl⟩ := e
    simp
  · rw [if_neg e]
    have : (((a : Int), (b : Int)) == ((x : Int), (y : Int))) = false := by
      rw [Bool.eq_false_iff]; intro h; apply e; simp at h; omega
    rw [this, Bool.or_false]
def w3 (R : Rel) (k a : Nat) : Rel := fun x y => if x < a then warN R (k + 1) x y else warN R k x y
def w4 (R : Rel) (k a b : Nat) : Rel := fun x y => if x < a ∨ (x = a ∧ y < b) then warN R (k + 1) x y else warN R k x y
theorem warN_row (R : Rel) (k b : Nat) : warN R (k + 1) k b = warN R k k b := by
  simp only [warN, warStep]
  cases warN R k k b <;> simp
theorem warN_col (R : Rel) (k a : Nat) : warN R (k + 1) a k = warN R k a k := by
  simp only [warN, warStep]
  cases warN R k a k <;> simp
theorem w3_start (R : Rel) (k x y : Nat) : warN R k x y = w3 R k 0 x y := by unfold w3; rw [if_neg (by omega)]
theorem w3_end {n : Nat} (R : Rel) (k : Nat) {x : Nat} (y : Nat) (hx : x < n) : w3 R k n x y = warN R (k + 1) x y := by unfold w3; rw [if_pos hx]
theorem w4_start (R : Rel) (k a x y : Nat) : w3 R k a x y = w4 R k a 0 x y := by
  unfold w3 w4
  by_cases h : x < a
  · rw [if_pos h, if_pos (Or.inl h)]
  · rw [if_neg h, if_neg (by omega)]
theorem w4_end {n : Nat} (R : Rel) (k a x : Nat) {y : Nat} (hy : y < n) : w4 R k a n x y = w3 R k (a + 1) x y := by
  unfold w3 w4
  by_cases h : x < a + 1
  · rw [if_pos h, if_pos (by omega)]
  · rw [if_neg h, if_neg (by omega)]
theorem w4_ab (R : Rel) (k a b : Nat) : w4 R k a b a b = warN R k a b := by unfold w4; rw [if_neg (by omega)]
theorem w4_ak (R : Rel) (k a b : Nat) : w4 R k a b a k = warN R k a k := by
  unfold w4
  split
  · exact warN_col R k a
  · rfl
theorem w4_kb (R : Rel) (k a b : Nat) : w4 R k a b k b = warN R k k b := by
  unfold w4
  split
  · exact warN_row R k b
  · rfl
theorem w4_step (R : Rel) (k a b : Nat) {v : Bool} (hv : v = (warN R k a b || (warN R k a k && warN R k k b))) (x y : Nat) : (if x = a ∧ y = b then v else w4 R k a b x y) = w4 R k a (b + 1) x y := by
  by_cases e : x = a ∧ y = b
  · obtain ⟨rfl, rfl⟩ := e
    rw [if_pos ⟨rfl, rfl⟩, hv]
    unfold w4
    rw [if_pos (by omega)]
    rfl
  · rw [if_neg e]
    unfold w4
    by_cases h : x < a ∨ (x = a ∧ y < b)
    · rw [if_pos h, if_pos (by omega)]
    · rw [if_neg h, if_neg (by omega)]
def j5 (F : Nat → Nat → Int) (a b : Nat) : Nat → Nat → Int := fun x y => if x < a ∨ (x = a ∧ y < b) then F x y else 0
theorem j5_start (F : Nat → Nat → Int) (x y : Nat) : 0 = j5 F 0 0 x y := by unfold j5; rw [if_neg (by omega)]
theorem j5_step (F : Nat → Nat → Int) (a b x y : Nat) : (if x = a ∧ y = b then F a b else j5 F a b x y) = j5 F a (b + 1) x y := by
  by_cases e : x = a ∧ y = b
  · obtain ⟨rfl, rfl⟩ := e
    rw [if_pos ⟨rfl, rfl⟩]
    unfold j5
    rw [if_pos (by omega)]
  · rw [if_neg e]
    unfold j5
    by_cases h : x < a ∨ (x = a ∧ y < b)
    · rw [if_pos h, if_pos (by omega)]
    · rw [if_neg h, if_neg (by omega)]
theorem j5_next {n : Nat} (F : Nat → Nat → Int) (a x : Nat) {y : Nat} (hy : y < n) : j5 F a n x y = j5 F (a + 1) 0 x y := by
  unfold j5
  by_cases h : x < a + 1
  · rw [if_pos (by omega), if_pos (by omega)]
  · rw [if_neg (by omega), if_neg (by omega)]
theorem j5_end {n : Nat} (F : Nat → Nat → Int) {x : Nat} (y : Nat) (hx : x < n) : j5 F n 0 x y = F x y := by unfold j5; rw [if_pos (Or.inl hx)]
theorem j5_at (F : Nat → Nat → Int) (a b : Nat) : j5 F a (b + 1) a b = F a b := by unfold j5; rw [if_pos (by omega)]

theorem err_pair {n : Nat} {ps : List (Int × Int)} (h1 : 1 ≤ n) (h64 : n ≤ 64) {x : Int × Int} (hx : x ∈ ps) (hb : okPair n x = false) : errS n ps = 6 := by
  unfold errS
  rw [if_neg (by omega), if_pos]
  rw [List.all_eq_false]
  exact ⟨x, hx, by rw [hb]; decide⟩
theorem err_unsound {n : Nat} {ps : List (Int × Int)} (h1 : 1 ≤ n) (h64 : n ≤ 64) (hok : ∀ x ∈ ps, okPair n x = true) (hs : ¬ Sound n (leqS n ps)) : errS n ps = 1 := by
  unfold errS
  rw [if_neg (by omega), if_neg, if_neg]
  · exact hs
  · rw [Bool.not_eq_false, List.all_eq_true]; exact hok
theorem err_sound {n : Nat} {ps : List (Int × Int)} (h1 : 1 ≤ n) (h64 : n ≤ 64) (hok : ∀ x ∈ ps, okPair n x = true) (hs : Sound n (leqS n ps)) : errS n ps = 0 := by
  unfold errS
  rw [if_neg (by omega), if_neg, if_pos]
  · exact hs
  · rw [Bool.not_eq_false, List.all_eq_true]; exact hok
theorem bad_ways {n : Int} {x : Int × Int} (h : okPair n x = false) : x.1 < 0 ∨ (0 ≤ x.1 ∧ x.2 < 0) ∨ (0 ≤ x.1 ∧ 0 ≤ x.2 ∧ n ≤ x.1) ∨ (0 ≤ x.1 ∧ 0 ≤ x.2 ∧ x.1 < n ∧ n ≤ x.2) := by
  simp only [okPair, decide_eq_false_iff_not] at h
  omega

end Go.Proofs.YtkcmhdkhdjmjeaaGreatDoor
