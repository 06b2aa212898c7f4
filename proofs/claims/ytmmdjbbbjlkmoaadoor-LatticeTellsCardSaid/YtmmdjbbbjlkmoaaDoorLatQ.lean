/-
  Plain facts of lattices: what joins and meets are, and which laws they keep.
-/
import Derived.Test.YtmmdjbbbjlkmoaaDoorLatP
namespace Go.Proofs.YtmmdjbbbjlkmoaaDoor
open Go.RowKit
set_option linter.unusedVariables false
set_option linter.unusedSimpArgs false

/-- An order of n levels in which each two have a join and a meet. -/
structure Lat (n : Nat) (R : Rel) : Prop where
  refl : ∀ a, a < n → R a a = true
  trans : ∀ a b m, a < n → b < n → m < n → R a m = true → R m b = true → R a b = true
  sound : Sound n R
section
variable {n : Nat} {R : Rel}
theorem Lat.flip (h : Lat n R) : Lat n (flipR R) :=
  ⟨h.refl, fun a b m ha hb hm h1 h2 => h.trans b a m hb ha hm h2 h1, ⟨fun a ha b hb h1 h2 => (h.sound.1 b hb a ha h1 h2).symm, h.sound.2.2, h.sound.2.1⟩⟩
theorem Lat.anti (h : Lat n R) {a b : Nat} (ha : a < n) (hb : b < n) (h1 : R a b = true) (h2 : R b a = true) : a = b := h.sound.1 a ha b hb h1 h2
theorem Lat.join (h : Lat n R) {a b : Nat} (ha : a < n) (hb : b < n) : ∃ j : Nat, joinR n R a b = (j : Int) ∧ IsJoin n R a b j := joinR_some (h.sound.2.1 a ha b hb)
theorem Lat.meet (h : Lat n R) {a b : Nat} (ha : a < n) (hb : b < n) : ∃ j : Nat, meetR n R a b = (j : Int) ∧ IsJoin n (flipR R) a b j := h.flip.join ha hb
theorem Lat.join_eq (h : Lat n R) {a b x : Nat} (hx : IsJoin n R a b x) : joinR n R a b = x := joinR_is hx fun y hy h1 h2 => h.anti hx.1 hy h1 h2
theorem Lat.meet_eq (h : Lat n R) {a b x : Nat} (hx : IsJoin n (flipR R) a b x) : meetR n R a b = x := h.flip.join_eq hx
theorem Lat.leq_join (h : Lat n R) {a b : Nat} (ha : a < n) (hb : b < n) {j : Nat} (hj : IsJoin n R a b j) : R a b = true ↔ j = b := by
  constructor
  · intro h1
    have h2 := h.join_eq (a := a) (b := b) (x := b) ⟨hb, h1, h.refl b hb, fun y _ _ h3 => h3⟩
    have h3 := h.join_eq hj
    omega
  · rintro rfl
    exact hj.2.1
theorem Lat.leq_meet (h : Lat n R) {a b : Nat} (ha : a < n) (hb : b < n) {m : Nat} (hm : IsJoin n (flipR R) a b m) : R a b = true ↔ m = a := by
  constructor
  · intro h1
    have h2 := h.flip.join_eq (a := a) (b := b) (x := a) ⟨ha, h.refl a ha, h1, fun y _ h3 _ => h3⟩
    have h3 := h.flip.join_eq hm
    omega
  · rintro rfl
    exact hm.2.2.1
theorem Lat.assoc (h : Lat n R) {a b c j k x y : Nat} (ha : a < n) (hb : b < n) (hc : c < n) (hj : IsJoin n R a b j) (hk : IsJoin n R b c k) (hx : IsJoin n R j c x) (hy : IsJoin n R a k y) : x = y := by
  have hax : R a x = true := h.trans a x j ha hx.1 hj.1 hj.2.1 hx.2.1
  have hbx : R b x = true := h.trans b x j hb hx.1 hj.1 hj.2.2.1 hx.2.1
  have hcy : R c y = true := h.trans c y k hc hy.1 hk.1 hk.2.2.1 hy.2.2.1
  have hby : R b y = true := h.trans b y k hb hy.1 hk.1 hk.2.1 hy.2.2.1
  exact h.anti hx.1 hy.1 (hx.2.2.2 y hy.1 (hj.2.2.2 y hy.1 hy.2.1 hby) hcy) (hy.2.2.2 x hx.1 hax (hk.2.2.2 x hx.1 hbx hx.2.2.1))
theorem Lat.absorb (h : Lat n R) {a b m : Nat} (ha : a < n) (hm : IsJoin n (flipR R) a b m) : joinR n R a m = a :=
  h.join_eq ⟨ha, h.refl a ha, hm.2.1, fun y _ h1 _ => h1⟩
theorem Lat.absorb' (h : Lat n R) {a b j : Nat} (ha : a < n) (hj : IsJoin n R a b j) : meetR n R a j = a :=
  h.flip.join_eq ⟨ha, h.refl a ha, hj.2.1, fun y _ h1 _ => h1⟩
theorem Lat.above (h : Lat n R) (hn : 1 ≤ n) : ∀ k, k ≤ n → ∃ x, x < n ∧ ∀ y, y < k → R y x = true
  | 0, _ => ⟨0, by omega, fun y hy => absurd hy (Nat.not_lt_zero _)⟩
  | k + 1, hk => by
    obtain ⟨x, hx, hall⟩ := Lat.above h hn k (by omega)
    obtain ⟨j, _, hj⟩ := h.join (a := x) (b := k) hx (by omega)
    refine ⟨j, hj.1, fun y hy => ?_⟩
    by_cases e : y = k
    · subst e; exact hj.2.2.1
    · exact h.trans y j x (by omega) hj.1 hx (hall y (by omega)) hj.2.1
theorem Lat.top (h : Lat n R) (hn : 1 ≤ n) : ∃ t : Nat, topR n R = (t : Int) ∧ t < n ∧ ∀ y, y < n → R y t = true := by
  obtain ⟨x, hx, hall⟩ := h.above hn n (Nat.le_refl _)
  unfold topR
  rcases find_range (n := n) (p := fun x => (List.range n).all fun y => R y x) with ⟨t, ht, hn, hp⟩ | ⟨_, hp⟩
  · rw [ht]
    exact ⟨t, rfl, hn, fun y hy => by simpa using List.all_eq_true.1 hp y (List.mem_range.2 hy)⟩
  · have := hp x hx
    rw [List.all_eq_false] at this
    obtain ⟨y, hy, h1⟩ := this
    exact absurd (hall y (List.mem_range.1 hy)) h1
theorem Lat.bot (h : Lat n R) (hn : 1 ≤ n) : ∃ t : Nat, botR n R = (t : Int) ∧ t < n ∧ ∀ y, y < n → R t y = true := h.flip.top hn
end

/-- A number's place among n. -/
theorem mod_place (a : Int) {n : Nat} (h1 : 1 ≤ n) (h12 : n ≤ 1000) : ∃ j : Nat, j < n ∧ (wrap64 (a.tmod n + n)).tmod n = (j : Int) := by
  have h2 : a.tmod n < n := Int.tmod_lt_of_pos a (by omega)
  have h3 : -(n : Int) < a.tmod n := by
    have := Int.neg_lt_of_neg_lt (show -(n : Int) < n from by omega)
    rcases Int.le_total 0 a with h | h
    · have := Int.tmod_nonneg (a := a) (n : Int) h; omega
    · have h4 := Int.tmod_lt_of_pos (-a) (b := (n : Int)) (by omega)
      rw [Int.neg_tmod] at h4
      omega
  generalize a.tmod n = z at *
  have hw : wrap64 (z + n) = z + n := by unfold wrap64; omega
  rw [hw, Int.tmod_eq_emod_of_nonneg (by omega)]
  have h5 := Int.emod_nonneg (z + n) (show (n : Int) ≠ 0 by omega)
  have h6 := Int.emod_lt_of_pos (z + n) (show (0 : Int) < n by omega)
  exact ⟨((z + n) % n).toNat, by omega, by omega⟩

end Go.Proofs.YtmmdjbbbjlkmoaaDoor
