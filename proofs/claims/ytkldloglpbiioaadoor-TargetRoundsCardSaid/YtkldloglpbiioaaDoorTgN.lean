/-
  Plain facts for TargetRounds: a url and a title between brackets, whatever blanks stand between.
-/
import Derived.Test.YtkldloglpbiioaaDoorTgM
namespace Go.Proofs.YtkldloglpbiioaaDoor
open Go.RowKit
set_option linter.unusedSimpArgs false
set_option linter.unusedVariables false

def Blanks (g : List UInt8) : Prop := ∀ b ∈ g, blkB b.toNat = true
theorem drop_at {L pre rest : List UInt8} {k : Nat} (h : L = pre ++ rest) (hk : k = pre.length) : L.drop k = rest := by
  subst h; subst hk; simp
theorem last_at {L pre rest : List UInt8} {y : UInt8} {k : Nat} (h : L = pre ++ y :: rest) (hk : k = pre.length + 1) : L.getD (k - 1) 0 = y := by
  subst h; subst hk
  rw [List.getD_eq_getElem?_getD, show pre.length + 1 - 1 = pre.length from rfl, List.getElem?_append_right (Nat.le_refl _), Nat.sub_self]
  rfl
theorem takeW_blanks : ∀ (g rest : List UInt8), Blanks g → (∀ b ∈ rest.head?, blkB b.toNat = false) → ((g ++ rest).takeWhile fun b => blkB b.toNat).length = g.length
  | [], rest, _, hr => by
    cases rest with
    | nil => rfl
    | cons b rest => exact takeW_stop (hr b (by simp))
  | b :: g, rest, hg, hr => by
    rw [List.cons_append, takeW_cons (hg b (by simp)), takeW_blanks g rest (fun x hx => hg x (by simp [hx])) hr, List.length_cons]
theorem beh_at {L pre g rest : List UInt8} {k : Nat} (h : L = pre ++ (g ++ rest)) (hk : k = pre.length) (hg : Blanks g) (hr : ∀ b ∈ rest.head?, blkB b.toNat = false) : behL L k = k + g.length := by
  unfold behL
  rw [drop_at h hk, takeW_blanks g rest hg hr]
theorem letter_blk {b : UInt8} (h : 97 ≤ b.toNat ∧ b.toNat ≤ 122) : blkB b.toNat = false := by simp [blkB]; omega
theorem blank_hid {b : UInt8} (h : blkB b.toNat = true) : hidB b.toNat = true := by simp [blkB] at h; simp [hidB]; omega
theorem snoc_of {l : List UInt8} (h : l ≠ []) : ∃ m x, l = m ++ [x] := ⟨l.dropLast, l.getLast h, (List.dropLast_concat_getLast h).symm⟩
theorem dest_stop {u : List UInt8} (h : Letters u) (hne : u ≠ []) {x : UInt8} (hx : hidB x.toNat = true ∨ x.toNat = 41) (l : List UInt8) : destL (u ++ x :: l) = (u, u.length, true) := by
  have hb : bareGo (u ++ x :: l) 0 false 0 = (u.length, 0) := by
    rw [bareGo_letters u _ 0 h, bareGo_stop (by
      rcases hx with hx | hx
      · exact Or.inl hx
      · exact Or.inr ⟨hx, rfl, rfl⟩), Nat.zero_add]
  have hl : 0 < u.length := List.length_pos_iff.2 hne
  unfold destL
  rw [if_neg (by rw [letters_ne h (by decide) hne]; simp)]
  unfold bareL
  rw [hb]
  simp only [Nat.lt_irrefl, if_false]
  rw [List.take_left, unL_letters h, decide_eq_true hl]
theorem title_dq {t : List UInt8} (h : Letters t) (l : List UInt8) : titleL (34 :: (t ++ 34 :: l)) = (t, t.length + 2, true) := by
  have hgo : btwGo 34 [] (t ++ 34 :: l) false 1 = some (t.length + 1) := by
    rw [btwGo_plain 34 [] t _ 1 (by
      intro b hb
      have := h b hb
      refine ⟨by omega, by omega, ?_, by simp⟩
      rintro rfl
      exact absurd this.1 (by decide)), btwGo_shut (by decide) (by decide) rfl]
    congr 1
    omega
  unfold titleL
  rw [if_pos (by rfl)]
  unfold btwL
  rw [List.drop_one, List.tail_cons, hgo]
  simp only
  rw [List.take_succ_cons, List.drop_one, List.tail_cons, List.take_left, unL_letters h]
theorem head_of {b : UInt8} {l : List UInt8} (h : blkB b.toNat = false) : ∀ x ∈ (b :: l).head?, blkB x.toNat = false := by
  intro x hx
  simp at hx
  subst hx
  exact h
theorem head_letters {u : List UInt8} (h : Letters u) (hne : u ≠ []) (l : List UInt8) : ∀ x ∈ (u ++ l).head?, blkB x.toNat = false := by
  match u, hne with
  | b :: u, _ => exact head_of (letter_blk (h b (by simp)))
theorem first_stop {g : List UInt8} {x : UInt8} (hg : Blanks g) (hx : hidB x.toNat = true ∨ x.toNat = 41) (l : List UInt8) : ∃ y r, g ++ x :: l = y :: r ∧ (hidB y.toNat = true ∨ y.toNat = 41) := by
  cases g with
  | nil => exact ⟨x, l, rfl, hx⟩
  | cons b g => exact ⟨b, g ++ x :: l, rfl, Or.inl (blank_hid (hg b (by simp)))⟩
theorem title_none (l : List UInt8) : titleL (41 :: l) = ([], 0, false) := rfl

theorem rnd_open {g1 u : List UInt8} (h1 : Blanks g1) (hu : Letters u) (hne : u ≠ []) {R : List UInt8} (hR : ∃ y r, R = y :: r ∧ (hidB y.toNat = true ∨ y.toNat = 41)) :
    insideL (40 :: (g1 ++ (u ++ R))) = insL2 (40 :: (g1 ++ (u ++ R))) u (behL (40 :: (g1 ++ (u ++ R))) (1 + g1.length + u.length)) := by
  obtain ⟨y, r, rfl, hy⟩ := hR
  have a1 : behL (40 :: (g1 ++ (u ++ y :: r))) 1 = 1 + g1.length := beh_at (pre := [40]) rfl rfl h1 (head_letters hu hne _)
  have hd : (40 :: (g1 ++ (u ++ y :: r))).drop (1 + g1.length) = u ++ y :: r := drop_at (pre := 40 :: g1) rfl (by simp; omega)
  unfold insideL
  rw [if_pos (by rfl), a1, hd, dest_stop hu hne hy]
theorem shut_at {L pre rest url title : List UInt8} {k : Nat} (h : L = pre ++ 41 :: rest) (hk : k = pre.length) : shutL L url title k = (url, title, k + 1, true) := by
  unfold shutL
  rw [drop_at h hk, if_pos (by rfl)]
theorem rnd_plain {g1 g3 u : List UInt8} (h1 : Blanks g1) (h3 : Blanks g3) (hu : Letters u) (hne : u ≠ []) (more : List UInt8) :
    insideL (40 :: (g1 ++ (u ++ (g3 ++ 41 :: more)))) = (u, [], 2 + g1.length + u.length + g3.length, true) := by
  rw [rnd_open h1 hu hne (first_stop h3 (Or.inr rfl) more)]
  have a2 : behL (40 :: (g1 ++ (u ++ (g3 ++ 41 :: more)))) (1 + g1.length + u.length) = 1 + g1.length + u.length + g3.length :=
    beh_at (pre := 40 :: (g1 ++ u)) (rest := 41 :: more) (by simp) (by simp; omega) h3 (head_of (by decide))
  rw [a2]
  have hsh : ∀ t, shutL (40 :: (g1 ++ (u ++ (g3 ++ 41 :: more)))) u t (1 + g1.length + u.length + g3.length) = (u, t, 2 + g1.length + u.length + g3.length, true) := by
    intro t
    rw [shut_at (pre := 40 :: (g1 ++ (u ++ g3))) (rest := more) (by simp) (by simp; omega)]
    congr 3
    omega
  unfold insL2
  by_cases hg : g3 = []
  · subst hg
    obtain ⟨u', x, rfl⟩ := snoc_of hne
    rw [last_at (pre := 40 :: (g1 ++ u')) (y := x) (rest := 41 :: more) (by simp) (by simp; omega), letter_blk (hu x (by simp)), if_neg (by simp), hsh]
  · obtain ⟨g', x, rfl⟩ := snoc_of hg
    rw [last_at (pre := 40 :: (g1 ++ (u ++ g'))) (y := x) (rest := 41 :: more) (by simp) (by simp; omega), h3 x (by simp), if_pos rfl]
    have hd : (40 :: (g1 ++ (u ++ ((g' ++ [x]) ++ 41 :: more)))).drop (1 + g1.length + u.length + (g' ++ [x]).length) = 41 :: more := drop_at (pre := 40 :: (g1 ++ (u ++ (g' ++ [x])))) (by simp) (by simp; omega)
    rw [hd, title_none]
    simp only [Nat.add_zero]
    rw [beh_at (pre := 40 :: (g1 ++ (u ++ (g' ++ [x])))) (g := []) (rest := 41 :: more) (by simp) (by simp; omega) (by intro b hb; simp at hb) (head_of (by decide))]
    exact hsh []
theorem rnd_title {g1 g2 g3 u t : List UInt8} (h1 : Blanks g1) (h2 : Blanks g2) (hg2 : g2 ≠ []) (h3 : Blanks g3) (hu : Letters u) (hne : u ≠ []) (ht : Letters t) (more : List UInt8) :
    insideL (40 :: (g1 ++ (u ++ (g2 ++ 34 :: (t ++ 34 :: (g3 ++ 41 :: more)))))) = (u, t, 4 + g1.length + u.length + g2.length + t.length + g3.length, true) := by
  have hR : ∃ y r, g2 ++ 34 :: (t ++ 34 :: (g3 ++ 41 :: more)) = y :: r ∧ (hidB y.toNat = true ∨ y.toNat = 41) := by
    match g2, hg2 with
    | b :: g, _ => exact ⟨b, g ++ 34 :: (t ++ 34 :: (g3 ++ 41 :: more)), rfl, Or.inl (blank_hid (h2 b (by simp)))⟩
  rw [rnd_open h1 hu hne hR]
  have a2 : behL (40 :: (g1 ++ (u ++ (g2 ++ 34 :: (t ++ 34 :: (g3 ++ 41 :: more)))))) (1 + g1.length + u.length) = 1 + g1.length + u.length + g2.length :=
    beh_at (pre := 40 :: (g1 ++ u)) (rest := 34 :: (t ++ 34 :: (g3 ++ 41 :: more))) (by simp) (by simp; omega) h2 (head_of (by decide))
  rw [a2]
  obtain ⟨g', x, rfl⟩ := snoc_of hg2
  unfold insL2
  rw [last_at (pre := 40 :: (g1 ++ (u ++ g'))) (y := x) (rest := 34 :: (t ++ 34 :: (g3 ++ 41 :: more))) (by simp) (by simp; omega), h2 x (by simp), if_pos rfl]
  have hd : (40 :: (g1 ++ (u ++ ((g' ++ [x]) ++ 34 :: (t ++ 34 :: (g3 ++ 41 :: more)))))).drop (1 + g1.length + u.length + (g' ++ [x]).length) = 34 :: (t ++ 34 :: (g3 ++ 41 :: more)) := drop_at (pre := 40 :: (g1 ++ (u ++ (g' ++ [x])))) (by simp) (by simp; omega)
  rw [hd, title_dq ht]
  simp only
  rw [beh_at (pre := 40 :: (g1 ++ (u ++ ((g' ++ [x]) ++ 34 :: (t ++ [34]))))) (g := g3) (rest := 41 :: more) (by simp) (by simp; omega) h3 (head_of (by decide))]
  rw [shut_at (pre := 40 :: (g1 ++ (u ++ ((g' ++ [x]) ++ 34 :: (t ++ 34 :: g3))))) (rest := more) (by simp) (by simp; omega)]
  congr 3
  omega

def gapL : List (List UInt8) := [[], [32], [10], [32, 9, 32]]
def gapT (j : Nat) : List UInt8 := gapL.getD j []
theorem gap_blanks : ∀ j : Nat, j < 4 → ∀ b ∈ gapT j, blkB b.toNat = true := by decide +kernel
theorem gap_len : ∀ j : Nat, j < 4 → (gapT j).length ≤ 3 := by decide +kernel
theorem gap_ne : ∀ j : Nat, j < 2 → gapT (1 + j) ≠ [] := by decide +kernel

end Go.Proofs.YtkldloglpbiioaaDoor
