/-
  Plain facts of letters: in a destination, between signs.
  Plain facts of letters: a destination that ends, a title.
-/
import Derived.Test.YtioolcnoiaoflaaGreatDoorTgtP
namespace Go.Proofs.YtioolcnoiaoflaaGreatDoor
open Go.RowKit
set_option linter.unusedSimpArgs false
set_option linter.unusedVariables false

def Lowers (l : List UInt8) : Prop := ∀ b ∈ l, 97 ≤ b.toNat ∧ b.toNat ≤ 122
theorem unL_plain : ∀ l : List UInt8, (∀ b ∈ l, b.toNat ≠ 92 ∧ b.toNat ≠ 38) → unL l = l
  | [], _ => rfl
  | b :: l, h => by
    have hb := h b (by simp)
    rw [unL_byte (escL_none hb.1 hb.2), unL_plain l (fun x hx => h x (by simp [hx]))]
theorem unL_letters {l : List UInt8} (h : Lowers l) : unL l = l := unL_plain l fun b hb => by have := h b hb; omega
theorem bareGo_letters : ∀ (u l : List UInt8) (i : Nat), Lowers u → bareGo (u ++ l) 0 false i = bareGo l 0 false (i + u.length)
  | [], _, _, _ => rfl
  | b :: u, l, i, h => by
    have hb := h b (by simp)
    have hh : tgHid b.toNat = false := by simp [tgHid]; omega
    rw [List.cons_append, bareGo_on hh (by omega), if_neg (by simp), if_neg (by omega), if_neg (by omega), if_neg (by omega), bareGo_letters u l _ (fun x hx => h x (by simp [hx])), List.length_cons, show i + 1 + u.length = i + (u.length + 1) from by omega]
theorem btwGo_plain (c : UInt8) (nv : List UInt8) : ∀ (u l : List UInt8) (i : Nat), (∀ b ∈ u, b.toNat ≠ 0 ∧ b.toNat ≠ 92 ∧ b ≠ c ∧ b ∉ nv) → btwGo c nv (u ++ l) false i = btwGo c nv l false (i + u.length)
  | [], _, _, _ => rfl
  | b :: u, l, i, h => by
    obtain ⟨h1, h2, h3, h4⟩ := h b (by simp)
    rw [List.cons_append, btwGo_on h1 h2 h3 h4, btwGo_plain c nv u l _ (fun x hx => h x (by simp [hx])), List.length_cons, show i + 1 + u.length = i + (u.length + 1) from by omega]
theorem letters_ne {u : List UInt8} (h : Lowers u) {b : UInt8} (hb : b.toNat < 97) (hne : u ≠ []) (l : List UInt8) : Lib.hasPrefix (u ++ l) [b] = false := by
  match u, hne with
  | x :: u, _ =>
    have hx := h x (by simp)
    rw [← Bool.not_eq_true]
    intro e
    have h2 : [b] <+: x :: (u ++ l) := List.isPrefixOf_iff_prefix.1 e
    have := (List.cons_prefix_cons.1 h2).1
    subst this
    omega
theorem dest_letters {u : List UInt8} (h : Lowers u) (hne : u ≠ []) (l : List UInt8) : destL (u ++ 32 :: l) = (u, u.length, true) := by
  have hb : bareGo (u ++ 32 :: l) 0 false 0 = (u.length, 0) := by
    rw [bareGo_letters u _ 0 h, bareGo_stop (Or.inl (by decide)), Nat.zero_add]
  have hl : 0 < u.length := List.length_pos_iff.2 hne
  unfold destL
  rw [if_neg (by rw [letters_ne h (by decide) hne]; simp)]
  unfold bareL
  rw [hb]
  simp only [Nat.lt_irrefl, if_false]
  rw [List.take_left, unL_letters h, decide_eq_true hl]
theorem dest_sharp {u : List UInt8} (h : Lowers u) (l : List UInt8) : destL (60 :: (u ++ 32 :: (u ++ 62 :: l))) = (u ++ 32 :: u, 2 * u.length + 3, true) := by
  have hu : ∀ b ∈ u, b.toNat ≠ 0 ∧ b.toNat ≠ 92 ∧ b ≠ 62 ∧ b ∉ [60, (10 : UInt8)] := by
    intro b hb
    have := h b hb
    refine ⟨by omega, by omega, ?_, ?_⟩
    · rintro rfl
      exact absurd this.1 (by decide)
    · intro e
      simp only [List.mem_cons, List.not_mem_nil, or_false] at e
      rcases e with rfl | rfl
      · exact absurd this.1 (by decide)
      · exact absurd this.1 (by decide)
  have hb : btwGo 62 [60, 10] (u ++ 32 :: (u ++ 62 :: l)) false 1 = some (2 * u.length + 2) := by
    rw [btwGo_plain 62 [60, 10] u _ 1 hu, btwGo_on (by decide) (by decide) (by decide) (by decide), btwGo_plain 62 [60, 10] u _ _ hu, btwGo_shut (by decide) (by decide) rfl]
    congr 1
    omega
  unfold destL
  rw [if_pos (by rfl)]
  unfold btwL
  rw [List.drop_one, List.tail_cons, hb]
  simp only
  have ht : ((60 :: (u ++ 32 :: (u ++ 62 :: l))).take (2 * u.length + 2)).drop 1 = u ++ 32 :: u := by
    rw [show 2 * u.length + 2 = (2 * u.length + 1) + 1 from rfl, List.take_succ_cons, List.drop_one, List.tail_cons]
    rw [show u ++ 32 :: (u ++ 62 :: l) = (u ++ 32 :: u) ++ 62 :: l from by simp]
    rw [List.take_append_of_le_length (by simp; omega), List.take_of_length_le (by simp; omega)]
  rw [ht, unL_plain (u ++ 32 :: u) (by
    intro b hb
    rw [List.mem_append, List.mem_cons] at hb
    rcases hb with hb | rfl | hb
    · have := h b hb; omega
    · decide
    · have := h b hb; omega)]

end Go.Proofs.YtioolcnoiaoflaaGreatDoor

namespace Go.Proofs.YtioolcnoiaoflaaGreatDoor
open Go.RowKit
set_option linter.unusedSimpArgs false
set_option linter.unusedVariables false

def Blanks (g : List UInt8) : Prop := ∀ b ∈ g, blkB b.toNat = true
theorem blank_hid {b : UInt8} (h : blkB b.toNat = true) : tgHid b.toNat = true := by simp [blkB] at h; simp [tgHid]; omega
theorem dest_stop {u : List UInt8} (h : Lowers u) (hne : u ≠ []) {x : UInt8} (hx : tgHid x.toNat = true ∨ x.toNat = 41) (l : List UInt8) : destL (u ++ x :: l) = (u, u.length, true) := by
  have hb : bareGo (u ++ x :: l) 0 false 0 = (u.length, 0) := by
    rw [bareGo_letters u _ 0 h, bareGo_stop (by
      rcases hx with hx | hx
      · exact Or.inl hx
      · exact Or.inr ⟨hx, rfl, rfl⟩), Nat.zero_add]
  have hl : 0 < u.length := List.length_pos_iff.2 hne
  unfold destL
  rw [if_neg (by rw [letters_ne h (by decide) hne]; simp)]
  unfold bareL
  rw [hb]
  simp only [Nat.lt_irrefl, if_false]
  rw [List.take_left, unL_letters h, decide_eq_true hl]
theorem title_dq {t : List UInt8} (h : Lowers t) (l : List UInt8) : titleL (34 :: (t ++ 34 :: l)) = (t, t.length + 2, true) := by
  have hgo : btwGo 34 [] (t ++ 34 :: l) false 1 = some (t.length + 1) := by
    rw [btwGo_plain 34 [] t _ 1 (by
      intro b hb
      have := h b hb
      refine ⟨by omega, by omega, ?_, by simp⟩
      rintro rfl
      exact absurd this.1 (by decide)), btwGo_shut (by decide) (by decide) rfl]
    congr 1
    omega
  unfold titleL
  rw [if_pos (by rfl)]
  unfold btwL
  rw [List.drop_one, List.tail_cons, hgo]
  simp only
  rw [List.take_succ_cons, List.drop_one, List.tail_cons, List.take_left, unL_letters h]

end Go.Proofs.YtioolcnoiaoflaaGreatDoor
