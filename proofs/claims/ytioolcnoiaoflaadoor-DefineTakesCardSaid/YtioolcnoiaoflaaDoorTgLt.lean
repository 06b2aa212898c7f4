/-
  Plain facts of letters: a destination that ends, a title.
-/
import Derived.Test.YtioolcnoiaoflaaDoorTgLo
namespace Go.Proofs.YtioolcnoiaoflaaDoor
open Go.RowKit
set_option linter.unusedSimpArgs false
set_option linter.unusedVariables false

def Blanks (g : List UInt8) : Prop := ∀ b ∈ g, blkB b.toNat = true
theorem blank_hid {b : UInt8} (h : blkB b.toNat = true) : tgHid b.toNat = true := by simp [blkB] at h; simp [tgHid]; omega
theorem dest_stop {u : List UInt8} (h : Lowers u) (hne : u ≠ []) {x : UInt8} (hx : tgHid x.toNat = true ∨ x.toNat = 41) (l : List UInt8) : destL (u ++ x :: l) = (u, u.length, true) := by
  have hb : bareGo (u ++ x :: l) 0 false 0 = (u.length, 0) := by
    rw [bareGo_letters u _ 0 h, bareGo_stop (by
      rcases hx with hx | hx
      · exact Or.inl hx
      · exact Or.inr ⟨hx, rfl, rfl⟩), Nat.zero_add]
  have hl : 0 < u.length := List.length_pos_iff.2 hne
  unfold destL
  rw [if_neg (by rw [letters_ne h (by decide) hne]; simp)]
  unfold bareL
  rw [hb]
  simp only [Nat.lt_irrefl, if_false]
  rw [List.take_left, unL_letters h, decide_eq_true hl]
theorem title_dq {t : List UInt8} (h : Lowers t) (l : List UInt8) : titleL (34 :: (t ++ 34 :: l)) = (t, t.length + 2, true) := by
  have hgo : btwGo 34 [] (t ++ 34 :: l) false 1 = some (t.length + 1) := by
    rw [btwGo_plain 34 [] t _ 1 (by
      intro b hb
      have := h b hb
      refine ⟨by omega, by omega, ?_, by simp⟩
      rintro rfl
      exact absurd this.1 (by decide)), btwGo_shut (by decide) (by decide) rfl]
    congr 1
    omega
  unfold titleL
  rw [if_pos (by rfl)]
  unfold btwL
  rw [List.drop_one, List.tail_cons, hgo]
  simp only
  rw [List.take_succ_cons, List.drop_one, List.tail_cons, List.take_left, unL_letters h]

end Go.Proofs.YtioolcnoiaoflaaDoor
