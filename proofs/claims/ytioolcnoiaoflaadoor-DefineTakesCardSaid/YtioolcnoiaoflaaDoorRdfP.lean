/-
  Plain facts for the document's own way in chapter 11: how it trims, where a destination and a title end.
-/
import Derived.Test.YtioolcnoiaoflaaDoorDefP
import Derived.Test.YtioolcnoiaoflaaDoorTgtPp
namespace Go.Proofs.YtioolcnoiaoflaaDoor
open Go.RowKit
set_option linter.unusedSimpArgs false
set_option linter.unusedVariables false

/-- The last blank goes. -/
theorem trimGR_last {l : List UInt8} {b : UInt8} {m : List UInt8} (h : l = m ++ [b]) : trimGR l = if isGap b then trimGR m else l := by
  subst h
  cases hb : isGap b
  · rw [trimGR_snoc m b hb]; simp
  · rw [trimGR_blank m b hb]; simp
/-- A backslash and what stands behind it, between signs. -/
theorem btw_pair {c b : UInt8} {nv l : List UInt8} {i : Nat} (hb : b.toNat ≠ 0) : btwGo c nv (92 :: b :: l) false i = btwGo c nv l false (i + 2) := by
  rw [btwGo_slash (by decide), btwGo_bh hb]
theorem btw_pair0 {c b : UInt8} {nv l : List UInt8} {i : Nat} (hb : b.toNat = 0) : btwGo c nv (92 :: b :: l) false i = none := by
  rw [btwGo_slash (by decide), btwGo_zero hb]
theorem btw_last {c : UInt8} {nv : List UInt8} {i : Nat} : btwGo c nv [92] false i = none := by
  rw [btwGo_slash (by decide)]
  rfl
/-- The same where a destination stands bare. -/
theorem bare_pair {b : UInt8} {l : List UInt8} {o i : Nat} (hb : tgHid b.toNat = false) : bareGo (92 :: b :: l) o false i = bareGo l o false (i + 2) := by
  rw [bareGo_on (by decide) (by intro h; exact absurd h.1 (by decide)), if_neg (by simp), if_pos (by decide), bareGo_on hb (by intro h; exact absurd h.2.2 (by simp)), if_pos rfl]
theorem bare_pair0 {b : UInt8} {l : List UInt8} {o i : Nat} (hb : tgHid b.toNat = true) : bareGo (92 :: b :: l) o false i = bareGo (b :: l) o false (i + 1) := by
  rw [bareGo_on (by decide) (by intro h; exact absurd h.1 (by decide)), if_neg (by simp), if_pos (by decide), bareGo_stop (Or.inl hb), bareGo_stop (Or.inl hb)]
theorem bare_last {o i : Nat} : bareGo [92] o false i = bareGo [] o false (i + 1) := by
  rw [bareGo_on (by decide) (by intro h; exact absurd h.1 (by decide)), if_neg (by simp), if_pos (by decide)]
  rfl

end Go.Proofs.YtioolcnoiaoflaaDoor
