/-
  The document's own answers for chapter 10, plain facts: they go byte by byte; so do ours.
-/
import Derived.Test.YtioolcnoiaoflaaGreatDoorTgtP
import Derived.Test.YtioolcnoiaoflaaGreatDoorEntT
namespace Go.Proofs.YtioolcnoiaoflaaGreatDoor
open Go.RowKit
set_option linter.unusedSimpArgs false
set_option linter.unusedVariables false

theorem drop_get (l : List UInt8) (k : Nat) (h : k < l.length) : l.drop k = l[k] :: l.drop (k + 1) := List.drop_eq_getElem_cons h
/-- What a backslash ahead of a sign is, and what an entity is. -/
theorem escL_slash {l : List UInt8} (h1 : 1 < l.length) (h2 : (l.getD 0 0).toNat = 92) (h3 : asciiB (l.getD 1 0).toNat = true) : escL l = ([l.getD 1 0], 2) := by
  unfold escL
  rw [if_pos ⟨h1, h2, h3⟩]
theorem escL_else {l : List UInt8} (h : ¬ (1 < l.length ∧ (l.getD 0 0).toNat = 92 ∧ asciiB (l.getD 1 0).toNat = true)) : escL l = ((atL l).1.data.toList, (atL l).2) := by
  unfold escL
  rw [if_neg h]
/-- What is told, and what is left. -/
theorem unL_step {l out : List UInt8} {k : Nat} (hk : k < l.length) {X : List UInt8} {z : Nat} (he : escL (l.drop k) = (X, z)) (h0 : 0 < z) {A : List UInt8} (h : out ++ unL (l.drop k) = A) : (out ++ X) ++ unL (l.drop (k + z)) = A ∧ k + z ≤ l.length := by
  rw [drop_get l k hk] at he h
  have hs := (escL_ok (l[k] :: l.drop (k + 1))).2 (by rw [he]; exact h0)
  rw [he] at hs
  rw [unL_esc (by rw [he]; exact h0), he] at h
  simp only at hs h
  rw [← drop_get l k hk] at hs h
  rw [List.length_drop] at hs
  rw [List.drop_drop] at h
  exact ⟨by rw [← h]; simp, by omega⟩
theorem unL_one {l out : List UInt8} {k : Nat} (hk : k < l.length) (he : (escL (l.drop k)).2 = 0) {A : List UInt8} (h : out ++ unL (l.drop k) = A) : (out ++ [l[k]]) ++ unL (l.drop (k + 1)) = A := by
  rw [drop_get l k hk] at he h
  rw [unL_byte he] at h
  rw [← h]; simp

end Go.Proofs.YtioolcnoiaoflaaGreatDoor
