/-
  Plain facts of the layer target: steps of what is read between signs, and of what stands bare.
-/
import Derived.Test.YtioolcnoiaoflaaDoorTgtP
import Derived.OwnWalk
namespace Go.Proofs.YtioolcnoiaoflaaDoor
open Go.RowKit
set_option linter.unusedSimpArgs false
set_option linter.unusedVariables false
theorem btwGo_zero {c b : UInt8} {nv l : List UInt8} {bh : Bool} {i : Nat} (h : b.toNat = 0) : btwGo c nv (b :: l) bh i = none := by rw [btwGo, if_pos h]
theorem btwGo_bh {c b : UInt8} {nv l : List UInt8} {i : Nat} (h : ¬ b.toNat = 0) : btwGo c nv (b :: l) true i = btwGo c nv l false (i + 1) := by rw [btwGo, if_neg h, if_pos rfl]
theorem btwGo_slash {c b : UInt8} {nv l : List UInt8} {i : Nat} (h : b.toNat = 92) : btwGo c nv (b :: l) false i = btwGo c nv l true (i + 1) := by rw [btwGo, if_neg (by omega), if_neg (by simp), if_pos h]
theorem btwGo_shut {c b : UInt8} {nv l : List UInt8} {i : Nat} (h0 : ¬ b.toNat = 0) (h : ¬ b.toNat = 92) (hc : b = c) : btwGo c nv (b :: l) false i = some i := by rw [btwGo, if_neg h0, if_neg (by simp), if_neg h, if_pos hc]
theorem btwGo_never {c b : UInt8} {nv l : List UInt8} {i : Nat} (h0 : ¬ b.toNat = 0) (h : ¬ b.toNat = 92) (hc : ¬ b = c) (hn : b ∈ nv) : btwGo c nv (b :: l) false i = none := by rw [btwGo, if_neg h0, if_neg (by simp), if_neg h, if_neg hc, if_pos hn]
theorem btwGo_on {c b : UInt8} {nv l : List UInt8} {i : Nat} (h0 : ¬ b.toNat = 0) (h : ¬ b.toNat = 92) (hc : ¬ b = c) (hn : ¬ b ∈ nv) : btwGo c nv (b :: l) false i = btwGo c nv l false (i + 1) := by rw [btwGo, if_neg h0, if_neg (by simp), if_neg h, if_neg hc, if_neg hn]

/-! ### bare -/
theorem bareGo_stop {b : UInt8} {l : List UInt8} {o i : Nat} {bh : Bool} (h : tgHid b.toNat = true ∨ b.toNat = 41 ∧ o = 0 ∧ bh = false) : bareGo (b :: l) o bh i = (i, o) := by
  rw [bareGo, if_pos (by
    rcases h with h | ⟨h1, h2, h3⟩
    · simp [h]
    · simp [h1, h2, h3])]
theorem bareGo_on {b : UInt8} {l : List UInt8} {o i : Nat} {bh : Bool} (h : tgHid b.toNat = false) (h2 : ¬ (b.toNat = 41 ∧ o = 0 ∧ bh = false)) : bareGo (b :: l) o bh i =
    if bh then bareGo l o false (i + 1) else if b.toNat = 92 then bareGo l o true (i + 1) else if b.toNat = 40 then bareGo l (o + 1) false (i + 1) else if b.toNat = 41 then bareGo l (o - 1) false (i + 1) else bareGo l o false (i + 1) := by
  rw [bareGo, if_neg (by
    rw [h, Bool.false_or]
    intro e
    simp only [Bool.and_eq_true, beq_iff_eq, Bool.not_eq_true'] at e
    exact h2 ⟨e.1.1, e.1.2, e.2⟩)]

end Go.Proofs.YtioolcnoiaoflaaDoor
