/-
  Plain facts for HeadingLabels: a label at the end of a heading, with blanks behind it, with a sign behind it, with a sign in it.
-/
import Derived.Test.YtodnioihadpncaaDoorSpnE
namespace Go.Proofs.YtodnioihadpncaaDoor
set_option linter.unusedSimpArgs false
set_option linter.unusedVariables false

def hdS (bl n : Nat) (t : Txt) : Txt := List.replicate bl 32 ++ (List.replicate n 35 ++ 32 :: t)
def hdMay (bl n : Nat) : Bool := decide (bl ≤ 3) && decide (n ≤ 6)
theorem last_blanks (lab : Txt) (h : isLab lab = true) : lastLab (lab ++ [125, 32, 32]) = some lab := by
  have e : trimR (lab ++ [125, 32, 32]) = lab ++ [125] := by
    rw [show lab ++ [125, 32, 32] = (lab ++ [125] ++ [32]) ++ [32] from by simp, trimR_blank, trimR_blank, trimR_snoc _ _ (by decide)]
  unfold lastLab
  rw [e]
  simp [h]
theorem last_more (lab : Txt) : lastLab (lab ++ [125, 32, 120]) = none := by
  have e : trimR (lab ++ [125, 32, 120]) = lab ++ [125, 32, 120] := by
    rw [show lab ++ [125, 32, 120] = (lab ++ [125, 32]) ++ [120] from by simp, trimR_snoc _ _ (by decide)]
  unfold lastLab
  rw [e]
  simp
theorem last_sign (lab : Txt) (b : UInt8) : lastLab (lab ++ [b, 125]) = if isLab (lab ++ [b]) then some (lab ++ [b]) else none := by
  have e : trimR (lab ++ [b, 125]) = lab ++ [b, 125] := by
    rw [show lab ++ [b, 125] = (lab ++ [b]) ++ [125] from by simp, trimR_snoc _ _ (by decide)]
  unfold lastLab
  rw [e]
  have e2 : (lab ++ [b, 125]).getLast? = some 125 := by simp
  have e3 : (lab ++ [b, 125]).dropLast = lab ++ [b] := by rw [show lab ++ [b, 125] = (lab ++ [b]) ++ [125] from by simp, List.dropLast_concat]
  rw [e2, e3]
  cases isLab (lab ++ [b]) <;> simp
theorem no_head {lab t : Txt} (h : ∀ b ∈ lab, b ≠ 123) (ht : ∀ j : Nat, t[j]? = some 123 → t[j + 1]? ≠ some 61) : ∀ j : Nat, (lab ++ t)[j]? = some 123 → (lab ++ t)[j + 1]? ≠ some 61 := by
  intro j hj
  by_cases hl : j < lab.length
  · rw [List.getElem?_append_left hl] at hj
    exact absurd rfl (h 123 (List.mem_of_getElem? hj))
  · rw [List.getElem?_append_right (by omega)] at hj
    rw [List.getElem?_append_right (by omega), show j + 1 - lab.length = j - lab.length + 1 from by omega]
    exact ht _ hj
theorem hd_heading (bl n : Nat) (h1 : 1 ≤ n) (t r lab : Txt) (hl : ∀ b ∈ lab, b ≠ 123) (hr : ∀ j : Nat, r[j]? = some 123 → r[j + 1]? ≠ some 61) :
    headingL (hdS bl n t ++ headB ++ (lab ++ r)) = if hdMay bl n then (match lastLab (lab ++ r) with | some x => some (hdS bl n t, x) | none => none) else none := by
  rw [heading_here (no_head hl hr)]
  unfold hdS hdMay
  rw [begF_heading bl n t (by omega)]
  cases lastLab (lab ++ r) <;> rfl
theorem hd_one (bl n : Nat) (h1 : 1 ≤ n) (t lab : Txt) (hl : ∀ b ∈ lab, b ≠ 123) (hlab : isLab lab = true) :
    headingL (hdS bl n t ++ headB ++ (lab ++ [125, 32, 32])) = if hdMay bl n then some (hdS bl n t, lab) else none := by
  rw [hd_heading bl n h1 t _ lab hl (by intro j; match j with | 0 => simp | 1 => simp | 2 => simp | j + 3 => simp), last_blanks lab hlab]
theorem hd_two (bl n : Nat) (h1 : 1 ≤ n) (t lab : Txt) (hl : ∀ b ∈ lab, b ≠ 123) :
    headingL (hdS bl n t ++ headB ++ (lab ++ [125, 32, 120])) = none := by
  rw [hd_heading bl n h1 t _ lab hl (by intro j; match j with | 0 => simp | 1 => simp | 2 => simp | j + 3 => simp), last_more lab]
  split <;> rfl
theorem hd_three (bl n : Nat) (h1 : 1 ≤ n) (t lab : Txt) (b : UInt8) (hl : ∀ b ∈ lab, b ≠ 123) (hs : lab.all labSign = true) :
    headingL (hdS bl n t ++ headB ++ (lab ++ [b, 125])) = if hdMay bl n && (labSign b && decide (lab.length < 40)) then some (hdS bl n t, lab ++ [b]) else none := by
  rw [hd_heading bl n h1 t _ lab hl (by intro j; match j with | 0 => simp | 1 => simp | j + 2 => simp), last_sign lab b]
  have e : isLab (lab ++ [b]) = (labSign b && decide (lab.length < 40)) := by
    unfold isLab labOk
    rw [List.all_append, hs, List.length_append]
    rw [Bool.eq_iff_iff]
    simp
    omega
  rw [e]
  cases hdMay bl n <;> cases (labSign b && decide (lab.length < 40)) <;> rfl
theorem hd_blank (bl n : Nat) (t : Txt) : hdS (bl + 1) n t = 32 :: hdS bl n t := by unfold hdS; rw [List.replicate_succ]; rfl

end Go.Proofs.YtodnioihadpncaaDoor
