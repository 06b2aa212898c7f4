/-
  Plain facts of the layer token: no token is longer than the text.
-/
import Derived.Test.YtggdpmaomhmobaaGreatDoorTkP
import Derived.Lib.IndexMore
namespace Go.Proofs.YtggdpmaomhmobaaGreatDoor
open Go.RowKit
set_option linter.unusedSimpArgs false
set_option linter.unusedVariables false

theorem numGo_i {base : Int} {most : Nat} : ∀ (l : List UInt8) (i : Nat) (v : Int) (x : Int) (j : Nat), numGo base most l i v = some (x, j) → j + 1 ≤ i + l.length
  | [], i, v, x, j, h => by cases h
  | b :: l, i, v, x, j, h => by
    rw [numGo] at h
    split at h
    · cases h; simp
    · split at h
      · cases h
      · have := numGo_i l (i + 1) _ x j h
        simp; omega
theorem numAt_i (base : Int) (f most : Nat) (l : List UInt8) (hf : f ≤ l.length) : (numAt base f most l).2 ≤ l.length := by
  unfold numAt
  split
  · simp
  · rename_i v i h
    have := numGo_i _ _ _ _ _ h
    rw [List.length_drop] at this
    simp only
    omega
theorem nameGo_i : ∀ (l : List UInt8) (i j : Nat), nameGo l i = some j → j + 1 ≤ i + l.length
  | [], i, j, h => by cases h
  | b :: l, i, j, h => by
    rw [nameGo] at h
    split at h
    · cases h; simp
    · split at h
      · have := nameGo_i l (i + 1) j h
        simp; omega
      · cases h
theorem prefix_len {l p : List UInt8} (h : Lib.hasPrefix l p = true) : p.length ≤ l.length := (List.isPrefixOf_iff_prefix.1 h).length_le
theorem atL_len (l : List UInt8) : (atL l).2 ≤ l.length := by
  unfold atL
  split
  · rename_i h; exact numAt_i _ _ _ _ (prefix_len h)
  · split
    · rename_i h; exact numAt_i _ _ _ _ (prefix_len h)
    · split
      · rename_i h; exact numAt_i _ _ _ _ (prefix_len h)
      · split
        · rename_i h
          have hl := prefix_len h
          unfold nameAt
          split
          · simp
          · rename_i i hi
            have := nameGo_i _ _ _ hi
            rw [List.length_drop] at this
            unfold nameOf
            split
            · simp
            · simp only; simp at hl; omega
        · simp
theorem between_len (l : List UInt8) (k : Nat) : (betweenL l k).2 ≤ l.length := by
  unfold betweenL
  split
  · simp
  · rename_i h
    simp only [not_or, Bool.not_eq_false] at h
    have := hasL_lt h.2
    simp only
    omega
theorem code_len (l : List UInt8) (n : Nat) (hn : n ≤ l.length) (hn1 : 1 ≤ n) : ∀ (f k : Nat), k ≤ l.length → (codeGo l n f k).2 ≤ l.length
  | 0, k, _ => by rw [codeGo]; exact hn
  | f + 1, k, hk => by
    rw [codeGo]
    split
    · exact hn
    · rename_i h
      have hr := Lib.index_room (l.drop k) (l.take n) (by omega)
      rw [List.length_drop, List.length_take, Nat.min_eq_left hn] at hr
      have hlt : k + (Lib.index (l.drop k) (l.take n)).toNat < l.length := by omega
      have hz := rowL_le (l.drop (k + (Lib.index (l.drop k) (l.take n)).toNat)) (by
        intro e
        have := congrArg List.length e
        rw [List.length_drop] at this
        simp at this; omega)
      rw [List.length_drop] at hz
      simp only
      split
      · simp only; omega
      · exact code_len l n hn hn1 f _ (by omega)
theorem first_len (l : List UInt8) (hl : l ≠ []) : (firstTk l).2 ≤ l.length := by
  have h1 : 1 ≤ l.length := List.length_pos_iff.2 hl
  unfold firstTk
  simp only
  split
  · unfold atomL
    simp only
    split
    · simp
    · rename_i h
      simp only [not_or, Bool.not_eq_false] at h
      exact hasL_lt h.2.2
  · split
    · unfold escapedL
      split
      · rename_i h
        exact pastL_le _ _ _ (by have := hasL_lt h; omega)
      · split
        · rename_i c hc
          have := (List.getElem?_eq_some_iff.1 hc).1
          split
          · simp only; omega
          · simp
        · simp
    · split
      · exact atL_len l
      · split
        · exact code_len l _ (rowL_le l hl) (rowL_pos l) _ _ (rowL_le l hl)
        · split
          · unfold pointedL
            simp only
            split
            · exact between_len _ _
            · split
              · exact between_len _ _
              · exact between_len _ _
          · split
            · exact rowL_le l hl
            · split
              · unfold markTk
                split
                · rename_i h; exact prefix_len h
                · split
                  · rename_i h; exact prefix_len h
                  · split
                    · rename_i h; exact prefix_len h
                    · simp
              · split
                · unfold lineTk
                  simp only
                  split
                  · simp
                  · rename_i h
                    simp only [Bool.not_eq_false] at h
                    exact pastL_le _ _ _ (by have := hasL_lt h; omega)
                · simp
theorem word_len (l : List UInt8) (hl : l ≠ []) : 1 ≤ (wordTk l).2 ∧ (wordTk l).2 ≤ l.length := by
  have h1 : 1 ≤ l.length := List.length_pos_iff.2 hl
  unfold wordTk
  simp only
  split
  · exact ⟨rowL_pos l, rowL_le l hl⟩
  · exact ⟨pastL_ge _ _ _, pastL_le _ _ _ h1⟩
theorem next_len (l : List UInt8) (hl : l ≠ []) : 1 ≤ (nextL l).2 ∧ (nextL l).2 ≤ l.length := by
  unfold nextL
  split
  · exact word_len l hl
  · exact ⟨by omega, first_len l hl⟩
/-- From k on. -/
theorem allTk_fuel : ∀ (f g : Nat) (l : List UInt8), l.length ≤ f → l.length ≤ g → allTk f l = allTk g l
  | 0, g, l, h, _ => by
    have : l = [] := List.length_eq_zero_iff.1 (by omega)
    subst this
    cases g <;> rfl
  | f + 1, 0, l, _, h => by
    have : l = [] := List.length_eq_zero_iff.1 (by omega)
    subst this
    rfl
  | f + 1, g + 1, l, h1, h2 => by
    rw [allTk, allTk]
    split
    · rfl
    · rename_i hl
      have := next_len l hl
      rw [allTk_fuel f g _ (by rw [List.length_drop]; omega) (by rw [List.length_drop]; omega)]
theorem tokens_cons (l : List UInt8) (hl : l ≠ []) : tokensL l = (nextL l).1 :: tokensL (l.drop (nextL l).2) := by
  have := next_len l hl
  have h1 : 1 ≤ l.length := List.length_pos_iff.2 hl
  unfold tokensL
  obtain ⟨f, hf⟩ : ∃ f, l.length = f + 1 := ⟨l.length - 1, by omega⟩
  rw [hf, allTk, if_neg hl, allTk_fuel f _ _ (by rw [List.length_drop]; omega) (Nat.le_refl _)]
theorem tokens_nil : tokensL [] = [] := rfl
theorem tokens_count : ∀ (f : Nat) (l : List UInt8), l.length ≤ f → (tokensL l).length ≤ l.length
  | 0, l, h => by
    have : l = [] := List.length_eq_zero_iff.1 (by omega)
    subst this
    exact Nat.le_refl _
  | f + 1, l, h => by
    by_cases hl : l = []
    · subst hl; exact Nat.le_refl _
    · have := next_len l hl
      rw [tokens_cons l hl, List.length_cons]
      have := tokens_count f (l.drop (nextL l).2) (by rw [List.length_drop]; omega)
      rw [List.length_drop] at this
      omega

end Go.Proofs.YtggdpmaomhmobaaGreatDoor
