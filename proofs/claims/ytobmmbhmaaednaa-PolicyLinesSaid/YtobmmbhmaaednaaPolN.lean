/-
  PolicyLines: remarks and blank lines change nothing, wherever they stand: plain facts.
-/
import Derived.Test.YtobmmbhmaaednaaPolI
import Derived.Test.YtobmmbhmaaednaaPairs
namespace Go.Proofs.Ytobmmbhmaaednaa
open Go.RowKit
set_option linter.unusedSimpArgs false
set_option linter.unusedVariables false

theorem wLines_clean (st : St) (h : rightL st = true) : ∀ y ∈ wLines st, ∀ b ∈ y, b.toNat < 128 ∧ b ≠ 0 ∧ b ≠ 13 ∧ b ≠ 10 := by
  obtain ⟨_, h3, h4⟩ := (rightL_iff st).1 h
  have hs : ∀ b : UInt8, sign8 b = true → b.toNat < 128 ∧ b ≠ 0 ∧ b ≠ 13 ∧ b ≠ 10 := fun b hb => by
    have := sign_not hb
    exact ⟨this.2.2.2.2.2.2.2, this.2.2.2.2.2.2.1, this.2.2.2.2.2.1, this.2.2.2.2.1⟩
  have hl : ∀ b ∈ lvl, b.toNat < 128 ∧ b ≠ 0 ∧ b ≠ 13 ∧ b ≠ 10 := by decide
  have ht : ∀ b ∈ ltS, b.toNat < 128 ∧ b ≠ 0 ∧ b ≠ 13 ∧ b ≠ 10 := by decide
  intro y hy b hb
  rcases List.mem_append.1 hy with hy | hy
  · obtain ⟨x, hx, rfl⟩ := List.mem_map.1 hy
    obtain ⟨k, hk, rfl⟩ := List.mem_iff_getElem.1 hx
    have hn := ((nmL_iff _).1 ((okAt_iff st.1 k hk).1 ((rightN_iff _).1 h3 k hk)).1).1
    rcases List.mem_append.1 hb with hb | hb
    · exact hl b hb
    · exact hs b (hn b hb)
  · obtain ⟨p, hp, rfl⟩ := List.mem_map.1 hy
    have hpo := (pairOk_iff _ _ _).1 ((rightP_iff _ _).1 h4 p hp)
    have h5 := ((nmL_iff _).1 (nmAt_name h3 hpo.1.1 hpo.1.2).1).1
    have h6 := ((nmL_iff _).1 (nmAt_name h3 hpo.2.1.1 hpo.2.1.2).1).1
    rcases List.mem_append.1 hb with hb | hb
    · rcases List.mem_append.1 hb with hb | hb
      · exact hs b (h5 b hb)
      · exact ht b hb
    · exact hs b (h6 b hb)
theorem joinL_clean : ∀ ls : List (List UInt8), (∀ y ∈ ls, ∀ b ∈ y, b.toNat < 128 ∧ b ≠ 0 ∧ b ≠ 13 ∧ b ≠ 10) → Clean (joinL ls)
  | [], _ => by intro b hb; simp [joinL] at hb
  | l :: ls, h => by
    intro b hb
    simp only [joinL, List.mem_append, List.mem_cons] at hb
    rcases hb with hb | hb | hb
    · have := h l (by simp) b hb; exact ⟨this.1, this.2.1, this.2.2.1⟩
    · subst hb; decide
    · exact joinL_clean ls (fun y hy => h y (by simp [hy])) b hb
theorem ends_take (L : List UInt8) (j : Nat) (hj : j ≤ L.length) (h : j = 0 ∨ ∃ h : j - 1 < L.length, L[j - 1] = 10) : Ends (L.take j) := by
  by_cases h0 : j = 0
  · subst h0; exact Or.inl rfl
  · rcases h with h | ⟨h1, h2⟩
    · exact absurd h h0
    · right
      obtain ⟨m, rfl⟩ : ∃ m, j = m + 1 := ⟨j - 1, by omega⟩
      rw [List.take_succ_eq_append_getElem (show m < L.length by omega), List.getLast?_concat]
      simpa using h2
/-- A remark and blank lines at a line's beginning change nothing. -/
theorem lines_parse (st : St) (h : rightL st = true) (more : List UInt8) (hm : ∀ b ∈ more, b ≠ 10 ∧ b ≠ 13) (j : Nat) (hj : j ≤ (writeS st).length) (he : j = 0 ∨ ∃ h : j - 1 < (writeS st).length, (writeS st)[j - 1] = 10) :
    parseS ((writeS st).take j ++ (35 :: more) ++ [10, 10, 32, 9, 10] ++ (writeS st).drop j) = some st := by
  have hw : writeS st = joinL (wLines st) := if_pos h
  have hE := ends_take _ _ hj he
  rw [hw] at hE ⊢
  have hc := joinL_clean _ (wLines_clean st h)
  have hcl := wLines_clean st h
  obtain ⟨M, hM, e⟩ := textL_mid ((joinL (wLines st)).take j) more [10, 10, 32, 9, 10] ((joinL (wLines st)).drop j) (fun b hb => hc b (List.mem_of_mem_take hb)) hm (by intro b hb; revert b; decide) (by decide) (fun b hb => hc b (List.mem_of_mem_drop hb))
  rw [parseS_fin, e, parse_mid _ _ M hE hM, List.take_append_drop, split_join _ (fun y hy b hb => (hcl y hy b hb).2.2.2), parse_back st h]
  show (if st.1 = [] then none else some st) = _
  rw [if_neg]
  intro e2
  have := ((rightL_iff st).1 h).1.1
  rw [e2] at this
  simp at this

theorem tmod_in (a n : Int) (hn : 0 < n) : -n < a.tmod n ∧ a.tmod n < n := by
  rcases Int.le_total 0 a with h | h
  · rw [Int.tmod_eq_emod_of_nonneg h]
    have h1 := Int.emod_nonneg a (by omega : n ≠ 0)
    have h2 := Int.emod_lt_of_pos a hn
    omega
  · have e := Int.neg_tmod (a := -a) (b := n)
    rw [Int.neg_neg, Int.tmod_eq_emod_of_nonneg (a := -a) (by omega)] at e
    have h1 := Int.emod_nonneg (-a) (by omega : n ≠ 0)
    have h2 := Int.emod_lt_of_pos (-a) hn
    omega
/-- The place that is reckoned lies in the text. -/
theorem place_in (a : Int) (n : Nat) (hn : n ≤ 10000) : ∃ j : Nat, j ≤ n ∧ (a.tmod (n + 1) + n + 1) % ((n : Int) + 1) = (j : Int) := by
  have hb := tmod_in a (n + 1) (by omega)
  have h1 := Int.emod_nonneg (a.tmod (n + 1) + n + 1) (by omega : ((n : Int) + 1) ≠ 0)
  have h2 := Int.emod_lt_of_pos (a.tmod (n + 1) + n + 1) (by omega : (0 : Int) < (n : Int) + 1)
  exact ⟨((a.tmod (n + 1) + n + 1) % ((n : Int) + 1)).toNat, by omega, by omega⟩
theorem MaxL.drew {w : World} (h : MaxL w) : MaxL w.drew := MaxL.heap (w := w) h rfl
theorem below_of_drew {w w' : World} (h : Below w.drew.heap.size w.drew w') : Below w.heap.size w w' := ⟨h.os, h.tape, h.output, h.size, h.block⟩
theorem lines_end {X : ByteArray} {L : List UInt8} (h : X.data.toList = L) (q : Nat) (hq : q < X.size) (h10 : X[q].toNat = 10) : ∃ h : q + 1 - 1 < L.length, L[q + 1 - 1] = 10 := by
  subst h
  refine ⟨by simpa using hq, ?_⟩
  apply UInt8.toNat_inj.1
  exact h10
theorem mid_list (X x : ByteArray) (k : Nat) (hk : k ≤ X.size) :
    (((((X.extract 0 k) ++ (⟨#[35]⟩ : ByteArray)) ++ x) ++ (⟨#[10, 10, 32, 9, 10]⟩ : ByteArray)) ++ X.extract k X.size).data.toList = X.data.toList.take k ++ (35 :: x.data.toList) ++ [10, 10, 32, 9, 10] ++ X.data.toList.drop k := by
  have h1 := Lib.extract_data X 0 k
  have h2 := Lib.extract_data X k X.size
  have hl : X.data.toList.length = X.size := by simp
  rw [List.drop_zero, Nat.sub_zero] at h1
  rw [List.take_of_length_le (by rw [List.length_drop]; omega)] at h2
  simp only [ByteArray.data_append, Array.toList_append, h1, h2]
  simp

end Go.Proofs.Ytobmmbhmaaednaa
