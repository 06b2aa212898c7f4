/-
  The document's own Entity, at every text; EntityTells: the law's walk.
-/
import Derived.Test.YtggfllbaomfjhaaDoorEntX
import Derived.Test.YtggfllbaomfjhaaDoorBookJ
namespace Go.Proofs.YtggfllbaomfjhaaDoor
open Go.RowKit
set_option linter.unusedSimpArgs false
set_option linter.unusedVariables false

theorem first_of (p : Nat → Bool) : ∀ n : Nat, (∃ k, k < n ∧ p k = true) → ∃ k, k < n ∧ p k = true ∧ ∀ j, j < k → p j = false
  | 0, ⟨k, h, _⟩ => by omega
  | n + 1, h => by
    by_cases hn : ∃ k, k < n ∧ p k = true
    · obtain ⟨k, h1, h2, h3⟩ := first_of p n hn
      exact ⟨k, by omega, h2, h3⟩
    · obtain ⟨k, h1, h2⟩ := h
      refine ⟨k, h1, h2, fun j hj => ?_⟩
      cases hp : p j with
      | false => rfl
      | true => exact absurd ⟨j, by omega, hp⟩ hn
theorem rentity_any (s : ByteArray) (w : World) (hs : s.size ≤ 100) :
    Calls Tryd.prog 10 #[.string s] w fun e w' => e = .returned (atRet s.data.toList) ∧ Below w.heap.size w w' := by
  by_cases hh : ∃ k, k < 23 ∧ hitB s.data.toList k = true
  · obtain ⟨k, h1, h2, h3⟩ := first_of _ 23 hh
    rw [hit_at _ k h1 h2]
    exact rentity_hit s w hs k h1 h3 h2
  · have hm : ∀ j, j < 23 → hitB s.data.toList j = false := fun j hj => by
      cases hp : hitB s.data.toList j with
      | false => rfl
      | true => exact absurd ⟨j, hj, hp⟩ hh
    by_cases hno : s.size < 4 ∨ Lib.hasPrefix s.data.toList [38, 35] = false
    · rw [at_none _ hm (by rw [size_len]; exact hno)]
      exact rentity_none s w hs hm hno
    · have h4 : 4 ≤ s.size := by rcases Nat.lt_or_ge s.size 4 with h | h; exact absurd (.inl h) hno; exact h
      have hp : Lib.hasPrefix s.data.toList [38, 35] = true := by
        cases hp : Lib.hasPrefix s.data.toList [38, 35] with
        | true => rfl
        | false => exact absurd (.inr hp) hno
      obtain ⟨r, hr⟩ := pre2 _ hp
      obtain ⟨x, r, rfl⟩ : ∃ x r', r = x :: r' := by
        cases r with
        | nil => have := size_len s; rw [hr] at this; simp at this; omega
        | cons x r => exact ⟨x, r, rfl⟩
      unfold atRet
      by_cases hx : x = 120 ∨ x = 88
      · rw [show atL s.data.toList = numAt 16 3 6 s.data.toList from by rw [hr]; exact at_hexN x r hx]
        rcases hx with hx | hx
        · exact rentity_hex s w hs hm h4 x r hr hx
        · exact rentity_heX s w hs hm h4 x r hr hx
      · rw [show atL s.data.toList = numAt 10 2 7 s.data.toList from by rw [hr]; exact at_decN x r hx]
        exact rentity_dec s w hs hm h4 x r hr hx

/-- The list lies in a block of its own. -/
def ListAt (w : World) (g : Nat) (L : List (List UInt8)) : Prop := w.heap[g]? = some (.cells (strs L).toArray 9 (0, 0))
theorem ListAt.kept {w w' : World} {g : Nat} {L : List (List UInt8)} (h : ListAt w g L) (k : StrKept w w') : ListAt w' g L := k g _ _ h
theorem ListAt.row {w : World} {g : Nat} {L : List (List UInt8)} (h : ListAt w g L) (hl : L.length ≤ 1000) : RowOf w (some ⟨g, 0, none⟩) L.length (strs L) := by
  refine ⟨by rw [strs_length]; exact Nat.le_refl _, by unfold maxLen; omega, Or.inr ⟨g, 0, rfl, (Array.getElem?_eq_some_iff.1 h).1, fun i hi => ?_⟩⟩
  rw [Nat.zero_add, cell_of_row _ _ i _ _ (0, 0) h]
  simp [hi]
theorem rnames_at (w : World) :
    Calls Tryd.prog 11 #[] w fun e w' => ∃ g B cb, e = .returned (.tuple #[.slice (some ⟨g, 0, none⟩) namesL.length namesL.length, .slice B 23 cb]) ∧ ListAt w' g namesL ∧ RowOf w' B cb runeVals ∧ Below w.heap.size w w' := by
  have h2 := rowOf_lit (w.alloc (.cells (strs namesL).toArray 9)) 21 runeVals (by decide)
  rw [alloc_size] at h2
  have h1 : ListAt ((w.alloc (.cells (strs namesL).toArray 9)).alloc (.cells runeVals.toArray 21)) w.heap.size namesL :=
    (StrKept.alloc _ _) _ _ _ (heap_alloc_new w _)
  have H1 := Lib.hid h1
  have H2 := Lib.hid h2
  have HB := Lib.hid (show Below w.heap.size w ((w.alloc (.cells (strs namesL).toArray 9)).alloc (.cells runeVals.toArray 21)) from ((Below.refl _ w).alloc (Nat.le_refl _) _).alloc (by rw [alloc_size]; omega) _)
  clear h1 h2
  go_enter Tryd.func11, Tryd.ntmps11
  go_wp2
  go_ret2
  exact ⟨_, _, _, rfl, H1.out, H2.out, HB.out⟩

end Go.Proofs.YtggfllbaomfjhaaDoor
