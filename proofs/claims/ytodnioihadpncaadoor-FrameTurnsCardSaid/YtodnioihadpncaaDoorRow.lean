/-
  Lists that may be read, of whatever layer.
-/
import Derived.Test.YtodnioihadpncaaDoorBase
import Derived.RegionTactic
namespace Go.Proofs.YtodnioihadpncaaDoor
open Go.RowKit
set_option linter.unusedSimpArgs false
set_option linter.unusedVariables false

theorem addr_add (b off k : Nat) : (⟨b, off, none⟩ : Addr).add k = ⟨b, off + k, none⟩ := by
  unfold Addr.add
  split
  · rename_i h; simp [h]
  · rfl
theorem RowOf.cellAt {w : World} {A : Option Addr} {cap : Nat} {ls : List (List UInt8)} (h : RowOf w A cap (strs ls)) {k : Nat} (hk : k < ls.length) :
    ∃ b off, A = some ⟨b, off, none⟩ ∧ b < w.heap.size ∧ w.cell? ⟨b, off + k, none⟩ = some (.string ⟨ls[k].toArray⟩) := by
  have hne : strs ls ≠ [] := by intro e; have := congrArg List.length e; rw [strs_length, List.length_nil] at this; omega
  obtain ⟨b, off, e, hb, hc⟩ := h.at hne
  have := hc k (by rw [strs_length]; exact hk)
  rw [strs_get] at this
  exact ⟨b, off, e, hb, this⟩

def QuietBool (w : World) (b : Bool) (e : Ending) (w' : World) : Prop := e = .returned (.bool b) ∧ ∃ n, w' = w.drewN n

theorem rowOf_heap {w w' : World} (h : w'.heap = w.heap) {A : Option Addr} {cap : Nat} {xs : List Value} (hr : RowOf w A cap xs) : RowOf w' A cap xs := by
  refine ⟨hr.1, hr.2.1, ?_⟩
  rcases hr.2.2 with h1 | ⟨b, off, e, hb, hc⟩
  · exact Or.inl h1
  · exact Or.inr ⟨b, off, e, by rw [h]; exact hb, fun i hi => by have := hc i hi; simpa [World.cell?, h] using this⟩

/-- A list of the call's own may be read. -/
theorem RowOf.own {w : World} {B : Nat} {e : TypeId} {v : Value} {n : Nat} {xs : List Value} (h : w.ownsRow B e 1 v n xs) : ∃ A cap, v = .slice A n cap ∧ RowOf w A cap xs ∧ (A = none → n = 0) ∧ ∀ a, A = some a → B ≤ a.block := by
  obtain ⟨hl, h⟩ := h
  rcases h with ⟨rfl, rfl⟩ | ⟨g, cap, cur, rfl, hb, hg, hnc, hcm, hcs, ht⟩
  · refine ⟨none, 0, rfl, ⟨by omega, Nat.zero_le _, Or.inl ?_⟩, fun _ => rfl, fun a h => by cases h⟩
    exact List.eq_nil_of_length_eq_zero (by omega)
  · refine ⟨_, cap, rfl, ⟨by omega, hcm, Or.inr ⟨g, 0, rfl, (Array.getElem?_eq_some_iff.1 hg).1, fun i hi => ?_⟩⟩, fun h => (by cases h), fun a h => by cases h; exact hb⟩
    rw [Nat.zero_add, cell_of_row w g i cur e (0, 0) hg]
    have h2 : xs[i]? = some xs[i] := List.getElem?_eq_getElem hi
    have h3 : (cur.toList.take (n * 1))[i]? = some xs[i] := by rw [ht]; exact h2
    rw [List.getElem?_take] at h3
    split at h3
    · simpa using h3
    · cases h3

theorem RowOf.take {w : World} {A : Option Addr} {cap : Nat} {xs : List Value} (h : RowOf w A cap xs) (k : Nat) : RowOf w A cap (xs.take k) := by
  refine ⟨by have := h.1; rw [List.length_take]; omega, h.2.1, ?_⟩
  rcases h.2.2 with h1 | ⟨b, off, e, hb, hc⟩
  · exact Or.inl (by rw [h1]; simp)
  · refine Or.inr ⟨b, off, e, hb, fun i hi => ?_⟩
    rw [List.length_take] at hi
    rw [List.getElem_take]
    exact hc i (by omega)

end Go.Proofs.YtodnioihadpncaaDoor
