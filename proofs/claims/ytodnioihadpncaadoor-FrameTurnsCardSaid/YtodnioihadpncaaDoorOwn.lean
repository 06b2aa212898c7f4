/-
  Lists that a call owns: where they lie, what keeps them.
-/
import Derived.Test.YtodnioihadpncaaDoorRow
import Derived.Laws.AppendOwnNone
import Derived.Deep.AppendLies
import Derived.Deep.RegionLaw
namespace Go.Proofs.YtodnioihadpncaaDoor
open Go.RowKit
set_option linter.unusedSimpArgs false
set_option linter.unusedVariables false

theorem strs_one' (ls : List (List UInt8)) : ∀ u ∈ strs ls, u.oneCell' = true := by
  intro u hu
  obtain ⟨l, _, rfl⟩ := List.mem_map.1 hu
  rfl
/-- Where the cells of a list that may be read lie. -/
theorem RowOf.cells {w : World} {ad : Addr} {cap : Nat} {xs : List Value} (h : RowOf w (some ad) cap xs) : ∀ j u, xs[j]? = some u → w.cell? (ad.add j) = some u := by
  intro j u hu
  have hj : j < xs.length := (List.getElem?_eq_some_iff.1 hu).1
  rcases h.2.2 with h | ⟨b, off, e, hb, hc⟩
  · rw [h] at hj; simp at hj
  · cases e
    rw [addr_add, hc j hj, ← hu, List.getElem?_eq_getElem hj]

/-- Two values own no block together. -/
def Apart (v u : Value) : Prop := ∀ g, v.ownBlock = some g → u.ownBlock ≠ some g
theorem Apart.symm {v u : Value} (h : Apart v u) : Apart u v := fun g hu hv => h g hv hu
theorem Apart.ne {v u : Value} (h : Apart v u) : v.ownBlock = none ∨ v.ownBlock ≠ u.ownBlock := by
  cases hv : v.ownBlock with
  | none => exact Or.inl rfl
  | some g => exact Or.inr fun e => h g hv e.symm
/-- Two rows whose elements are of different types lie apart; and a row lies apart from a block of another type. -/
theorem own_ne {w : World} {B : Nat} {e e' : TypeId} {size n : Nat} {v : Value} {xs : List Value} (h : w.ownsRow B e size v n xs) {g : Nat} {cs : Array Value} {fz : Nat × Nat} (hg : w.heap[g]? = some (.cells cs e' fz)) (hne : e ≠ e') : v.ownBlock ≠ some g := by
  rcases h.2 with ⟨rfl, _⟩ | ⟨g', cap, cur, rfl, _, hh, _⟩
  · simp [Value.ownBlock]
  · intro he
    simp [Value.ownBlock] at he
    subst he
    rw [hh] at hg
    injection hg with hg
    injection hg with _ ht
    exact hne ht
theorem own_apart {w : World} {B B' : Nat} {e e' : TypeId} {size size' n n' : Nat} {v u : Value} {xs ys : List Value} (h : w.ownsRow B e size v n xs) (k : w.ownsRow B' e' size' u n' ys) (hne : e ≠ e') : Apart v u := by
  intro g hv hu
  rcases k.2 with ⟨rfl, _⟩ | ⟨g', cap, cur, rfl, _, hh, _⟩
  · simp [Value.ownBlock] at hu
  · simp [Value.ownBlock] at hu
    subst hu
    exact own_ne h hh hne hv
/-- A row among older blocks, and one among newer ones. -/
theorem own_new {w w' : World} {B B' : Nat} {e e' : TypeId} {size size' n n' : Nat} {v u : Value} {xs ys : List Value} (h : w.ownsRow B e size v n xs) (k : w'.ownsRow B' e' size' u n' ys) (hB : w.heap.size ≤ B') : Apart v u := by
  intro g hv hu
  have h1 := (h.lt g hv).2
  have h2 := (k.lt g hu).1
  omega

theorem cells_one (w : World) (u : Value) (t : TypeId) : ∀ (j : Nat) (x : Value), [u][j]? = some x → (w.alloc (.cells #[u] t)).cell? ((⟨w.heap.size, 0, none⟩ : Addr).add j) = some x := by
  intro j x hj
  match j, hj with
  | 0, hj =>
    simp at hj
    subst hj
    rw [addr_add, cell_of_row _ _ 0 #[u] t (0, 0) (heap_alloc_new w _)]
    rfl
theorem one_slice (A : Option Addr) (n c : Nat) : ∀ x ∈ [Value.slice A n c], x.oneCell' = true := by
  intro x hx
  simp at hx
  subst hx
  rfl
/-- A store into a block of another type keeps a row. -/
theorem own_set {w : World} {B b : Nat} {cs : Array Value} {t e : TypeId} {fz : Nat × Nat} {v : Value} {n size : Nat} {xs : List Value} (h : w.ownsRow B e size v n xs) (hb : w.heap[b]? = some (.cells cs t fz)) (hne : e ≠ t) (i : Nat) (u : Value) :
    (w.setCell ⟨b, i, none⟩ u).ownsRow B e size v n xs := by
  have h1 := own_ne h hb hne
  refine ⟨h.1, ?_⟩
  rcases h.2 with hn | ⟨g, cap, cur, rfl, hB, hg, rest⟩
  · exact .inl hn
  · refine .inr ⟨g, cap, cur, rfl, hB, ?_, rest⟩
    rw [Below.heap_setCell w ⟨b, i, none⟩ u g (fun e1 => h1 (by rw [show g = b from e1]; rfl))]
    exact hg

theorem own_low {w : World} {B B' : Nat} {e : TypeId} {size n : Nat} {v : Value} {xs : List Value} (h : w.ownsRow B e size v n xs) (hB : B' ≤ B) : w.ownsRow B' e size v n xs := by
  refine ⟨h.1, ?_⟩
  rcases h.2 with hn | ⟨g, cap, cur, rfl, hb, rest⟩
  · exact .inl hn
  · exact .inr ⟨g, cap, cur, rfl, Nat.le_trans hB hb, rest⟩

theorem own_heap {w w' : World} (hh : w'.heap = w.heap) {B : Nat} {e : TypeId} {size n : Nat} {v : Value} {xs : List Value} (h : w.ownsRow B e size v n xs) : w'.ownsRow B e size v n xs := by
  refine ⟨h.1, ?_⟩
  rcases h.2 with hn | ⟨g, cap, cur, rfl, hB, hg, rest⟩
  · exact .inl hn
  · exact .inr ⟨g, cap, cur, rfl, hB, by rw [hh]; exact hg, rest⟩
/-- The i-th list of a list of lists, and where it lies. -/
theorem row_cell {w : World} {B : Nat} {e : TypeId} {A : Option Addr} {cap : Nat} {xs : List Value} (h : w.ownsRow B e 1 (.slice A xs.length cap) xs.length xs) {k : Nat} (hk : k < xs.length) :
    ∃ b, A = some ⟨b, 0, none⟩ ∧ b < w.heap.size ∧ w.cell? ⟨b, k, none⟩ = some xs[k] := by
  obtain ⟨hl, h⟩ := h
  rcases h with ⟨e1, h0⟩ | ⟨g, c, cur, e1, hb, hg, hnc, hcm, hcs, ht⟩
  · omega
  · cases e1
    refine ⟨g, rfl, (Array.getElem?_eq_some_iff.1 hg).1, ?_⟩
    rw [cell_of_row w g k cur e (0, 0) hg]
    have h2 : xs[k]? = some xs[k] := List.getElem?_eq_getElem hk
    have h3 : (cur.toList.take (xs.length * 1))[k]? = some xs[k] := by rw [ht]; exact h2
    rw [List.getElem?_take] at h3
    split at h3
    · simpa using h3
    · cases h3

theorem grownBy_of_below {w w' : World} (h : Below w.heap.size w w') (row : Option Nat) : w.grownBy w' row := ⟨h.os, h.tape, h.output, h.size, fun k hk _ => h.block k hk⟩

theorem grown_drew {w w' : World} {row : Option Nat} (h : w.grownBy w' row) : w.grownBy w'.drew row := ⟨h.os, h.tape, h.output, h.size, h.block⟩

theorem below_of_grown {w w' : World} {row : Option Nat} {B : Nat} (h : w.grownBy w' row) (hr : ∀ g, row = some g → B ≤ g) (hB : B ≤ w.heap.size := by omega) : Below B w w' :=
  ⟨h.os, h.tape, h.output, h.size, fun k hk => h.block k (by omega) (fun e => by have := hr k e.symm; omega)⟩

end Go.Proofs.YtodnioihadpncaaDoor
