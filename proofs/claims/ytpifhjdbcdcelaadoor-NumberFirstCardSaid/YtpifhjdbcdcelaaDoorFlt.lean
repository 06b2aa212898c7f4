/-
  Lists of elements of several cells: their cells one behind the other; lists that may be read.
-/
import Derived.Test.YtpifhjdbcdcelaaDoorOwb
namespace Go.Proofs.YtpifhjdbcdcelaaDoor
open Go.RowKit
set_option linter.unusedSimpArgs false
set_option linter.unusedVariables false

/-- The cells of a list whose element x has the cells c x. -/
def flt {α : Type} (c : α → List Value) (X : List α) : List Value := X.flatMap c
theorem flt_nil {α : Type} (c : α → List Value) : flt c [] = [] := rfl
theorem flt_cons {α : Type} (c : α → List Value) (x : α) (X : List α) : flt c (x :: X) = c x ++ flt c X := rfl
theorem flt_append {α : Type} (c : α → List Value) (a b : List α) : flt c (a ++ b) = flt c a ++ flt c b := by simp [flt]
theorem flt_one {α : Type} (c : α → List Value) (x : α) : flt c [x] = c x := by simp [flt]
theorem flt_length {α : Type} {c : α → List Value} {s : Nat} (hs : ∀ x, (c x).length = s) (X : List α) : (flt c X).length = X.length * s := by
  induction X with
  | nil => simp [flt]
  | cons p X ih => rw [flt_cons, List.length_append, ih, List.length_cons, hs, Nat.succ_mul, Nat.add_comm]
theorem flt_get {α : Type} {c : α → List Value} {s : Nat} (hs : ∀ x, (c x).length = s) : ∀ (X : List α) (k : Nat) (h : k < X.length) (j : Nat) (u : Value), (c X[k])[j]? = some u → (flt c X)[k * s + j]? = some u
  | x :: X, 0, h, j, u, hu => by
    have hu' : (c x)[j]? = some u := hu
    have hj := (List.getElem?_eq_some_iff.1 hu').1
    rw [flt_cons, List.getElem?_append_left (by omega), Nat.zero_mul, Nat.zero_add]
    exact hu'
  | x :: X, k + 1, h, j, u, hu => by
    have ih := flt_get hs X k (by simpa using h) j u (by simpa using hu)
    have hl := hs x
    have e : (k + 1) * s + j - s = k * s + j := by rw [Nat.succ_mul]; omega
    rw [flt_cons, List.getElem?_append_right (by rw [hl, Nat.succ_mul]; omega), hl, e]
    exact ih

/-- A list of elements of s cells each that may be read. -/
structure EltsAt (w : World) {α : Type} (c : α → List Value) (s : Nat) (A : Option Addr) (cap : Nat) (X : List α) : Prop where
  le : X.length ≤ cap
  cap : cap ≤ maxLen
  cells : X = [] ∨ ∃ b off, A = some ⟨b, off, none⟩ ∧ b < w.heap.size ∧ ∀ k (h : k < X.length) j u, (c X[k])[j]? = some u → w.cell? ⟨b, off + k * s + j, none⟩ = some u
theorem EltsAt.below {w w' : World} {α : Type} {c : α → List Value} {s : Nat} {A : Option Addr} {cap : Nat} {X : List α} (h : EltsAt w c s A cap X) (hb : Below w.heap.size w w') : EltsAt w' c s A cap X := by
  refine ⟨h.le, h.cap, ?_⟩
  rcases h.cells with h1 | ⟨b, off, e, hlt, hc⟩
  · exact Or.inl h1
  · refine Or.inr ⟨b, off, e, Nat.lt_of_lt_of_le hlt hb.size, fun k hk j u hu => ?_⟩
    rw [hb.cell (p := ⟨b, off + k * s + j, none⟩) hlt]
    exact hc k hk j u hu
theorem EltsAt.heap {w w' : World} {α : Type} {c : α → List Value} {s : Nat} {A : Option Addr} {cap : Nat} {X : List α} (hh : w'.heap = w.heap) (h : EltsAt w c s A cap X) : EltsAt w' c s A cap X := by
  refine ⟨h.le, h.cap, ?_⟩
  rcases h.cells with h1 | ⟨b, off, e, hlt, hc⟩
  · exact Or.inl h1
  · exact Or.inr ⟨b, off, e, by rw [hh]; exact hlt, fun k hk j u hu => by have := hc k hk j u hu; simpa [World.cell?, hh] using this⟩
theorem EltsAt.at {w : World} {α : Type} {c : α → List Value} {s : Nat} {A : Option Addr} {cap : Nat} {X : List α} (h : EltsAt w c s A cap X) {k : Nat} (hk : k < X.length) :
    ∃ b off, A = some ⟨b, off, none⟩ ∧ b < w.heap.size ∧ ∀ j u, (c X[k])[j]? = some u → w.cell? ⟨b, off + k * s + j, none⟩ = some u := by
  rcases h.cells with h3 | ⟨b, off, e, hlt, hc⟩
  · rw [h3] at hk; simp at hk
  · exact ⟨b, off, e, hlt, hc k hk⟩
theorem EltsAt.nil (w : World) {α : Type} (c : α → List Value) (s : Nat) (A : Option Addr) : EltsAt w c s A 0 ([] : List α) := ⟨Nat.le_refl _, Nat.zero_le _, Or.inl rfl⟩

/-- A list of the call's own may be read. -/
theorem EltsAt.own {w : World} {α : Type} {c : α → List Value} {s B : Nat} {te : TypeId} {v : Value} {X : List α} (hs : ∀ x, (c x).length = s) (h : w.ownsRow B te s v X.length (flt c X)) :
    ∃ A cap, v = .slice A X.length cap ∧ EltsAt w c s A cap X := by
  rcases h.2 with ⟨rfl, h0⟩ | ⟨g, cap, cur, rfl, hb, hg, hnc, hcm, hcs, ht⟩
  · have h0' : X.length = 0 := h0
    have hX := List.eq_nil_of_length_eq_zero h0'
    subst hX
    exact ⟨none, 0, rfl, EltsAt.nil _ _ _ _⟩
  · refine ⟨some ⟨g, 0, none⟩, cap, rfl, hnc, hcm, Or.inr ⟨g, 0, rfl, (Array.getElem?_eq_some_iff.1 hg).1, fun k hk j u hu => ?_⟩⟩
    rw [cell_of_row w g _ cur te (0, 0) hg, Nat.zero_add]
    have h1 := flt_get hs X k hk j u hu
    rw [← ht, List.getElem?_take] at h1
    split at h1
    · simpa using h1
    · cases h1
/-- The cells of the k-th element of a list of the call's own. -/
theorem own_elt {w : World} {α : Type} {c : α → List Value} {s B g n cap : Nat} {te : TypeId} {X : List α} (hs : ∀ x, (c x).length = s) (h : w.ownsRow B te s (.slice (some ⟨g, 0, none⟩) n cap) n (flt c X)) {k : Nat} (hk : k < X.length) (j : Nat) (u : Value)
    (hu : (c X[k])[j]? = some u) : w.cell? ⟨g, k * s + j, none⟩ = some u := by
  rcases h.2 with ⟨e1, h0⟩ | ⟨g', cap', cur, e1, hb, hg, hnc, hcm, hcs, ht⟩
  · cases e1
  · cases e1
    rw [cell_of_row w g _ cur te (0, 0) hg]
    have h1 := flt_get hs X k hk j u hu
    rw [← ht, List.getElem?_take] at h1
    split at h1
    · simpa using h1
    · cases h1

/-- The block of one element that a call hands in. -/
theorem elt_cells (w : World) (L : List Value) (t : TypeId) : ∀ (j : Nat) (u : Value), L[j]? = some u → (w.alloc (.cells L.toArray t)).cell? ((⟨w.heap.size, 0, none⟩ : Addr).add j) = some u := by
  intro j u hj
  rw [addr_add, cell_of_row _ _ _ _ t (0, 0) (heap_alloc_new w _), Nat.zero_add]
  simpa using hj

/-- Its cells as one row. -/
theorem EltsAt.flat {w : World} {α : Type} {c : α → List Value} {s : Nat} {ad : Addr} {cap : Nat} {X : List α} (hs : ∀ x, (c x).length = s) (h0 : 0 < s) (h : EltsAt w c s (some ad) cap X) : ∀ (j : Nat) (u : Value), (flt c X)[j]? = some u → w.cell? (ad.add j) = some u := by
  intro j u hu
  have hj := (List.getElem?_eq_some_iff.1 hu).1
  rw [flt_length hs] at hj
  have hk : j / s < X.length := Nat.div_lt_of_lt_mul (by rw [Nat.mul_comm]; exact hj)
  have hi : j % s < (c X[j / s]).length := by rw [hs]; exact Nat.mod_lt _ h0
  obtain ⟨b, off, e, hlt, hc⟩ := h.at hk
  cases e
  have h1 := flt_get hs X (j / s) hk (j % s) _ (List.getElem?_eq_getElem hi)
  have h2 := hc (j % s) _ (List.getElem?_eq_getElem hi)
  have e1 : j / s * s + j % s = j := by rw [Nat.mul_comm]; exact Nat.div_add_mod j s
  rw [e1] at h1
  rw [h1] at hu
  cases hu
  rw [addr_add, ← h2]
  congr 2
  show off + j = _
  omega

/-- Five cells are written over one after the other. -/
theorem flt_set5 {α : Type} {c : α → List Value} (hs : ∀ x, (c x).length = 5) (c0 c1 c2 c3 c4 : Value) (y : α) (hy : c y = [c0, c1, c2, c3, c4]) : ∀ (X : List α) (q : Nat), q < X.length →
    (((((flt c X).set (q * 5) c0).set (q * 5 + 1) c1).set (q * 5 + 2) c2).set (q * 5 + 3) c3).set (q * 5 + 4) c4 = flt c (X.set q y)
  | x :: X, 0, _ => by
    have hl := hs x
    rw [List.set_cons_zero, flt_cons, flt_cons, hy]
    match c x, hl with
    | [a0, a1, a2, a3, a4], _ => simp
  | x :: X, q + 1, h => by
    have ih := flt_set5 hs c0 c1 c2 c3 c4 y hy X q (by simpa using h)
    have hl := hs x
    rw [List.set_cons_succ, flt_cons, flt_cons, ← ih]
    have e : (q + 1) * 5 = (c x).length + q * 5 := by rw [hl]; omega
    rw [e]
    simp only [Nat.add_assoc, List.set_append_right, Nat.le_add_right, Nat.add_sub_cancel_left]
theorem take_set {α : Type} (ms ls : List α) (q : Nat) (hq : q < ms.length) (hl : ms.length = ls.length) : (ms.take q ++ ls.drop q).set q ms[q] = ms.take (q + 1) ++ ls.drop (q + 1) := by
  rw [List.take_succ_eq_append_getElem hq, List.drop_eq_getElem_cons (show q < ls.length by omega), List.set_append_right _ _ (by simp; omega)]
  have e : q - (ms.take q).length = 0 := by rw [List.length_take]; omega
  rw [e, List.append_assoc]
  rfl
theorem own_form {w : World} {B : Nat} {e : TypeId} {size n : Nat} {v : Value} {xs : List Value} (h : w.ownsRow B e size v n xs) : ∃ A cap, v = .slice A n cap ∧ n ≤ cap := by
  rcases h.2 with ⟨rfl, rfl⟩ | ⟨g, cap, cur, rfl, hb, hg, hnc, hcm, hcs, ht⟩
  · exact ⟨none, 0, rfl, Nat.le_refl _⟩
  · exact ⟨_, cap, rfl, hnc⟩

end Go.Proofs.YtpifhjdbcdcelaaDoor
