/-
  The document's own answer for lattices (bowdlerref1's Orders): what it holds in memory.
-/
import Derived.Test.YtkcmhdkhdjmjeaaGreatDoorLatC
import Derived.Test.YtkcmhdkhdjmjeaaGreatDoorLatP
namespace Go.Proofs.YtkcmhdkhdjmjeaaGreatDoor
open Go.RowKit
set_option linter.unusedVariables false
set_option linter.unusedSimpArgs false

/-- Where an Order's parts lie: three outer rows, their capacities; row 3a + q is row a of the q-th table. -/
structure OPlace where
  o : Nat
  gL : Nat
  gJ : Nat
  gM : Nat
  cL : Nat
  cJ : Nat
  cM : Nat
  r : Nat → Nat
structure OMem (w : World) (p : OPlace) (n : Nat) (lf : Nat → Nat → Bool) (jf mf : Nat → Nat → Int) : Prop where
  c0 : w.cell? ⟨p.o, 0, none⟩ = some (.int .i64 n)
  c1 : w.cell? ⟨p.o, 1, none⟩ = some (.slice (some ⟨p.gL, 0, none⟩) n p.cL)
  c2 : w.cell? ⟨p.o, 2, none⟩ = some (.slice (some ⟨p.gJ, 0, none⟩) n p.cJ)
  c3 : w.cell? ⟨p.o, 3, none⟩ = some (.slice (some ⟨p.gM, 0, none⟩) n p.cM)
  rL : ∀ a, a < n → w.cell? ⟨p.gL, a, none⟩ = some (.slice (some ⟨p.r (3 * a), 0, none⟩) n n)
  rJ : ∀ a, a < n → w.cell? ⟨p.gJ, a, none⟩ = some (.slice (some ⟨p.r (3 * a + 1), 0, none⟩) n n)
  rM : ∀ a, a < n → w.cell? ⟨p.gM, a, none⟩ = some (.slice (some ⟨p.r (3 * a + 2), 0, none⟩) n n)
  eL : ∀ a b, a < n → b < n → w.cell? ⟨p.r (3 * a), b, none⟩ = some (.bool (lf a b))
  eJ : ∀ a b, a < n → b < n → w.cell? ⟨p.r (3 * a + 1), b, none⟩ = some (.int .i64 (jf a b))
  eM : ∀ a b, a < n → b < n → w.cell? ⟨p.r (3 * a + 2), b, none⟩ = some (.int .i64 (mf a b))
  fz : ∀ i b, i < 3 * n → w.frozen? ⟨p.r i, b, none⟩ = false
  inj : ∀ i j, i < 3 * n → j < 3 * n → p.r i = p.r j → i = j
  off : ∀ i, i < 3 * n → p.r i ≠ p.o ∧ p.r i ≠ p.gL ∧ p.r i ≠ p.gJ ∧ p.r i ≠ p.gM
  cap : n ≤ p.cL ∧ n ≤ p.cJ ∧ n ≤ p.cM ∧ p.cL ≤ maxLen ∧ p.cJ ≤ maxLen ∧ p.cM ≤ maxLen
section
variable {w w' : World} {p : OPlace} {n : Nat} {lf : Nat → Nat → Bool} {jf mf : Nat → Nat → Int}
/-- Stays where the cells that it reads stay. -/
theorem OMem.keep (h : OMem w p n lf jf mf) (hc : ∀ a u, w.cell? a = some u → w'.cell? a = some u) (hf : ∀ i b, i < 3 * n → w'.frozen? ⟨p.r i, b, none⟩ = w.frozen? ⟨p.r i, b, none⟩) : OMem w' p n lf jf mf :=
  ⟨hc _ _ h.c0, hc _ _ h.c1, hc _ _ h.c2, hc _ _ h.c3, fun a ha => hc _ _ (h.rL a ha), fun a ha => hc _ _ (h.rJ a ha), fun a ha => hc _ _ (h.rM a ha), fun a b ha hb => hc _ _ (h.eL a b ha hb),
    fun a b ha hb => hc _ _ (h.eJ a b ha hb), fun a b ha hb => hc _ _ (h.eM a b ha hb), fun i b hi => by rw [hf i b hi]; exact h.fz i b hi, h.inj, h.off, h.cap⟩
theorem OMem.heap (h : OMem w p n lf jf mf) (hh : w'.heap = w.heap) : OMem w' p n lf jf mf :=
  h.keep (fun a u hu => by simpa [World.cell?, hh] using hu) (fun i b _ => by simp [World.frozen?, hh])
theorem OMem.lt (h : OMem w p n lf jf mf) {i : Nat} (hi : i < 3 * n) : p.r i < w.heap.size := by
  have e : i = 3 * (i / 3) + i % 3 := by omega
  have h3 : i % 3 < 3 := Nat.mod_lt _ (by omega)
  have ha : i / 3 < n := by omega
  rcases (show i % 3 = 0 ∨ i % 3 = 1 ∨ i % 3 = 2 from by omega) with h0 | h0 | h0
  · have := World.block_lt_of_cell? _ _ (h.eL (i / 3) (i / 3) ha ha)
    rw [e, h0]; exact this
  · have := World.block_lt_of_cell? _ _ (h.eJ (i / 3) (i / 3) ha ha)
    rw [e, h0]; exact this
  · have := World.block_lt_of_cell? _ _ (h.eM (i / 3) (i / 3) ha ha)
    rw [e, h0]; exact this
theorem OMem.below (h : OMem w p n lf jf mf) (hb : Below w.heap.size w w') : OMem w' p n lf jf mf :=
  h.keep (fun a u hu => (hb.cell (p := a) (World.block_lt_of_cell? _ _ hu)).trans hu) (fun i b hi => by
    simp only [World.frozen?]
    rw [hb.block _ (h.lt hi)])
theorem OMem.eq {lf' : Nat → Nat → Bool} {jf' mf' : Nat → Nat → Int} (h : OMem w p n lf jf mf) (hl : ∀ a b, a < n → b < n → lf a b = lf' a b) (hj : ∀ a b, a < n → b < n → jf a b = jf' a b) (hm : ∀ a b, a < n → b < n → mf a b = mf' a b) : OMem w p n lf' jf' mf' :=
  ⟨h.c0, h.c1, h.c2, h.c3, h.rL, h.rJ, h.rM, fun a b ha hb => by rw [← hl a b ha hb]; exact h.eL a b ha hb, fun a b ha hb => by rw [← hj a b ha hb]; exact h.eJ a b ha hb, fun a b ha hb => by rw [← hm a b ha hb]; exact h.eM a b ha hb, h.fz, h.inj, h.off, h.cap⟩
/-- A cell of another place than the one that was set. -/
theorem cell_set_ne {b i : Nat} {v : Value} {b' i' : Nat} (h : b' ≠ b ∨ i' ≠ i) : (w.setCell ⟨b, i, none⟩ v).cell? ⟨b', i', none⟩ = w.cell? ⟨b', i', none⟩ :=
  World.cell?_setCell_other _ _ _ _ (by intro e; cases e; rcases h with h | h <;> exact h rfl)
theorem OMem.setL (h : OMem w p n lf jf mf) {a b : Nat} (ha : a < n) (hb : b < n) (v : Bool) :
    OMem (w.setCell ⟨p.r (3 * a), b, none⟩ (.bool v)) p n (fun x y => if x = a ∧ y = b then v else lf x y) jf mf := by
  have ho := h.off (3 * a) (by omega)
  refine ⟨?_, ?_, ?_, ?_, fun x hx => ?_, fun x hx => ?_, fun x hx => ?_, fun x y hx hy => ?_, fun x y hx hy => ?_, fun x y hx hy => ?_, fun i y hi => ?_, h.inj, h.off, h.cap⟩
  · rw [cell_set_ne (Or.inl ho.1.symm)]; exact h.c0
  · rw [cell_set_ne (Or.inl ho.1.symm)]; exact h.c1
  · rw [cell_set_ne (Or.inl ho.1.symm)]; exact h.c2
  · rw [cell_set_ne (Or.inl ho.1.symm)]; exact h.c3
  · rw [cell_set_ne (Or.inl ho.2.1.symm)]; exact h.rL x hx
  · rw [cell_set_ne (Or.inl ho.2.2.1.symm)]; exact h.rJ x hx
  · rw [cell_set_ne (Or.inl ho.2.2.2.symm)]; exact h.rM x hx
  · by_cases e : x = a ∧ y = b
    · obtain ⟨rfl, rfl⟩ := e
      rw [if_pos ⟨rfl, rfl⟩]
      exact World.cell?_setCell_same _ _ _ (h.eL x y hx hy)
    · rw [if_neg e, cell_set_ne]
      · exact h.eL x y hx hy
      · by_cases e2 : x = a
        · right; intro e3; exact e ⟨e2, e3⟩
        · left; intro e3; have := h.inj _ _ (by omega) (by omega) e3; omega
  · rw [cell_set_ne (Or.inl fun e => by have := h.inj _ _ (by omega) (by omega) e; omega)]; exact h.eJ x y hx hy
  · rw [cell_set_ne (Or.inl fun e => by have := h.inj _ _ (by omega) (by omega) e; omega)]; exact h.eM x y hx hy
  · rw [World.frozen?_setCell]; exact h.fz i y hi
theorem OMem.setJ (h : OMem w p n lf jf mf) {a b : Nat} (ha : a < n) (hb : b < n) (v : Int) :
    OMem (w.setCell ⟨p.r (3 * a + 1), b, none⟩ (.int .i64 v)) p n lf (fun x y => if x = a ∧ y = b then v else jf x y) mf := by
  have ho := h.off (3 * a + 1) (by omega)
  refine ⟨?_, ?_, ?_, ?_, fun x hx => ?_, fun x hx => ?_, fun x hx => ?_, fun x y hx hy => ?_, fun x y hx hy => ?_, fun x y hx hy => ?_, fun i y hi => ?_, h.inj, h.off, h.cap⟩
  · rw [cell_set_ne (Or.inl ho.1.symm)]; exact h.c0
  · rw [cell_set_ne (Or.inl ho.1.symm)]; exact h.c1
  · rw [cell_set_ne (Or.inl ho.1.symm)]; exact h.c2
  · rw [cell_set_ne (Or.inl ho.1.symm)]; exact h.c3
  · rw [cell_set_ne (Or.inl ho.2.1.symm)]; exact h.rL x hx
  · rw [cell_set_ne (Or.inl ho.2.2.1.symm)]; exact h.rJ x hx
  · rw [cell_set_ne (Or.inl ho.2.2.2.symm)]; exact h.rM x hx
  · rw [cell_set_ne (Or.inl fun e => by have := h.inj _ _ (by omega) (by omega) e; omega)]; exact h.eL x y hx hy
  · by_cases e : x = a ∧ y = b
    · obtain ⟨rfl, rfl⟩ := e
      rw [if_pos ⟨rfl, rfl⟩]
      exact World.cell?_setCell_same _ _ _ (h.eJ x y hx hy)
    · rw [if_neg e, cell_set_ne]
      · exact h.eJ x y hx hy
      · by_cases e2 : x = a
        · right; intro e3; exact e ⟨e2, e3⟩
        · left; intro e3; have := h.inj _ _ (by omega) (by omega) e3; omega
  · rw [cell_set_ne (Or.inl fun e => by have := h.inj _ _ (by omega) (by omega) e; omega)]; exact h.eM x y hx hy
  · rw [World.frozen?_setCell]; exact h.fz i y hi
theorem OMem.setM (h : OMem w p n lf jf mf) {a b : Nat} (ha : a < n) (hb : b < n) (v : Int) :
    OMem (w.setCell ⟨p.r (3 * a + 2), b, none⟩ (.int .i64 v)) p n lf jf (fun x y => if x = a ∧ y = b then v else mf x y) := by
  have ho := h.off (3 * a + 2) (by omega)
  refine ⟨?_, ?_, ?_, ?_, fun x hx => ?_, fun x hx => ?_, fun x hx => ?_, fun x y hx hy => ?_, fun x y hx hy => ?_, fun x y hx hy => ?_, fun i y hi => ?_, h.inj, h.off, h.cap⟩
  · rw [cell_set_ne (Or.inl ho.1.symm)]; exact h.c0
  · rw [cell_set_ne (Or.inl ho.1.symm)]; exact h.c1
  · rw [cell_set_ne (Or.inl ho.1.symm)]; exact h.c2
  · rw [cell_set_ne (Or.inl ho.1.symm)]; exact h.c3
  · rw [cell_set_ne (Or.inl ho.2.1.symm)]; exact h.rL x hx
  · rw [cell_set_ne (Or.inl ho.2.2.1.symm)]; exact h.rJ x hx
  · rw [cell_set_ne (Or.inl ho.2.2.2.symm)]; exact h.rM x hx
  · rw [cell_set_ne (Or.inl fun e => by have := h.inj _ _ (by omega) (by omega) e; omega)]; exact h.eL x y hx hy
  · rw [cell_set_ne (Or.inl fun e => by have := h.inj _ _ (by omega) (by omega) e; omega)]; exact h.eJ x y hx hy
  · by_cases e : x = a ∧ y = b
    · obtain ⟨rfl, rfl⟩ := e
      rw [if_pos ⟨rfl, rfl⟩]
      exact World.cell?_setCell_same _ _ _ (h.eM x y hx hy)
    · rw [if_neg e, cell_set_ne]
      · exact h.eM x y hx hy
      · by_cases e2 : x = a
        · right; intro e3; exact e ⟨e2, e3⟩
        · left; intro e3; have := h.inj _ _ (by omega) (by omega) e3; omega
  · rw [World.frozen?_setCell]; exact h.fz i y hi
end

/-! What least looks for. -/
theorem least_is (n : Nat) (R : Rel) (a b : Nat) (l : List Nat) (hl : l = (List.range n).filter fun x => R a x && R b x) :
    atI (l.find? fun x => l.all fun y => R x y) = joinR n R a b := by
  unfold joinR
  rw [hl, List.find?_filter]
  refine congrArg atI (find_congr fun x _ => ?_)
  simp only [List.all_filter, Bool.decide_and, Bool.decide_eq_true]

end Go.Proofs.YtkcmhdkhdjmjeaaGreatDoor
