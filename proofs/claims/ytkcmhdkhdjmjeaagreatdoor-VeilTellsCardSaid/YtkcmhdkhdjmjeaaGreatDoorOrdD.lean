/-
  bowdlerref1's Orders: the tables while they are made.
-/
import Derived.Test.YtkcmhdkhdjmjeaaGreatDoorOrdC
import Derived.Test.YtkcmhdkhdjmjeaaGreatDoorPrs
import Derived.Laws.OwnMore
import Derived.Laws.MakeOwn
import Derived.Deep.OwnRows
namespace Go.Proofs.YtkcmhdkhdjmjeaaGreatDoor
open Go.RowKit
set_option linter.unusedVariables false
set_option linter.unusedSimpArgs false

def rowAt (g n : Nat) : Value := .slice (some ⟨g, 0, none⟩) n n
def rowV (r : Nat → Nat) (q n k : Nat) : List Value := (List.range k).map fun a : Nat => rowAt (r (3 * a + q)) n
def rowC (n dg i : Nat) : Array Value := if i % 3 = 0 then ((List.range n).map fun b : Nat => Value.bool (decide (i / 3 < dg) && decide (b = i / 3))).toArray else (List.replicate n (Value.int .i64 0)).toArray
def rowT (i : Nat) : TypeId := if i % 3 = 0 then 4 else 3
def extR (r : Nat → Nat) (i g : Nat) : Nat → Nat := fun j => if j = i then g else r j
theorem extR_same (r : Nat → Nat) (i g : Nat) : extR r i g i = g := if_pos rfl
theorem extR_ne (r : Nat → Nat) {i j : Nat} (g : Nat) (h : j ≠ i) : extR r i g j = r j := if_neg h
theorem rowV_same {r r' : Nat → Nat} {q n k : Nat} (h : ∀ a, a < k → r (3 * a + q) = r' (3 * a + q)) : rowV r q n k = rowV r' q n k := by
  unfold rowV
  apply List.map_congr_left
  intro a ha
  rw [h a (List.mem_range.1 ha)]
theorem rowV_ext {r : Nat → Nat} {q n k g : Nat} : rowV (extR r (3 * k + q) g) q n (k + 1) = rowV r q n k ++ [rowAt g n] := by
  rw [show rowV r q n k = rowV (extR r (3 * k + q) g) q n k from rowV_same fun a ha => (extR_ne r g (by omega)).symm]
  unfold rowV
  rw [List.range_succ, List.map_append]
  simp [extR_same]
theorem rowV_length (r : Nat → Nat) (q n k : Nat) : (rowV r q n k).length = k := by simp [rowV]

structure OGrow (w : World) (o n kL kJ kM : Nat) (vL vJ vM : Value) (r : Nat → Nat) (m dg : Nat) : Prop where
  blk : w.heap[o]? = some (.cells #[.int .i64 n, vL, vJ, vM] 83 (0, 0))
  oL : w.ownsRow (o + 1) 84 1 vL kL (rowV r 0 n kL)
  oJ : w.ownsRow (o + 1) 79 1 vJ kJ (rowV r 1 n kJ)
  oM : w.ownsRow (o + 1) 79 1 vM kM (rowV r 2 n kM)
  apart : Apart vJ vM
  rows : ∀ i, i < m → w.heap[r i]? = some (.cells (rowC n dg i) (rowT i) (0, 0))
  mono : ∀ i j, i < j → j < m → r i < r j
  low : ∀ i, i < m → o < r i
theorem types_row (i : Nat) : 84 ≠ rowT i ∧ 79 ≠ rowT i ∧ 83 ≠ rowT i := by
  unfold rowT
  split <;> decide
section
variable {w : World} {o n kL kJ kM : Nat} {vL vJ vM : Value} {r : Nat → Nat} {m dg : Nat}
theorem OGrow.lt (h : OGrow w o n kL kJ kM vL vJ vM r m dg) : o < w.heap.size := (Array.getElem?_eq_some_iff.1 h.blk).1
theorem OGrow.rlt (h : OGrow w o n kL kJ kM vL vJ vM r m dg) {i : Nat} (hi : i < m) : r i < w.heap.size := (Array.getElem?_eq_some_iff.1 (h.rows i hi)).1
theorem OGrow.cell (h : OGrow w o n kL kJ kM vL vJ vM r m dg) : w.cell? ⟨o, 0, none⟩ = some (.int .i64 n) ∧ w.cell? ⟨o, 1, none⟩ = some vL ∧ w.cell? ⟨o, 2, none⟩ = some vJ ∧ w.cell? ⟨o, 3, none⟩ = some vM ∧ ∀ i, w.frozen? ⟨o, i, none⟩ = false := by
  refine ⟨(cell_of_row w o 0 _ _ (0, 0) h.blk).trans rfl, (cell_of_row w o 1 _ _ (0, 0) h.blk).trans rfl, (cell_of_row w o 2 _ _ (0, 0) h.blk).trans rfl, (cell_of_row w o 3 _ _ (0, 0) h.blk).trans rfl, fun i => ?_⟩
  simp [World.frozen?, h.blk]
theorem OGrow.heap {w' : World} (h : OGrow w o n kL kJ kM vL vJ vM r m dg) (hh : w'.heap = w.heap) : OGrow w' o n kL kJ kM vL vJ vM r m dg :=
  ⟨by rw [hh]; exact h.blk, own_heap hh h.oL, own_heap hh h.oJ, own_heap hh h.oM, h.apart, fun i hi => by rw [hh]; exact h.rows i hi, h.mono, h.low⟩
/-- One row more, hung behind the rows of a table. -/
theorem OGrow.addL {k : Nat} (h : OGrow w o n k k k vL vJ vM r (3 * k + 0) k) {w1 w2 : World} {g cap : Nat}
    (hw1 : w1.heap = ((w.alloc (.cells (madeCells #[.bool false] n) 4)).alloc (.cells #[rowAt w.heap.size n] 84)).heap)
    (hg : w1.grownBy w2 vL.ownBlock) (hv : vL.ownBlock = some g ∨ g = w1.heap.size) (ho : w2.ownsRow (o + 1) 84 1 (.slice (some ⟨g, 0, none⟩) (k + 1) cap) (k + 1) (rowV r 0 n k ++ [rowAt w.heap.size n])) :
    OGrow (w2.setCell ⟨o, 1, none⟩ (.slice (some ⟨g, 0, none⟩) (k + 1) cap)) o n (k + 1) k k (.slice (some ⟨g, 0, none⟩) (k + 1) cap) vJ vM (extR r (3 * k + 0) w.heap.size) (3 * k + 0 + 1) k := by
  have hlt := h.lt
  have hs1 : w1.heap.size = w.heap.size + 2 := by rw [hw1, alloc_size, alloc_size]
  have hold : ∀ b, b < w.heap.size → w1.heap[b]? = w.heap[b]? := fun b hb => by
    rw [hw1, Below.heap_alloc _ _ b (by rw [alloc_size]; omega), Below.heap_alloc _ _ b hb]
  have hnew1 : w1.heap[w.heap.size]? = some (.cells (madeCells #[.bool false] n) 4 (0, 0)) := by
    rw [hw1, Below.heap_alloc _ _ _ (by rw [alloc_size]; omega), heap_alloc_new]
  have hkeep : ∀ (b : Nat) (cs : Array Value) (t : TypeId) (fz : Nat × Nat), w.heap[b]? = some (Obj.cells cs t fz) → 84 ≠ t → w2.heap[b]? = some (Obj.cells cs t fz) := fun b cs t fz hb ht => by
    have hbl := (Array.getElem?_eq_some_iff.1 hb).1
    rw [hg.block b (by omega) (fun e => own_ne h.oL hb ht e.symm), hold b hbl]
    exact hb
  have hblk2 := hkeep o _ _ _ h.blk (by decide)
  have hnew2 : w2.heap[w.heap.size]? = some (.cells (madeCells #[.bool false] n) 4 (0, 0)) := by
    rw [hg.block _ (by omega) (fun e => by have := (h.oL.lt _ e.symm).2; omega)]
    exact hnew1
  have hA : ∀ (b : Nat) (cs : Array Value) (t : TypeId) (fz : Nat × Nat), w2.heap[b]? = some (Obj.cells cs t fz) → b ≠ o → (w2.setCell ⟨o, 1, none⟩ (.slice (some ⟨g, 0, none⟩) (k + 1) cap)).heap[b]? = some (Obj.cells cs t fz) := fun b cs t fz hb hne => by
    rw [Below.heap_setCell w2 ⟨o, 1, none⟩ _ b hne]
    exact hb
  have kJ := ((own_heap hw1 ((h.oJ.alloc (.cells (madeCells #[.bool false] n) 4)).alloc (.cells #[rowAt w.heap.size n] 84))).kept hg (Apart.ne (own_apart h.oJ h.oL (by decide))))
  have kM := ((own_heap hw1 ((h.oM.alloc (.cells (madeCells #[.bool false] n) 4)).alloc (.cells #[rowAt w.heap.size n] 84))).kept hg (Apart.ne (own_apart h.oM h.oL (by decide))))
  refine ⟨by simp [World.setCell, Array.getElem?_modify, hblk2], ?_, ?_, ?_, ?_, fun i hi => ?_, fun i j hij hj => ?_, fun i hi => ?_⟩
  · rw [rowV_ext]; exact own_set ho hblk2 (by decide) 1 _
  · rw [← rowV_same (r := r) (fun a ha => (extR_ne r _ (by omega)).symm)]; exact own_set kJ hblk2 (by decide) 1 _
  · rw [← rowV_same (r := r) (fun a ha => (extR_ne r _ (by omega)).symm)]; exact own_set kM hblk2 (by decide) 1 _
  · exact h.apart
  · by_cases e : i = 3 * k + 0
    · subst e
      rw [extR_same]
      have hx : rowC n k (3 * k + 0) = madeCells #[.bool false] n := by
        apply Array.ext'
        rw [toList_madeCells_one]
        rw [rowC, if_pos (by omega), show (3 * k + 0) / 3 = k from by omega]
        simp only [Nat.lt_irrefl, decide_false, Bool.false_and]
        rw [List.map_const', List.length_range]
      have ht : rowT (3 * k + 0) = 4 := if_pos (by omega)
      rw [hx, ht]
      exact hA _ _ _ _ hnew2 (by omega)
    · rw [extR_ne r _ e]
      have := h.low i (by omega)
      exact hA _ _ _ _ (hkeep _ _ _ _ (h.rows i (by omega)) (types_row i).1) (by omega)
  · by_cases e : j = 3 * k + 0
    · subst e
      rw [extR_same, extR_ne r _ (by omega)]
      exact h.rlt (by omega)
    · rw [extR_ne r _ e, extR_ne r _ (by omega)]
      exact h.mono i j hij (by omega)
  · by_cases e : i = 3 * k + 0
    · subst e; rw [extR_same]; exact hlt
    · rw [extR_ne r _ e]; exact h.low i (by omega)
/-- One row more, hung behind the rows of a table. -/
theorem OGrow.addJ {k : Nat} (h : OGrow w o n (k + 1) k k vL vJ vM r (3 * k + 0 + 1) k) {w1 w2 : World} {g cap : Nat}
    (hw1 : w1.heap = ((w.alloc (.cells (madeCells #[.int .i64 0] n) 3)).alloc (.cells #[rowAt w.heap.size n] 79)).heap)
    (hg : w1.grownBy w2 vJ.ownBlock) (hv : vJ.ownBlock = some g ∨ g = w1.heap.size) (ho : w2.ownsRow (o + 1) 79 1 (.slice (some ⟨g, 0, none⟩) (k + 1) cap) (k + 1) (rowV r 1 n k ++ [rowAt w.heap.size n])) :
    OGrow (w2.setCell ⟨o, 2, none⟩ (.slice (some ⟨g, 0, none⟩) (k + 1) cap)) o n (k + 1) (k + 1) k vL (.slice (some ⟨g, 0, none⟩) (k + 1) cap) vM (extR r (3 * k + 1) w.heap.size) (3 * k + 1 + 1) k := by
  have hlt := h.lt
  have hs1 : w1.heap.size = w.heap.size + 2 := by rw [hw1, alloc_size, alloc_size]
  have hold : ∀ b, b < w.heap.size → w1.heap[b]? = w.heap[b]? := fun b hb => by
    rw [hw1, Below.heap_alloc _ _ b (by rw [alloc_size]; omega), Below.heap_alloc _ _ b hb]
  have hnew1 : w1.heap[w.heap.size]? = some (.cells (madeCells #[.int .i64 0] n) 3 (0, 0)) := by
    rw [hw1, Below.heap_alloc _ _ _ (by rw [alloc_size]; omega), heap_alloc_new]
  have hkeep : ∀ (b : Nat) (cs : Array Value) (t : TypeId) (fz : Nat × Nat), w.heap[b]? = some (Obj.cells cs t fz) → 79 ≠ t → w2.heap[b]? = some (Obj.cells cs t fz) := fun b cs t fz hb ht => by
    have hbl := (Array.getElem?_eq_some_iff.1 hb).1
    rw [hg.block b (by omega) (fun e => own_ne h.oJ hb ht e.symm), hold b hbl]
    exact hb
  have hblk2 := hkeep o _ _ _ h.blk (by decide)
  have hnew2 : w2.heap[w.heap.size]? = some (.cells (madeCells #[.int .i64 0] n) 3 (0, 0)) := by
    rw [hg.block _ (by omega) (fun e => by have := (h.oJ.lt _ e.symm).2; omega)]
    exact hnew1
  have hA : ∀ (b : Nat) (cs : Array Value) (t : TypeId) (fz : Nat × Nat), w2.heap[b]? = some (Obj.cells cs t fz) → b ≠ o → (w2.setCell ⟨o, 2, none⟩ (.slice (some ⟨g, 0, none⟩) (k + 1) cap)).heap[b]? = some (Obj.cells cs t fz) := fun b cs t fz hb hne => by
    rw [Below.heap_setCell w2 ⟨o, 2, none⟩ _ b hne]
    exact hb
  have kL := ((own_heap hw1 ((h.oL.alloc (.cells (madeCells #[.int .i64 0] n) 3)).alloc (.cells #[rowAt w.heap.size n] 79))).kept hg (Apart.ne (own_apart h.oL h.oJ (by decide))))
  have kM := ((own_heap hw1 ((h.oM.alloc (.cells (madeCells #[.int .i64 0] n) 3)).alloc (.cells #[rowAt w.heap.size n] 79))).kept hg (Apart.ne (h.apart.symm)))
  refine ⟨by simp [World.setCell, Array.getElem?_modify, hblk2], ?_, ?_, ?_, ?_, fun i hi => ?_, fun i j hij hj => ?_, fun i hi => ?_⟩
  · rw [← rowV_same (r := r) (fun a ha => (extR_ne r _ (by omega)).symm)]; exact own_set kL hblk2 (by decide) 2 _
  · rw [rowV_ext]; exact own_set ho hblk2 (by decide) 2 _
  · rw [← rowV_same (r := r) (fun a ha => (extR_ne r _ (by omega)).symm)]; exact own_set kM hblk2 (by decide) 2 _
  · intro b hb hb2
    simp [Value.ownBlock] at hb
    subst hb
    rcases hv with hv | hv
    · exact h.apart g hv hb2
    · have := (h.oM.lt g hb2).2; omega
  · by_cases e : i = 3 * k + 1
    · subst e
      rw [extR_same]
      have hx : rowC n k (3 * k + 1) = madeCells #[.int .i64 0] n := by
        apply Array.ext'
        rw [toList_madeCells_one]
        rw [rowC, if_neg (by omega)]
      have ht : rowT (3 * k + 1) = 3 := if_neg (by omega)
      rw [hx, ht]
      exact hA _ _ _ _ hnew2 (by omega)
    · rw [extR_ne r _ e]
      have := h.low i (by omega)
      exact hA _ _ _ _ (hkeep _ _ _ _ (h.rows i (by omega)) (types_row i).2.1) (by omega)
  · by_cases e : j = 3 * k + 1
    · subst e
      rw [extR_same, extR_ne r _ (by omega)]
      exact h.rlt (by omega)
    · rw [extR_ne r _ e, extR_ne r _ (by omega)]
      exact h.mono i j hij (by omega)
  · by_cases e : i = 3 * k + 1
    · subst e; rw [extR_same]; exact hlt
    · rw [extR_ne r _ e]; exact h.low i (by omega)
/-- One row more, hung behind the rows of a table. -/
theorem OGrow.addM {k : Nat} (h : OGrow w o n (k + 1) (k + 1) k vL vJ vM r (3 * k + 1 + 1) k) {w1 w2 : World} {g cap : Nat}
    (hw1 : w1.heap = ((w.alloc (.cells (madeCells #[.int .i64 0] n) 3)).alloc (.cells #[rowAt w.heap.size n] 79)).heap)
    (hg : w1.grownBy w2 vM.ownBlock) (hv : vM.ownBlock = some g ∨ g = w1.heap.size) (ho : w2.ownsRow (o + 1) 79 1 (.slice (some ⟨g, 0, none⟩) (k + 1) cap) (k + 1) (rowV r 2 n k ++ [rowAt w.heap.size n])) :
    OGrow (w2.setCell ⟨o, 3, none⟩ (.slice (some ⟨g, 0, none⟩) (k + 1) cap)) o n (k + 1) (k + 1) (k + 1) vL vJ (.slice (some ⟨g, 0, none⟩) (k + 1) cap) (extR r (3 * k + 2) w.heap.size) (3 * k + 2 + 1) k := by
  have hlt := h.lt
  have hs1 : w1.heap.size = w.heap.size + 2 := by rw [hw1, alloc_size, alloc_size]
  have hold : ∀ b, b < w.heap.size → w1.heap[b]? = w.heap[b]? := fun b hb => by
    rw [hw1, Below.heap_alloc _ _ b (by rw [alloc_size]; omega), Below.heap_alloc _ _ b hb]
  have hnew1 : w1.heap[w.heap.size]? = some (.cells (madeCells #[.int .i64 0] n) 3 (0, 0)) := by
    rw [hw1, Below.heap_alloc _ _ _ (by rw [alloc_size]; omega), heap_alloc_new]
  have hkeep : ∀ (b : Nat) (cs : Array Value) (t : TypeId) (fz : Nat × Nat), w.heap[b]? = some (Obj.cells cs t fz) → 79 ≠ t → w2.heap[b]? = some (Obj.cells cs t fz) := fun b cs t fz hb ht => by
    have hbl := (Array.getElem?_eq_some_iff.1 hb).1
    rw [hg.block b (by omega) (fun e => own_ne h.oM hb ht e.symm), hold b hbl]
    exact hb
  have hblk2 := hkeep o _ _ _ h.blk (by decide)
  have hnew2 : w2.heap[w.heap.size]? = some (.cells (madeCells #[.int .i64 0] n) 3 (0, 0)) := by
    rw [hg.block _ (by omega) (fun e => by have := (h.oM.lt _ e.symm).2; omega)]
    exact hnew1
  have hA : ∀ (b : Nat) (cs : Array Value) (t : TypeId) (fz : Nat × Nat), w2.heap[b]? = some (Obj.cells cs t fz) → b ≠ o → (w2.setCell ⟨o, 3, none⟩ (.slice (some ⟨g, 0, none⟩) (k + 1) cap)).heap[b]? = some (Obj.cells cs t fz) := fun b cs t fz hb hne => by
    rw [Below.heap_setCell w2 ⟨o, 3, none⟩ _ b hne]
    exact hb
  have kL := ((own_heap hw1 ((h.oL.alloc (.cells (madeCells #[.int .i64 0] n) 3)).alloc (.cells #[rowAt w.heap.size n] 79))).kept hg (Apart.ne (own_apart h.oL h.oM (by decide))))
  have kJ := ((own_heap hw1 ((h.oJ.alloc (.cells (madeCells #[.int .i64 0] n) 3)).alloc (.cells #[rowAt w.heap.size n] 79))).kept hg (Apart.ne (h.apart)))
  refine ⟨by simp [World.setCell, Array.getElem?_modify, hblk2], ?_, ?_, ?_, ?_, fun i hi => ?_, fun i j hij hj => ?_, fun i hi => ?_⟩
  · rw [← rowV_same (r := r) (fun a ha => (extR_ne r _ (by omega)).symm)]; exact own_set kL hblk2 (by decide) 3 _
  · rw [← rowV_same (r := r) (fun a ha => (extR_ne r _ (by omega)).symm)]; exact own_set kJ hblk2 (by decide) 3 _
  · rw [rowV_ext]; exact own_set ho hblk2 (by decide) 3 _
  · intro b hb hb2
    simp [Value.ownBlock] at hb2
    subst hb2
    rcases hv with hv | hv
    · exact h.apart g hb hv
    · have := (h.oJ.lt g hb).2; omega
  · by_cases e : i = 3 * k + 2
    · subst e
      rw [extR_same]
      have hx : rowC n k (3 * k + 2) = madeCells #[.int .i64 0] n := by
        apply Array.ext'
        rw [toList_madeCells_one]
        rw [rowC, if_neg (by omega)]
      have ht : rowT (3 * k + 2) = 3 := if_neg (by omega)
      rw [hx, ht]
      exact hA _ _ _ _ hnew2 (by omega)
    · rw [extR_ne r _ e]
      have := h.low i (by omega)
      exact hA _ _ _ _ (hkeep _ _ _ _ (h.rows i (by omega)) (types_row i).2.1) (by omega)
  · by_cases e : j = 3 * k + 2
    · subst e
      rw [extR_same, extR_ne r _ (by omega)]
      exact h.rlt (by omega)
    · rw [extR_ne r _ e, extR_ne r _ (by omega)]
      exact h.mono i j hij (by omega)
  · by_cases e : i = 3 * k + 2
    · subst e; rw [extR_same]; exact hlt
    · rw [extR_ne r _ e]; exact h.low i (by omega)
/-- Each level lies below itself. -/
theorem OGrow.diag {k : Nat} (h : OGrow w o n (k + 1) (k + 1) (k + 1) vL vJ vM r (3 * k + 2 + 1) k) (hk : k < n) : OGrow (w.setCell ⟨r (3 * k), k, none⟩ (.bool true)) o n (k + 1) (k + 1) (k + 1) vL vJ vM r (3 * (k + 1)) (k + 1) := by
  have hr := h.rows (3 * k) (by omega)
  have ht : rowT (3 * k) = 4 := if_pos (by omega)
  rw [ht] at hr
  have hne : r (3 * k) ≠ o := by have := h.low (3 * k) (by omega); omega
  refine ⟨?_, own_set h.oL hr (by decide) k _, own_set h.oJ hr (by decide) k _, own_set h.oM hr (by decide) k _, h.apart, fun i hi => ?_, fun i j hij hj => h.mono i j hij (by omega), fun i hi => h.low i (by omega)⟩
  · rw [Below.heap_setCell w ⟨r (3 * k), k, none⟩ _ o hne.symm]
    exact h.blk
  · by_cases e : i = 3 * k
    · subst e
      rw [ht]
      have hm : (w.setCell ⟨r (3 * k), k, none⟩ (.bool true)).heap[r (3 * k)]? = some (.cells ((rowC n k (3 * k)).setIfInBounds k (.bool true)) 4 (0, 0)) := heap_setCell_same w (r (3 * k)) k _ _ _ hr
      rw [hm]
      congr 2
      apply Array.ext_getElem?
      intro i
      rw [Array.getElem?_setIfInBounds]
      simp only [rowC, show 3 * k % 3 = 0 from by omega, if_true, show 3 * k / 3 = k from by omega, List.getElem?_toArray, List.getElem?_map, List.size_toArray, List.length_map, List.length_range]
      by_cases hi2 : k = i
      · subst hi2
        simp [hk]
      · rw [if_neg hi2]
        by_cases hin : i < n
        · rw [List.getElem?_range hin]
          simp [show ¬ i = k from fun e => hi2 e.symm]
        · rw [List.getElem?_eq_none (by simp; omega)]
          rfl
    · have hne2 : r i ≠ r (3 * k) := by
        rcases Nat.lt_or_gt_of_ne e with h1 | h1
        · have := h.mono i (3 * k) h1 (by omega); omega
        · have := h.mono (3 * k) i h1 (by omega); omega
      rw [Below.heap_setCell w ⟨r (3 * k), k, none⟩ _ (r i) hne2, h.rows i (by omega)]
      congr 2
      unfold rowC
      split
      · rename_i h3
        congr 1
        apply List.map_congr_left
        intro b _
        congr 2
        apply Bool.eq_iff_iff.2
        simp
        omega
      · rfl
/-- The tables that are made. -/
theorem OGrow.done (h : OGrow w o n n n n vL vJ vM r (3 * n) n) (hn : 1 ≤ n) : ∃ p : OPlace, p.o = o ∧ (∀ i, i < 3 * n → o < p.r i) ∧ OMem w p n (fun a b => decide (a = b)) (fun _ _ => 0) (fun _ _ => 0) := by
  have key : ∀ {e : TypeId} {v : Value} {q : Nat}, w.ownsRow (o + 1) e 1 v n (rowV r q n n) → ∃ g cap, v = .slice (some ⟨g, 0, none⟩) n cap ∧ n ≤ cap ∧ cap ≤ maxLen ∧ w.heap[g]?.isSome = true ∧ (∃ cs fz, w.heap[g]? = some (.cells cs e fz)) ∧ ∀ a, a < n → w.cell? ⟨g, a, none⟩ = some (rowAt (r (3 * a + q)) n) := by
    intro e v q ho
    obtain ⟨hl, hx⟩ := ho
    rcases hx with ⟨rfl, h0⟩ | ⟨g, cap, cur, rfl, hb, hg, hnc, hcm, hcs, htk⟩
    · omega
    · refine ⟨g, cap, rfl, hnc, hcm, by rw [hg]; rfl, ⟨_, _, hg⟩, fun a ha => ?_⟩
      rw [cell_of_row w g a cur _ (0, 0) hg]
      have h2 : (rowV r q n n)[a]? = some (rowAt (r (3 * a + q)) n) := by simp [rowV, ha]
      rw [← htk, List.getElem?_take] at h2
      split at h2
      · simpa using h2
      · cases h2
  obtain ⟨gL, cL, rfl, l1, l2, _, ⟨csL, fzL, hgL⟩, l3⟩ := key h.oL
  obtain ⟨gJ, cJ, rfl, j1, j2, _, ⟨csJ, fzJ, hgJ⟩, j3⟩ := key h.oJ
  obtain ⟨gM, cM, rfl, m1, m2, _, ⟨csM, fzM, hgM⟩, m3⟩ := key h.oM
  have hc := h.cell
  have hcell : ∀ i b, i < 3 * n → w.cell? ⟨r i, b, none⟩ = (rowC n n i)[b]? := fun i b hi => cell_of_row w (r i) b _ _ (0, 0) (h.rows i hi)
  have hne : ∀ i g cs t fz, i < 3 * n → w.heap[g]? = some (.cells cs t fz) → t ≠ rowT i → r i ≠ g := fun i g cs t fz hi hg ht e => by
    subst e
    rw [h.rows i hi] at hg
    injection hg with hg
    injection hg with _ h2
    exact ht h2.symm
  refine ⟨⟨o, gL, gJ, gM, cL, cJ, cM, r⟩, rfl, h.low, hc.1, hc.2.1, hc.2.2.1, hc.2.2.2.1, l3, j3, m3, fun a b ha hb => ?_, fun a b ha hb => ?_, fun a b ha hb => ?_, fun i b hi => ?_, fun i j hi hj e => ?_, fun i hi => ?_, l1, j1, m1, l2, j2, m2⟩
  · rw [hcell _ _ (by omega)]
    simp only [rowC, show 3 * a % 3 = 0 from by omega, if_true, show 3 * a / 3 = a from by omega]
    simp [hb, ha, eq_comm]
  · rw [hcell _ _ (by omega)]
    simp only [rowC, show ¬ (3 * a + 1) % 3 = 0 from by omega, if_false]
    simp [hb]
  · rw [hcell _ _ (by omega)]
    simp only [rowC, show ¬ (3 * a + 2) % 3 = 0 from by omega, if_false]
    simp [hb]
  · simp [World.frozen?, h.rows i hi]
  · have e' : r i = r j := e
    rcases Nat.lt_trichotomy i j with h1 | h1 | h1
    · have := h.mono i j h1 hj; omega
    · exact h1
    · have := h.mono j i h1 hi; omega
  · have := h.low i hi
    exact ⟨by simp only; omega, hne i _ _ _ _ hi hgL (types_row i).1, hne i _ _ _ _ hi hgJ (types_row i).2.1, hne i _ _ _ _ hi hgM (types_row i).2.1⟩
end

end Go.Proofs.YtkcmhdkhdjmjeaaGreatDoor
