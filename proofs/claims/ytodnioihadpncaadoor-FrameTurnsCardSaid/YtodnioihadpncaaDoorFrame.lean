/-
  What a law's arguments are, told to its walk: 'RowOf': a slice of one-celled elements holds these values.
-/
import Derived.Test.YtodnioihadpncaaDoorRows
import Derived.WalkKit
import Derived.ProofKit
import Derived.OpenShut
import Derived.ShutString
import Derived.ChangeOld
import Derived.Below
import Derived.SliceStrings
import Derived.Deep.Grids
namespace Go.Proofs.YtodnioihadpncaaDoor
open Go.ChangeShapes Go.WideShapes Go.ChangeAt Go.RowKit

theorem own : ownKnob Tryd.prog.godebug = none := by kernel_rfl
theorem laidOut : laidOutB Tryd.prog = true := by kernel_rfl

/-- The slice value at A (capacity 'cap') holds just the values xs, one cell each. -/
def RowOf (w : World) (A : Option Addr) (cap : Nat) (xs : List Value) : Prop :=
  xs.length ≤ cap ∧ cap ≤ maxLen ∧ (xs = [] ∨ ∃ b off, A = some ⟨b, off, none⟩ ∧ b < w.heap.size ∧ ∀ i (h : i < xs.length), w.cell? ⟨b, off + i, none⟩ = some xs[i])

theorem RowOf.below {w w' : World} {A : Option Addr} {cap : Nat} {xs : List Value} (h : RowOf w A cap xs) (hb : Below w.heap.size w w') : RowOf w' A cap xs := by
  obtain ⟨h1, h2, h3⟩ := h
  refine ⟨h1, h2, ?_⟩
  rcases h3 with h3 | ⟨b, off, e, hlt, hc⟩
  · exact Or.inl h3
  · refine Or.inr ⟨b, off, e, Nat.lt_of_lt_of_le hlt hb.size, fun i hi => ?_⟩
    rw [hb.cell (p := ⟨b, off + i, none⟩) hlt]
    exact hc i hi

theorem rowOf_mk {w : World} {a : Addr} {len cap n : Nat} {f : Nat → Value} (hl : len ≤ n) (hlc : len ≤ cap) (hc : cap ≤ maxLen) (h : ∀ i, i < n → w.cell? (a.add i) = some (f i)) :
    RowOf w (some a) cap ((List.range len).map f) := by
  refine ⟨by simpa using hlc, hc, ?_⟩
  by_cases h0 : len = 0
  · exact Or.inl (by simp [h0])
  · have hcell0 := h 0 (by omega)
    have hsp : a.spot = none := by
      have := World.cell?_spot hcell0
      simpa [Addr.add] using this
    obtain ⟨b, off, sp⟩ := a
    simp only at hsp
    subst hsp
    refine Or.inr ⟨b, off, rfl, ?_, fun i hi => ?_⟩
    · have := World.block_lt_of_cell? _ _ hcell0
      simpa [Addr.add] using this
    · simp only [List.length_map, List.length_range] at hi
      have hci := h i (by omega)
      simp only [List.getElem_map, List.getElem_range]
      rw [← hci]
      by_cases hi0 : i = 0
      · subst hi0; simp [Addr.add]
      · simp [Addr.add, hi0]

section
variable {H : Type} {enc : TypeId × Value → H} {P : Program} {w : World} {held : Bool} {A : Option Addr} {len cap : Nat} {d : DataW H} {ps : List MemPlace}

theorem rowOf_nil (A : Option Addr) : RowOf w A 0 [] := ⟨Nat.le_refl _, Nat.zero_le _, Or.inl rfl⟩

theorem map_range_getD {α : Type} (zs : List α) (z0 : α) (len : Nat) (h : len ≤ zs.length) (g : α → Value) : (List.range len).map (fun i => g (zs.getD i z0)) = (zs.take len).map g := by
  apply List.ext_getElem
  · simp; omega
  · intro i h1 h2
    simp only [List.length_map, List.length_range] at h1
    simp only [List.getElem_map, List.getElem_range, List.getElem_take]
    rw [List.getD_eq_getElem?_getD, List.getElem?_eq_getElem (by omega)]
    rfl

theorem opened_ints {t e : TypeId} {k : IntKind} {fuel : Nat} {x : DataW H × List MemPlace} (ht : P.underlying t = some (.slice e)) (he : P.underlying e = some (.int k)) (hc : P.cellsOf e = 1)
    (h : DataW.trod enc P w 0 (fun _ => true) held fuel t (Value.slice A len cap).cells.toList = some x) :
    ∃ zs : List Int, zs.length = len ∧ RowOf w A cap (zs.map (Value.int k)) ∧ ∀ n ∈ zs, (Lit.int k n).wf = true := by
  rcases open_ints ht he hc h with ⟨hcs, _⟩ | ⟨a, l, c, zs, hcs, _, hl, hm, hz, _, hcell, hwz⟩
  · simp [Value.cells] at hcs
    obtain ⟨rfl, rfl, rfl⟩ := hcs
    exact ⟨[], rfl, rowOf_nil _, by simp⟩
  · simp [Value.cells] at hcs
    obtain ⟨rfl, rfl, rfl⟩ := hcs
    simp only [if_true] at hz
    refine ⟨zs.take len, by simp; omega, ?_, fun n hn => hwz n (List.mem_of_mem_take hn)⟩
    rw [← map_range_getD zs 0 len (by omega) (Value.int k)]
    exact rowOf_mk (n := zs.length) (by omega) hl hm hcell

theorem opened_strings {t e : TypeId} {fuel : Nat} {x : DataW H × List MemPlace} (ht : P.underlying t = some (.slice e)) (he : P.underlying e = some .string) (hc : P.cellsOf e = 1)
    (h : DataW.trod enc P w 0 (fun _ => true) held fuel t (Value.slice A len cap).cells.toList = some x) :
    ∃ ss : List ByteArray, ss.length = len ∧ RowOf w A cap (ss.map Value.string) ∧ ∀ s ∈ ss, s.size ≤ maxLen := by
  rcases open_strings ht he hc h with ⟨hcs, _⟩ | ⟨a, l, c, zs, hcs, _, hl, hm, hz, _, hcell, hwz⟩
  · simp [Value.cells] at hcs
    obtain ⟨rfl, rfl, rfl⟩ := hcs
    exact ⟨[], rfl, rowOf_nil _, by simp⟩
  · simp [Value.cells] at hcs
    obtain ⟨rfl, rfl, rfl⟩ := hcs
    simp only [if_true] at hz
    refine ⟨zs.take len, by simp; omega, ?_, fun n hn => hwz n (List.mem_of_mem_take hn)⟩
    rw [← map_range_getD zs ByteArray.empty len (by omega) Value.string]
    exact rowOf_mk (n := zs.length) (by omega) hl hm hcell

theorem opened_bools {t e : TypeId} {fuel : Nat} {x : DataW H × List MemPlace} (ht : P.underlying t = some (.slice e)) (he : P.underlying e = some .bool) (hc : P.cellsOf e = 1)
    (h : DataW.trod enc P w 0 (fun _ => true) held fuel t (Value.slice A len cap).cells.toList = some x) :
    ∃ bs : List Bool, bs.length = len ∧ RowOf w A cap (bs.map Value.bool) := by
  rcases Go.Deep.open_bools ht he hc h with ⟨hcs, _⟩ | ⟨a, l, c, B, hcs, _, hl, hm, _, hcell⟩
  · simp [Value.cells] at hcs
    obtain ⟨rfl, rfl, rfl⟩ := hcs
    exact ⟨[], rfl, rowOf_nil _⟩
  · simp [Value.cells] at hcs
    obtain ⟨rfl, rfl, rfl⟩ := hcs
    refine ⟨(List.range len).map B, by simp, ?_⟩
    rw [List.map_map]
    exact rowOf_mk (n := cap) hl hl hm hcell
end

end Go.Proofs.YtodnioihadpncaaDoor
