/-
  What a law's arguments are, told to its walk: 'RowOf': a slice of one-celled elements holds these values.
  Plain facts that every layer wants: lists of texts in memory, iterators, one call behind another one.
  Lists that may be read, of whatever layer.
  Lists that a call owns: where they lie, what keeps them.
-/
import Derived.Test.YtpifhjdbcdcelaaDoorRows
import Derived.WalkKit
import Derived.ProofKit
import Derived.OpenShut
import Derived.ShutString
import Derived.ChangeOld
import Derived.Below
import Derived.SliceStrings
import Derived.Deep.Grids
import Derived.Test.YtpifhjdbcdcelaaDoorShelf
import Derived.BigCall
import Derived.BigQuiet
import Derived.Deep.QuietTactic
import Derived.Lib.Hide
import Derived.Lib.OthersKept
import Derived.Lib.RuneBytes
import Derived.Laws.RangeAny
import Derived.Laws.AppendOwn
import Derived.RegionTactic
import Derived.KernelRfl
import Derived.Laws.AppendOwnNone
import Derived.Deep.AppendLies
import Derived.Deep.RegionLaw
namespace Go.Proofs.YtpifhjdbcdcelaaDoor
open Go.ChangeShapes Go.WideShapes Go.ChangeAt Go.RowKit

theorem own : ownKnob Tryd.prog.godebug = none := by kernel_rfl
theorem laidOut : laidOutB Tryd.prog = true := by kernel_rfl

/-- The slice value at A (capacity 'cap') holds just the values xs, one cell each. -/
def RowOf (w : World) (A : Option Addr) (cap : Nat) (xs : List Value) : Prop :=
  xs.length ≤ cap ∧ cap ≤ maxLen ∧ (xs = [] ∨ ∃ b off, A = some ⟨b, off, none⟩ ∧ b < w.heap.size ∧ ∀ i (h : i < xs.length), w.cell? ⟨b, off + i, none⟩ = some xs[i])

theorem RowOf.below {w w' : World} {A : Option Addr} {cap : Nat} {xs : List Value} (h : RowOf w A cap xs) (hb : Below w.heap.size w w') : RowOf w' A cap xs := by
  obtain ⟨h1, h2, h3⟩ := h
  refine ⟨h1, h2, ?_⟩
  rcases h3 with h3 | ⟨b, off, e, hlt, hc⟩
  · exact Or.inl h3
  · refine Or.inr ⟨b, off, e, Nat.lt_of_lt_of_le hlt hb.size, fun i hi => ?_⟩
    rw [hb.cell (p := ⟨b, off + i, none⟩) hlt]
    exact hc i hi

theorem rowOf_mk {w : World} {a : Addr} {len cap n : Nat} {f : Nat → Value} (hl : len ≤ n) (hlc : len ≤ cap) (hc : cap ≤ maxLen) (h : ∀ i, i < n → w.cell? (a.add i) = some (f i)) :
    RowOf w (some a) cap ((List.range len).map f) := by
  refine ⟨by simpa using hlc, hc, ?_⟩
  by_cases h0 : len = 0
  · exact Or.inl (by simp [h0])
  · have hcell0 := h 0 (by omega)
    have hsp : a.spot = none := by
      have := World.cell?_spot hcell0
      simpa [Addr.add] using this
    obtain ⟨b, off, sp⟩ := a
    simp only at hsp
    subst hsp
    refine Or.inr ⟨b, off, rfl, ?_, fun i hi => ?_⟩
    · have := World.block_lt_of_cell? _ _ hcell0
      simpa [Addr.add] using this
    · simp only [List.length_map, List.length_range] at hi
      have hci := h i (by omega)
      simp only [List.getElem_map, List.getElem_range]
      rw [← hci]
      by_cases hi0 : i = 0
      · subst hi0; simp [Addr.add]
      · simp [Addr.add, hi0]

section
variable {H : Type} {enc : TypeId × Value → H} {P : Program} {w : World} {held : Bool} {A : Option Addr} {len cap : Nat} {d : DataW H} {ps : List MemPlace}

theorem rowOf_nil (A : Option Addr) : RowOf w A 0 [] := ⟨Nat.le_refl _, Nat.zero_le _, Or.inl rfl⟩

theorem map_range_getD {α : Type} (zs : List α) (z0 : α) (len : Nat) (h : len ≤ zs.length) (g : α → Value) : (List.range len).map (fun i => g (zs.getD i z0)) = (zs.take len).map g := by
  apply List.ext_getElem
  · simp; omega
  · intro i h1 h2
    simp only [List.length_map, List.length_range] at h1
    simp only [List.getElem_map, List.getElem_range, List.getElem_take]
    rw [List.getD_eq_getElem?_getD, List.getElem?_eq_getElem (by omega)]
    rfl

theorem opened_ints {t e : TypeId} {k : IntKind} {fuel : Nat} {x : DataW H × List MemPlace} (ht : P.underlying t = some (.slice e)) (he : P.underlying e = some (.int k)) (hc : P.cellsOf e = 1)
    (h : DataW.trod enc P w 0 (fun _ => true) held fuel t (Value.slice A len cap).cells.toList = some x) :
    ∃ zs : List Int, zs.length = len ∧ RowOf w A cap (zs.map (Value.int k)) ∧ ∀ n ∈ zs, (Lit.int k n).wf = true := by
  rcases open_ints ht he hc h with ⟨hcs, _⟩ | ⟨a, l, c, zs, hcs, _, hl, hm, hz, _, hcell, hwz⟩
  · simp [Value.cells] at hcs
    obtain ⟨rfl, rfl, rfl⟩ := hcs
    exact ⟨[], rfl, rowOf_nil _, by simp⟩
  · simp [Value.cells] at hcs
    obtain ⟨rfl, rfl, rfl⟩ := hcs
    simp only [if_true] at hz
    refine ⟨zs.take len, by simp; omega, ?_, fun n hn => hwz n (List.mem_of_mem_take hn)⟩
    rw [← map_range_getD zs 0 len (by omega) (Value.int k)]
    exact rowOf_mk (n := zs.length) (by omega) hl hm hcell

theorem opened_strings {t e : TypeId} {fuel : Nat} {x : DataW H × List MemPlace} (ht : P.underlying t = some (.slice e)) (he : P.underlying e = some .string) (hc : P.cellsOf e = 1)
    (h : DataW.trod enc P w 0 (fun _ => true) held fuel t (Value.slice A len cap).cells.toList = some x) :
    ∃ ss : List ByteArray, ss.length = len ∧ RowOf w A cap (ss.map Value.string) ∧ ∀ s ∈ ss, s.size ≤ maxLen := by
  rcases open_strings ht he hc h with ⟨hcs, _⟩ | ⟨a, l, c, zs, hcs, _, hl, hm, hz, _, hcell, hwz⟩
  · simp [Value.cells] at hcs
    obtain ⟨rfl, rfl, rfl⟩ := hcs
    exact ⟨[], rfl, rowOf_nil _, by simp⟩
  · simp [Value.cells] at hcs
    obtain ⟨rfl, rfl, rfl⟩ := hcs
    simp only [if_true] at hz
    refine ⟨zs.take len, by simp; omega, ?_, fun n hn => hwz n (List.mem_of_mem_take hn)⟩
    rw [← map_range_getD zs ByteArray.empty len (by omega) Value.string]
    exact rowOf_mk (n := zs.length) (by omega) hl hm hcell

theorem opened_bools {t e : TypeId} {fuel : Nat} {x : DataW H × List MemPlace} (ht : P.underlying t = some (.slice e)) (he : P.underlying e = some .bool) (hc : P.cellsOf e = 1)
    (h : DataW.trod enc P w 0 (fun _ => true) held fuel t (Value.slice A len cap).cells.toList = some x) :
    ∃ bs : List Bool, bs.length = len ∧ RowOf w A cap (bs.map Value.bool) := by
  rcases Go.Deep.open_bools ht he hc h with ⟨hcs, _⟩ | ⟨a, l, c, B, hcs, _, hl, hm, _, hcell⟩
  · simp [Value.cells] at hcs
    obtain ⟨rfl, rfl, rfl⟩ := hcs
    exact ⟨[], rfl, rowOf_nil _⟩
  · simp [Value.cells] at hcs
    obtain ⟨rfl, rfl, rfl⟩ := hcs
    refine ⟨(List.range len).map B, by simp, ?_⟩
    rw [List.map_map]
    exact rowOf_mk (n := cap) hl hl hm hcell
end

end Go.Proofs.YtpifhjdbcdcelaaDoor

namespace Go.Proofs.YtpifhjdbcdcelaaDoor
open Go.RowKit
set_option linter.unusedSimpArgs false
set_option linter.unusedVariables false

theorem ret_i32 {a b : Int} (h : a = b) : Ending.returned (.int .i32 a) = .returned (.int .i32 b) := by rw [h]
theorem ret_int {a b : Int} (h : a = b) : Ending.returned (.int .i64 a) = .returned (.int .i64 b) := by rw [h]
theorem alloc_size (w : World) (o : Obj) : (w.alloc o).heap.size = w.heap.size + 1 := by show (w.heap.push o).size = _; simp
theorem drop_byte (l : List UInt8) (k : Nat) (h : k < l.length) : l.drop k = l[k] :: l.drop (k + 1) := List.drop_eq_getElem_cons h
theorem ret_bool {a b : Bool} (h : a = b) : Ending.returned (.bool a) = .returned (.bool b) := by rw [h]
/-- One call behind another one. -/
theorem _root_.Go.RowKit.Below.then {w w1 w2 : World} (h : Below w.heap.size w w1) (k : Below w1.heap.size w1 w2) : Below w.heap.size w w2 := h.trans (k.mono h.size)
theorem get_list (s : ByteArray) (k : Nat) (h : k < s.size) : s.data.toList.drop k = s[k] :: s.data.toList.drop (k + 1) := by
  rw [drop_byte _ _ (by simpa using h)]
  rfl
theorem str_append (l : List UInt8) (s : ByteArray) : (⟨l.toArray⟩ : ByteArray) ++ s = ⟨(l ++ s.data.toList).toArray⟩ := by
  apply ByteArray.ext
  apply Array.ext'
  simp
theorem str_size (l : List UInt8) : (⟨l.toArray⟩ : ByteArray).size = l.length := by show l.toArray.size = _; simp
theorem ret_string {a b : ByteArray} (h : a = b) : Ending.returned (.string a) = .returned (.string b) := by rw [h]
/-- Each byte of a rune but the first is 128 or more. -/
theorem decode_tail (s : ByteArray) (i : Nat) (h : i < s.size) : i + (Utf8.decode s i).2 ≤ s.size ∧ ∀ j, 1 ≤ j → j < (Utf8.decode s i).2 → 128 ≤ (s.get! (i + j)).toNat := by
  unfold Utf8.decode
  dsimp only
  split
  · exact ⟨by simp; omega, fun j h1 h2 => by simp at h2; omega⟩
  · split
    · rename_i hc
      simp at hc
      split
      · refine ⟨by simp; omega, fun j h1 h2 => ?_⟩
        simp at h2
        obtain rfl : j = 1 := by omega
        omega
      · exact ⟨by simp; omega, fun j h1 h2 => by simp at h2; omega⟩
    · split
      · rename_i hc
        simp at hc
        split
        · refine ⟨by simp; omega, fun j h1 h2 => ?_⟩
          simp at h2
          obtain rfl | rfl : j = 1 ∨ j = 2 := by omega
          · omega
          · omega
        · exact ⟨by simp; omega, fun j h1 h2 => by simp at h2; omega⟩
      · split
        · rename_i hc
          simp at hc
          split
          · refine ⟨by simp; omega, fun j h1 h2 => ?_⟩
            simp at h2
            obtain rfl | rfl | rfl : j = 1 ∨ j = 2 ∨ j = 3 := by omega
            · omega
            · omega
            · omega
          · exact ⟨by simp; omega, fun j h1 h2 => by simp at h2; omega⟩
        · exact ⟨by simp; omega, fun j h1 h2 => by simp at h2; omega⟩
theorem get!_list (s : ByteArray) (k : Nat) (h : k < s.size) : s.get! k = s.data.toList[k]'(by simpa using h) := by
  show s.data[k]! = _
  rw [getElem!_pos s.data k h]
  rfl
theorem ownsRow_iterAt {w : World} {B : Nat} {e : TypeId} {size : Nat} {v : Value} {n : Nat} {xs : List Value} (h : w.ownsRow B e size v n xs) {k : Nat} {s : ByteArray} {pos : Nat}
    (hk : w.heap[k]? = some (.stringIter s pos)) (pos' : Nat) : (w.iterAt k s pos').ownsRow B e size v n xs := by
  refine ⟨h.1, ?_⟩
  rcases h.2 with hn | ⟨g, cap, cur, rfl, hb, hg, rest⟩
  · exact .inl hn
  · refine .inr ⟨g, cap, cur, rfl, hb, ?_, rest⟩
    rw [Lib.iterAt_other w k g s pos' (by intro e1; rw [e1, hk] at hg; cases hg)]
    exact hg
/-- An iterator stays behind an append to a row that is owned. -/
theorem iter_grown {w w' : World} {B : Nat} {e : TypeId} {size : Nat} {v : Value} {n : Nat} {xs : List Value} (h : w.ownsRow B e size v n xs) (hg : w.grownBy w' v.ownBlock) {k : Nat} {s : ByteArray} {pos : Nat}
    (hk : w.heap[k]? = some (.stringIter s pos)) : w'.heap[k]? = some (.stringIter s pos) := by
  rw [hg.block k (Array.getElem?_eq_some_iff.1 hk).1 ?_]
  · exact hk
  · intro e1
    rcases h.2 with ⟨rfl, _⟩ | ⟨g, cap, cur, rfl, hb, hgg, rest⟩
    · cases e1
    · simp [Value.ownBlock] at e1
      subst e1
      rw [hk] at hgg
      cases hgg
theorem ownsRow_below {w w' : World} {B : Nat} {e : TypeId} {size : Nat} {v : Value} {n : Nat} {xs : List Value} (h : w.ownsRow B e size v n xs) (hb : RowKit.Below w.heap.size w w') : w'.ownsRow B e size v n xs := by
  refine ⟨h.1, ?_⟩
  rcases h.2 with hn | ⟨g, cap, cur, rfl, hB, hg, rest⟩
  · exact .inl hn
  · exact .inr ⟨g, cap, cur, rfl, hB, (hb.block g (Array.getElem?_eq_some_iff.1 hg).1).trans hg, rest⟩
theorem iter_alloc {w : World} {k : Nat} {o1 : Obj} (hk : w.heap[k]? = some o1) (o : Obj) : (w.alloc o).heap[k]? = some o1 :=
  (Below.heap_alloc w o k (Array.getElem?_eq_some_iff.1 hk).1).trans hk
theorem infoString : (Tryd.prog.info? 9).map (fun i => (i.zero, i.size, i.bytes)) = some (some (.string ByteArray.empty), 1, 16) := by kernel_rfl
def strs (ls : List (List UInt8)) : List Value := ls.map fun l => Value.string ⟨l.toArray⟩
theorem strs_length (ls : List (List UInt8)) : (strs ls).length = ls.length := by simp [strs]
theorem strs_append (a b : List (List UInt8)) : strs (a ++ b) = strs a ++ strs b := by simp [strs]
theorem strs_one (l : List UInt8) : strs [l] = [.string ⟨l.toArray⟩] := rfl
theorem ext_bytes (s : ByteArray) (g k : Nat) : s.extract g k = ⟨((s.data.toList.drop g).take (k - g)).toArray⟩ := by
  apply ByteArray.ext
  apply Array.ext'
  simp [ByteArray.data_extract, List.extract_eq_take_drop]
theorem strs_get (ls : List (List UInt8)) (i : Nat) (h : i < (strs ls).length) : (strs ls)[i] = .string ⟨(ls[i]'(by simpa [strs] using h)).toArray⟩ := by simp [strs]
theorem strs_of (z : List ByteArray) : z.map Value.string = strs (z.map fun s => s.data.toList) := by simp [strs]
/-- The cells of a list that may be read. -/
theorem RowOf.at {w : World} {A : Option Addr} {cap : Nat} {xs : List Value} (h : RowOf w A cap xs) (hne : xs ≠ []) :
    ∃ b off, A = some ⟨b, off, none⟩ ∧ b < w.heap.size ∧ ∀ i (h : i < xs.length), w.cell? ⟨b, off + i, none⟩ = some xs[i] := by
  rcases h.2.2 with h | h
  · exact absurd h hne
  · exact h
theorem toList_ne {s : ByteArray} (h : 0 < s.size) : ¬ s.toList = [] := by
  rw [ByteArray.toList_eq]
  intro e
  have := congrArg List.length e
  rw [List.length_nil, Array.length_toList] at this
  have h2 : s.data.size = s.size := rfl
  omega
theorem toList_empty {s : ByteArray} (h : 0 < s.size) : s.toList.isEmpty = false := by
  rw [List.isEmpty_eq_false_iff]; exact toList_ne h
theorem rowOf_lit (w : World) (t : TypeId) (xs : List Value) (hm : xs.length ≤ maxLen) : RowOf (w.alloc (.cells xs.toArray t)) (some ⟨w.heap.size, 0, none⟩) xs.length xs := by
  refine ⟨Nat.le_refl _, hm, Or.inr ⟨w.heap.size, 0, rfl, by show _ < (w.heap.push _).size; simp, fun i hi => ?_⟩⟩
  rw [Nat.zero_add, cell_of_row _ _ i xs.toArray t (0, 0) (heap_alloc_new w _)]
  simp [hi]
theorem RowOf.alloc {w : World} {A : Option Addr} {cap : Nat} {xs : List Value} (h : RowOf w A cap xs) (o : Obj) : RowOf (w.alloc o) A cap xs :=
  h.below ((Below.refl _ w).alloc (Nat.le_refl _) o)
theorem below_drewN' {B : Nat} {a w : World} (h : Below B a w) (n : Nat) : Below B a (w.drewN n) := ⟨h.os, h.tape, h.output, h.size, h.block⟩
theorem below_two (w w3 : World) (o o' : Obj) (n : Nat) (h : Below (((w.alloc o).drewN n).alloc o').heap.size (((w.alloc o).drewN n).alloc o') w3) : Below w.heap.size w w3 := by
  have h1 : Below w.heap.size w ((w.alloc o).drewN n) := below_drewN' ((Below.refl _ w).alloc (Nat.le_refl _) o) n
  have h2 := h1.alloc h1.size o'
  exact h2.trans (h.mono h2.size)

end Go.Proofs.YtpifhjdbcdcelaaDoor

namespace Go.Proofs.YtpifhjdbcdcelaaDoor
open Go.RowKit
set_option linter.unusedSimpArgs false
set_option linter.unusedVariables false

theorem addr_add (b off k : Nat) : (⟨b, off, none⟩ : Addr).add k = ⟨b, off + k, none⟩ := by
  unfold Addr.add
  split
  · rename_i h; simp [h]
  · rfl
theorem RowOf.cellAt {w : World} {A : Option Addr} {cap : Nat} {ls : List (List UInt8)} (h : RowOf w A cap (strs ls)) {k : Nat} (hk : k < ls.length) :
    ∃ b off, A = some ⟨b, off, none⟩ ∧ b < w.heap.size ∧ w.cell? ⟨b, off + k, none⟩ = some (.string ⟨ls[k].toArray⟩) := by
  have hne : strs ls ≠ [] := by intro e; have := congrArg List.length e; rw [strs_length, List.length_nil] at this; omega
  obtain ⟨b, off, e, hb, hc⟩ := h.at hne
  have := hc k (by rw [strs_length]; exact hk)
  rw [strs_get] at this
  exact ⟨b, off, e, hb, this⟩

def QuietBool (w : World) (b : Bool) (e : Ending) (w' : World) : Prop := e = .returned (.bool b) ∧ ∃ n, w' = w.drewN n

theorem rowOf_heap {w w' : World} (h : w'.heap = w.heap) {A : Option Addr} {cap : Nat} {xs : List Value} (hr : RowOf w A cap xs) : RowOf w' A cap xs := by
  refine ⟨hr.1, hr.2.1, ?_⟩
  rcases hr.2.2 with h1 | ⟨b, off, e, hb, hc⟩
  · exact Or.inl h1
  · exact Or.inr ⟨b, off, e, by rw [h]; exact hb, fun i hi => by have := hc i hi; simpa [World.cell?, h] using this⟩

/-- A list of the call's own may be read. -/
theorem RowOf.own {w : World} {B : Nat} {e : TypeId} {v : Value} {n : Nat} {xs : List Value} (h : w.ownsRow B e 1 v n xs) : ∃ A cap, v = .slice A n cap ∧ RowOf w A cap xs ∧ (A = none → n = 0) ∧ ∀ a, A = some a → B ≤ a.block := by
  obtain ⟨hl, h⟩ := h
  rcases h with ⟨rfl, rfl⟩ | ⟨g, cap, cur, rfl, hb, hg, hnc, hcm, hcs, ht⟩
  · refine ⟨none, 0, rfl, ⟨by omega, Nat.zero_le _, Or.inl ?_⟩, fun _ => rfl, fun a h => by cases h⟩
    exact List.eq_nil_of_length_eq_zero (by omega)
  · refine ⟨_, cap, rfl, ⟨by omega, hcm, Or.inr ⟨g, 0, rfl, (Array.getElem?_eq_some_iff.1 hg).1, fun i hi => ?_⟩⟩, fun h => (by cases h), fun a h => by cases h; exact hb⟩
    rw [Nat.zero_add, cell_of_row w g i cur e (0, 0) hg]
    have h2 : xs[i]? = some xs[i] := List.getElem?_eq_getElem hi
    have h3 : (cur.toList.take (n * 1))[i]? = some xs[i] := by rw [ht]; exact h2
    rw [List.getElem?_take] at h3
    split at h3
    · simpa using h3
    · cases h3

theorem RowOf.take {w : World} {A : Option Addr} {cap : Nat} {xs : List Value} (h : RowOf w A cap xs) (k : Nat) : RowOf w A cap (xs.take k) := by
  refine ⟨by have := h.1; rw [List.length_take]; omega, h.2.1, ?_⟩
  rcases h.2.2 with h1 | ⟨b, off, e, hb, hc⟩
  · exact Or.inl (by rw [h1]; simp)
  · refine Or.inr ⟨b, off, e, hb, fun i hi => ?_⟩
    rw [List.length_take] at hi
    rw [List.getElem_take]
    exact hc i (by omega)

end Go.Proofs.YtpifhjdbcdcelaaDoor

namespace Go.Proofs.YtpifhjdbcdcelaaDoor
open Go.RowKit
set_option linter.unusedSimpArgs false
set_option linter.unusedVariables false

theorem strs_one' (ls : List (List UInt8)) : ∀ u ∈ strs ls, u.oneCell' = true := by
  intro u hu
  obtain ⟨l, _, rfl⟩ := List.mem_map.1 hu
  rfl
/-- Where the cells of a list that may be read lie. -/
theorem RowOf.cells {w : World} {ad : Addr} {cap : Nat} {xs : List Value} (h : RowOf w (some ad) cap xs) : ∀ j u, xs[j]? = some u → w.cell? (ad.add j) = some u := by
  intro j u hu
  have hj : j < xs.length := (List.getElem?_eq_some_iff.1 hu).1
  rcases h.2.2 with h | ⟨b, off, e, hb, hc⟩
  · rw [h] at hj; simp at hj
  · cases e
    rw [addr_add, hc j hj, ← hu, List.getElem?_eq_getElem hj]

/-- Two values own no block together. -/
def Apart (v u : Value) : Prop := ∀ g, v.ownBlock = some g → u.ownBlock ≠ some g
theorem Apart.symm {v u : Value} (h : Apart v u) : Apart u v := fun g hu hv => h g hv hu
theorem Apart.ne {v u : Value} (h : Apart v u) : v.ownBlock = none ∨ v.ownBlock ≠ u.ownBlock := by
  cases hv : v.ownBlock with
  | none => exact Or.inl rfl
  | some g => exact Or.inr fun e => h g hv e.symm
/-- Two rows whose elements are of different types lie apart; and a row lies apart from a block of another type. -/
theorem own_ne {w : World} {B : Nat} {e e' : TypeId} {size n : Nat} {v : Value} {xs : List Value} (h : w.ownsRow B e size v n xs) {g : Nat} {cs : Array Value} {fz : Nat × Nat} (hg : w.heap[g]? = some (.cells cs e' fz)) (hne : e ≠ e') : v.ownBlock ≠ some g := by
  rcases h.2 with ⟨rfl, _⟩ | ⟨g', cap, cur, rfl, _, hh, _⟩
  · simp [Value.ownBlock]
  · intro he
    simp [Value.ownBlock] at he
    subst he
    rw [hh] at hg
    injection hg with hg
    injection hg with _ ht
    exact hne ht
theorem own_apart {w : World} {B B' : Nat} {e e' : TypeId} {size size' n n' : Nat} {v u : Value} {xs ys : List Value} (h : w.ownsRow B e size v n xs) (k : w.ownsRow B' e' size' u n' ys) (hne : e ≠ e') : Apart v u := by
  intro g hv hu
  rcases k.2 with ⟨rfl, _⟩ | ⟨g', cap, cur, rfl, _, hh, _⟩
  · simp [Value.ownBlock] at hu
  · simp [Value.ownBlock] at hu
    subst hu
    exact own_ne h hh hne hv
/-- A row among older blocks, and one among newer ones. -/
theorem own_new {w w' : World} {B B' : Nat} {e e' : TypeId} {size size' n n' : Nat} {v u : Value} {xs ys : List Value} (h : w.ownsRow B e size v n xs) (k : w'.ownsRow B' e' size' u n' ys) (hB : w.heap.size ≤ B') : Apart v u := by
  intro g hv hu
  have h1 := (h.lt g hv).2
  have h2 := (k.lt g hu).1
  omega

theorem cells_one (w : World) (u : Value) (t : TypeId) : ∀ (j : Nat) (x : Value), [u][j]? = some x → (w.alloc (.cells #[u] t)).cell? ((⟨w.heap.size, 0, none⟩ : Addr).add j) = some x := by
  intro j x hj
  match j, hj with
  | 0, hj =>
    simp at hj
    subst hj
    rw [addr_add, cell_of_row _ _ 0 #[u] t (0, 0) (heap_alloc_new w _)]
    rfl
theorem one_slice (A : Option Addr) (n c : Nat) : ∀ x ∈ [Value.slice A n c], x.oneCell' = true := by
  intro x hx
  simp at hx
  subst hx
  rfl
/-- A store into a block of another type keeps a row. -/
theorem own_set {w : World} {B b : Nat} {cs : Array Value} {t e : TypeId} {fz : Nat × Nat} {v : Value} {n size : Nat} {xs : List Value} (h : w.ownsRow B e size v n xs) (hb : w.heap[b]? = some (.cells cs t fz)) (hne : e ≠ t) (i : Nat) (u : Value) :
    (w.setCell ⟨b, i, none⟩ u).ownsRow B e size v n xs := by
  have h1 := own_ne h hb hne
  refine ⟨h.1, ?_⟩
  rcases h.2 with hn | ⟨g, cap, cur, rfl, hB, hg, rest⟩
  · exact .inl hn
  · refine .inr ⟨g, cap, cur, rfl, hB, ?_, rest⟩
    rw [Below.heap_setCell w ⟨b, i, none⟩ u g (fun e1 => h1 (by rw [show g = b from e1]; rfl))]
    exact hg

theorem own_low {w : World} {B B' : Nat} {e : TypeId} {size n : Nat} {v : Value} {xs : List Value} (h : w.ownsRow B e size v n xs) (hB : B' ≤ B) : w.ownsRow B' e size v n xs := by
  refine ⟨h.1, ?_⟩
  rcases h.2 with hn | ⟨g, cap, cur, rfl, hb, rest⟩
  · exact .inl hn
  · exact .inr ⟨g, cap, cur, rfl, Nat.le_trans hB hb, rest⟩

theorem own_heap {w w' : World} (hh : w'.heap = w.heap) {B : Nat} {e : TypeId} {size n : Nat} {v : Value} {xs : List Value} (h : w.ownsRow B e size v n xs) : w'.ownsRow B e size v n xs := by
  refine ⟨h.1, ?_⟩
  rcases h.2 with hn | ⟨g, cap, cur, rfl, hB, hg, rest⟩
  · exact .inl hn
  · exact .inr ⟨g, cap, cur, rfl, hB, by rw [hh]; exact hg, rest⟩
/-- The i-th list of a list of lists, and where it lies. -/
theorem row_cell {w : World} {B : Nat} {e : TypeId} {A : Option Addr} {cap : Nat} {xs : List Value} (h : w.ownsRow B e 1 (.slice A xs.length cap) xs.length xs) {k : Nat} (hk : k < xs.length) :
    ∃ b, A = some ⟨b, 0, none⟩ ∧ b < w.heap.size ∧ w.cell? ⟨b, k, none⟩ = some xs[k] := by
  obtain ⟨hl, h⟩ := h
  rcases h with ⟨e1, h0⟩ | ⟨g, c, cur, e1, hb, hg, hnc, hcm, hcs, ht⟩
  · omega
  · cases e1
    refine ⟨g, rfl, (Array.getElem?_eq_some_iff.1 hg).1, ?_⟩
    rw [cell_of_row w g k cur e (0, 0) hg]
    have h2 : xs[k]? = some xs[k] := List.getElem?_eq_getElem hk
    have h3 : (cur.toList.take (xs.length * 1))[k]? = some xs[k] := by rw [ht]; exact h2
    rw [List.getElem?_take] at h3
    split at h3
    · simpa using h3
    · cases h3

theorem grownBy_of_below {w w' : World} (h : Below w.heap.size w w') (row : Option Nat) : w.grownBy w' row := ⟨h.os, h.tape, h.output, h.size, fun k hk _ => h.block k hk⟩

theorem grown_drew {w w' : World} {row : Option Nat} (h : w.grownBy w' row) : w.grownBy w'.drew row := ⟨h.os, h.tape, h.output, h.size, h.block⟩

theorem below_of_grown {w w' : World} {row : Option Nat} {B : Nat} (h : w.grownBy w' row) (hr : ∀ g, row = some g → B ≤ g) (hB : B ≤ w.heap.size := by omega) : Below B w w' :=
  ⟨h.os, h.tape, h.output, h.size, fun k hk => h.block k (by omega) (fun e => by have := hr k e.symm; omega)⟩

/-! ### Functions with four or five results -/
theorem results_tmp4 {fn : Func} {t u v x : Tmp} (h : fn.results = #[.tmp t, .tmp u, .tmp v, .tmp x]) (tmps : Array Value) (P : Program) (w : World) :
    (results fn tmps).run P w = .ok (.tuple #[tmps.getD t undef, tmps.getD u undef, tmps.getD v undef, tmps.getD x undef]) w := by
  simp [results, h]
theorem results_tmp5 {fn : Func} {t u v x y : Tmp} (h : fn.results = #[.tmp t, .tmp u, .tmp v, .tmp x, .tmp y]) (tmps : Array Value) (P : Program) (w : World) :
    (results fn tmps).run P w = .ok (.tuple #[tmps.getD t undef, tmps.getD u undef, tmps.getD v undef, tmps.getD x undef, tmps.getD y undef]) w := by
  simp [results, h]

/-- The byte at k, c or not, and the rune there. -/
theorem rune_is (s : ByteArray) (k : Nat) (h : k < s.size) (c : UInt8) (hc : c.toNat < 128) : ((Utf8.decode s k).1 = c.toNat) ↔ s[k] = c := by
  constructor
  · intro e
    by_cases ha : s[k].toNat < 128
    · rw [decode_ascii s k h ha] at e
      exact UInt8.toNat_inj.1 e
    · have := (decode_high s k h (by omega)).1
      omega
  · intro e
    rw [decode_ascii s k h (by rw [e]; exact hc), e]
/- Slices of a text, for all worlds. -/
theorem slice_lo (s : ByteArray) (i : Int) (k : Nat) (e : i = k) (h : k ≤ s.size) (w : World) :
    (Instr.slice 9 (.string s) (some (.int .i64 i)) none none).run Tryd.prog w = .ok (.string (s.extract k s.size)) w := by
  subst e
  rw [run_slice_string_l w 9 s Tryd.underlying9 .i64 (k : Int) (by omega) (by omega)]
  rfl
theorem slice_hi (s : ByteArray) (i : Int) (k : Nat) (e : i = k) (h : k ≤ s.size) (w : World) :
    (Instr.slice 9 (.string s) none (some (.int .i64 i)) none).run Tryd.prog w = .ok (.string (s.extract 0 k)) w := by
  subst e
  rw [run_slice_string_h w 9 s Tryd.underlying9 .i64 (k : Int) (by omega) (by omega)]
  rfl
theorem slice_lohi (s : ByteArray) (i j : Int) (k m : Nat) (e : i = k) (e2 : j = m) (h : k ≤ m) (h2 : m ≤ s.size) (w : World) :
    (Instr.slice 9 (.string s) (some (.int .i64 i)) (some (.int .i64 j)) none).run Tryd.prog w = .ok (.string (s.extract k m)) w := by
  subst e; subst e2
  rw [run_slice_string w 9 s .i64 .i64 (k : Int) (m : Int) Tryd.underlying9 (by omega) (by omega) (by omega)]
  rfl

end Go.Proofs.YtpifhjdbcdcelaaDoor
