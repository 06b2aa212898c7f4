/-
  Lists of pairs in memory, of whatever layer: read, owned, come in as an argument.
-/
import Derived.Test.YtkcmhdkhdjmjeaaGreatDoorBase
import Derived.Deep.Slices
import Derived.OpenShut
namespace Go.Proofs.YtkcmhdkhdjmjeaaGreatDoor
open Go.ChangeShapes Go.WideShapes Go.ChangeAt Go.RowKit
set_option linter.unusedSimpArgs false
set_option linter.unusedVariables false

/-- The slice value at B (capacity 'cap') holds just these pairs, two cells each. -/
def PairsAt (w : World) (B : Option Addr) (cap : Nat) (ps : List (Int × Int)) : Prop :=
  ps.length ≤ cap ∧ cap ≤ maxLen ∧ (ps = [] ∨ ∃ b off, B = some ⟨b, off, none⟩ ∧ b < w.heap.size ∧
    ∀ i (h : i < ps.length), w.cell? ⟨b, off + i * 2, none⟩ = some (.int .i64 ps[i].1) ∧ w.cell? ⟨b, off + i * 2 + 1, none⟩ = some (.int .i64 ps[i].2))
theorem PairsAt.below {w w' : World} {B : Option Addr} {cap : Nat} {ps : List (Int × Int)} (h : PairsAt w B cap ps) (hb : Below w.heap.size w w') : PairsAt w' B cap ps := by
  obtain ⟨h1, h2, h3⟩ := h
  refine ⟨h1, h2, ?_⟩
  rcases h3 with h3 | ⟨b, off, e, hlt, hc⟩
  · exact Or.inl h3
  · refine Or.inr ⟨b, off, e, Nat.lt_of_lt_of_le hlt hb.size, fun i hi => ?_⟩
    rw [hb.cell (p := ⟨b, off + i * 2, none⟩) hlt, hb.cell (p := ⟨b, off + i * 2 + 1, none⟩) hlt]
    exact hc i hi
theorem PairsAt.at {w : World} {B : Option Addr} {cap : Nat} {ps : List (Int × Int)} (h : PairsAt w B cap ps) {k : Nat} (hk : k < ps.length) :
    ∃ b off, B = some ⟨b, off, none⟩ ∧ b < w.heap.size ∧ w.cell? ⟨b, off + k * 2, none⟩ = some (.int .i64 ps[k].1) ∧ w.cell? ⟨b, off + k * 2 + 1, none⟩ = some (.int .i64 ps[k].2) := by
  rcases h.2.2 with h3 | ⟨b, off, e, hlt, hc⟩
  · rw [h3] at hk; simp at hk
  · exact ⟨b, off, e, hlt, (hc k hk).1, (hc k hk).2⟩
theorem PairsAt.alloc {w : World} {B : Option Addr} {cap : Nat} {ps : List (Int × Int)} (h : PairsAt w B cap ps) (o : Obj) : PairsAt (w.alloc o) B cap ps := h.below ((Below.refl _ w).alloc (Nat.le_refl _) o)

/-- Two cells in a block of their own. -/
theorem box_cell (w : World) (a b : Value) (t : TypeId) : (w.alloc (.cells #[a, b] t)).cell? ⟨w.heap.size, 0, none⟩ = some a ∧ (w.alloc (.cells #[a, b] t)).cell? ⟨w.heap.size, 1, none⟩ = some b := by
  constructor <;> rw [cell_of_row _ _ _ #[a, b] t (0, 0) (heap_alloc_new w _)] <;> rfl

def prCells (ps : List (Int × Int)) : List Value := ps.flatMap fun p => [.int .i64 p.1, .int .i64 p.2]
theorem prCells_length (ps : List (Int × Int)) : (prCells ps).length = ps.length * 2 := by
  induction ps with
  | nil => rfl
  | cons p ps ih =>
    have e : prCells (p :: ps) = [.int .i64 p.1, .int .i64 p.2] ++ prCells ps := rfl
    rw [e, List.length_append, ih]
    simp; omega
theorem prCells_append (a b : List (Int × Int)) : prCells (a ++ b) = prCells a ++ prCells b := by simp [prCells]
theorem prCells_get : ∀ (ps : List (Int × Int)) (k : Nat) (h : k < ps.length), (prCells ps)[k * 2]? = some (.int .i64 ps[k].1) ∧ (prCells ps)[k * 2 + 1]? = some (.int .i64 ps[k].2)
  | p :: ps, 0, h => ⟨rfl, rfl⟩
  | p :: ps, k + 1, h => by
    have e : prCells (p :: ps) = .int .i64 p.1 :: .int .i64 p.2 :: prCells ps := rfl
    have ih := prCells_get ps k (by simpa using h)
    rw [e, show (k + 1) * 2 = k * 2 + 1 + 1 from by omega]
    exact ih
theorem infoPair : (Tryz.prog.info? 52).map (fun i => (i.zero, i.size, i.bytes)) = some (some (.agg #[.int .i64 0, .int .i64 0]), 2, 16) := by kernel_rfl

/-- A list of pairs of the call's own may be read. -/
theorem PairsAt.own {w : World} {B : Nat} {v : Value} {ps : List (Int × Int)} (h : w.ownsRow B 52 2 v ps.length (prCells ps)) : ∃ A cap, v = .slice A ps.length cap ∧ PairsAt w A cap ps := by
  obtain ⟨hl, h⟩ := h
  rcases h with ⟨rfl, h0⟩ | ⟨g, cap, cur, rfl, hb, hg, hnc, hcm, hcs, ht⟩
  · rw [h0]
    exact ⟨none, 0, rfl, by omega, Nat.zero_le _, Or.inl (List.eq_nil_of_length_eq_zero h0)⟩
  · refine ⟨_, cap, rfl, hnc, hcm, Or.inr ⟨g, 0, rfl, (Array.getElem?_eq_some_iff.1 hg).1, fun i hi => ?_⟩⟩
    have hc := prCells_get ps i hi
    have e : ∀ (j : Nat) (u : Value), (prCells ps)[j]? = some u → cur[j]? = some u := by
      intro j u hu
      rw [← ht, List.getElem?_take] at hu
      split at hu
      · simpa using hu
      · cases hu
    constructor
    · rw [Nat.zero_add, cell_of_row w g _ cur _ (0, 0) hg]
      exact e _ _ hc.1
    · rw [Nat.zero_add, cell_of_row w g _ cur _ (0, 0) hg]
      exact e _ _ hc.2

theorem prCells_snoc (ps : List (Int × Int)) (a b : Int) : prCells ps ++ [Value.int .i64 a, Value.int .i64 b] = prCells (ps ++ [(a, b)]) := by rw [prCells_append]; rfl
theorem cells_two (w : World) (u v : Value) (t : TypeId) : ∀ (j : Nat) (x : Value), [u, v][j]? = some x → (w.alloc (.cells #[u, v] t)).cell? ((⟨w.heap.size, 0, none⟩ : Addr).add j) = some x := by
  intro j x hj
  rw [addr_add, cell_of_row _ _ _ #[u, v] t (0, 0) (heap_alloc_new w _), Nat.zero_add]
  simpa using hj
theorem two_ints (a b : Int) : ∀ x ∈ [Value.int .i64 a, Value.int .i64 b], x.oneCell' = true := by
  intro x hx
  simp at hx
  rcases hx with rfl | rfl <;> rfl

section
variable {H : Type} {enc : TypeId × Value → H} {P : Program} {w : World} {held : Bool} {A : Option Addr} {len cap : Nat}

theorem cell_pair {a e : TypeId} {n : Nat} {cs : List Value} {x : DataW H × List MemPlace} (ha : P.underlying a = some (.array 2 e)) (he : P.underlying e = some (.int .i64)) (hca : P.cellsOf a = 2) (hce : P.cellsOf e = 1)
    (h : DataW.trod enc P w 0 (fun _ => true) held n a cs = some x) : ∃ p : Int × Int, cs = [.int .i64 p.1, .int .i64 p.2] := by
  obtain ⟨xs, m, _, _, hl, hx, hall⟩ := DataW.trod_array ha h
  rw [hca] at hl
  match cs, hl with
  | [u, v], _ =>
    have h0 := hall 0 (by omega)
    have h1 := hall 1 (by omega)
    rw [hce] at h0 h1
    simp only [Nat.zero_mul, List.drop_zero, Nat.one_mul, List.take_succ_cons, List.take_zero, List.drop_succ_cons] at h0 h1
    rw [List.getElem?_eq_getElem (by omega)] at h0 h1
    obtain ⟨p, e1, _, _⟩ := DataW.trod_int he h0
    obtain ⟨q, e2, _, _⟩ := DataW.trod_int he h1
    refine ⟨(p, q), ?_⟩
    simp at e1 e2
    rw [e1, e2]

theorem opened_pairs {t a e : TypeId} {fuel : Nat} {x : DataW H × List MemPlace} (ht : P.underlying t = some (.slice a)) (ha : P.underlying a = some (.array 2 e)) (he : P.underlying e = some (.int .i64)) (hca : P.cellsOf a = 2) (hce : P.cellsOf e = 1)
    (h : DataW.trod enc P w 0 (fun _ => true) held fuel t (Value.slice A len cap).cells.toList = some x) : ∃ ps : List (Int × Int), ps.length = len ∧ PairsAt w A cap ps := by
  rcases Go.Deep.open_slice ht h with ⟨hcs, _⟩ | ⟨ad, l, c, m, n, D, Pl, hcs, hb, hl, hm, hmm, _, hx⟩
  · simp [Value.cells] at hcs
    obtain ⟨rfl, rfl, rfl⟩ := hcs
    exact ⟨[], rfl, Nat.le_refl _, Nat.zero_le _, Or.inl rfl⟩
  · simp [Value.cells] at hcs
    obtain ⟨rfl, rfl, rfl⟩ := hcs
    simp only [if_true] at hmm
    subst hmm
    rw [hca] at hx
    obtain ⟨f, hf⟩ := Go.Deep.choose_lt (α := Int × Int) (p := fun i p => w.cell? (ad.add (i * 2)) = some (.int .i64 p.1) ∧ w.cell? ((ad.add (i * 2)).add 1) = some (.int .i64 p.2)) (fun i hi => by
      obtain ⟨cs', h1, h2⟩ := hx i hi
      obtain ⟨_, _, hc⟩ := World.cells?_some h1
      obtain ⟨p, rfl⟩ := cell_pair ha he hca hce h2
      have c0 := hc 0 (by omega)
      have c1 := hc 1 (by omega)
      refine ⟨p, ?_, c1⟩
      have e0 : (ad.add (i * 2)).add 0 = ad.add (i * 2) := by unfold Addr.add; simp
      rw [e0] at c0
      exact c0)
    refine ⟨(List.range len).map f, by simp, by simpa using hl, hm, ?_⟩
    by_cases h0 : len = 0
    · exact Or.inl (by simp [h0])
    · have hcell0 := (hf 0 (by omega)).1
      have hsp : ad.spot = none := by
        have := World.cell?_spot hcell0
        simpa [Addr.add] using this
      obtain ⟨b, off, sp⟩ := ad
      simp only at hsp
      subst hsp
      refine Or.inr ⟨b, off, rfl, ?_, fun i hi => ?_⟩
      · have := World.block_lt_of_cell? _ _ hcell0
        simpa [Addr.add] using this
      · simp only [List.length_map, List.length_range] at hi
        have hfi := hf i (by omega)
        rw [addr_add, addr_add] at hfi
        simp only [List.getElem_map, List.getElem_range]
        exact hfi
end

end Go.Proofs.YtkcmhdkhdjmjeaaGreatDoor
