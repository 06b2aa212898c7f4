/-
  Package frame: parts in memory: lists of parts that may be read, lists of parts that a call owns.
-/
import Derived.Test.YtkcmhdkhdjmjeaaGreatDoorPla
import Derived.Test.YtkcmhdkhdjmjeaaGreatDoorBase
namespace Go.Proofs.YtkcmhdkhdjmjeaaGreatDoor
open Go.RowKit
set_option linter.unusedSimpArgs false
set_option linter.unusedVariables false

/-- A part's five cells; its lines lie at v. -/
def ptC (x : Prt × Value) : List Value := [.int .i64 x.1.depth, .bool x.1.dv, .string ⟨x.1.lab.toArray⟩, .bool x.1.opn, x.2]
def psC (X : List (Prt × Value)) : List Value := X.flatMap ptC
theorem psC_length (X : List (Prt × Value)) : (psC X).length = X.length * 5 := by
  induction X with
  | nil => rfl
  | cons p X ih =>
    have e : psC (p :: X) = ptC p ++ psC X := rfl
    rw [e, List.length_append, ih, List.length_cons]
    simp [ptC]; omega
theorem psC_append (a b : List (Prt × Value)) : psC (a ++ b) = psC a ++ psC b := by simp [psC]
theorem psC_one (x : Prt × Value) : psC [x] = ptC x := by simp [psC]
theorem psC_get : ∀ (X : List (Prt × Value)) (k : Nat) (h : k < X.length) (j : Nat) (u : Value), (ptC X[k])[j]? = some u → (psC X)[k * 5 + j]? = some u
  | x :: X, 0, h, j, u, hu => by
    have e : psC (x :: X) = ptC x ++ psC X := rfl
    have hu' : (ptC x)[j]? = some u := hu
    have hj := (List.getElem?_eq_some_iff.1 hu').1
    rw [e, List.getElem?_append_left (by omega), Nat.zero_mul, Nat.zero_add]
    exact hu'
  | x :: X, k + 1, h, j, u, hu => by
    have e : psC (x :: X) = ptC x ++ psC X := rfl
    have hl : (ptC x).length = 5 := rfl
    have ih := psC_get X k (by simpa using h) j u (by simpa using hu)
    rw [e, List.getElem?_append_right (by omega), hl, show (k + 1) * 5 + j - 5 = k * 5 + j from by omega]
    exact ih
theorem psC_set : ∀ (X : List (Prt × Value)) (k : Nat) (h : k < X.length) (j : Nat) (hj : j < 5) (y : Prt × Value) (u : Value), ptC y = (ptC X[k]).set j u → psC (X.set k y) = (psC X).set (k * 5 + j) u
  | x :: X, 0, h, j, hj, y, u, hu => by
    have e : ∀ x, psC (x :: X) = ptC x ++ psC X := fun _ => rfl
    rw [List.set_cons_zero, e, e, hu, List.set_append_left _ _ (by show 0 * 5 + j < 5; omega), Nat.zero_mul, Nat.zero_add]
    rfl
  | x :: X, k + 1, h, j, hj, y, u, hu => by
    have e : ∀ X, psC (x :: X) = ptC x ++ psC X := fun _ => rfl
    have hl : (ptC x).length = 5 := rfl
    have ih := psC_set X k (by simpa using h) j hj y u (by simpa using hu)
    rw [List.set_cons_succ, e, e, ih, List.set_append_right _ _ (by omega), hl, show (k + 1) * 5 + j - 5 = k * 5 + j from by omega]
theorem ptC_one (x : Prt × Value) (h : x.2.oneCell' = true) : ∀ u ∈ ptC x, u.oneCell' = true := by
  intro u hu
  simp [ptC] at hu
  rcases hu with rfl | rfl | rfl | rfl | rfl
  · rfl
  · rfl
  · rfl
  · rfl
  · exact h

theorem infoPart : (Tryz.prog.info? 94).map (fun i => (i.zero, i.size, i.bytes)) = some (some (.agg #[.int .i64 0, .bool false, .string ByteArray.empty, .bool false, .slice none 0 0]), 5, 64) := by kernel_rfl

/-! ### Parts that may be read -/
def LsAt (w : World) (x : Prt × Value) : Prop := ∃ A c, x.2 = .slice A x.1.ls.length c ∧ RowOf w A c (strs x.1.ls)
structure PartsAt (w : World) (A : Option Addr) (cap : Nat) (X : List (Prt × Value)) : Prop where
  le : X.length ≤ cap
  cap : cap ≤ maxLen
  cells : X = [] ∨ ∃ b off, A = some ⟨b, off, none⟩ ∧ b < w.heap.size ∧ ∀ k (h : k < X.length) j u, (ptC X[k])[j]? = some u → w.cell? ⟨b, off + k * 5 + j, none⟩ = some u
  ls : ∀ x ∈ X, LsAt w x
theorem LsAt.below {w w' : World} {x : Prt × Value} (h : LsAt w x) (hb : Below w.heap.size w w') : LsAt w' x := by
  obtain ⟨A, c, e, hr⟩ := h
  exact ⟨A, c, e, hr.below hb⟩
theorem PartsAt.below {w w' : World} {A : Option Addr} {cap : Nat} {X : List (Prt × Value)} (h : PartsAt w A cap X) (hb : Below w.heap.size w w') : PartsAt w' A cap X := by
  refine ⟨h.le, h.cap, ?_, fun x hx => (h.ls x hx).below hb⟩
  rcases h.cells with h1 | ⟨b, off, e, hlt, hc⟩
  · exact Or.inl h1
  · refine Or.inr ⟨b, off, e, Nat.lt_of_lt_of_le hlt hb.size, fun k hk j u hu => ?_⟩
    rw [hb.cell (p := ⟨b, off + k * 5 + j, none⟩) hlt]
    exact hc k hk j u hu
theorem PartsAt.at {w : World} {A : Option Addr} {cap : Nat} {X : List (Prt × Value)} (h : PartsAt w A cap X) {k : Nat} (hk : k < X.length) :
    ∃ b off, A = some ⟨b, off, none⟩ ∧ b < w.heap.size ∧ w.cell? ⟨b, off + k * 5, none⟩ = some (.int .i64 X[k].1.depth) ∧ w.cell? ⟨b, off + k * 5 + 1, none⟩ = some (.bool X[k].1.dv) ∧
      w.cell? ⟨b, off + k * 5 + 2, none⟩ = some (.string ⟨X[k].1.lab.toArray⟩) ∧ w.cell? ⟨b, off + k * 5 + 3, none⟩ = some (.bool X[k].1.opn) ∧ w.cell? ⟨b, off + k * 5 + 4, none⟩ = some X[k].2 := by
  rcases h.cells with h3 | ⟨b, off, e, hlt, hc⟩
  · rw [h3] at hk; simp at hk
  · exact ⟨b, off, e, hlt, hc k hk 0 _ rfl, hc k hk 1 _ rfl, hc k hk 2 _ rfl, hc k hk 3 _ rfl, hc k hk 4 _ rfl⟩
theorem PartsAt.alloc {w : World} {A : Option Addr} {cap : Nat} {X : List (Prt × Value)} (h : PartsAt w A cap X) (o : Obj) : PartsAt (w.alloc o) A cap X := h.below ((Below.refl _ w).alloc (Nat.le_refl _) o)
theorem PartsAt.take {w : World} {A : Option Addr} {cap : Nat} {X : List (Prt × Value)} (h : PartsAt w A cap X) (n : Nat) : PartsAt w A cap (X.take n) := by
  refine ⟨by have := h.le; rw [List.length_take]; omega, h.cap, ?_, fun x hx => h.ls x (List.mem_of_mem_take hx)⟩
  rcases h.cells with h1 | ⟨b, off, e, hlt, hc⟩
  · exact Or.inl (by rw [h1]; simp)
  · refine Or.inr ⟨b, off, e, hlt, fun k hk j u hu => ?_⟩
    rw [List.length_take] at hk
    rw [List.getElem_take] at hu
    exact hc k (by omega) j u hu
theorem PartsAt.heap {w w' : World} {A : Option Addr} {cap : Nat} {X : List (Prt × Value)} (hh : w'.heap = w.heap) (h : PartsAt w A cap X) : PartsAt w' A cap X := by
  refine ⟨h.le, h.cap, ?_, fun x hx => ?_⟩
  · rcases h.cells with h1 | ⟨b, off, e, hlt, hc⟩
    · exact Or.inl h1
    · exact Or.inr ⟨b, off, e, by rw [hh]; exact hlt, fun k hk j u hu => by have := hc k hk j u hu; simpa [World.cell?, hh] using this⟩
  · obtain ⟨A, c, e, hr⟩ := h.ls x hx
    exact ⟨A, c, e, rowOf_heap hh hr⟩

/-! ### Parts that a call owns -/
structure PartsOwn (w : World) (B : Nat) (v : Value) (X : List (Prt × Value)) : Prop where
  row : w.ownsRow B 94 5 v X.length (psC X)
  ls : ∀ (k : Nat) (x : Prt × Value), X[k]? = some x → w.ownsRow B 9 1 x.2 x.1.ls.length (strs x.1.ls)
  apart : ∀ (i j : Nat) (x y : Prt × Value), X[i]? = some x → X[j]? = some y → i ≠ j → Apart x.2 y.2
theorem PartsOwn.nil (w : World) (B : Nat) : PartsOwn w B (.slice none 0 0) [] := ⟨World.ownsRow_nil _ _ _ _, by simp, by simp⟩
theorem PartsOwn.below {w w' : World} {B : Nat} {v : Value} {X : List (Prt × Value)} (h : PartsOwn w B v X) (hb : Below w.heap.size w w') : PartsOwn w' B v X :=
  ⟨ownsRow_below h.row hb, fun k x hx => ownsRow_below (h.ls k x hx) hb, h.apart⟩
theorem PartsOwn.heap {w w' : World} {B : Nat} {v : Value} {X : List (Prt × Value)} (hh : w'.heap = w.heap) (h : PartsOwn w B v X) : PartsOwn w' B v X :=
  ⟨own_heap hh h.row, fun k x hx => own_heap hh (h.ls k x hx), h.apart⟩
theorem PartsOwn.alloc {w : World} {B : Nat} {v : Value} {X : List (Prt × Value)} (h : PartsOwn w B v X) (o : Obj) : PartsOwn (w.alloc o) B v X := h.below ((Below.refl _ w).alloc (Nat.le_refl _) o)
/-- They stay where a row of another type grows. -/
theorem PartsOwn.keptInt {w w' : World} {B : Nat} {v u : Value} {X : List (Prt × Value)} {n B' : Nat} {xs : List Value} (h : PartsOwn w B v X) (hu : w.ownsRow B' 3 1 u n xs) (hg : w.grownBy w' u.ownBlock) : PartsOwn w' B v X :=
  ⟨h.row.kept hg (own_apart h.row hu (by decide)).ne, fun k x hx => (h.ls k x hx).kept hg (own_apart (h.ls k x hx) hu (by decide)).ne, h.apart⟩
/-- A part more. -/
theorem PartsOwn.snoc {w w' : World} {B : Nat} {v v' : Value} {X : List (Prt × Value)} {x : Prt × Value} (h : PartsOwn w B v X) (hg : w.grownBy w' v.ownBlock) (hr : w'.ownsRow B 94 5 v' (X.length + 1) (psC X ++ ptC x))
    (hl : w.ownsRow B 9 1 x.2 x.1.ls.length (strs x.1.ls)) (ha : ∀ (k : Nat) (y : Prt × Value), X[k]? = some y → Apart y.2 x.2) : PartsOwn w' B v' (X ++ [x]) := by
  refine ⟨?_, fun k y hy => ?_, fun i j y z hy hz hij => ?_⟩
  · rw [psC_append, psC_one, List.length_append]; exact hr
  · by_cases hk : k < X.length
    · rw [List.getElem?_append_left hk] at hy
      exact (h.ls k y hy).kept hg (own_apart (h.ls k y hy) h.row (by decide)).ne
    · rw [List.getElem?_append_right (by omega)] at hy
      have : k - X.length = 0 := by
        have := (List.getElem?_eq_some_iff.1 hy).1
        simp at this; omega
      rw [this] at hy
      simp at hy
      subst hy
      exact hl.kept hg (own_apart hl h.row (by decide)).ne
  · by_cases hi : i < X.length
    · rw [List.getElem?_append_left hi] at hy
      by_cases hj : j < X.length
      · rw [List.getElem?_append_left hj] at hz
        exact h.apart i j y z hy hz hij
      · rw [List.getElem?_append_right (by omega)] at hz
        have : j - X.length = 0 := by
          have := (List.getElem?_eq_some_iff.1 hz).1
          simp at this; omega
        rw [this] at hz
        simp at hz
        subst hz
        exact ha i y hy
    · rw [List.getElem?_append_right (by omega)] at hy
      have hi0 : i - X.length = 0 := by
        have := (List.getElem?_eq_some_iff.1 hy).1
        simp at this; omega
      rw [hi0] at hy
      simp at hy
      subst hy
      by_cases hj : j < X.length
      · rw [List.getElem?_append_left hj] at hz
        exact (ha j z hz).symm
      · rw [List.getElem?_append_right (by omega)] at hz
        have := (List.getElem?_eq_some_iff.1 hz).1
        simp at this
        omega
/-- Where the cells of a list of the call's own lie. -/
theorem own_block {w : World} {B : Nat} {e : TypeId} {size n : Nat} {v : Value} {xs : List Value} (h : w.ownsRow B e size v n xs) (hn : 0 < n) :
    ∃ g cap cur, v = .slice (some ⟨g, 0, none⟩) n cap ∧ B ≤ g ∧ g < w.heap.size ∧ n ≤ cap ∧ cap ≤ maxLen ∧ w.heap[g]? = some (.cells cur e (0, 0)) ∧ ∀ j u, xs[j]? = some u → w.cell? ⟨g, j, none⟩ = some u := by
  obtain ⟨hl, h⟩ := h
  rcases h with ⟨rfl, h0⟩ | ⟨g, cap, cur, rfl, hb, hg, hnc, hcm, hcs, ht⟩
  · omega
  · refine ⟨g, cap, cur, rfl, hb, (Array.getElem?_eq_some_iff.1 hg).1, hnc, hcm, hg, fun j u hu => ?_⟩
    rw [cell_of_row w g j cur e (0, 0) hg]
    have h3 : (cur.toList.take (n * size))[j]? = some u := by rw [ht]; exact hu
    rw [List.getElem?_take] at h3
    split at h3
    · simpa using h3
    · cases h3
theorem own_frozen {w : World} {g : Nat} {cur : Array Value} {e : TypeId} (hg : w.heap[g]? = some (.cells cur e (0, 0))) (i : Nat) : w.frozen? ⟨g, i, none⟩ = false := by simp [World.frozen?, hg]
/-- A store into a list of the call's own. -/
theorem own_store {w : World} {B : Nat} {e : TypeId} {size n g cap : Nat} {xs : List Value} (h : w.ownsRow B e size (.slice (some ⟨g, 0, none⟩) n cap) n xs) {j : Nat} (hj : j < xs.length) (u : Value) :
    (w.setCell ⟨g, j, none⟩ u).ownsRow B e size (.slice (some ⟨g, 0, none⟩) n cap) n (xs.set j u) := by
  obtain ⟨hl, h⟩ := h
  refine ⟨by rw [List.length_set]; exact hl, ?_⟩
  rcases h with ⟨e1, h0⟩ | ⟨g', cap', cur, e1, hb, hg, hnc, hcm, hcs, ht⟩
  · cases e1
  · cases e1
    refine .inr ⟨g, cap, cur.set! j u, rfl, hb, ?_, hnc, hcm, by simpa using hcs, ?_⟩
    · simp [World.setCell, Array.getElem?_modify, hg]
    · rw [← ht, Array.set!_eq_setIfInBounds, Array.toList_setIfInBounds, List.take_set]
/-- A list that is cut short. -/
theorem own_take {w : World} {B : Nat} {e : TypeId} {g n cap m : Nat} {xs : List Value} (h : w.ownsRow B e 1 (.slice (some ⟨g, 0, none⟩) n cap) n xs) (hm : m ≤ n) :
    w.ownsRow B e 1 (.slice (some ⟨g, 0, none⟩) m cap) m (xs.take m) := by
  obtain ⟨hl, h⟩ := h
  refine ⟨by rw [List.length_take]; omega, ?_⟩
  rcases h with ⟨e1, h0⟩ | ⟨g', cap', cur, e1, hb, hg, hnc, hcm, hcs, ht⟩
  · cases e1
  · cases e1
    refine .inr ⟨g, cap, cur, rfl, hb, hg, by omega, hcm, hcs, ?_⟩
    rw [← ht, List.take_take, Nat.mul_one, Nat.mul_one, Nat.min_eq_left hm]
/-- A part's own cell is set anew. -/
theorem PartsOwn.setCell {w : World} {B g cap : Nat} {X : List (Prt × Value)} (hr : w.ownsRow B 94 5 (.slice (some ⟨g, 0, none⟩) X.length cap) X.length (psC X)) {k : Nat} (hk : k < X.length)
    (hls : ∀ (i : Nat) (z : Prt × Value), X[i]? = some z → i ≠ k → w.ownsRow B 9 1 z.2 z.1.ls.length (strs z.1.ls)) (hap : ∀ (i j : Nat) (x y : Prt × Value), X[i]? = some x → X[j]? = some y → i ≠ j → Apart x.2 y.2)
    {j : Nat} (hj : j < 5) (u : Value) (y : Prt × Value) (hy : ptC y = (ptC X[k]).set j u)
    (hl : w.ownsRow B 9 1 y.2 y.1.ls.length (strs y.1.ls)) (ha : ∀ (i : Nat) (z : Prt × Value), X[i]? = some z → i ≠ k → Apart z.2 y.2) : PartsOwn (w.setCell ⟨g, k * 5 + j, none⟩ u) B (.slice (some ⟨g, 0, none⟩) X.length cap) (X.set k y) := by
  have hb : ∃ cur, w.heap[g]? = some (.cells cur 94 (0, 0)) := by
    obtain ⟨g', cap', cur, e, _, _, _, _, hg, _⟩ := own_block hr (by omega)
    cases e
    exact ⟨cur, hg⟩
  obtain ⟨cur, hg⟩ := hb
  refine ⟨?_, fun i z hz => ?_, fun i i' z z' hz hz' hne => ?_⟩
  · rw [List.length_set, psC_set X k hk j hj y u hy]
    exact own_store hr (by rw [psC_length]; omega) u
  · rw [List.getElem?_set] at hz
    split at hz
    · cases hz; exact own_set hl hg (by decide) _ _
    · exact own_set (hls i z hz (by omega)) hg (by decide) _ _
  · rw [List.getElem?_set] at hz hz'
    split at hz
    · rename_i e1
      cases hz
      rw [if_neg (by omega)] at hz'
      exact (ha i' z' hz' (by omega)).symm
    · rename_i e1
      split at hz'
      · cases hz'
        exact ha i z hz (by omega)
      · exact hap i i' z z' hz hz' hne
/-- A division's flag is set anew. -/
theorem PartsOwn.setOpn {w : World} {B g cap : Nat} {X : List (Prt × Value)} (h : PartsOwn w B (.slice (some ⟨g, 0, none⟩) X.length cap) X) {k : Nat} (hk : k < X.length) (b : Bool) :
    PartsOwn (w.setCell ⟨g, k * 5 + 3, none⟩ (.bool b)) B (.slice (some ⟨g, 0, none⟩) X.length cap) (X.set k ({ X[k].1 with opn := b }, X[k].2)) :=
  PartsOwn.setCell h.row hk (fun i z hz _ => h.ls i z hz) h.apart (by omega) (.bool b) _ rfl (h.ls k X[k] (List.getElem?_eq_getElem hk)) (fun i z hz hne => h.apart i k z X[k] hz (List.getElem?_eq_getElem hk) hne)
/-- Parts of the call's own may be read. -/
theorem PartsOwn.at {w : World} {B : Nat} {v : Value} {X : List (Prt × Value)} (h : PartsOwn w B v X) : ∃ A cap, v = .slice A X.length cap ∧ PartsAt w A cap X := by
  have hls : ∀ x ∈ X, LsAt w x := by
    intro x hx
    obtain ⟨k, hk, rfl⟩ := List.mem_iff_getElem.1 hx
    obtain ⟨A, c, e, hr, _⟩ := RowOf.own (h.ls k X[k] (List.getElem?_eq_getElem hk))
    exact ⟨A, c, e, hr⟩
  by_cases h0 : X.length = 0
  · obtain ⟨hl, hr⟩ := h.row
    have hx := List.eq_nil_of_length_eq_zero h0
    rcases hr with ⟨e1, _⟩ | ⟨g, cap, cur, e1, hb, hg, hnc, hcm, _⟩
    · exact ⟨none, 0, by rw [e1, h0], by omega, Nat.zero_le _, Or.inl hx, hls⟩
    · exact ⟨_, cap, e1, hnc, hcm, Or.inl hx, hls⟩
  · obtain ⟨g, cap, cur, e, hb, hlt, hnc, hcm, hg, hc⟩ := own_block h.row (by omega)
    exact ⟨_, cap, e, hnc, hcm, Or.inr ⟨g, 0, rfl, hlt, fun k hk j u hu => by rw [Nat.zero_add]; exact hc _ _ (psC_get X k hk j u hu)⟩, hls⟩

end Go.Proofs.YtkcmhdkhdjmjeaaGreatDoor
