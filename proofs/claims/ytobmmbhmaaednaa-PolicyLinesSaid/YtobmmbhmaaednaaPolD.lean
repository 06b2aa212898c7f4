/-
  Package policy: addPair: what it does to the policy that it is given.
-/
import Derived.Test.YtobmmbhmaaednaaPolC
import Derived.Deep.RegionHeld3
namespace Go.Proofs.Ytobmmbhmaaednaa
open Go.RowKit
set_option linter.unusedSimpArgs false
set_option linter.unusedVariables false

theorem prCells_snoc (ps : List (Int × Int)) (a b : Int) : prCells ps ++ [Value.int .i64 a, Value.int .i64 b] = prCells (ps ++ [(a, b)]) := by rw [prCells_append]; rfl
theorem cells_two (w : World) (u v : Value) (t : TypeId) : ∀ (j : Nat) (x : Value), [u, v][j]? = some x → (w.alloc (.cells #[u, v] t)).cell? ((⟨w.heap.size, 0, none⟩ : Addr).add j) = some x := by
  intro j x hj
  rw [addr_add, cell_of_row _ _ _ #[u, v] t (0, 0) (heap_alloc_new w _), Nat.zero_add]
  simpa using hj
theorem two_ints (a b : Int) : ∀ x ∈ [Value.int .i64 a, Value.int .i64 b], x.oneCell' = true := by
  intro x hx
  simp at hx
  rcases hx with rfl | rfl <;> rfl

theorem rightPair_held (b g : Nat) (nv u v : Value) (a c n : Int) (w0 : World) (hb : b < w0.heap.size) (hg : g < w0.heap.size) (W : World)
    (h : W.cell? ⟨b, 0, none⟩ = some nv ∧ W.cell? ⟨g, 0, none⟩ = some u ∧ W.cell? ⟨g, 1, none⟩ = some v ∧ Below w0.heap.size w0 W) :
    Calls Try.prog 15 #[.agg #[.int .i64 a, .int .i64 c], .int .i64 n] W fun e w' => e = .returned (.bool (pairOk a c n)) ∧
      (w'.cell? ⟨b, 0, none⟩ = some nv ∧ w'.cell? ⟨g, 0, none⟩ = some u ∧ w'.cell? ⟨g, 1, none⟩ = some v ∧ Below w0.heap.size w0 w') := by
  refine (rightPair_any a c n W).mono ?_
  rintro e w' ⟨rfl, hB⟩
  have hs := h.2.2.2.size
  exact ⟨rfl, (hB.cell (p := ⟨b, 0, none⟩) (by show b < _; omega)).trans h.1, (hB.cell (p := ⟨g, 0, none⟩) (by show g < _; omega)).trans h.2.1, (hB.cell (p := ⟨g, 1, none⟩) (by show g < _; omega)).trans h.2.2.1, h.2.2.2.then hB⟩

set_option maxHeartbeats 1000000 in
theorem addPair_any (B b : Nat) (nv bv : Value) (st : St) (a c : Int) (w : World) (hB : B ≤ w.heap.size) (h : PolIs w B b nv bv st) (hm : st.2.length ≤ 1000000) :
    Calls Try.prog 34 #[.pointer (some ⟨b, 0, none⟩), .agg #[.int .i64 a, .int .i64 c]] w fun e w' =>
      ∃ nv' bv', e = .returned (.bool (addPr st a c).isSome) ∧ PolIs w' B b nv' bv' ((addPr st a c).getD st) ∧ Keeps B b w w' := by
  obtain ⟨i0, hi, hz0, hz1, hz2⟩ := info_parts infoPair
  obtain ⟨A, ca, rfl, hrow, _⟩ := RowOf.own h.nvs
  obtain ⟨A2, cb, rfl, hpr⟩ := PairsAt.own h.bvs
  have q0 := (Below.refl _ w).alloc (Nat.le_refl _) (.cells #[.int .i64 a, .int .i64 c] 41)
  have hs0 := alloc_size w (.cells #[.int .i64 a, .int .i64 c] 41)
  have hbx := box_cell w (.int .i64 a) (.int .i64 c) 41
  have h1 := h.below q0
  have HPR := Lib.hid (show pairOk a c st.1.length = true ∨ pairOk a c st.1.length = false from by cases pairOk a c st.1.length <;> simp)
  have HP := Lib.hid h
  clear h
  go_enter Try.func34, Try.ntmps34
  go_wp2_with fail
  generalize w.alloc (.cells #[.int .i64 a, .int .i64 c] 41) = w0 at *
  have hlt1 := h1.lt
  have hS : w0.drew.cell? ⟨b, 0, none⟩ = some (.slice A st.1.length ca) ∧ w0.drew.cell? ⟨w.heap.size, 0, none⟩ = some (.int .i64 a) ∧ w0.drew.cell? ⟨w.heap.size, 1, none⟩ = some (.int .i64 c) ∧ Below w0.heap.size w0 w0.drew := ⟨h1.c0, hbx.1, hbx.2, (Below.refl _ _).drew⟩
  have HC := Lib.hid (rightPair_held b w.heap.size (.slice A st.1.length ca) (.int .i64 a) (.int .i64 c) a c st.1.length w0 hlt1 (by omega))
  have Q0 := Lib.hid q0
  have H1 := Lib.hid h1
  clear q0 hbx h1
  go_region_held3 (fun W => W.cell? ⟨b, 0, none⟩ = some (.slice A st.1.length ca) ∧ W.cell? ⟨w.heap.size, 0, none⟩ = some (.int .i64 a) ∧ W.cell? ⟨w.heap.size, 1, none⟩ = some (.int .i64 c) ∧ Below w0.heap.size w0 W) (assumption) (first | (go_at_call 15; (with_reducible refine (HC.out _ (by assumption)).mono ?_); rintro e w5 ⟨rfl, hS5⟩))
  have hp5 := H1.out.below hS5.2.2.2
  have hb5 := (Q0.out.then hS5.2.2.2).mono hB
  have hx0 := hS5.2.1
  have hx1 := hS5.2.2.1
  have hs5 := hb5.size
  clear hS5
  cases hpo : pairOk a c st.1.length with
  | false =>
    have HF := Lib.hid (show addPr st a c = none from if_neg (by rw [hpo]; simp))
    have HP5 := Lib.hid hp5
    clear hp5 hpo
    go_wp2
    go_ret
    rw [HF.out]
    exact ⟨_, _, rfl, HP5.out, .of hb5⟩
  | true =>
    have HF := Lib.hid (show addPr st a c = some (st.1, st.2 ++ [(a, c)]) from if_pos hpo)
    have HS := Lib.hid (prCells_snoc st.2 a c)
    have hc15 := hp5.c1
    have hbv5 := hp5.bvs
    have HP5 := Lib.hid hp5
    have HB5 := Lib.hid hb5
    have hlt5 := hp5.lt
    clear hp5 hb5 hpo
    go_wp2_with fail
    go_region_law (first | (refine step_append_lies _ rfl (.tmp 17) (.tmp 19) _ rfl B 41 i0 (.agg #[.int .i64 0, .int .i64 0]) 2 16 Try.underlying23 hi hz0 hz1 hz2 rfl (by decide) (.slice A2 st.2.length cb) st.2.length (prCells st.2) rfl (hbv5.alloc _) ⟨w5.heap.size, 0, none⟩ 1 1 [.int .i64 a, .int .i64 c] rfl rfl (cells_two w5 _ _ _) (two_ints _ _) (by omega) (by unfold maxLen; omega) (by omega) (by simp; omega) _ rfl ?_; intro g4 cap4 w4 hown4 hgrow4 hat4 hlt4; have hc4 := (HP5.out.grownB (o := .cells #[.int .i64 a, .int .i64 c] 41) hgrow4 rfl).1; have hf4 := (HP5.out.grownB (o := .cells #[.int .i64 a, .int .i64 c] 41) hgrow4 rfl).2; have HN := Lib.hid hown4; have HG := Lib.hid hgrow4; clear hown4 hgrow4 hat4 hlt4))
    all_goals
      have hnew : w4.ownsRow B 41 2 (.slice (some ⟨g4, 0, none⟩) (st.2.length + 1) cap4) (st.2 ++ [(a, c)]).length (prCells (st.2 ++ [(a, c)])) := by rw [← HS.out, List.length_append]; exact HN.out
      have HE := Lib.hid (HP5.out.setB (o := .cells #[.int .i64 a, .int .i64 c] 41) HG.out rfl hnew)
      have HB := Lib.hid (Keeps.set (b := b) (((HB5.out.alloc (by omega) (.cells #[.int .i64 a, .int .i64 c] 41)).drew).trans (below_of_grown HG.out (fun g hg => (hbv5.lt g hg).1) (by simp; omega))) 1 (.slice (some ⟨g4, 0, none⟩) (st.2.length + 1) cap4))
      clear hnew
      go_wp2
      go_ret
      rw [HF.out]
      exact ⟨_, _, rfl, HE.out, HB.out⟩

end Go.Proofs.Ytobmmbhmaaednaa
