/-
  Package emph's laws: a group of three items; alive, EmphThrees.
-/
import Derived.Test.YtoomkhmmgjiniaaEmS
import Derived.Test.YtoomkhmmgjiniaaEmB
import Derived.Test.YtoomkhmmgjiniaaEmQ
namespace Go.Proofs.Ytoomkhmmgjiniaa
open Go.RowKit Go.Maps Go.ChangeShapes
set_option linter.unusedSimpArgs false
set_option linter.unusedVariables false
set_option maxRecDepth 100000

theorem elts_block {w : World} {α : Type} {c : α → List Value} {s g : Nat} {t : TypeId} {X : List α} (hs : ∀ x, (c x).length = s) (hg : w.heap[g]? = some (.cells (flt c X).toArray t (0, 0))) (hX : X.length ≤ maxLen) : EltsAt w c s (some ⟨g, 0, none⟩) X.length X := by
  refine ⟨Nat.le_refl _, hX, Or.inr ⟨g, 0, rfl, (Array.getElem?_eq_some_iff.1 hg).1, fun k hk j u hu => ?_⟩⟩
  rw [cell_of_row w g _ _ t (0, 0) hg, Nat.zero_add]
  simpa using flt_get hs X k hk j u hu
theorem wrapD_nds (t : List UInt8) : WrapD (leftI (nds [wordsI 0 t])) := by
  intro x hx
  simp [leftI, nds] at hx
  subst hx
  rfl

/-- A row, a word, a row. -/
theorem group3_any {g g' : Nat} (a b : Itm) (t : List UInt8) (W : World) (h1 : W.heap[g]? = some (.cells #[.int .i64 1, .int .i64 0, .string ⟨t.toArray⟩, .string ⟨#[]⟩, .string ⟨#[]⟩] 30 (0, 0)))
    (h2 : W.heap[g']? = some (.cells #[.int .u8 a.sg.toNat, .int .i64 a.ff, .bool a.op, .bool a.cl, .slice none 0 0, .int .u8 0, .int .i64 0, .bool false, .bool false, .slice (some ⟨g, 0, none⟩) 1 1, .int .u8 b.sg.toNat, .int .i64 b.ff, .bool b.op, .bool b.cl, .slice none 0 0] 26 (0, 0)))
    (ha : a.sg ≠ 0 ∧ a.n = a.ff ∧ 0 ≤ a.n ∧ a.n ≤ 1000 ∧ a.nd = []) (hb : b.sg ≠ 0 ∧ b.n = b.ff ∧ 0 ≤ b.n ∧ b.n ≤ 1000 ∧ b.nd = []) (ht : t.length ≤ 1000) :
    Calls Try.prog 7 #[.slice (some ⟨g', 0, none⟩) 3 3] W fun e w' => (∃ v, e = .returned v ∧ w'.ownsRow W.heap.size 30 5 v (groupI [a, nds [wordsI 0 t], b]).length (flt ilC (groupI [a, nds [wordsI 0 t], b]))) ∧ Below W.heap.size W w' := by
  have e1 : InlsAt W (some ⟨g, 0, none⟩) 1 [wordsI 0 t] := elts_block (X := [wordsI 0 t]) ilC_length (by rw [h1]; rfl) (by show (1 : Nat) ≤ maxLen; decide)
  have e2 : EltsAt W itC 5 (some ⟨g', 0, none⟩) 3 [(a, Value.slice none 0 0), (nds [wordsI 0 t], Value.slice (some ⟨g, 0, none⟩) 1 1), (b, Value.slice none 0 0)] := elts_block (X := [(a, Value.slice none 0 0), (nds [wordsI 0 t], Value.slice (some ⟨g, 0, none⟩) 1 1), (b, Value.slice none 0 0)]) itC_length (by rw [h2]; rfl) (by show (3 : Nat) ≤ maxLen; decide)
  refine group_any [(a, Value.slice none 0 0), (nds [wordsI 0 t], Value.slice (some ⟨g, 0, none⟩) 1 1), (b, Value.slice none 0 0)] (some ⟨g', 0, none⟩) 3 W e2 ?_ ?_ ?_ (by simp) ?_ ?_
  · intro x hx
    simp at hx
    rcases hx with rfl | rfl | rfl
    · exact ⟨none, 0, by rw [ha.2.2.2.2]; rfl, by rw [ha.2.2.2.2]; exact EltsAt.nil _ _ _ _⟩
    · exact ⟨some ⟨g, 0, none⟩, 1, rfl, e1⟩
    · exact ⟨none, 0, by rw [hb.2.2.2.2]; rfl, by rw [hb.2.2.2.2]; exact EltsAt.nil _ _ _ _⟩
  · intro x hx
    simp at hx
    rcases hx with rfl | rfl | rfl
    · exact ⟨ha.2.1, by have := ha.2.1; have := ha.2.2.2.1; show a.ff ≤ _; omega⟩
    · exact ⟨rfl, by show (0 : Int) ≤ _; decide⟩
    · exact ⟨hb.2.1, by have := hb.2.1; have := hb.2.2.2.1; show b.ff ≤ _; omega⟩
  · have q1 := ha.2.1
    have q2 := ha.2.2.2.1
    have q3 := hb.2.1
    have q4 := hb.2.2.2.1
    simp only [sumN, nds]
    split <;> split <;> split <;> omega
  · simp only [List.map_cons, List.map_nil, allI_cons, wrapD_append]
    exact ⟨wrapD_row ha.1, wrapD_nds t, wrapD_row hb.1, by intro x hx; cases hx⟩
  · simp only [List.map_cons, List.map_nil, potI, List.sum_cons, List.sum_nil, itN, if_neg ha.1, if_neg hb.1]
    have q2 := ha.2.2.2.1
    have q4 := hb.2.2.2.1
    simp [nds, textI, wordsI, ilText]
    omega

set_option maxHeartbeats 4000000 in
theorem alive14_any (w : World) : Calls Try.prog 6 #[] w fun e w' => e = .returned (.bool true) ∧ Below w.heap.size w w' := by
  have hB : Below w.heap.size w ((w.alloc (.cells #[.int .i64 1, .int .i64 0, .string ⟨#[97]⟩, .string ⟨#[]⟩, .string ⟨#[]⟩] 30)).alloc (.cells #[.int .u8 42, .int .i64 2, .bool true, .bool false, .slice none 0 0, .int .u8 0, .int .i64 0, .bool false, .bool false, .slice (some ⟨w.heap.size, 0, none⟩) 1 1, .int .u8 42, .int .i64 2, .bool false, .bool true, .slice none 0 0] 26)) :=
    ((Below.refl _ w).alloc (Nat.le_refl _) _).alloc (by simp) _
  have cg := group3_any (g := w.heap.size) (g' := w.heap.size + 1) (opn 42 2 2) (cls 42 2 2) [97] ((w.alloc (.cells #[.int .i64 1, .int .i64 0, .string ⟨#[97]⟩, .string ⟨#[]⟩, .string ⟨#[]⟩] 30)).alloc (.cells #[.int .u8 42, .int .i64 2, .bool true, .bool false, .slice none 0 0, .int .u8 0, .int .i64 0, .bool false, .bool false, .slice (some ⟨w.heap.size, 0, none⟩) 1 1, .int .u8 42, .int .i64 2, .bool false, .bool true, .slice none 0 0] 26))
    ((Below.heap_alloc _ _ _ (by simp)).trans (heap_alloc_new _ _)) (heap_alloc2_new _ _ _) (by decide) (by decide) (by decide)
  rw [show groupI [opn 42 2 2, nds [wordsI 0 [97]], cls 42 2 2] = [⟨4, 0, [], [], []⟩, ⟨1, 1, [97], [], []⟩] from by decide +kernel] at cg
  have HB := Lib.hid hB
  clear hB
  go_enter Try.func6, Try.ntmps6
  go_wp2_with fail
  refine cg.mono ?_
  rintro e w1 ⟨⟨v, rfl, ho⟩, b1⟩
  obtain ⟨A1, k1, rfl, h1⟩ := EltsAt.own ilC_length ho
  obtain ⟨b, off, rfl, hb, c0, c1, c2, c3, c4⟩ := InlsAt.cells5 h1 (k := 0) (by simp)
  obtain ⟨b', off', e', _, d0, d1, d2, d3, d4⟩ := InlsAt.cells5 h1 (k := 1) (by simp)
  have e'' := Option.some.inj e'
  injection e'' with e1 e2
  subst e1 e2
  have ct := text_inl _ _ _ w1 h1 (by decide)
  rw [show textI [(⟨4, 0, [], [], []⟩ : Iln), ⟨1, 1, [97], [], []⟩] = [97] from by decide +kernel] at ct
  have HB1 := Lib.hid (HB.out.trans (b1.mono HB.out.size))
  clear h1 ho b1 cg e'
  simp only [List.getElem_cons_zero, List.getElem_cons_succ, Nat.zero_mul, Nat.add_zero, Nat.one_mul] at c0 c1 c2 c3 c4 d0 d1 d2 d3 d4
  go_wp2_with fail
  refine ct.mono ?_
  rintro e w2 ⟨rfl, b2⟩
  have HB2 := Lib.hid (HB1.out.trans (b2.mono HB1.out.size))
  clear b2 ct
  go_wp2
  go_ret
  exact ⟨rfl, HB2.out⟩

end Go.Proofs.Ytoomkhmmgjiniaa
