/-
  The laws' first call 'alive' of the layer frame.
-/
import Derived.Test.YtodnioihadpncaaDoorFrmE
import Derived.Test.YtodnioihadpncaaDoorSpnD
import Derived.KernelRfl
namespace Go.Proofs.YtodnioihadpncaaDoor
open Go.RowKit
set_option linter.unusedSimpArgs false
set_option linter.unusedVariables false
set_option maxRecDepth 100000

def aliveLs : List Txt := [[97], [58, 58, 58, 123, 120, 125], [98], [58, 58, 58]]
theorem alive_parse : parseL aliveLs = [⟨0, false, [], false, [[97]]⟩, ⟨0, true, [120], false, []⟩, ⟨1, false, [], false, [[98]]⟩] := by decide +kernel
theorem alive_spans : spansL [97, 123, 124, 120, 58, 98, 124, 125] = [⟨false, [], [97]⟩, ⟨true, [120], [98]⟩] := by decide +kernel
theorem alive_head : headingL [35, 35, 32, 65, 32, 123, 61, 120, 125] = some ([35, 35, 32, 65, 32], [120]) := by decide +kernel
/-- Cells of a part of the call's own, its block and its capacity told. -/
theorem own_part {w : World} {B g cap : Nat} {X : List (Prt × Value)} (h : PartsOwn w B (.slice (some ⟨g, 0, none⟩) X.length cap) X) {k : Nat} {p : Prt} (hp : (X.map Prod.fst)[k]? = some p) :
    w.cell? ⟨g, k * 5, none⟩ = some (.int .i64 p.depth) ∧ w.cell? ⟨g, k * 5 + 1, none⟩ = some (.bool p.dv) ∧ w.cell? ⟨g, k * 5 + 2, none⟩ = some (.string ⟨p.lab.toArray⟩) ∧ w.cell? ⟨g, k * 5 + 3, none⟩ = some (.bool p.opn) ∧
      ∃ v, w.cell? ⟨g, k * 5 + 4, none⟩ = some v ∧ w.ownsRow B 9 1 v p.ls.length (strs p.ls) := by
  rw [List.getElem?_map] at hp
  cases hx : X[k]? with
  | none => rw [hx] at hp; simp at hp
  | some x =>
    rw [hx] at hp
    simp at hp
    subst hp
    obtain ⟨hk, he⟩ := List.getElem?_eq_some_iff.1 hx
    obtain ⟨g', cap', cur, e, _, _, _, _, _, hc⟩ := own_block h.row (by omega)
    cases e
    have q : ∀ j u, (ptC x)[j]? = some u → w.cell? ⟨g, k * 5 + j, none⟩ = some u := fun j u hu => hc _ _ (psC_get X k hk j u (by rw [he]; exact hu))
    exact ⟨q 0 _ rfl, q 1 _ rfl, q 2 _ rfl, q 3 _ rfl, x.2, q 4 _ rfl, h.ls k x hx⟩

set_option maxHeartbeats 4000000 in
theorem alive6_any (w : World) (hml : MaxL w) :
    Calls Tryd.prog 12 #[] w fun e w' => e = .returned (.bool true) ∧ Below w.heap.size w w' := by
  have c1 := parse_any (some ⟨w.heap.size, 0, none⟩) 4 aliveLs (w.alloc (.cells (strs aliveLs).toArray 9)) (rowOf_lit w _ (strs aliveLs) (by decide)) (by decide) (by decide)
  rw [alive_parse] at c1
  have C1 := Lib.hid c1
  have c2 := fun w1 h => spans_any ⟨#[97, 123, 124, 120, 58, 98, 124, 125]⟩ w1 (by decide) h
  rw [show (⟨#[97, 123, 124, 120, 58, 98, 124, 125]⟩ : ByteArray).data.toList = [97, 123, 124, 120, 58, 98, 124, 125] from rfl, alive_spans] at c2
  have C2 := Lib.hid c2
  have c3 := fun w1 => heading_any ⟨#[35, 35, 32, 65, 32, 123, 61, 120, 125]⟩ w1 (by decide)
  rw [show (⟨#[35, 35, 32, 65, 32, 123, 61, 120, 125]⟩ : ByteArray).data.toList = [35, 35, 32, 65, 32, 123, 61, 120, 125] from rfl, alive_head] at c3
  have C3 := Lib.hid c3
  have b0 : Below w.heap.size w (w.alloc (.cells (strs aliveLs).toArray 9)) := (Below.refl _ w).alloc (Nat.le_refl _) _
  clear c1 c2 c3
  go_enter Tryd.func12, Tryd.ntmps12
  go_wp2_with fail
  refine C1.out.mono ?_
  rintro e w1 ⟨v, X, rfl, hO, hX, b1⟩
  have hXl : X.length = 3 := by have := congrArg List.length hX; simpa using this
  obtain ⟨g, cap, cur, rfl, _, hlt, hnc, hcm, _, _⟩ := own_block hO.row (by omega)
  obtain ⟨_, p1, p2, p3, _⟩ := own_part hO (k := 1) (p := ⟨0, true, [120], false, []⟩) (by rw [hX]; rfl)
  obtain ⟨p4, _⟩ := own_part hO (k := 2) (p := ⟨1, false, [], false, [[98]]⟩) (by rw [hX]; rfl)
  rw [hXl] at hnc ⊢
  simp only [Nat.one_mul, Nat.reduceMul, Nat.reduceAdd] at p1 p2 p3 p4
  have b01 := b0.then b1
  unfold maxLen at hcm
  have hm1 := hml.below b01
  clear hO hX hXl
  go_wp2_with fail
  refine (C2.out _ hm1).mono ?_
  rintro e w2 ⟨v2, rfl, hP, b2⟩
  obtain ⟨g2, cap2, cur2, rfl, _, hlt2, hnc2, hcm2, _, hq⟩ := own_block hP (by decide)
  have q1 := hq 3 (.bool true) rfl
  have q2 := hq 5 (.string ⟨#[98]⟩) rfl
  unfold maxLen at hcm2
  have p1 := (b2.cell (p := ⟨g, 6, none⟩) hlt).trans p1
  have p2 := (b2.cell (p := ⟨g, 7, none⟩) hlt).trans p2
  have p3 := (b2.cell (p := ⟨g, 8, none⟩) hlt).trans p3
  have p4 := (b2.cell (p := ⟨g, 10, none⟩) hlt).trans p4
  have hlt' := Nat.lt_of_lt_of_le hlt b2.size
  have hnc2' : 2 ≤ cap2 := hnc2
  clear hP hq hnc2
  go_wp2_with fail
  refine (C3.out _).mono ?_
  rintro e w3 ⟨rfl, b3⟩
  have p1 := (b3.cell (p := ⟨g, 6, none⟩) hlt').trans p1
  have p2 := (b3.cell (p := ⟨g, 7, none⟩) hlt').trans p2
  have p3 := (b3.cell (p := ⟨g, 8, none⟩) hlt').trans p3
  have p4 := (b3.cell (p := ⟨g, 10, none⟩) hlt').trans p4
  have q1 := (b3.cell (p := ⟨g2, 3, none⟩) hlt2).trans q1
  have q2 := (b3.cell (p := ⟨g2, 5, none⟩) hlt2).trans q2
  unfold headV
  dsimp only
  go_wp2
  go_ret
  exact ⟨rfl, (b01.then b2).then b3⟩

end Go.Proofs.YtodnioihadpncaaDoor
