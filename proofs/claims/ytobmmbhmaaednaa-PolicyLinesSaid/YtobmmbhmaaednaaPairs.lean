/-
  A law's argument of type [][2]int, told to its walk; what the library's variable holds at the start.
-/
import Derived.Test.YtobmmbhmaaednaaPolE
import Derived.Deep.Slices
import Derived.OpenShut
namespace Go.Proofs.Ytobmmbhmaaednaa
open Go.ChangeShapes Go.WideShapes Go.ChangeAt Go.RowKit
set_option linter.unusedVariables false

section
variable {H : Type} {enc : TypeId × Value → H} {P : Program} {w : World} {held : Bool} {A : Option Addr} {len cap : Nat}

theorem cell_pair {a e : TypeId} {n : Nat} {cs : List Value} {x : DataW H × List MemPlace} (ha : P.underlying a = some (.array 2 e)) (he : P.underlying e = some (.int .i64)) (hca : P.cellsOf a = 2) (hce : P.cellsOf e = 1)
    (h : DataW.trod enc P w 0 (fun _ => true) held n a cs = some x) : ∃ p : Int × Int, cs = [.int .i64 p.1, .int .i64 p.2] := by
  obtain ⟨xs, m, _, _, hl, hx, hall⟩ := DataW.trod_array ha h
  rw [hca] at hl
  match cs, hl with
  | [u, v], _ =>
    have h0 := hall 0 (by omega)
    have h1 := hall 1 (by omega)
    rw [hce] at h0 h1
    simp only [Nat.zero_mul, List.drop_zero, Nat.one_mul, List.take_succ_cons, List.take_zero, List.drop_succ_cons] at h0 h1
    rw [List.getElem?_eq_getElem (by omega)] at h0 h1
    obtain ⟨p, e1, _, _⟩ := DataW.trod_int he h0
    obtain ⟨q, e2, _, _⟩ := DataW.trod_int he h1
    refine ⟨(p, q), ?_⟩
    simp at e1 e2
    rw [e1, e2]

theorem opened_pairs {t a e : TypeId} {fuel : Nat} {x : DataW H × List MemPlace} (ht : P.underlying t = some (.slice a)) (ha : P.underlying a = some (.array 2 e)) (he : P.underlying e = some (.int .i64)) (hca : P.cellsOf a = 2) (hce : P.cellsOf e = 1)
    (h : DataW.trod enc P w 0 (fun _ => true) held fuel t (Value.slice A len cap).cells.toList = some x) : ∃ ps : List (Int × Int), ps.length = len ∧ PairsAt w A cap ps := by
  rcases Go.Deep.open_slice ht h with ⟨hcs, _⟩ | ⟨ad, l, c, m, n, D, Pl, hcs, hb, hl, hm, hmm, _, hx⟩
  · simp [Value.cells] at hcs
    obtain ⟨rfl, rfl, rfl⟩ := hcs
    exact ⟨[], rfl, Nat.le_refl _, Nat.zero_le _, Or.inl rfl⟩
  · simp [Value.cells] at hcs
    obtain ⟨rfl, rfl, rfl⟩ := hcs
    simp only [if_true] at hmm
    subst hmm
    rw [hca] at hx
    obtain ⟨f, hf⟩ := Go.Deep.choose_lt (α := Int × Int) (p := fun i p => w.cell? (ad.add (i * 2)) = some (.int .i64 p.1) ∧ w.cell? ((ad.add (i * 2)).add 1) = some (.int .i64 p.2)) (fun i hi => by
      obtain ⟨cs', h1, h2⟩ := hx i hi
      obtain ⟨_, _, hc⟩ := World.cells?_some h1
      obtain ⟨p, rfl⟩ := cell_pair ha he hca hce h2
      have c0 := hc 0 (by omega)
      have c1 := hc 1 (by omega)
      refine ⟨p, ?_, c1⟩
      have e0 : (ad.add (i * 2)).add 0 = ad.add (i * 2) := by unfold Addr.add; simp
      rw [e0] at c0
      exact c0)
    refine ⟨(List.range len).map f, by simp, by simpa using hl, hm, ?_⟩
    by_cases h0 : len = 0
    · exact Or.inl (by simp [h0])
    · have hcell0 := (hf 0 (by omega)).1
      have hsp : ad.spot = none := by
        have := World.cell?_spot hcell0
        simpa [Addr.add] using this
      obtain ⟨b, off, sp⟩ := ad
      simp only at hsp
      subst hsp
      refine Or.inr ⟨b, off, rfl, ?_, fun i hi => ?_⟩
      · have := World.block_lt_of_cell? _ _ hcell0
        simpa [Addr.add] using this
      · simp only [List.length_map, List.length_range] at hi
        have hfi := hf i (by omega)
        rw [addr_add, addr_add] at hfi
        simp only [List.getElem_map, List.getElem_range]
        exact hfi
end

theorem maxL_of {w : World} (h : w.ShapedOpen Try.prog) : MaxL w := Try.laysM145.s1_3 w h

end Go.Proofs.Ytobmmbhmaaednaa
