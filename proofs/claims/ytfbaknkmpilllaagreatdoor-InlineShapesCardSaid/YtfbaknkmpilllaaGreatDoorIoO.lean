/-
  A list of definitions that comes in as an argument: read, element by element (over the joined texts).
-/
import Derived.Test.YtfbaknkmpilllaaGreatDoorRDfO
import Derived.Deep.Slices
import Derived.OpenShut
import Derived.Lib.Strings
namespace Go.Proofs.YtfbaknkmpilllaaGreatDoor
open Go.ChangeShapes Go.WideShapes Go.ChangeAt Go.RowKit
set_option linter.unusedSimpArgs false
set_option linter.unusedVariables false
set_option maxRecDepth 100000

section
variable {H : Type} {enc : TypeId × Value → H} {w : World} {held : Bool}

theorem cells_def : Tryz.prog.cellsOf 43 = 5 := by kernel_rfl
theorem cells_dbool : Tryz.prog.cellsOf 4 = 1 := by kernel_rfl
theorem cells_dstring : Tryz.prog.cellsOf 9 = 1 := by kernel_rfl

theorem def_open {fuel : Nat} {cs : List Value} {x : DataW H × List MemPlace} (h : DataW.trod enc Tryz.prog w 0 (fun _ => true) held fuel 43 cs = some x) : ∃ q : Dfn, cs = dfC q ∧ DfnWf q := by
  obtain ⟨xs, n, _, _, hl, hlen, hf⟩ := DataW.trod_struct Tryz.underlying43 h
  rw [cells_def] at hl
  have hx5 : xs.length = 5 := hlen
  match cs, hl with
  | [u0, u1, u2, u3, u4], _ =>
    have h0 : DataW.trod enc Tryz.prog w 0 (fun _ => true) held n 9 (([u0, u1, u2, u3, u4].drop 0).take (Tryz.prog.cellsOf 9)) = xs[0]? := hf 0 _ rfl
    have h1 : DataW.trod enc Tryz.prog w 0 (fun _ => true) held n 9 (([u0, u1, u2, u3, u4].drop 1).take (Tryz.prog.cellsOf 9)) = xs[1]? := hf 1 _ rfl
    have h2 : DataW.trod enc Tryz.prog w 0 (fun _ => true) held n 9 (([u0, u1, u2, u3, u4].drop 2).take (Tryz.prog.cellsOf 9)) = xs[2]? := hf 2 _ rfl
    have h3 : DataW.trod enc Tryz.prog w 0 (fun _ => true) held n 9 (([u0, u1, u2, u3, u4].drop 3).take (Tryz.prog.cellsOf 9)) = xs[3]? := hf 3 _ rfl
    have h4 : DataW.trod enc Tryz.prog w 0 (fun _ => true) held n 4 (([u0, u1, u2, u3, u4].drop 4).take (Tryz.prog.cellsOf 4)) = xs[4]? := hf 4 _ rfl
    rw [cells_dstring] at h0 h1 h2 h3
    rw [cells_dbool] at h4
    simp only [List.drop_succ_cons, List.drop_zero, List.take_succ_cons, List.take_zero] at h0 h1 h2 h3 h4
    rw [List.getElem?_eq_getElem (by omega)] at h0 h1 h2 h3 h4
    obtain ⟨s0, e0, _, w0⟩ := DataW.trod_string Tryz.underlying9 h0
    obtain ⟨s1, e1, _, w1⟩ := DataW.trod_string Tryz.underlying9 h1
    obtain ⟨s2, e2, _, w2⟩ := DataW.trod_string Tryz.underlying9 h2
    obtain ⟨s3, e3, _, w3⟩ := DataW.trod_string Tryz.underlying9 h3
    obtain ⟨nt, e4, _⟩ := DataW.trod_bool Tryz.underlying4 h4
    simp only [List.cons.injEq, and_true] at e0 e1 e2 e3 e4
    subst e0 e1 e2 e3 e4
    have m0 : (⟨s0.data.toList.toArray⟩ : ByteArray) = s0 := Lib.mk_data s0
    have m1 : (⟨s1.data.toList.toArray⟩ : ByteArray) = s1 := Lib.mk_data s1
    have m2 : (⟨s2.data.toList.toArray⟩ : ByteArray) = s2 := Lib.mk_data s2
    have m3 : (⟨s3.data.toList.toArray⟩ : ByteArray) = s3 := Lib.mk_data s3
    exact ⟨⟨s0.data.toList, s1.data.toList, s2.data.toList, s3.data.toList, nt⟩, by simp [dfC, m0, m1, m2, m3], by simpa using w0, by simpa using w1, by simpa using w2, by simpa using w3⟩

theorem opened_defs {fuel : Nat} {x : DataW H × List MemPlace} {A : Option Addr} {len cap : Nat} (h : DataW.trod enc Tryz.prog w 0 (fun _ => true) held fuel 22 (Value.slice A len cap).cells.toList = some x) :
    ∃ X : List Dfn, X.length = len ∧ DefsAt w A cap X ∧ DfnsWf X := by
  rcases Go.Deep.open_slice Tryz.underlying22 h with ⟨hcs, _⟩ | ⟨ad, l, c, m, n, D, Pl, hcs, hb, hl, hm, hmm, _, hx⟩
  · simp [Value.cells] at hcs
    obtain ⟨rfl, rfl, rfl⟩ := hcs
    exact ⟨[], rfl, ⟨Nat.le_refl _, Nat.zero_le _, Or.inl rfl⟩, by intro x hx; cases hx⟩
  · simp [Value.cells] at hcs
    obtain ⟨rfl, rfl, rfl⟩ := hcs
    simp only [if_true] at hmm
    subst hmm
    rw [cells_def] at hx
    obtain ⟨f, hf⟩ := Go.Deep.choose_lt (α := Dfn) (p := fun i q => (∀ j u, (dfC q)[j]? = some u → w.cell? ((ad.add (i * 5)).add j) = some u) ∧ DfnWf q) (fun i hi => by
      obtain ⟨cs', h1, h2⟩ := hx i hi
      obtain ⟨_, hlen, hc⟩ := World.cells?_some h1
      obtain ⟨q, rfl, hwf⟩ := def_open h2
      refine ⟨q, fun j u hu => ?_, hwf⟩
      have hj := (List.getElem?_eq_some_iff.1 hu).1
      have h5 : (dfC q).length = 5 := rfl
      have := hc j (by omega)
      rw [this]
      exact hu)
    refine ⟨(List.range len).map f, by simp, ⟨by simpa using hl, hm, ?_⟩, ?_⟩
    · by_cases h0 : len = 0
      · exact Or.inl (by simp [h0])
      · have hcell0 := (hf 0 (by omega)).1 0 _ rfl
        have hsp : ad.spot = none := by
          have := World.cell?_spot hcell0
          simpa [Addr.add] using this
        obtain ⟨b, off, sp⟩ := ad
        simp only at hsp
        subst hsp
        refine Or.inr ⟨b, off, rfl, ?_, fun i hi j u hu => ?_⟩
        · have := World.block_lt_of_cell? _ _ hcell0
          simpa [Addr.add] using this
        · simp only [List.length_map, List.length_range] at hi
          have hfi := (hf i (by omega)).1
          simp only [List.getElem_map, List.getElem_range] at hu
          have := hfi j u hu
          rw [addr_add, addr_add] at this
          exact this
    · intro x hx
      obtain ⟨i, hi, rfl⟩ := List.mem_map.1 hx
      exact (hf i (by have := List.mem_range.1 hi; omega)).2
end

end Go.Proofs.YtfbaknkmpilllaaGreatDoor
