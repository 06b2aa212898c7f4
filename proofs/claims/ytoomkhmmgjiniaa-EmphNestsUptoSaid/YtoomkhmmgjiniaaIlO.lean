/-
  A list of inline nodes that comes in as an argument: read, element by element.
-/
import Derived.Test.YtoomkhmmgjiniaaIln
import Derived.Deep.Slices
import Derived.OpenShut
import Derived.Lib.Strings
namespace Go.Proofs.Ytoomkhmmgjiniaa
open Go.ChangeShapes Go.WideShapes Go.ChangeAt Go.RowKit
set_option linter.unusedSimpArgs false
set_option linter.unusedVariables false
set_option maxRecDepth 100000

/-- What is so of every node that comes in. -/
def IlnWf (x : Iln) : Prop := (Lit.int .i64 x.kd).wf = true ∧ (Lit.int .i64 x.dp).wf = true ∧ x.txt.length ≤ maxLen ∧ x.url.length ≤ maxLen ∧ x.ttl.length ≤ maxLen
def IlnsWf (X : List Iln) : Prop := ∀ x ∈ X, IlnWf x

section
variable {H : Type} {enc : TypeId × Value → H} {w : World} {held : Bool}

theorem cells_inl : Try.prog.cellsOf 30 = 5 := by kernel_rfl
theorem cells_iint : Try.prog.cellsOf 3 = 1 := by kernel_rfl
theorem cells_istring : Try.prog.cellsOf 9 = 1 := by kernel_rfl

theorem inl_open {fuel : Nat} {cs : List Value} {x : DataW H × List MemPlace} (h : DataW.trod enc Try.prog w 0 (fun _ => true) held fuel 30 cs = some x) : ∃ q : Iln, cs = ilC q ∧ IlnWf q := by
  obtain ⟨xs, n, _, _, hl, hlen, hf⟩ := DataW.trod_struct Try.underlying30 h
  rw [cells_inl] at hl
  have hx5 : xs.length = 5 := hlen
  match cs, hl with
  | [u0, u1, u2, u3, u4], _ =>
    have h0 : DataW.trod enc Try.prog w 0 (fun _ => true) held n 3 (([u0, u1, u2, u3, u4].drop 0).take (Try.prog.cellsOf 3)) = xs[0]? := hf 0 _ rfl
    have h1 : DataW.trod enc Try.prog w 0 (fun _ => true) held n 3 (([u0, u1, u2, u3, u4].drop 1).take (Try.prog.cellsOf 3)) = xs[1]? := hf 1 _ rfl
    have h2 : DataW.trod enc Try.prog w 0 (fun _ => true) held n 9 (([u0, u1, u2, u3, u4].drop 2).take (Try.prog.cellsOf 9)) = xs[2]? := hf 2 _ rfl
    have h3 : DataW.trod enc Try.prog w 0 (fun _ => true) held n 9 (([u0, u1, u2, u3, u4].drop 3).take (Try.prog.cellsOf 9)) = xs[3]? := hf 3 _ rfl
    have h4 : DataW.trod enc Try.prog w 0 (fun _ => true) held n 9 (([u0, u1, u2, u3, u4].drop 4).take (Try.prog.cellsOf 9)) = xs[4]? := hf 4 _ rfl
    rw [cells_istring] at h2 h3 h4
    rw [cells_iint] at h0 h1
    simp only [List.drop_succ_cons, List.drop_zero, List.take_succ_cons, List.take_zero] at h0 h1 h2 h3 h4
    rw [List.getElem?_eq_getElem (by omega)] at h0 h1 h2 h3 h4
    obtain ⟨kd, e0, _, w0⟩ := DataW.trod_int Try.underlying3 h0
    obtain ⟨dp, e1, _, w1⟩ := DataW.trod_int Try.underlying3 h1
    obtain ⟨s2, e2, _, w2⟩ := DataW.trod_string Try.underlying9 h2
    obtain ⟨s3, e3, _, w3⟩ := DataW.trod_string Try.underlying9 h3
    obtain ⟨s4, e4, _, w4⟩ := DataW.trod_string Try.underlying9 h4
    simp only [List.cons.injEq, and_true] at e0 e1 e2 e3 e4
    subst e0 e1 e2 e3 e4
    have m2 : (⟨s2.data.toList.toArray⟩ : ByteArray) = s2 := Lib.mk_data s2
    have m3 : (⟨s3.data.toList.toArray⟩ : ByteArray) = s3 := Lib.mk_data s3
    have m4 : (⟨s4.data.toList.toArray⟩ : ByteArray) = s4 := Lib.mk_data s4
    exact ⟨⟨kd, dp, s2.data.toList, s3.data.toList, s4.data.toList⟩, by simp [ilC, m2, m3, m4], w0, w1, by simpa using w2, by simpa using w3, by simpa using w4⟩

theorem opened_inls {fuel : Nat} {x : DataW H × List MemPlace} {A : Option Addr} {len cap : Nat} (h : DataW.trod enc Try.prog w 0 (fun _ => true) held fuel 24 (Value.slice A len cap).cells.toList = some x) :
    ∃ X : List Iln, X.length = len ∧ InlsAt w A cap X ∧ IlnsWf X := by
  rcases Go.Deep.open_slice Try.underlying24 h with ⟨hcs, _⟩ | ⟨ad, l, c, m, n, D, Pl, hcs, hb, hl, hm, hmm, _, hx⟩
  · simp [Value.cells] at hcs
    obtain ⟨rfl, rfl, rfl⟩ := hcs
    exact ⟨[], rfl, ⟨Nat.le_refl _, Nat.zero_le _, Or.inl rfl⟩, by intro x hx; cases hx⟩
  · simp [Value.cells] at hcs
    obtain ⟨rfl, rfl, rfl⟩ := hcs
    simp only [if_true] at hmm
    subst hmm
    rw [cells_inl] at hx
    obtain ⟨f, hf⟩ := Go.Deep.choose_lt (α := Iln) (p := fun i q => (∀ j u, (ilC q)[j]? = some u → w.cell? ((ad.add (i * 5)).add j) = some u) ∧ IlnWf q) (fun i hi => by
      obtain ⟨cs', h1, h2⟩ := hx i hi
      obtain ⟨_, hlen, hc⟩ := World.cells?_some h1
      obtain ⟨q, rfl, hwf⟩ := inl_open h2
      refine ⟨q, fun j u hu => ?_, hwf⟩
      have hj := (List.getElem?_eq_some_iff.1 hu).1
      have h5 : (ilC q).length = 5 := rfl
      have := hc j (by omega)
      rw [this]
      exact hu)
    refine ⟨(List.range len).map f, by simp, ⟨by simpa using hl, hm, ?_⟩, ?_⟩
    · by_cases h0 : len = 0
      · exact Or.inl (by simp [h0])
      · have hcell0 := (hf 0 (by omega)).1 0 _ rfl
        have hsp : ad.spot = none := by
          have := World.cell?_spot hcell0
          simpa [Addr.add] using this
        obtain ⟨b, off, sp⟩ := ad
        simp only at hsp
        subst hsp
        refine Or.inr ⟨b, off, rfl, ?_, fun i hi j u hu => ?_⟩
        · have := World.block_lt_of_cell? _ _ hcell0
          simpa [Addr.add] using this
        · simp only [List.length_map, List.length_range] at hi
          have hfi := (hf i (by omega)).1
          simp only [List.getElem_map, List.getElem_range] at hu
          have := hfi j u hu
          rw [addr_add, addr_add] at this
          exact this
    · intro x hx
      obtain ⟨i, hi, rfl⟩ := List.mem_map.1 hx
      exact (hf i (by have := List.mem_range.1 hi; omega)).2
end

end Go.Proofs.Ytoomkhmmgjiniaa
