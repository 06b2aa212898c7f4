/-
  A list of parts that comes in as an argument: read, element by element.
-/
import Derived.Test.YtodnioihadpncaaDoorFrmM
import Derived.Deep.Slices
import Derived.OpenShut
namespace Go.Proofs.YtodnioihadpncaaDoor
open Go.ChangeShapes Go.WideShapes Go.ChangeAt Go.RowKit
set_option linter.unusedSimpArgs false
set_option linter.unusedVariables false

/-- What is so of every part that comes in. -/
def PartWf (x : Prt × Value) : Prop := (Lit.int .i64 x.1.depth).wf = true ∧ x.1.lab.length ≤ maxLen ∧ (∀ y ∈ x.1.ls, y.length ≤ maxLen) ∧ ∀ n c, x.2 = .slice none n c → n = 0 ∧ c = 0
def PartsWf (X : List (Prt × Value)) : Prop := ∀ x ∈ X, PartWf x

section
variable {H : Type} {enc : TypeId × Value → H} {w : World} {held : Bool}

theorem cells_part : Tryd.prog.cellsOf 32 = 5 := by kernel_rfl
theorem cells_int1 : Tryd.prog.cellsOf 3 = 1 := by kernel_rfl
theorem cells_bool1 : Tryd.prog.cellsOf 4 = 1 := by kernel_rfl
theorem cells_string1 : Tryd.prog.cellsOf 9 = 1 := by kernel_rfl
theorem cells_strs1 : Tryd.prog.cellsOf 22 = 1 := by kernel_rfl

theorem part_open {fuel : Nat} {cs : List Value} {x : DataW H × List MemPlace} (h : DataW.trod enc Tryd.prog w 0 (fun _ => true) held fuel 32 cs = some x) : ∃ q : Prt × Value, cs = ptC q ∧ LsAt w q ∧ PartWf q := by
  obtain ⟨xs, n, _, _, hl, hlen, hf⟩ := DataW.trod_struct Tryd.underlying32 h
  rw [cells_part] at hl
  have hx5 : xs.length = 5 := hlen
  match cs, hl with
  | [u0, u1, u2, u3, u4], _ =>
    have h0 : DataW.trod enc Tryd.prog w 0 (fun _ => true) held n 3 (([u0, u1, u2, u3, u4].drop 0).take (Tryd.prog.cellsOf 3)) = xs[0]? := hf 0 _ rfl
    rw [cells_int1] at h0
    have h1 : DataW.trod enc Tryd.prog w 0 (fun _ => true) held n 4 (([u0, u1, u2, u3, u4].drop 1).take (Tryd.prog.cellsOf 4)) = xs[1]? := hf 1 _ rfl
    rw [cells_bool1] at h1
    have h2 : DataW.trod enc Tryd.prog w 0 (fun _ => true) held n 9 (([u0, u1, u2, u3, u4].drop 2).take (Tryd.prog.cellsOf 9)) = xs[2]? := hf 2 _ rfl
    rw [cells_string1] at h2
    have h3 : DataW.trod enc Tryd.prog w 0 (fun _ => true) held n 4 (([u0, u1, u2, u3, u4].drop 3).take (Tryd.prog.cellsOf 4)) = xs[3]? := hf 3 _ rfl
    rw [cells_bool1] at h3
    have h4 : DataW.trod enc Tryd.prog w 0 (fun _ => true) held n 22 (([u0, u1, u2, u3, u4].drop 4).take (Tryd.prog.cellsOf 22)) = xs[4]? := hf 4 _ rfl
    rw [cells_strs1] at h4
    simp only [List.drop_succ_cons, List.drop_zero, List.take_succ_cons, List.take_zero] at h0 h1 h2 h3 h4
    rw [List.getElem?_eq_getElem (by omega)] at h0 h1 h2 h3 h4
    obtain ⟨d, e0, _, wd⟩ := DataW.trod_int Tryd.underlying3 h0
    obtain ⟨dv, e1, _⟩ := DataW.trod_bool Tryd.underlying4 h1
    obtain ⟨lab, e2, _, wl⟩ := DataW.trod_string Tryd.underlying9 h2
    obtain ⟨opn, e3, _⟩ := DataW.trod_bool Tryd.underlying4 h3
    simp only [List.cons.injEq, and_true] at e0 e1 e2 e3
    subst e0 e1 e2 e3
    have hlab : (⟨lab.data.toList.toArray⟩ : ByteArray) = lab := Lib.mk_data lab
    rcases DataW.trod_slice Tryd.underlying22 h4 with ⟨e4, _⟩ | ⟨a, len, cap, _, _, _, _, e4, _⟩
    · simp only [List.cons.injEq, and_true] at e4
      subst e4
      exact ⟨(⟨d, dv, lab.data.toList, opn, []⟩, .slice none 0 0), by simp [ptC, hlab], ⟨none, 0, rfl, rowOf_nil none⟩, wd, by simpa using wl, by simp, fun n c e => by cases e; exact ⟨rfl, rfl⟩⟩
    · simp only [List.cons.injEq, and_true] at e4
      subst e4
      obtain ⟨ss, hsl, hrow, hsz⟩ := opened_strings Tryd.underlying22 Tryd.underlying9 cells_string1 (A := some a) (len := len) (cap := cap) h4
      subst hsl
      refine ⟨(⟨d, dv, lab.data.toList, opn, ss.map fun s => s.data.toList⟩, .slice (some a) ss.length cap), by simp [ptC, hlab], ⟨some a, cap, by simp, by rw [← strs_of]; exact hrow⟩, wd, by simpa using wl, fun y hy => ?_, fun n c e => by cases e⟩
      obtain ⟨s, hs, rfl⟩ := List.mem_map.1 hy
      have := hsz s hs
      simpa using this

theorem opened_parts {fuel : Nat} {x : DataW H × List MemPlace} {A : Option Addr} {len cap : Nat} (h : DataW.trod enc Tryd.prog w 0 (fun _ => true) held fuel 25 (Value.slice A len cap).cells.toList = some x) :
    ∃ X : List (Prt × Value), X.length = len ∧ PartsAt w A cap X ∧ PartsWf X := by
  rcases Go.Deep.open_slice Tryd.underlying25 h with ⟨hcs, _⟩ | ⟨ad, l, c, m, n, D, Pl, hcs, hb, hl, hm, hmm, _, hx⟩
  · simp [Value.cells] at hcs
    obtain ⟨rfl, rfl, rfl⟩ := hcs
    exact ⟨[], rfl, ⟨Nat.le_refl _, Nat.zero_le _, Or.inl rfl, by simp⟩, by intro x hx; cases hx⟩
  · simp [Value.cells] at hcs
    obtain ⟨rfl, rfl, rfl⟩ := hcs
    simp only [if_true] at hmm
    subst hmm
    rw [cells_part] at hx
    obtain ⟨f, hf⟩ := Go.Deep.choose_lt (α := Prt × Value) (p := fun i q => (∀ j u, (ptC q)[j]? = some u → w.cell? ((ad.add (i * 5)).add j) = some u) ∧ LsAt w q ∧ PartWf q) (fun i hi => by
      obtain ⟨cs', h1, h2⟩ := hx i hi
      obtain ⟨_, hlen, hc⟩ := World.cells?_some h1
      obtain ⟨q, rfl, hls, hwf⟩ := part_open h2
      refine ⟨q, fun j u hu => ?_, hls, hwf⟩
      have hj := (List.getElem?_eq_some_iff.1 hu).1
      have h5 : (ptC q).length = 5 := rfl
      have := hc j (by omega)
      rw [this]
      exact hu)
    refine ⟨(List.range len).map f, by simp, ⟨by simpa using hl, hm, ?_, ?_⟩, ?_⟩
    · by_cases h0 : len = 0
      · exact Or.inl (by simp [h0])
      · have hcell0 := (hf 0 (by omega)).1 0 _ rfl
        have hsp : ad.spot = none := by
          have := World.cell?_spot hcell0
          simpa [Addr.add] using this
        obtain ⟨b, off, sp⟩ := ad
        simp only at hsp
        subst hsp
        refine Or.inr ⟨b, off, rfl, ?_, fun i hi j u hu => ?_⟩
        · have := World.block_lt_of_cell? _ _ hcell0
          simpa [Addr.add] using this
        · simp only [List.length_map, List.length_range] at hi
          have hfi := (hf i (by omega)).1
          simp only [List.getElem_map, List.getElem_range] at hu
          have := hfi j u hu
          rw [addr_add, addr_add] at this
          exact this
    · intro x hx
      obtain ⟨i, hi, rfl⟩ := List.mem_map.1 hx
      exact (hf i (by have := List.mem_range.1 hi; omega)).2.1
    · intro x hx
      obtain ⟨i, hi, rfl⟩ := List.mem_map.1 hx
      exact (hf i (by have := List.mem_range.1 hi; omega)).2.2
end

end Go.Proofs.YtodnioihadpncaaDoor
