/-
  A list of items that comes in as an argument: read, element by element.
-/
import Derived.Test.YtoomkhmmgjiniaaEmS
import Derived.Test.YtoomkhmmgjiniaaIlO
import Derived.Deep.Slices
import Derived.OpenShut
namespace Go.Proofs.Ytoomkhmmgjiniaa
open Go.ChangeShapes Go.WideShapes Go.ChangeAt Go.RowKit
set_option linter.unusedSimpArgs false
set_option linter.unusedVariables false
set_option maxRecDepth 100000

/-- What is so of every item that comes in (w: where its nodes lie). -/
def ItWf (w : World) (x : Itm × Value) : Prop := (Lit.int .i64 x.1.ff).wf = true ∧ x.1.n = x.1.ff ∧ (∃ Av cv, x.2 = Value.slice Av x.1.nd.length cv ∧ InlsAt w Av cv x.1.nd) ∧ IlnsWf x.1.nd
def ItsWf (w : World) (X : List (Itm × Value)) : Prop := ∀ x ∈ X, ItWf w x

section
variable {H : Type} {enc : TypeId × Value → H} {w : World} {held : Bool}

theorem cells_item : Try.prog.cellsOf 26 = 5 := by kernel_rfl
theorem cells_ebyte : Try.prog.cellsOf 5 = 1 := by kernel_rfl
theorem cells_eint : Try.prog.cellsOf 3 = 1 := by kernel_rfl
theorem cells_ebool : Try.prog.cellsOf 4 = 1 := by kernel_rfl
theorem cells_einls : Try.prog.cellsOf 24 = 1 := by kernel_rfl

theorem byte_of {d : Int} (h : (Lit.int .u8 d).wf = true) : ∃ sg : UInt8, (sg.toNat : Int) = d := by
  have h2 : IntKind.u8.min ≤ d ∧ d ≤ IntKind.u8.max := by simpa [Lit.wf] using h
  have h3 : IntKind.u8.min = 0 := by decide
  have h4 : IntKind.u8.max = 255 := by decide
  rw [h3, h4] at h2
  exact ⟨UInt8.ofNat d.toNat, by rw [UInt8.toNat_ofNat']; omega⟩

theorem item_open {fuel : Nat} {cs : List Value} {x : DataW H × List MemPlace} (h : DataW.trod enc Try.prog w 0 (fun _ => true) held fuel 26 cs = some x) : ∃ q : Itm × Value, cs = itC q ∧ ItWf w q := by
  obtain ⟨xs, n, _, _, hl, hlen, hf⟩ := DataW.trod_struct Try.underlying26 h
  rw [cells_item] at hl
  have hx5 : xs.length = 5 := hlen
  match cs, hl with
  | [u0, u1, u2, u3, u4], _ =>
    have h0 : DataW.trod enc Try.prog w 0 (fun _ => true) held n 5 (([u0, u1, u2, u3, u4].drop 0).take (Try.prog.cellsOf 5)) = xs[0]? := hf 0 _ rfl
    have h1 : DataW.trod enc Try.prog w 0 (fun _ => true) held n 3 (([u0, u1, u2, u3, u4].drop 1).take (Try.prog.cellsOf 3)) = xs[1]? := hf 1 _ rfl
    have h2 : DataW.trod enc Try.prog w 0 (fun _ => true) held n 4 (([u0, u1, u2, u3, u4].drop 2).take (Try.prog.cellsOf 4)) = xs[2]? := hf 2 _ rfl
    have h3 : DataW.trod enc Try.prog w 0 (fun _ => true) held n 4 (([u0, u1, u2, u3, u4].drop 3).take (Try.prog.cellsOf 4)) = xs[3]? := hf 3 _ rfl
    have h4 : DataW.trod enc Try.prog w 0 (fun _ => true) held n 24 (([u0, u1, u2, u3, u4].drop 4).take (Try.prog.cellsOf 24)) = xs[4]? := hf 4 _ rfl
    rw [cells_ebyte] at h0
    rw [cells_eint] at h1
    rw [cells_ebool] at h2 h3
    rw [cells_einls] at h4
    simp only [List.drop_succ_cons, List.drop_zero, List.take_succ_cons, List.take_zero] at h0 h1 h2 h3 h4
    rw [List.getElem?_eq_getElem (by omega)] at h0 h1 h2 h3 h4
    obtain ⟨d0, e0, _, w0⟩ := DataW.trod_int Try.underlying5 h0
    obtain ⟨sg, rfl⟩ := byte_of w0
    obtain ⟨ff, e1, _, w1⟩ := DataW.trod_int Try.underlying3 h1
    obtain ⟨op, e2, _⟩ := DataW.trod_bool Try.underlying4 h2
    obtain ⟨cl, e3, _⟩ := DataW.trod_bool Try.underlying4 h3
    simp only [List.cons.injEq, and_true] at e0 e1 e2 e3
    subst e0 e1 e2 e3
    rcases DataW.trod_slice Try.underlying24 h4 with ⟨e4, _⟩ | ⟨a, len, cap, _, _, _, _, e4, _⟩
    · simp only [List.cons.injEq, and_true] at e4
      subst e4
      exact ⟨(⟨sg, ff, ff, op, cl, []⟩, .slice none 0 0), rfl, w1, rfl, ⟨none, 0, rfl, EltsAt.nil _ _ _ _⟩, by intro y hy; cases hy⟩
    · simp only [List.cons.injEq, and_true] at e4
      subst e4
      obtain ⟨X, hX, hat, hwf⟩ := opened_inls (A := some a) (len := len) (cap := cap) h4
      subst hX
      exact ⟨(⟨sg, ff, ff, op, cl, X⟩, .slice (some a) X.length cap), rfl, w1, rfl, ⟨some a, cap, rfl, hat⟩, hwf⟩

theorem opened_items {fuel : Nat} {x : DataW H × List MemPlace} {A : Option Addr} {len cap : Nat} (h : DataW.trod enc Try.prog w 0 (fun _ => true) held fuel 22 (Value.slice A len cap).cells.toList = some x) :
    ∃ X : List (Itm × Value), X.length = len ∧ EltsAt w itC 5 A cap X ∧ ItsWf w X := by
  rcases Go.Deep.open_slice Try.underlying22 h with ⟨hcs, _⟩ | ⟨ad, l, c, m, n, D, Pl, hcs, hb, hl, hm, hmm, _, hx⟩
  · simp [Value.cells] at hcs
    obtain ⟨rfl, rfl, rfl⟩ := hcs
    exact ⟨[], rfl, ⟨Nat.le_refl _, Nat.zero_le _, Or.inl rfl⟩, by intro x hx; cases hx⟩
  · simp [Value.cells] at hcs
    obtain ⟨rfl, rfl, rfl⟩ := hcs
    simp only [if_true] at hmm
    subst hmm
    rw [cells_item] at hx
    obtain ⟨f, hf⟩ := Go.Deep.choose_lt (α := Itm × Value) (p := fun i q => (∀ j u, (itC q)[j]? = some u → w.cell? ((ad.add (i * 5)).add j) = some u) ∧ ItWf w q) (fun i hi => by
      obtain ⟨cs', h1, h2⟩ := hx i hi
      obtain ⟨_, hlen, hc⟩ := World.cells?_some h1
      obtain ⟨q, rfl, hwf⟩ := item_open h2
      refine ⟨q, fun j u hu => ?_, hwf⟩
      have hj := (List.getElem?_eq_some_iff.1 hu).1
      have h5 : (itC q).length = 5 := rfl
      have := hc j (by omega)
      rw [this]
      exact hu)
    refine ⟨(List.range len).map f, by simp, ⟨by simpa using hl, hm, ?_⟩, ?_⟩
    · by_cases h0 : len = 0
      · exact Or.inl (by simp [h0])
      · have hcell0 := (hf 0 (by omega)).1 0 _ rfl
        have hsp : ad.spot = none := by
          have := World.cell?_spot hcell0
          simpa [Addr.add] using this
        obtain ⟨b, off, sp⟩ := ad
        simp only at hsp
        subst hsp
        refine Or.inr ⟨b, off, rfl, ?_, fun i hi j u hu => ?_⟩
        · have := World.block_lt_of_cell? _ _ hcell0
          simpa [Addr.add] using this
        · simp only [List.length_map, List.length_range] at hi
          have hfi := (hf i (by omega)).1
          simp only [List.getElem_map, List.getElem_range] at hu
          have := hfi j u hu
          rw [addr_add, addr_add] at this
          exact this
    · intro x hx
      obtain ⟨i, hi, rfl⟩ := List.mem_map.1 hx
      exact (hf i (by have := List.mem_range.1 hi; omega)).2
end

end Go.Proofs.Ytoomkhmmgjiniaa
