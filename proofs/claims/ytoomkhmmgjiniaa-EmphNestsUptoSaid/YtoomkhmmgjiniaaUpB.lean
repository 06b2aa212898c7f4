/-
  Bulk: what the bound on the arguments says of a list of nodes that comes in.
-/
import Derived.Test.YtoomkhmmgjiniaaRows
import Derived.Test.YtoomkhmmgjiniaaIlO
namespace Go.Proofs.Ytoomkhmmgjiniaa
open Go.ChangeShapes Go.WideShapes Go.ChangeAt Go.RowKit
set_option linter.unusedSimpArgs false
set_option linter.unusedVariables false
set_option maxRecDepth 100000

theorem bulk_part {H : Type} {d : DataW H} {l : List (DataW H)} (h : d ∈ l) : Rows.uptoBulk d ≤ Rows.uptoBulkAll l := by
  induction l with
  | nil => cases h
  | cons x r ih =>
    simp only [Rows.uptoBulkAll]
    rcases List.mem_cons.1 h with e | e
    · subst e; omega
    · have := ih e; omega
theorem bulk_bound {H : Type} {l : List (DataW H)} (hk : Rows.uptoSmall H l = true) : Rows.uptoBulkAll l ≤ 1048576 := of_decide_eq_true hk
theorem bulk_sum {H : Type} (f : Nat → Nat) (D : Nat → DataW H) : ∀ l : List Nat, (∀ i ∈ l, f i ≤ Rows.uptoBulk (D i)) → (l.map f).sum ≤ Rows.uptoBulkAll (l.map D)
  | [], _ => Nat.zero_le _
  | i :: l, h => by
    have h1 := h i (List.mem_cons_self ..)
    have h2 := bulk_sum f D l fun j hj => h j (List.mem_cons_of_mem _ hj)
    simp only [List.map_cons, List.sum_cons, Rows.uptoBulkAll]
    omega
def txtSum (X : List Iln) : Nat := (X.map fun x => x.txt.length).sum

section
variable {H : Type} {enc : TypeId × Value → H} {w : World} {held : Bool}

theorem inl_open_bulk {fuel : Nat} {cs : List Value} {x : DataW H × List MemPlace} (h : DataW.trod enc Try.prog w 0 (fun _ => true) held fuel 30 cs = some x) : ∃ q : Iln, cs = ilC q ∧ IlnWf q ∧ q.txt.length ≤ Rows.uptoBulk x.1 := by
  obtain ⟨xs, n, _, hxx, hl, hlen, hf⟩ := DataW.trod_struct Try.underlying30 h
  obtain ⟨q, rfl, hwf⟩ := inl_open h
  refine ⟨q, rfl, hwf, ?_⟩
  have hx5 : xs.length = 5 := hlen
  have h2 : DataW.trod enc Try.prog w 0 (fun _ => true) held n 9 (((ilC q).drop 2).take (Try.prog.cellsOf 9)) = xs[2]? := hf 2 _ rfl
  rw [cells_istring, List.getElem?_eq_getElem (by omega)] at h2
  obtain ⟨s2, e2, e3, w2⟩ := DataW.trod_string Try.underlying9 h2
  have e4 : (⟨q.txt.toArray⟩ : ByteArray) = s2 := by simpa [ilC] using e2
  have hm : xs[2].1 ∈ xs.map (·.1) := List.mem_map.2 ⟨xs[2], List.getElem_mem _, rfl⟩
  have hb := bulk_part hm
  rw [e3] at hb
  rw [hxx]
  have e5 : s2.data.toList.length = q.txt.length := by rw [← e4]
  simp only [Rows.uptoBulk] at hb ⊢
  omega

theorem opened_inls_bulk {fuel : Nat} {x : DataW H × List MemPlace} {A : Option Addr} {len cap : Nat} (h : DataW.trod enc Try.prog w 0 (fun _ => true) held fuel 24 (Value.slice A len cap).cells.toList = some x) :
    ∃ X : List Iln, X.length = len ∧ InlsAt w A cap X ∧ IlnsWf X ∧ txtSum X ≤ Rows.uptoBulk x.1 := by
  rcases Go.Deep.open_slice Try.underlying24 h with ⟨hcs, _⟩ | ⟨ad, l, c, m, n, D, Pl, hcs, hb, hl, hm, hmm, hxx, hx⟩
  · simp [Value.cells] at hcs
    obtain ⟨rfl, rfl, rfl⟩ := hcs
    exact ⟨[], rfl, ⟨Nat.le_refl _, Nat.zero_le _, Or.inl rfl⟩, (by intro x hx; cases hx), Nat.zero_le _⟩
  · simp [Value.cells] at hcs
    obtain ⟨rfl, rfl, rfl⟩ := hcs
    simp only [if_true] at hmm
    subst hmm
    rw [cells_inl] at hx
    obtain ⟨f, hf⟩ := Go.Deep.choose_lt (α := Iln) (p := fun i q => (∀ j u, (ilC q)[j]? = some u → w.cell? ((ad.add (i * 5)).add j) = some u) ∧ IlnWf q ∧ q.txt.length ≤ Rows.uptoBulk (D i)) (fun i hi => by
      obtain ⟨cs', h1, h2⟩ := hx i hi
      obtain ⟨_, hlen, hc⟩ := World.cells?_some h1
      obtain ⟨q, rfl, hwf, hbk⟩ := inl_open_bulk h2
      refine ⟨q, fun j u hu => ?_, hwf, hbk⟩
      have hj := (List.getElem?_eq_some_iff.1 hu).1
      have h5 : (ilC q).length = 5 := rfl
      have := hc j (by omega)
      rw [this]
      exact hu)
    refine ⟨(List.range len).map f, by simp, ⟨by simpa using hl, hm, ?_⟩, ?_, ?_⟩
    · by_cases h0 : len = 0
      · exact Or.inl (by simp [h0])
      · have hcell0 := (hf 0 (by omega)).1 0 _ rfl
        have hsp : ad.spot = none := by
          have := World.cell?_spot hcell0
          simpa [Addr.add] using this
        obtain ⟨b, off, sp⟩ := ad
        simp only at hsp
        subst hsp
        refine Or.inr ⟨b, off, rfl, ?_, fun i hi j u hu => ?_⟩
        · have := World.block_lt_of_cell? _ _ hcell0
          simpa [Addr.add] using this
        · simp only [List.length_map, List.length_range] at hi
          have hfi := (hf i (by omega)).1
          simp only [List.getElem_map, List.getElem_range] at hu
          have := hfi j u hu
          rw [addr_add, addr_add] at this
          exact this
    · intro x hx
      obtain ⟨i, hi, rfl⟩ := List.mem_map.1 hx
      exact (hf i (by have := List.mem_range.1 hi; omega)).2.1
    · have h1 := bulk_sum (fun i => (f i).txt.length) D (List.range len) fun i hi => (hf i (by have := List.mem_range.1 hi; omega)).2.2
      have e : txtSum ((List.range len).map f) = ((List.range len).map fun i => (f i).txt.length).sum := by
        unfold txtSum
        rw [List.map_map]
        rfl
      rw [e, hxx]
      simp only [Rows.uptoBulk]
      omega
end

end Go.Proofs.Ytoomkhmmgjiniaa
