/-
  The statements' book of lists: Texts: one list more is kept.
-/
import Derived.Test.YtggfllbaomfjhaaDoorBookB
namespace Go.Proofs.YtggfllbaomfjhaaDoor
open Go.RowKit
set_option linter.unusedSimpArgs false
set_option linter.unusedVariables false

theorem cells_one (w : World) (u : Value) (t : TypeId) : ∀ (j : Nat) (x : Value), [u][j]? = some x → (w.alloc (.cells #[u] t)).cell? ((⟨w.heap.size, 0, none⟩ : Addr).add j) = some x := by
  intro j x hj
  match j, hj with
  | 0, hj =>
    simp at hj
    subst hj
    rw [addr_add, cell_of_row _ _ 0 #[u] t (0, 0) (heap_alloc_new w _)]
    rfl
theorem one_slice (A : Option Addr) (n c : Nat) : ∀ x ∈ [Value.slice A n c], x.oneCell' = true := by
  intro x hx
  simp at hx
  subst hx
  rfl
/-- What stands behind a copy that was made while the book's second list is known. -/
structure CopyPost (B b : Nat) (ls : List (List UInt8)) (tv uv : Value) (us : List Value) (W : World) (Au : Option Addr) (cu : Nat) (w3 : World) : Prop where
  below : Below W.heap.size W w3
  blk : w3.heap[b]? = some (.cells (bookCells tv uv) 42 (0, 0))
  own : w3.ownsRow B 25 1 uv us.length us
  new : w3.ownsRow W.heap.size 9 1 (.slice Au ls.length cu) ls.length (strs ls)

theorem book_cell {w : World} {b : Nat} {tv uv : Value} (h : w.heap[b]? = some (.cells (bookCells tv uv) 42 (0, 0))) : w.cell? ⟨b, 1, none⟩ = some uv ∧ w.frozen? ⟨b, 1, none⟩ = false :=
  ⟨(cell_of_row w b 1 _ _ (0, 0) h).trans rfl, by simp [World.frozen?, h]⟩

theorem copy_at (B b : Nat) (A : Option Addr) (cap : Nat) (ls : List (List UInt8)) (tv uv : Value) (us : List Value) (W : World) (hrow : RowOf W A cap (strs ls)) (hl : ls.length ≤ 1000000)
    (hb : W.heap[b]? = some (.cells (bookCells tv uv) 42 (0, 0))) (huv : W.ownsRow B 25 1 uv us.length us) :
    Calls Tryd.prog 22 #[.slice A ls.length cap] W.drew fun e w' => ∃ Au cu, e = .returned (.slice Au ls.length cu) ∧ w'.cell? ⟨b, 1, none⟩ = some uv ∧ (∀ o, (w'.alloc o).cell? ⟨b, 1, none⟩ = some uv) ∧ CopyPost B b ls tv uv us W Au cu w' := by
  refine (copyTexts_any A cap ls W.drew (rowOf_heap rfl hrow) hl).mono ?_
  rintro e w3 ⟨v, rfl, hown, hb3⟩
  obtain ⟨Au, cu, rfl, _, _⟩ := RowOf.own hown
  have hb4 : Below W.heap.size W w3 := ⟨hb3.os, hb3.tape, hb3.output, hb3.size, hb3.block⟩
  have e1 := (hb4.block b (Array.getElem?_eq_some_iff.1 hb).1).trans hb
  exact ⟨Au, cu, rfl, (book_cell e1).1, fun o => (book_cell ((Below.heap_alloc w3 o b (Array.getElem?_eq_some_iff.1 e1).1).trans e1)).1, hb4, e1, ownsRow_below huv hb4, hown⟩

theorem grow_book {w3 w4 : World} {B b : Nat} {tv uv v : Value} {n : Nat} {xs : List Value} (blk : w3.heap[b]? = some (.cells (bookCells tv uv) 42 (0, 0))) (own : w3.ownsRow B 25 1 v n xs) {o : Obj}
    (hg : (w3.alloc o).grownBy w4 v.ownBlock) : w4.heap[b]? = some (.cells (bookCells tv uv) 42 (0, 0)) := by
  have hb := (Array.getElem?_eq_some_iff.1 blk).1
  rw [hg.block b (by simp; omega) (fun e => own_ne own blk (by decide) e.symm), Below.heap_alloc w3 _ b hb]
  exact blk

theorem book_set0 {w : World} {b : Nat} {tv uv : Value} (h : w.heap[b]? = some (.cells (bookCells tv uv) 42 (0, 0))) (tv' : Value) :
    (w.setCell ⟨b, 0, none⟩ tv').heap[b]? = some (.cells (bookCells tv' uv) 42 (0, 0)) := by
  simp [World.setCell, Array.getElem?_modify, h, bookCells]
theorem book_set1 {w : World} {b : Nat} {tv uv : Value} (h : w.heap[b]? = some (.cells (bookCells tv uv) 42 (0, 0))) (uv' : Value) :
    (w.setCell ⟨b, 1, none⟩ uv').heap[b]? = some (.cells (bookCells tv uv') 42 (0, 0)) := by
  simp [World.setCell, Array.getElem?_modify, h, bookCells]

/-- A store into the book keeps each row. -/
theorem own_set {w : World} {B b : Nat} {cs : Array Value} {t e : TypeId} {fz : Nat × Nat} {v : Value} {n size : Nat} {xs : List Value} (h : w.ownsRow B e size v n xs) (hb : w.heap[b]? = some (.cells cs t fz)) (hne : e ≠ t) (i : Nat) (u : Value) :
    (w.setCell ⟨b, i, none⟩ u).ownsRow B e size v n xs := by
  have h1 := own_ne h hb hne
  refine ⟨h.1, ?_⟩
  rcases h.2 with hn | ⟨g, cap, cur, rfl, hB, hg, rest⟩
  · exact .inl hn
  · refine .inr ⟨g, cap, cur, rfl, hB, ?_, rest⟩
    rw [Below.heap_setCell w ⟨b, i, none⟩ u g (fun e1 => h1 (by rw [show g = b from e1]; rfl))]
    exact hg

theorem own_low {w : World} {B B' : Nat} {e : TypeId} {size n : Nat} {v : Value} {xs : List Value} (h : w.ownsRow B e size v n xs) (hB : B' ≤ B) : w.ownsRow B' e size v n xs := by
  refine ⟨h.1, ?_⟩
  rcases h.2 with hn | ⟨g, cap, cur, rfl, hb, rest⟩
  · exact .inl hn
  · exact .inr ⟨g, cap, cur, rfl, Nat.le_trans hB hb, rest⟩

theorem texts_end (B b : Nat) (tv uv : Value) (vs us : List Value) (lss : List (List (List UInt8))) (A : Option Addr) (cap : Nat) (ls : List (List UInt8)) (w : World) (hB : B ≤ w.heap.size)
    (h : BookIs w B b tv uv vs us lss) (hown : w.ownsRow B 9 1 (.slice A ls.length cap) ls.length (strs ls)) (hd : ∀ u ∈ vs ++ us, Apart (.slice A ls.length cap) u)
    (o1 : Obj) (w1 : World) (g1 cap1 : Nat) (hown1 : w1.ownsRow B 25 1 (.slice (some ⟨g1, 0, none⟩) (vs.length + 1) cap1) (vs.length + 1) (vs ++ [.slice A ls.length cap])) (hg1 : (w.alloc o1).grownBy w1 tv.ownBlock)
    (hat1 : tv.ownBlock = some g1 ∨ g1 = w.heap.size + 1) (hlt1 : g1 < w1.heap.size)
    (w2 : World) (hw2 : w2 = w1.setCell ⟨b, 0, none⟩ (.slice (some ⟨g1, 0, none⟩) (vs.length + 1) cap1))
    (w3 : World) (Au : Option Addr) (cu : Nat) (hp : CopyPost B b ls (.slice (some ⟨g1, 0, none⟩) (vs.length + 1) cap1) uv us w2 Au cu w3)
    (o3 : Obj) (w4 : World) (g4 cap4 : Nat) (hown4 : w4.ownsRow B 25 1 (.slice (some ⟨g4, 0, none⟩) (us.length + 1) cap4) (us.length + 1) (us ++ [.slice Au ls.length cu])) (hg4 : (w3.alloc o3).grownBy w4 uv.ownBlock)
    (hat4 : uv.ownBlock = some g4 ∨ g4 = (w3.alloc o3).heap.size) :
    (∃ tv' uv' u, BookIs (w4.setCell ⟨b, 1, none⟩ (.slice (some ⟨g4, 0, none⟩) (us.length + 1) cap4)) B b tv' uv' (vs ++ [.slice A ls.length cap]) (us ++ [u]) (lss ++ [ls]) ∧ ∀ g, u.ownBlock = some g → w.heap.size ≤ g) ∧
      StrKept w (w4.setCell ⟨b, 1, none⟩ (.slice (some ⟨g4, 0, none⟩) (us.length + 1) cap4)) ∧ Below B w (w4.setCell ⟨b, 1, none⟩ (.slice (some ⟨g4, 0, none⟩) (us.length + 1) cap4)) := by
  have hbl := h.lt
  have s0 : (w.alloc o1).heap.size = w.heap.size + 1 := by show (w.heap.push _).size = _; simp
  have s1 := hg1.size
  have blk1 : w1.heap[b]? = some (.cells (bookCells tv uv) 42 (0, 0)) := grow_book h.blk h.tvs hg1
  have blk2 : w2.heap[b]? = some (.cells (bookCells (.slice (some ⟨g1, 0, none⟩) (vs.length + 1) cap1) uv) 42 (0, 0)) := by rw [hw2]; exact book_set0 blk1 _
  have s2 : w2.heap.size = w1.heap.size := by rw [hw2]; simp [World.setCell]
  have hown2 : w2.ownsRow B 25 1 (.slice (some ⟨g1, 0, none⟩) (vs.length + 1) cap1) (vs.length + 1) (vs ++ [.slice A ls.length cap]) := by rw [hw2]; exact own_set hown1 blk1 (by decide) 0 _
  have s3 := hp.below.size
  have s3a : (w3.alloc o3).heap.size = w3.heap.size + 1 := by show (w3.heap.push _).size = _; simp
  have s4 := hg4.size
  have hown3 := ownsRow_below hown2 hp.below
  have blk4 := grow_book hp.blk hp.own hg4
  have sk12 : StrKept w w2 := by
    rw [hw2]
    exact ((StrKept.alloc w o1).trans (StrKept.grown (h.tvs.alloc o1) hg1 (by decide))).trans (StrKept.setCell blk1 (by decide) 0 _)
  have sk35 : StrKept w3 (w4.setCell ⟨b, 1, none⟩ (.slice (some ⟨g4, 0, none⟩) (us.length + 1) cap4)) :=
    ((StrKept.alloc w3 o3).trans (StrKept.grown (hp.own.alloc o3) hg4 (by decide))).trans (StrKept.setCell blk4 (by decide) 1 _)
  have sk := (sk12.trans (StrKept.below hp.below)).trans sk35
  have ne1 : Apart (.slice (some ⟨g1, 0, none⟩) (vs.length + 1) cap1) uv := by
    intro g hg hu
    simp [Value.ownBlock] at hg
    subst hg
    rcases hat1 with e | e
    · exact h.ne _ e hu
    · have := (h.uvs.lt _ hu).2
      omega
  have tv4 : w4.ownsRow B 25 1 (.slice (some ⟨g1, 0, none⟩) (vs.length + 1) cap1) (vs.length + 1) (vs ++ [.slice A ls.length cap]) := (hown3.alloc o3).kept hg4 ne1.ne
  refine ⟨⟨.slice (some ⟨g1, 0, none⟩) (vs.length + 1) cap1, .slice (some ⟨g4, 0, none⟩) (us.length + 1) cap4, .slice Au ls.length cu, ⟨book_set1 blk4 _, h.base, ?_, ?_, ?_, ?_, ?_, ?_⟩, fun g hg => by have := (hp.new.lt g hg).1; omega⟩, sk, ?_⟩
  · rw [List.length_append]; exact own_set tv4 blk4 (by decide) 1 _
  · rw [List.length_append]; exact own_set hown4 blk4 (by decide) 1 _
  · intro g hg hu
    simp [Value.ownBlock] at hg hu
    subst hg
    rcases hat4 with e | e
    · exact ne1 _ rfl (by rw [e, hu])
    · omega
  · refine ⟨by simp [h.tl.1], fun i v l hv hl => ?_⟩
    have e1 := h.tl.1
    by_cases hi : i < vs.length
    · rw [List.getElem?_append_left hi] at hv
      rw [List.getElem?_append_left (by omega)] at hl
      exact sk.row (h.tl.2 i v l hv hl)
    · rw [List.getElem?_append_right (by omega)] at hv hl
      rw [← e1] at hl
      have h0 : i - vs.length = 0 := by
        have := (List.getElem?_eq_some_iff.1 hv).1
        simp at this
        omega
      rw [h0] at hv hl
      simp at hv hl
      subst hv hl
      exact sk.row hown
  · refine ⟨by simp [h.ul.1], fun i v l hv hl => ?_⟩
    have e1 := h.ul.1
    by_cases hi : i < us.length
    · rw [List.getElem?_append_left hi] at hv
      rw [List.getElem?_append_left (by omega)] at hl
      exact sk.row (h.ul.2 i v l hv hl)
    · rw [List.getElem?_append_right (by omega)] at hv hl
      rw [← e1] at hl
      have h0 : i - us.length = 0 := by
        have := (List.getElem?_eq_some_iff.1 hv).1
        simp at this
        omega
      rw [h0] at hv hl
      simp at hv hl
      subst hv hl
      have hn := sk35.row hp.new
      exact own_low hn (by omega)
  · have hnew : ∀ x ∈ vs ++ us, Apart x (.slice Au ls.length cu) := by
      intro x hx
      rw [List.mem_append] at hx
      rcases hx with hx | hx
      · obtain ⟨i, hi⟩ := List.mem_iff_getElem?.1 hx
        have hil := (List.getElem?_eq_some_iff.1 hi).1
        have e1 := h.tl.1
        exact own_new (h.tl.2 i x lss[i] hi (List.getElem?_eq_getElem (by omega))) hp.new (by omega)
      · obtain ⟨i, hi⟩ := List.mem_iff_getElem?.1 hx
        have hil := (List.getElem?_eq_some_iff.1 hi).1
        have e1 := h.ul.1
        exact own_new (h.ul.2 i x lss[i] hi (List.getElem?_eq_getElem (by omega))) hp.new (by omega)
    have hln : Apart (.slice A ls.length cap) (.slice Au ls.length cu) := own_new hown hp.new (by omega)
    have hdd := h.dist
    unfold Dist at hdd ⊢
    rw [List.pairwise_append] at hdd
    simp only [List.pairwise_append, List.mem_append, List.mem_singleton, List.pairwise_cons, List.Pairwise.nil, List.not_mem_nil, false_implies, implies_true, and_true, true_and]
    refine ⟨⟨hdd.1, fun a ha c hc => ?_⟩, ⟨hdd.2.1, fun a ha c hc => ?_⟩, fun a ha c hc => ?_⟩
    · subst hc; exact (hd a (by simp [ha])).symm
    · subst hc; exact hnew a (by simp [ha])
    · rcases ha with ha | rfl
      · rcases hc with hc | rfl
        · exact hdd.2.2 a ha c hc
        · exact hnew a (by simp [ha])
      · rcases hc with hc | rfl
        · exact hd c (by simp [hc])
        · exact hln
  · have q1 : Below B w w1 := ((Below.refl B w).alloc hB o1).grown hg1 (by omega) (fun k hk => (h.tvs.lt k hk).1)
    have q2 : Below B w w2 := by rw [hw2]; exact q1.setCell (p := ⟨b, 0, none⟩) h.base _
    have q3 : Below B w w3 := q2.trans (hp.below.mono (by omega))
    have q4 : Below B w w4 := (q3.alloc (by omega) o3).grown hg4 (by omega) (fun k hk => (hp.own.lt k hk).1)
    exact q4.setCell (p := ⟨b, 1, none⟩) h.base _

end Go.Proofs.YtggfllbaomfjhaaDoor
