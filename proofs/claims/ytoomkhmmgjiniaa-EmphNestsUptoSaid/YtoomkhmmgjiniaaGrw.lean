/-
  Lists that share no block; an append in place, or to a new block.
-/
import Derived.Test.YtoomkhmmgjiniaaBase
import Derived.ArgAppend
import Derived.OwnWalk
namespace Go.Proofs.Ytoomkhmmgjiniaa
open Go.RowKit
set_option linter.unusedSimpArgs false
set_option linter.unusedVariables false

/-- No two of them share a block. -/
def Dist (vs : List Value) : Prop := vs.Pairwise Apart
theorem Dist.get {vs : List Value} (h : Dist vs) {i j : Nat} {v u : Value} (hv : vs[i]? = some v) (hu : vs[j]? = some u) (hij : i ≠ j) : Apart v u := by
  obtain ⟨hi, rfl⟩ := List.getElem?_eq_some_iff.1 hv
  obtain ⟨hj, rfl⟩ := List.getElem?_eq_some_iff.1 hu
  rcases Nat.lt_or_gt_of_ne hij with h1 | h1
  · exact List.pairwise_iff_getElem.1 h i j hi hj h1
  · exact (List.pairwise_iff_getElem.1 h j i hj hi h1).symm

/-- An append in place, or to a new block. -/
def Grew (w w' : World) (v v' : Value) : Prop := (v'.ownBlock = v.ownBlock ∧ w.grownBy w' v.ownBlock) ∨ (w.grownBy w' none ∧ ∃ g, v'.ownBlock = some g ∧ w.heap.size ≤ g)

theorem wpList_append_two {P : Program} (w : World) {ops : Array Oper} {rest : List Oper} {o : Oper} {a : Act} {Q : Exit → Act → World → Prop}
    (hg : o.guard = none) (s x : Operand) (t : TypeId) (hop : o.op = Op.call { callee := Callee.builtin Builtin.append, args := #[s, x], argTypes := #[t, t] })
    (base : Nat) (e : TypeId) (i : TypeInfo) (z : Value) (size bytes : Nat) (h1 : P.underlying t = some (.slice e)) (h2 : P.info? e = some i) (h3 : i.zero = some z) (h4 : i.size = size) (h5 : i.bytes = bytes) (h6 : z.cells.size = size) (h7 : 0 < size)
    (A : Option Addr) (n cap : Nat) (xs : List Value) (hs : a.eval s = .slice A n cap) (hown : w.ownsRow base e size (.slice A n cap) n xs) (hbase : base ≤ w.heap.size)
    (ad : Addr) (m c : Nat) (news : List Value) (hx : a.eval x = .slice (some ad) m c) (hn : news.length = m * size) (hc : ∀ j u, news[j]? = some u → w.cell? (ad.add j) = some u) (h1c : ∀ u ∈ news, u.oneCell' = true)
    (hm : 0 < m) (b1 : n + m ≤ maxLen) (b2 : (n + m) * bytes ≤ 140737488355328)
    (hK : ∀ v' w', w'.ownsRow base e size v' (n + m) (xs ++ news) → Grew w w' (.slice A n cap) v' → wpList P ops Q rest (a.put o.dst v') w') :
    wpList P ops Q (o :: rest) a w := by
  by_cases hr : n + m ≤ cap
  · have hA : ∃ g, A = some ⟨g, 0, none⟩ := by
      rcases hown.2 with ⟨h, _⟩ | ⟨g, cap', cur, h, _⟩
      · simp at h; omega
      · simp at h; exact ⟨g, h.1⟩
    obtain ⟨g, rfl⟩ := hA
    exact wpList_append_fits w hg s x t hop base e i size h1 h2 h4 g n cap xs hs hown ad m c news hx hn hc h1c hr fun w' r1 r2 => hK _ w' r1 (Or.inl ⟨rfl, r2⟩)
  · refine wpList_append_grows w hg s x t hop e i z size bytes h1 h2 h3 h4 h5 h6 h7 A n cap xs hs ?_ hown.1 ?_ ad m c news hx hn hc h1c (by omega) b1 b2 ?_
    · intro hA
      subst hA
      rcases hown.2 with ⟨h, h0⟩ | ⟨g, cap', cur, h, _⟩
      · simp at h; exact ⟨h0, h.2⟩
      · simp at h
    · intro b hb j u hu
      subst hb
      rcases hown.2 with ⟨h, _⟩ | ⟨g, cap', cur, h, _⟩
      · simp at h
      · simp at h
        rw [h.1]
        exact hown.cells (g := g) (by rw [h.1]; rfl) j u hu
    · intro v' w' r1 r2
      obtain ⟨g, cap', hv, hb, _⟩ := r1.form (by omega)
      exact hK v' w' (own_low r1 hbase) (Or.inr ⟨r2, g, by rw [hv]; rfl, hb⟩)

end Go.Proofs.Ytoomkhmmgjiniaa
