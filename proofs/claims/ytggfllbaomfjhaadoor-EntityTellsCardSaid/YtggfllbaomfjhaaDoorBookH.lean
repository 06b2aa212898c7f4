/-
  The statements' book of lists: growTexts: what is seen stays seen while lists are grown.
-/
import Derived.Test.YtggfllbaomfjhaaDoorBookG
import Derived.ArgAppend
import Derived.OwnWalk
namespace Go.Proofs.YtggfllbaomfjhaaDoor
open Go.RowKit
set_option linter.unusedSimpArgs false
set_option linter.unusedVariables false

/-- An append in place, or to a new block. -/
def Grew (w w' : World) (v v' : Value) : Prop := (v'.ownBlock = v.ownBlock ∧ w.grownBy w' v.ownBlock) ∨ (w.grownBy w' none ∧ ∃ g, v'.ownBlock = some g ∧ w.heap.size ≤ g)

theorem wpList_append_two {P : Program} (w : World) {ops : Array Oper} {rest : List Oper} {o : Oper} {a : Act} {Q : Exit → Act → World → Prop}
    (hg : o.guard = none) (s x : Operand) (t : TypeId) (hop : o.op = Op.call { callee := Callee.builtin Builtin.append, args := #[s, x], argTypes := #[t, t] })
    (base : Nat) (e : TypeId) (i : TypeInfo) (z : Value) (size bytes : Nat) (h1 : P.underlying t = some (.slice e)) (h2 : P.info? e = some i) (h3 : i.zero = some z) (h4 : i.size = size) (h5 : i.bytes = bytes) (h6 : z.cells.size = size) (h7 : 0 < size)
    (A : Option Addr) (n cap : Nat) (xs : List Value) (hs : a.eval s = .slice A n cap) (hown : w.ownsRow base e size (.slice A n cap) n xs) (hbase : base ≤ w.heap.size)
    (ad : Addr) (m c : Nat) (news : List Value) (hx : a.eval x = .slice (some ad) m c) (hn : news.length = m * size) (hc : ∀ j u, news[j]? = some u → w.cell? (ad.add j) = some u) (h1c : ∀ u ∈ news, u.oneCell' = true)
    (hm : 0 < m) (b1 : n + m ≤ maxLen) (b2 : (n + m) * bytes ≤ 140737488355328)
    (hK : ∀ v' w', w'.ownsRow base e size v' (n + m) (xs ++ news) → Grew w w' (.slice A n cap) v' → wpList P ops Q rest (a.put o.dst v') w') :
    wpList P ops Q (o :: rest) a w := by
  by_cases hr : n + m ≤ cap
  · have hA : ∃ g, A = some ⟨g, 0, none⟩ := by
      rcases hown.2 with ⟨h, _⟩ | ⟨g, cap', cur, h, _⟩
      · simp at h; omega
      · simp at h; exact ⟨g, h.1⟩
    obtain ⟨g, rfl⟩ := hA
    exact wpList_append_fits w hg s x t hop base e i size h1 h2 h4 g n cap xs hs hown ad m c news hx hn hc h1c hr fun w' r1 r2 => hK _ w' r1 (Or.inl ⟨rfl, r2⟩)
  · refine wpList_append_grows w hg s x t hop e i z size bytes h1 h2 h3 h4 h5 h6 h7 A n cap xs hs ?_ hown.1 ?_ ad m c news hx hn hc h1c (by omega) b1 b2 ?_
    · intro hA
      subst hA
      rcases hown.2 with ⟨h, h0⟩ | ⟨g, cap', cur, h, _⟩
      · simp at h; exact ⟨h0, h.2⟩
      · simp at h
    · intro b hb j u hu
      subst hb
      rcases hown.2 with ⟨h, _⟩ | ⟨g, cap', cur, h, _⟩
      · simp at h
      · simp at h
        rw [h.1]
        exact hown.cells (g := g) (by rw [h.1]; rfl) j u hu
    · intro v' w' r1 r2
      obtain ⟨g, cap', hv, hb, _⟩ := r1.form (by omega)
      exact hK v' w' (own_low r1 hbase) (Or.inr ⟨r2, g, by rw [hv]; rfl, hb⟩)

/-- A list of texts that can be read in a block whose cells are texts. -/
def Seen (w : World) (v : Value) (xs : List Value) : Prop :=
  ∃ A c, v = .slice A xs.length c ∧ c ≤ maxLen ∧ xs.length ≤ c ∧ (xs = [] ∨ ∃ g cur, A = some ⟨g, 0, none⟩ ∧ w.heap[g]? = some (.cells cur 9 (0, 0)) ∧ cur.toList.take xs.length = xs)

section
variable {w w' : World} {v : Value} {xs : List Value}
theorem Seen.of_own {B n : Nat} (h : w.ownsRow B 9 1 v n xs) : Seen w v xs := by
  obtain ⟨hl, h⟩ := h
  rw [Nat.mul_one] at hl
  subst hl
  rcases h with ⟨rfl, h0⟩ | ⟨g, cap, cur, rfl, hb, hg, hnc, hcm, hcs, ht⟩
  · have e : xs = [] := List.eq_nil_of_length_eq_zero h0
    subst e
    exact ⟨none, 0, rfl, Nat.zero_le _, Nat.le_refl _, Or.inl rfl⟩
  · rw [Nat.mul_one] at ht
    exact ⟨_, cap, rfl, hcm, hnc, Or.inr ⟨g, cur, rfl, hg, ht⟩⟩
theorem Seen.row (h : Seen w v xs) : ∃ A c, v = .slice A xs.length c ∧ RowOf w A c xs := by
  obtain ⟨A, c, rfl, hc, hl, h⟩ := h
  refine ⟨A, c, rfl, hl, hc, ?_⟩
  rcases h with h | ⟨g, cur, rfl, hg, ht⟩
  · exact Or.inl h
  · refine Or.inr ⟨g, 0, rfl, (Array.getElem?_eq_some_iff.1 hg).1, fun i hi => ?_⟩
    rw [Nat.zero_add, cell_of_row w g i cur _ (0, 0) hg]
    have h2 : xs[i]? = some xs[i] := List.getElem?_eq_getElem hi
    have h3 : (cur.toList.take xs.length)[i]? = some xs[i] := by rw [ht]; exact h2
    rw [List.getElem?_take, if_pos hi] at h3
    simpa using h3
theorem Seen.kept (h : Seen w v xs) {row : Option Nat} (hg : w.grownBy w' row) (hn : ∀ g, v.ownBlock = some g → row ≠ some g) : Seen w' v xs := by
  obtain ⟨A, c, rfl, hc, hl, h⟩ := h
  refine ⟨A, c, rfl, hc, hl, ?_⟩
  rcases h with h | ⟨g, cur, rfl, hh, ht⟩
  · exact Or.inl h
  · exact Or.inr ⟨g, cur, rfl, (hg.block g (Array.getElem?_eq_some_iff.1 hh).1 (fun e => hn g rfl e.symm)).trans hh, ht⟩
theorem Seen.below (h : Seen w v xs) (hb : Below w.heap.size w w') : Seen w' v xs := h.kept (grownBy_of_below hb none) (fun g _ => by simp)
theorem Seen.str (h : Seen w v xs) (hs : StrKept w w') : Seen w' v xs := by
  obtain ⟨A, c, rfl, hc, hl, h⟩ := h
  refine ⟨A, c, rfl, hc, hl, ?_⟩
  rcases h with h | ⟨g, cur, rfl, hh, ht⟩
  · exact Or.inl h
  · exact Or.inr ⟨g, cur, rfl, hs g cur _ hh, ht⟩
theorem Seen.in_place {B n : Nat} {u : Value} {ys : List Value} (h : Seen w v xs) (hu : w'.ownsRow B 9 1 u n (xs ++ ys)) (he : u.ownBlock = v.ownBlock) : Seen w' v xs := by
  obtain ⟨A, c, rfl, hc, hl, h⟩ := h
  refine ⟨A, c, rfl, hc, hl, ?_⟩
  rcases h with h | ⟨g, cur, rfl, hh, ht⟩
  · exact Or.inl h
  · rcases hu.2 with ⟨rfl, _⟩ | ⟨g', cap', cur', rfl, _, hg', _, _, _, ht'⟩
    · simp [Value.ownBlock] at he
    · simp [Value.ownBlock] at he
      subst he
      refine Or.inr ⟨_, cur', rfl, hg', ?_⟩
      have hl2 := hu.1
      rw [List.length_append] at hl2
      have e2 : (cur'.toList.take (n * 1)).take xs.length = (xs ++ ys).take xs.length := by rw [ht']
      rw [List.take_take, Nat.min_eq_left (by omega), List.take_left] at e2
      exact e2
end

/-- The texts while they are grown: the first k are done. -/
structure GrowSt (w0 w : World) (B b : Nat) (tv uv ov : Value) (vs gs : List Value) (f : Nat → List (List UInt8)) (k : Nat) : Prop where
  blk : w.heap[b]? = some (.cells (bookCells tv uv) 42 (0, 0))
  base : B ≤ b
  tvs : w.ownsRow B 25 1 tv vs.length vs
  tlt : ∀ g, tv.ownBlock = some g → g < w0.heap.size
  rows : ∀ (j : Nat) (v : Value), vs[j]? = some v → k ≤ j → w.ownsRow B 9 1 v (f j).length (strs (f j))
  seen : ∀ (j : Nat) (v : Value), vs[j]? = some v → Seen w v (strs (f j))
  ovs : w.ownsRow w0.heap.size 25 1 ov k gs
  outs : ∀ (j : Nat) (u : Value), gs[j]? = some u → Seen w u (strs (marks j 0 ((f j).length + 72)))
  far : ∀ (j : Nat) (u : Value) (i : Nat) (v : Value), gs[j]? = some u → vs[i]? = some v → k ≤ i → Apart u v
  dist : Dist vs
  bel : Below B w0 w
  low : B ≤ w0.heap.size

theorem GrowSt.start {w : World} {B b : Nat} {tv uv : Value} {vs : List Value} {f : Nat → List (List UInt8)} (h : BookV w B b tv uv vs f) (hB : B ≤ w.heap.size) : GrowSt w w B b tv uv (.slice none 0 0) vs [] f 0 :=
  ⟨h.blk, h.base, h.tvs, fun g hg => (h.tvs.lt g hg).2, fun j v hv _ => h.tl j v hv, fun j v hv => Seen.of_own (h.tl j v hv), World.ownsRow_nil _ _ _ _, fun j u hu => by simp at hu, fun j u i v hu => by simp at hu, h.dist, Below.refl _ _, hB⟩

theorem GrowSt.round {w0 w w1 w2 : World} {B b : Nat} {tv uv ov ov' v l : Value} {vs gs : List Value} {f : Nat → List (List UInt8)} {k : Nat} {o : Obj} (h : GrowSt w0 w B b tv uv ov vs gs f k) (hv : vs[k]? = some v)
    (hg1 : w.grownBy w1 v.ownBlock) (hsv : Seen w1 v (strs (f k))) (hl : w1.ownsRow B 9 1 l ((f k).length + 72) (strs (marks k 0 ((f k).length + 72)))) (hlb : l.ownBlock = v.ownBlock ∨ ∃ g, l.ownBlock = some g ∧ w.heap.size ≤ g)
    (hov : w2.ownsRow w0.heap.size 25 1 ov' (k + 1) (gs ++ [l])) (hg2 : (w1.alloc o).grownBy w2 ov.ownBlock) : GrowSt w0 w2 B b tv uv ov' vs (gs ++ [l]) f (k + 1) := by
  have hrow := h.rows k v hv (Nat.le_refl _)
  have hgl : gs.length = k := by have := h.ovs.1; omega
  have ovs1 : w1.ownsRow w0.heap.size 25 1 ov k gs := h.ovs.kept hg1 (own_apart h.ovs hrow (by decide)).ne
  have blk1 : w1.heap[b]? = some (.cells (bookCells tv uv) 42 (0, 0)) := by
    rw [hg1.block b (Array.getElem?_eq_some_iff.1 h.blk).1 (fun e => own_ne hrow h.blk (by decide) e.symm)]
    exact h.blk
  have tvs1 : w1.ownsRow B 25 1 tv vs.length vs := h.tvs.kept hg1 (own_apart h.tvs hrow (by decide)).ne
  have sk : StrKept w1 w2 := (StrKept.alloc w1 o).trans (StrKept.grown (ovs1.alloc o) hg2 (by decide))
  have hto : Apart tv ov := fun g hg hu => by
    have a1 := h.tlt g hg
    have a2 := (h.ovs.lt g hu).1
    omega
  have low := h.low
  have sb := h.bel.size
  have s1 := hg1.size
  have sa : (w1.alloc o).heap.size = w1.heap.size + 1 := by show (w1.heap.push _).size = _; simp
  refine ⟨grow_book blk1 ovs1 hg2, h.base, (tvs1.alloc o).kept hg2 hto.ne, h.tlt, fun j u hu hj => ?_, fun j u hu => ?_, hov, fun j u hu => ?_, fun j u i x hu hx hi => ?_, h.dist, ?_, h.low⟩
  · exact sk.row ((h.rows j u hu (by omega)).kept hg1 (h.dist.get hu hv (by omega)).ne)
  · by_cases e : j = k
    · subst e
      rw [hv] at hu
      cases hu
      exact hsv.str sk
    · exact ((h.seen j u hu).kept hg1 (fun g hg e1 => h.dist.get hu hv e g hg e1)).str sk
  · by_cases hj : j < k
    · rw [List.getElem?_append_left (by omega)] at hu
      exact ((h.outs j u hu).kept hg1 (fun g hg e1 => h.far j u k v hu hv (Nat.le_refl _) g hg e1)).str sk
    · rw [List.getElem?_append_right (by omega)] at hu
      have h0 : j = k := by
        have := (List.getElem?_eq_some_iff.1 hu).1
        simp at this
        omega
      subst h0
      rw [hgl, Nat.sub_self] at hu
      simp at hu
      subst hu
      exact (Seen.of_own hl).str sk
  · by_cases hj : j < k
    · rw [List.getElem?_append_left (by omega)] at hu
      exact h.far j u i x hu hx (by omega)
    · rw [List.getElem?_append_right (by omega)] at hu
      have h0 : j = k := by
        have := (List.getElem?_eq_some_iff.1 hu).1
        simp at this
        omega
      subst h0
      rw [hgl, Nat.sub_self] at hu
      simp at hu
      subst hu
      intro g hg hx2
      rcases hlb with e | ⟨g', e, hg'⟩
      · exact h.dist.get hv hx (by omega) g (by rw [← e]; exact hg) hx2
      · rw [e] at hg
        cases hg
        have := ((h.rows i x hx (by omega)).lt g hx2).2
        omega
  · have q1 : Below B w0 w1 := h.bel.trans (below_of_grown hg1 (fun g hg => (hrow.lt g hg).1) (by omega))
    exact (q1.alloc (by omega) o).grown hg2 (by omega) (fun g hg => by have := (h.ovs.lt g hg).1; omega)

end Go.Proofs.YtggfllbaomfjhaaDoor
