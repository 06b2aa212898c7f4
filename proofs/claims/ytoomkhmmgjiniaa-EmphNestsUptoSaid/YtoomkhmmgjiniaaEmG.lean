/-
  Package emph: what stands in memory while rows are paired (PrSt), and what each write does to it.
-/
import Derived.Test.YtoomkhmmgjiniaaEmE
import Derived.Test.YtoomkhmmgjiniaaEmF
namespace Go.Proofs.Ytoomkhmmgjiniaa
open Go.RowKit Go.Maps Go.ChangeShapes
set_option linter.unusedSimpArgs false
set_option linter.unusedVariables false
set_option maxRecDepth 100000

/-- A piece, its item's slice of nodes, its slice of what begins behind it. -/
abbrev Pm := Pc × Value × Value
def pmC (x : Pm) : List Value := [.int .u8 x.1.it.sg.toNat, .int .i64 x.1.it.ff, .bool x.1.it.op, .bool x.1.it.cl, x.2.1, .int .i64 x.1.it.n, .int .i64 x.1.en, x.2.2]
theorem pmC_length (x : Pm) : (pmC x).length = 8 := rfl
theorem flt_set1 {α : Type} {c : α → List Value} {s : Nat} (hs : ∀ x, (c x).length = s) (j : Nat) (u : Value) (y : α) (hj : j < s) : ∀ (X : List α) (q : Nat) (x : α), X[q]? = some x → c y = (c x).set j u → (flt c X).set (q * s + j) u = flt c (X.set q y)
  | z :: X, 0, x, hx, hy => by
    have e : z = x := Option.some.inj hx
    subst e
    rw [List.set_cons_zero, flt_cons, flt_cons, hy, Nat.zero_mul, Nat.zero_add, List.set_append_left _ _ (by rw [hs]; exact hj)]
  | z :: X, q + 1, x, hx, hy => by
    have ih := flt_set1 hs j u y hj X q x hx hy
    rw [List.set_cons_succ, flt_cons, flt_cons, ← ih]
    have e : (q + 1) * s + j = (c z).length + (q * s + j) := by rw [hs, Nat.succ_mul]; omega
    rw [e, List.set_append_right _ _ (Nat.le_add_right _ _), Nat.add_sub_cancel_left]

def kB (x : Itm) (sg : UInt8) (b : Bool) (r : Int) : Bool := x.sg == sg && (x.op && x.cl) == b && x.ff.tmod 3 == r
def kAt (ps : List Pc) (sg : UInt8) (b : Bool) (r : Int) (i : Nat) : Bool := match ps[i]? with | some p => kB p.it sg b r | none => false
def natI (ops : List Nat) : List Int := ops.map fun i => ((i : Nat) : Int)
def opsK (ps : List Pc) (ops : List Nat) (sg : UInt8) (b : Bool) (r : Int) : List Int := natI (ops.filter (kAt ps sg b r))
theorem opsK_same {ps ps' : List Pc} {ops : List Nat} (h : ∀ i ∈ ops, ∀ sg b r, kAt ps' sg b r i = kAt ps sg b r i) : opsK ps' ops = opsK ps ops := by
  funext sg b r
  unfold opsK
  rw [List.filter_congr fun i hi => h i hi sg b r]
theorem kAt_set {ps : List Pc} {j : Nat} {p p' : Pc} (hj : ps[j]? = some p) (h1 : p'.it.sg = p.it.sg) (h2 : p'.it.op = p.it.op) (h3 : p'.it.cl = p.it.cl) (h4 : p'.it.ff = p.it.ff) (sg : UInt8) (b : Bool) (r : Int) (i : Nat) : kAt (ps.set j p') sg b r i = kAt ps sg b r i := by
  unfold kAt
  by_cases e : j = i
  · subst e
    rw [List.getElem?_set, if_pos rfl, if_pos (List.getElem?_eq_some_iff.1 hj).1, hj]
    simp only [kB, h1, h2, h3, h4]
  · rw [List.getElem?_set, if_neg e]
theorem set_self {α : Type} {l : List α} {i : Nat} {x : α} (h : l[i]? = some x) : l.set i x = l := by
  obtain ⟨h1, rfl⟩ := List.getElem?_eq_some_iff.1 h
  exact List.set_getElem_self h1
theorem kAt_push {ps : List Pc} {p : Pc} {i : Nat} (hi : i < ps.length) (sg : UInt8) (b : Bool) (r : Int) : kAt (ps ++ [p]) sg b r i = kAt ps sg b r i := by
  unfold kAt
  rw [List.getElem?_append_left hi]

/-- What lay below B lies as it lay; and so does every item's block. -/
structure KB (B : Nat) (w w' : World) : Prop where
  below : Below B w w'
  items : ∀ (g : Nat) (cs : Array Value) (fz : Nat × Nat), w.heap[g]? = some (Obj.cells cs 26 fz) → w'.heap[g]? = some (Obj.cells cs 26 fz)
theorem KB.refl (B : Nat) (w : World) : KB B w w := ⟨Below.refl _ _, fun _ _ _ h => h⟩
theorem KB.trans {B : Nat} {a b c : World} (h : KB B a b) (k : KB B b c) : KB B a c := ⟨h.below.trans k.below, fun g cs fz hg => k.items g cs fz (h.items g cs fz hg)⟩
theorem KB.size {B : Nat} {a b : World} (h : KB B a b) : a.heap.size ≤ b.heap.size := h.below.size
theorem KB.of {B : Nat} {w w' : World} (h : Below w.heap.size w w') (hB : B ≤ w.heap.size) : KB B w w' := ⟨h.mono hB, fun g cs fz hg => (h.block g (Array.getElem?_eq_some_iff.1 hg).1).trans hg⟩
theorem KB.thenB {B : Nat} {a b c : World} (h : KB B a b) (k : Below b.heap.size b c) (hB : B ≤ b.heap.size) : KB B a c := h.trans (KB.of k hB)
theorem KB.grown {B : Nat} {a b c : World} (h : KB B a b) {row : Option Nat} (hg : b.grownBy c row) (hB : B ≤ b.heap.size) (hr : ∀ g : Nat, row = some g → B ≤ g ∧ ∀ (cs : Array Value) (fz : Nat × Nat), b.heap[g]? ≠ some (Obj.cells cs 26 fz)) : KB B a c :=
  ⟨h.below.grown hg hB (fun g e => (hr g e).1), fun g cs fz hi => by
    have h1 := h.items g cs fz hi
    exact (hg.block g (Array.getElem?_eq_some_iff.1 h1).1 (fun e => (hr g e.symm).2 cs fz h1)).trans h1⟩
theorem not_item_ints {w : World} {base : Nat} {v : Value} {zs : List Int} (h : w.ownsInts base 3 .i64 v zs) {g : Nat} (hg : v.ownBlock = some g) (cs : Array Value) (fz : Nat × Nat) : w.heap[g]? ≠ some (Obj.cells cs 26 fz) := fun e => ints_ne h e (by decide) hg
theorem not_item_cells {w : World} {g : Nat} {cs0 : Array Value} {t : TypeId} {fz0 : Nat × Nat} (h : w.heap[g]? = some (Obj.cells cs0 t fz0)) (ht : t ≠ 26) (cs : Array Value) (fz : Nat × Nat) : w.heap[g]? ≠ some (Obj.cells cs 26 fz) := fun e => by
  rw [h] at e
  injection e with e
  injection e with _ e
  exact ht e
theorem not_item_map {w : World} {g : Nat} {es : Array MapEntry} {clock : Nat} (h : w.heap[g]? = some (Obj.map es clock)) (cs : Array Value) (fz : Nat × Nat) : w.heap[g]? ≠ some (Obj.cells cs 26 fz) := fun e => by
  rw [h] at e
  cases e
structure PrSt (w : World) (b bp bm cap n : Nat) (D : DU) (Ps : List Pm) (ops opsM : List Nat) (ov : Value) : Prop where
  blk : w.heap[b]? = some (.cells #[.slice (some ⟨bp, 0, none⟩) Ps.length cap, ov, .map (some bm)] 41 (0, 0))
  row : w.ownsRow bp 57 8 (.slice (some ⟨bp, 0, none⟩) Ps.length cap) Ps.length (flt pmC Ps)
  fam : Fam w (bm + 1) bm n D ((ov, natI ops) :: Ps.map fun x => (x.2.2, x.1.bg))
  kd : KD D (opsK (Ps.map Prod.fst) opsM)
  cnt : n + opsM.length ≤ 2 * Ps.length
  small : cap ≤ 1000

section
variable {w : World} {b bp bm cap n : Nat} {D : DU} {Ps : List Pm} {ops opsM : List Nat} {ov : Value}

theorem PrSt.bcells (h : PrSt w b bp bm cap n D Ps ops opsM ov) : w.cell? ⟨b, 0, none⟩ = some (.slice (some ⟨bp, 0, none⟩) Ps.length cap) ∧ w.cell? ⟨b, 1, none⟩ = some ov ∧ w.cell? ⟨b, 2, none⟩ = some (.map (some bm)) ∧ (∀ i, w.frozen? ⟨b, i, none⟩ = false) ∧ b < w.heap.size :=
  ⟨(cell_of_row w b 0 _ _ (0, 0) h.blk).trans rfl, (cell_of_row w b 1 _ _ (0, 0) h.blk).trans rfl, (cell_of_row w b 2 _ _ (0, 0) h.blk).trans rfl, fun i => by simp [World.frozen?, h.blk], (Array.getElem?_eq_some_iff.1 h.blk).1⟩
theorem PrSt.len (h : PrSt w b bp bm cap n D Ps ops opsM ov) : Ps.length ≤ cap := by
  rcases h.row.2 with ⟨e, _⟩ | ⟨g, c, cur, e, _, _, h1, _⟩
  · cases e
  · cases e; exact h1
theorem PrSt.rowObj (h : PrSt w b bp bm cap n D Ps ops opsM ov) : ∃ cur, w.heap[bp]? = some (.cells cur 57 (0, 0)) := by
  rcases h.row.2 with ⟨e, _⟩ | ⟨g, c, cur, e, _, h1, _⟩
  · cases e
  · cases e; exact ⟨cur, h1⟩
theorem PrSt.pcells (h : PrSt w b bp bm cap n D Ps ops opsM ov) {k : Nat} {x : Pm} (hk : Ps[k]? = some x) :
    (w.cell? ⟨bp, k * 8, none⟩ = some (.int .u8 x.1.it.sg.toNat) ∧ w.cell? ⟨bp, k * 8 + 1, none⟩ = some (.int .i64 x.1.it.ff) ∧ w.cell? ⟨bp, k * 8 + 2, none⟩ = some (.bool x.1.it.op) ∧ w.cell? ⟨bp, k * 8 + 3, none⟩ = some (.bool x.1.it.cl) ∧
      w.cell? ⟨bp, k * 8 + 4, none⟩ = some x.2.1 ∧ w.cell? ⟨bp, k * 8 + 5, none⟩ = some (.int .i64 x.1.it.n) ∧ w.cell? ⟨bp, k * 8 + 6, none⟩ = some (.int .i64 x.1.en) ∧ w.cell? ⟨bp, k * 8 + 7, none⟩ = some x.2.2) ∧
    (∀ i, w.frozen? ⟨bp, i, none⟩ = false) ∧ bp < w.heap.size ∧ k < Ps.length := by
  obtain ⟨hlt, hx⟩ := List.getElem?_eq_some_iff.1 hk
  have hc : ∀ j u, (pmC x)[j]? = some u → w.cell? ⟨bp, k * 8 + j, none⟩ = some u := fun j u hu => own_elt pmC_length h.row hlt j u (by rw [hx]; exact hu)
  exact ⟨⟨hc 0 _ rfl, hc 1 _ rfl, hc 2 _ rfl, hc 3 _ rfl, hc 4 _ rfl, hc 5 _ rfl, hc 6 _ rfl, hc 7 _ rfl⟩, fun i => h.row.frozenAt i, (h.row.lt bp rfl).2, hlt⟩
theorem PrSt.below {w' : World} (h : PrSt w b bp bm cap n D Ps ops opsM ov) (hb : Below w.heap.size w w') : PrSt w' b bp bm cap n D Ps ops opsM ov :=
  ⟨(hb.block b (Array.getElem?_eq_some_iff.1 h.blk).1).trans h.blk, ownsRow_below h.row hb, h.fam.below hb, h.kd, h.cnt, h.small⟩
theorem PrSt.row_b (h : PrSt w b bp bm cap n D Ps ops opsM ov) {B : Nat} (hB : B ≤ b) : ∀ g : Nat, some b = some g → B ≤ g ∧ ∀ (cs : Array Value) (fz : Nat × Nat), w.heap[g]? ≠ some (Obj.cells cs 26 fz) := fun g e => by
  cases e; exact ⟨hB, not_item_cells h.blk (by decide)⟩
theorem PrSt.row_bp (h : PrSt w b bp bm cap n D Ps ops opsM ov) {B : Nat} (hB : B ≤ bp) : ∀ g : Nat, some bp = some g → B ≤ g ∧ ∀ (cs : Array Value) (fz : Nat × Nat), w.heap[g]? ≠ some (Obj.cells cs 26 fz) := fun g e => by
  cases e
  obtain ⟨cur, hc⟩ := h.rowObj
  exact ⟨hB, not_item_cells hc (by decide)⟩
theorem PrSt.row_bm (h : PrSt w b bp bm cap n D Ps ops opsM ov) {B : Nat} (hB : B ≤ bm) : ∀ g : Nat, some bm = some g → B ≤ g ∧ ∀ (cs : Array Value) (fz : Nat × Nat), w.heap[g]? ≠ some (Obj.cells cs 26 fz) := fun g e => by
  cases e
  obtain ⟨es, clock, hm⟩ := fam_map h.fam
  exact ⟨hB, not_item_map hm⟩
theorem PrSt.b_ne (h : PrSt w b bp bm cap n D Ps ops opsM ov) : b ≠ bp := by
  obtain ⟨cur, hc⟩ := h.rowObj
  intro e
  have h1 := h.blk
  rw [e, hc] at h1
  injection h1 with h1
  injection h1 with _ h2
  exact absurd h2 (by decide)
theorem PrSt.own_at (h : PrSt w b bp bm cap n D Ps ops opsM ov) {k : Nat} {x : Pm} (hk : Ps[k]? = some x) : w.ownsInts (bm + 1) 3 .i64 x.2.2 x.1.bg :=
  h.fam.own (x.2.2, x.1.bg) (List.mem_cons_of_mem _ (List.mem_map.2 ⟨x, List.mem_of_getElem? hk, rfl⟩))
theorem PrSt.own_ops (h : PrSt w b bp bm cap n D Ps ops opsM ov) : w.ownsInts (bm + 1) 3 .i64 ov (natI ops) := h.fam.own (ov, natI ops) (by simp)

/-- A cell of a piece is written, but its slice. -/
theorem PrSt.setCell (h : PrSt w b bp bm cap n D Ps ops opsM ov) {k : Nat} {x : Pm} (hk : Ps[k]? = some x) (j : Nat) (hj : j < 8) (u : Value) (y : Pm) (hy : pmC y = (pmC x).set j u) (hb : (y.2.2, y.1.bg) = (x.2.2, x.1.bg))
    (h1 : y.1.it.sg = x.1.it.sg) (h2 : y.1.it.op = x.1.it.op) (h3 : y.1.it.cl = x.1.it.cl) (h4 : y.1.it.ff = x.1.it.ff) :
    PrSt (w.setCell ⟨bp, k * 8 + j, none⟩ u) b bp bm cap n D (Ps.set k y) ops opsM ov ∧ w.grownBy (w.setCell ⟨bp, k * 8 + j, none⟩ u) (some bp) := by
  obtain ⟨cur, hc⟩ := h.rowObj
  have hg := setc_grown w bp (k * 8 + j) u
  obtain ⟨s1, _⟩ := h.row.stored (k * 8 + j) u
  rw [flt_set1 pmC_length j u y hj Ps k x hk hy] at s1
  refine ⟨⟨?_, ?_, ?_, ?_, ?_, h.small⟩, hg⟩
  · rw [List.length_set]
    exact (hg.block b (Array.getElem?_eq_some_iff.1 h.blk).1 (fun e => h.b_ne (Option.some.inj e))).trans h.blk
  · rw [List.length_set]; exact s1
  · have e : (Ps.set k y).map (fun x => (x.2.2, x.1.bg)) = Ps.map fun x => (x.2.2, x.1.bg) := by
      rw [List.map_set, hb]
      exact set_self (by rw [List.getElem?_map, hk]; rfl)
    rw [e]
    exact h.fam.keep hg (fun g e => by cases e; exact ⟨cur, _, _, hc, by decide⟩)
  · rw [List.map_set, opsK_same fun i _ sg b r => kAt_set (p := x.1) (by rw [List.getElem?_map, hk]; rfl) h1 h2 h3 h4 sg b r i]
    exact h.kd
  · rw [List.length_set]; exact h.cnt
/-- What begins behind a piece grows; its slice is written. -/
theorem PrSt.begins (h : PrSt w b bp bm cap n D Ps ops opsM ov) {k : Nat} {x : Pm} (hk : Ps[k]? = some x) {w1 : World} {v' : Value} {zs' : List Int} (hg : w.grownBy w1 x.2.2.ownBlock) (ho : w1.ownsInts (bm + 1) 3 .i64 v' zs')
    (loc : v'.ownBlock = x.2.2.ownBlock ∨ ∃ g, v'.ownBlock = some g ∧ w.heap.size ≤ g) :
    PrSt (w1.setCell ⟨bp, k * 8 + 7, none⟩ v') b bp bm cap n D (Ps.set k ({ x.1 with bg := zs' }, x.2.1, v')) ops opsM ov ∧ w1.grownBy (w1.setCell ⟨bp, k * 8 + 7, none⟩ v') (some bp) := by
  obtain ⟨cur, hc⟩ := h.rowObj
  have hox := h.own_at hk
  have hr1 := h.row.kept hg (Or.inr (fun e => ints_ne hox hc (by decide) e.symm))
  have hc1 := (hg.block bp (Array.getElem?_eq_some_iff.1 hc).1 (fun e => ints_ne hox hc (by decide) e.symm)).trans hc
  have hb1 := (hg.block b (Array.getElem?_eq_some_iff.1 h.blk).1 (fun e => ints_ne hox h.blk (by decide) e.symm)).trans h.blk
  have hg2 := setc_grown w1 bp (k * 8 + 7) v'
  obtain ⟨s1, _⟩ := hr1.stored (k * 8 + 7) v'
  rw [flt_set1 pmC_length 7 v' (({ x.1 with bg := zs' } : Pc), x.2.1, v') (by omega) Ps k x hk rfl] at s1
  refine ⟨⟨?_, ?_, ?_, ?_, ?_, h.small⟩, hg2⟩
  · rw [List.length_set]
    exact (hg2.block b (Array.getElem?_eq_some_iff.1 hb1).1 (fun e => h.b_ne (Option.some.inj e))).trans hb1
  · rw [List.length_set]; exact s1
  · have f1 := h.fam.grow (i := k + 1) (v := x.2.2) (zs := x.1.bg) (by rw [List.getElem?_cons_succ, List.getElem?_map, hk]; rfl) hg ho loc
    rw [List.set_cons_succ] at f1
    rw [List.map_set]
    exact f1.keep hg2 (fun g e => by cases e; exact ⟨cur, _, _, hc1, by decide⟩)
  · have e : opsK ((Ps.set k ({ x.1 with bg := zs' }, x.2.1, v')).map Prod.fst) opsM = opsK (Ps.map Prod.fst) opsM := by
      rw [List.map_set]
      exact opsK_same fun i _ sg b r => kAt_set (p := x.1) (p' := ({ x.1 with bg := zs' } : Pc)) (by rw [List.getElem?_map, hk]; rfl) rfl rfl rfl rfl sg b r i
    rw [e]
    exact h.kd
  · rw [List.length_set]; exact h.cnt
/-- The list of openers is another one. -/
theorem PrSt.openers (h : PrSt w b bp bm cap n D Ps ops opsM ov) {w1 : World} {v' : Value} {ops' : List Nat} (hg : w.grownBy w1 ov.ownBlock) (ho : w1.ownsInts (bm + 1) 3 .i64 v' (natI ops'))
    (loc : v'.ownBlock = ov.ownBlock ∨ ∃ g, v'.ownBlock = some g ∧ w.heap.size ≤ g) :
    PrSt (w1.setCell ⟨b, 1, none⟩ v') b bp bm cap n D Ps ops' opsM v' ∧ w1.grownBy (w1.setCell ⟨b, 1, none⟩ v') (some b) := by
  obtain ⟨cur, hc⟩ := h.rowObj
  have hox := h.own_ops
  have hr1 := h.row.kept hg (Or.inr (fun e => ints_ne hox hc (by decide) e.symm))
  have hb1 := (hg.block b (Array.getElem?_eq_some_iff.1 h.blk).1 (fun e => ints_ne hox h.blk (by decide) e.symm)).trans h.blk
  have hg2 := setc_grown w1 b 1 v'
  refine ⟨⟨?_, ?_, ?_, h.kd, h.cnt, h.small⟩, hg2⟩
  · simp [World.setCell, Array.getElem?_modify, hb1]
  · exact hr1.kept hg2 (Or.inr (fun e => h.b_ne (Option.some.inj e).symm))
  · have f1 := h.fam.grow (i := 0) (v := ov) (zs := natI ops) rfl hg ho loc
    rw [List.set_cons_zero] at f1
    exact f1.keep hg2 (fun g e => by cases e; exact ⟨_, _, _, hb1, by decide⟩)
/-- A list of the map is another one. -/
theorem PrSt.kinds (h : PrSt w b bp bm cap n D Ps ops opsM ov) {w1 w2 : World} {u : Value} {zs : List Int} {D' : DU} {opsM' : List Nat} (hu : w.ownsInts (bm + 1) 3 .i64 u zs)
    (hsh : ∀ No : Nat → Prop, w.Shuns bm No → ∀ g, u.ownBlock = some g → ¬ No g) (hg1 : w.grownBy w1 u.ownBlock) (hg2 : w1.grownBy w2 (some bm)) (hgr : w2.ownsGroups Try.prog 60 (bm + 1) 3 .i64 bm (n + 1) D')
    (hs2 : w2.Shuns bm fun g => ∃ x ∈ ((ov, natI ops) :: Ps.map fun x => (x.2.2, x.1.bg)), x.1.ownBlock = some g) (hkd : KD D' (opsK (Ps.map Prod.fst) opsM')) (hcnt : n + 1 + opsM'.length ≤ 2 * Ps.length) :
    PrSt w2 b bp bm cap (n + 1) D' Ps ops opsM' ov := by
  obtain ⟨cur, hc⟩ := h.rowObj
  obtain ⟨es, clock, hm⟩ := fam_map h.fam
  have nb : some b ≠ some bm := fun e => by
    have h1 := h.blk
    rw [Option.some.inj e, hm] at h1
    cases h1
  have np : some bp ≠ some bm := fun e => by
    have h1 := hc
    rw [Option.some.inj e, hm] at h1
    cases h1
  have hb1 := (hg1.block b (Array.getElem?_eq_some_iff.1 h.blk).1 (fun e => ints_ne hu h.blk (by decide) e.symm)).trans h.blk
  have hr1 := h.row.kept hg1 (Or.inr (fun e => ints_ne hu hc (by decide) e.symm))
  exact ⟨(hg2.block b (Array.getElem?_eq_some_iff.1 hb1).1 nb).trans hb1, hr1.kept hg2 (Or.inr np), h.fam.store hu hsh hg1 hg2 hgr hs2, hkd, hcnt, h.small⟩
/-- A piece more. -/
theorem PrSt.push (h : PrSt w b bp bm cap n D Ps ops opsM ov) (hops : ∀ i ∈ opsM, i < Ps.length) {w1 : World} {x : Pm} (hg : w.grownBy w1 (some bp)) (hx : x.1.bg = [] ∧ x.2.2 = .slice none 0 0)
    (ho : w1.ownsRow bp 57 8 (.slice (some ⟨bp, 0, none⟩) (Ps.length + 1) cap) (Ps.length + 1) (flt pmC Ps ++ pmC x)) :
    PrSt (w1.setCell ⟨b, 0, none⟩ (.slice (some ⟨bp, 0, none⟩) (Ps.length + 1) cap)) b bp bm cap n D (Ps ++ [x]) ops opsM ov ∧ w1.grownBy (w1.setCell ⟨b, 0, none⟩ (.slice (some ⟨bp, 0, none⟩) (Ps.length + 1) cap)) (some b) := by
  obtain ⟨cur, hc⟩ := h.rowObj
  have hb1 := (hg.block b (Array.getElem?_eq_some_iff.1 h.blk).1 (fun e => h.b_ne (Option.some.inj e))).trans h.blk
  have hg2 := setc_grown w1 b 0 (.slice (some ⟨bp, 0, none⟩) (Ps.length + 1) cap)
  refine ⟨⟨?_, ?_, ?_, ?_, ?_, h.small⟩, hg2⟩
  · rw [List.length_append]
    simp [World.setCell, Array.getElem?_modify, hb1]
  · rw [List.length_append, flt_append, flt_one]
    exact ho.kept hg2 (Or.inr (fun e => h.b_ne (Option.some.inj e).symm))
  · have f1 := (h.fam.keep hg (fun g e => by cases e; exact ⟨cur, _, _, hc, by decide⟩)).keep hg2 (fun g e => by cases e; exact ⟨_, _, _, hb1, by decide⟩)
    rw [List.map_append, List.map_cons, List.map_nil, hx.1, hx.2]
    exact f1.push
  · rw [List.map_append, List.map_cons, List.map_nil, opsK_same fun i hi sg b r => kAt_push (by rw [List.length_map]; exact hops i hi) sg b r]
    exact h.kd
  · rw [List.length_append]; have := h.cnt; simp; omega
end

end Go.Proofs.Ytoomkhmmgjiniaa
