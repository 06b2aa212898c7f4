/- Texts joined: InM InN EmU EmAa InA InF EntA EntB. -/
import Derived.Test.YteihmgcphbijhaaGreatDoorQAH
import Derived.Test.YteihmgcphbijhaaGreatDoorQAD
import Derived.Test.YteihmgcphbijhaaGreatDoorQAB
import Derived.Test.YteihmgcphbijhaaGreatDoorQAF
import Derived.Deep.Slices
import Derived.OpenShut
import Derived.Lib.Strings
import Derived.Lib.MinMax
import Derived.Laws.Rows
namespace Go.Proofs.YteihmgcphbijhaaGreatDoor
open Go.RowKit
set_option linter.unusedSimpArgs false
set_option linter.unusedVariables false
set_option maxRecDepth 100000
/-- Blocks that are written while a text is read. -/
def Nd3 (t : TypeId) : Prop := t = 75 ∨ t = 103 ∨ t = 48
/-- What lay below B lies as it lay; and so does every block but the parser's, items' and openers'. -/
structure KI (B : Nat) (w w' : World) : Prop where
  below : Below B w w'
  rest : ∀ (g : Nat) (cs : Array Value) (t : TypeId) (fz : Nat × Nat), ¬ Nd3 t → w.heap[g]? = some (Obj.cells cs t fz) → w'.heap[g]? = some (Obj.cells cs t fz)
theorem KI.refl (B : Nat) (w : World) : KI B w w := ⟨Below.refl _ _, fun _ _ _ _ _ h => h⟩
theorem KI.trans {B : Nat} {a b c : World} (h : KI B a b) (k : KI B b c) : KI B a c := ⟨h.below.trans k.below, fun g cs t fz ht hg => k.rest g cs t fz ht (h.rest g cs t fz ht hg)⟩
theorem KI.size {B : Nat} {a b : World} (h : KI B a b) : a.heap.size ≤ b.heap.size := h.below.size
theorem KI.of {B : Nat} {w w' : World} (h : Below w.heap.size w w') (hB : B ≤ w.heap.size) : KI B w w' := ⟨h.mono hB, fun g cs t fz _ hg => (h.block g (Array.getElem?_eq_some_iff.1 hg).1).trans hg⟩
theorem KI.thenB {B : Nat} {a b c : World} (h : KI B a b) (k : Below b.heap.size b c) (hB : B ≤ b.heap.size) : KI B a c := h.trans (KI.of k hB)
theorem KI.grown {B : Nat} {a b : World} {row : Option Nat} (hg : a.grownBy b row) (hB : B ≤ a.heap.size) (hr : ∀ g : Nat, row = some g → B ≤ g ∧ ∀ (cs : Array Value) (t : TypeId) (fz : Nat × Nat), a.heap[g]? = some (Obj.cells cs t fz) → Nd3 t) : KI B a b :=
  ⟨(Below.refl _ a).grown hg hB (fun g e => (hr g e).1), fun g cs t fz ht hi => (hg.block g (Array.getElem?_eq_some_iff.1 hi).1 (fun e => ht ((hr g e.symm).2 cs t fz hi))).trans hi⟩
/-- Nodes that may be read, in a block of nodes. -/
def NdAt (w : World) (v : Value) (nd : List Iln) : Prop := ∃ Av cv, v = Value.slice Av nd.length cv ∧ InlsAt w Av cv nd ∧ (nd = [] ∨ ∃ b off cs fz, Av = some ⟨b, off, none⟩ ∧ w.heap[b]? = some (Obj.cells cs 28 fz))
theorem not_nd3 : ¬ Nd3 28 := by unfold Nd3; decide
theorem NdAt.nil (w : World) : NdAt w (.slice none 0 0) [] := ⟨none, 0, rfl, EltsAt.nil _ _ _ _, Or.inl rfl⟩
theorem NdAt.keep {B : Nat} {w w' : World} {v : Value} {nd : List Iln} (h : NdAt w v nd) (k : KI B w w') : NdAt w' v nd := by
  obtain ⟨Av, cv, e, hi, hb⟩ := h
  refine ⟨Av, cv, e, ?_, ?_⟩
  · refine ⟨hi.le, hi.cap, ?_⟩
    rcases hi.cells with h1 | ⟨b, off, e1, hlt, hc⟩
    · exact Or.inl h1
    · rcases hb with h1 | ⟨b', off', cs, fz, e2, hg⟩
      · exact Or.inl h1
      · rw [e1] at e2
        cases e2
        have hg' := k.rest b cs _ fz not_nd3 hg
        refine Or.inr ⟨b, off, e1, (Array.getElem?_eq_some_iff.1 hg').1, fun q hq j u hu => ?_⟩
        rw [← hc q hq j u hu]
        simp [World.cell?, hg, hg']
  · rcases hb with h1 | ⟨b', off', cs, fz, e2, hg⟩
    · exact Or.inl h1
    · exact Or.inr ⟨b', off', cs, fz, e2, k.rest b' cs _ fz not_nd3 hg⟩
theorem NdAt.own {w : World} {B : Nat} {v : Value} {nd : List Iln} (h : w.ownsRow B 28 5 v nd.length (flt ilC nd)) : NdAt w v nd := by
  obtain ⟨A, cap, e, ha⟩ := EltsAt.own ilC_length h
  refine ⟨A, cap, e, ha, ?_⟩
  rcases h.2 with ⟨_, h0⟩ | ⟨g, cap', cur, e', _, hg, _⟩
  · exact Or.inl (List.eq_nil_of_length_eq_zero h0)
  · rw [e] at e'
    cases e'
    exact Or.inr ⟨g, 0, cur, (0, 0), rfl, hg⟩
theorem NdAt.box {w : World} {g : Nat} {x : Iln} (hg : w.heap[g]? = some (.cells #[.int .i64 x.kd, .int .i64 x.dp, .string ⟨x.txt.toArray⟩, .string ⟨x.url.toArray⟩, .string ⟨x.ttl.toArray⟩] 28 (0, 0))) : NdAt w (.slice (some ⟨g, 0, none⟩) 1 1) [x] := by
  refine ⟨some ⟨g, 0, none⟩, 1, rfl, ⟨Nat.le_refl _, by decide, Or.inr ⟨g, 0, rfl, (Array.getElem?_eq_some_iff.1 hg).1, fun k hk j u hu => ?_⟩⟩, Or.inr ⟨g, 0, _, _, rfl, hg⟩⟩
  simp at hk
  subst hk
  rw [cell_of_row w g _ _ _ (0, 0) hg]
  simpa [ilC] using hu
/-- An opener: is it of an image, the place of its sign among the items, the place behind it. -/
structure Opn where
  img : Bool
  item : Nat
  pos : Nat
def opC (o : Opn) : List Value := [.string ⟨(markOf o.img).toArray⟩, .int .i64 o.item, .int .i64 o.pos]
theorem opC_length (o : Opn) : (opC o).length = 3 := rfl
theorem opC_one (x : Opn) : ∀ u ∈ opC x, u.oneCell' = true := by
  intro u hu
  simp [opC] at hu
  rcases hu with rfl | rfl | rfl <;> rfl
structure RawSt (w : World) (B pb : Nat) (s : ByteArray) (atv tbv hv iv ov : Value) (nsh : Nat) (Z : List (Itm × Value)) (O : List Opn) : Prop where
  blk : w.heap[pb]? = some (.cells #[.string s, atv, tbv, hv, iv, ov, .int .i64 nsh] 48 (0, 0))
  base : B ≤ pb
  row : w.ownsRow B 75 5 iv Z.length (flt itC Z)
  nds : ∀ x ∈ Z, NdAt w x.2 x.1.nd
  ops : w.ownsRow B 103 3 ov O.length (flt opC O)
section
variable {w : World} {B pb : Nat} {s : ByteArray} {atv tbv hv iv ov : Value} {nsh : Nat} {Z : List (Itm × Value)} {O : List Opn}
theorem RawSt.bcells (h : RawSt w B pb s atv tbv hv iv ov nsh Z O) : w.cell? ⟨pb, 0, none⟩ = some (.string s) ∧ w.cell? ⟨pb, 1, none⟩ = some atv ∧ w.cell? ⟨pb, 2, none⟩ = some tbv ∧ w.cell? ⟨pb, 3, none⟩ = some hv ∧ w.cell? ⟨pb, 4, none⟩ = some iv ∧ w.cell? ⟨pb, 5, none⟩ = some ov ∧ w.cell? ⟨pb, 6, none⟩ = some (.int .i64 nsh) ∧ (∀ i, w.frozen? ⟨pb, i, none⟩ = false) ∧ pb < w.heap.size :=
  ⟨(cell_of_row w pb 0 _ _ (0, 0) h.blk).trans rfl, (cell_of_row w pb 1 _ _ (0, 0) h.blk).trans rfl, (cell_of_row w pb 2 _ _ (0, 0) h.blk).trans rfl, (cell_of_row w pb 3 _ _ (0, 0) h.blk).trans rfl, (cell_of_row w pb 4 _ _ (0, 0) h.blk).trans rfl, (cell_of_row w pb 5 _ _ (0, 0) h.blk).trans rfl, (cell_of_row w pb 6 _ _ (0, 0) h.blk).trans rfl, fun i => by simp [World.frozen?, h.blk], (Array.getElem?_eq_some_iff.1 h.blk).1⟩
theorem RawSt.baseLe (h : RawSt w B pb s atv tbv hv iv ov nsh Z O) : B ≤ w.heap.size := by have := h.bcells.2.2.2.2.2.2.2.2; have := h.base; omega
theorem RawSt.below {w' : World} (h : RawSt w B pb s atv tbv hv iv ov nsh Z O) (hb : Below w.heap.size w w') : RawSt w' B pb s atv tbv hv iv ov nsh Z O :=
  ⟨(hb.block pb (Array.getElem?_eq_some_iff.1 h.blk).1).trans h.blk, h.base, ownsRow_below h.row hb, fun x hx => (h.nds x hx).keep (KI.of hb (Nat.le_refl _)), ownsRow_below h.ops hb⟩
theorem RawSt.drew (h : RawSt w B pb s atv tbv hv iv ov nsh Z O) (n : Nat) : RawSt (w.drewN n) B pb s atv tbv hv iv ov nsh Z O := h.below (below_drewN' (Below.refl _ w) n)
theorem row_nd3 {n : Nat} {xs : List Value} {z : Nat} {v : Value} {t : TypeId} (h : w.ownsRow B t z v n xs) (ht : Nd3 t) : ∀ g : Nat, v.ownBlock = some g → B ≤ g ∧ ∀ (cs : Array Value) (t : TypeId) (fz : Nat × Nat), w.heap[g]? = some (Obj.cells cs t fz) → Nd3 t := by
  intro g hg
  refine ⟨(h.lt g hg).1, fun cs t' fz hc => ?_⟩
  by_cases e : t = t'
  · rw [← e]; exact ht
  · exact absurd hg (own_ne h hc e)
theorem blk_nd3 (h : RawSt w B pb s atv tbv hv iv ov nsh Z O) : ∀ g : Nat, some pb = some g → B ≤ g ∧ ∀ (cs : Array Value) (t : TypeId) (fz : Nat × Nat), w.heap[g]? = some (Obj.cells cs t fz) → Nd3 t := by
  intro g hg
  cases hg
  refine ⟨h.base, fun cs t fz hc => ?_⟩
  rw [h.blk] at hc
  cases hc
  exact Or.inr (Or.inr rfl)
/-- The items are others. -/
theorem RawSt.setItems (h : RawSt w B pb s atv tbv hv iv ov nsh Z O) {w1 : World} {iv' : Value} {Z' : List (Itm × Value)} (hg : w.grownBy w1 iv.ownBlock) (hr : w1.ownsRow B 75 5 iv' Z'.length (flt itC Z')) (hn : ∀ x ∈ Z', NdAt w x.2 x.1.nd) :
    RawSt (w1.setCell ⟨pb, 4, none⟩ iv') B pb s atv tbv hv iv' ov nsh Z' O ∧ KI B w (w1.setCell ⟨pb, 4, none⟩ iv') := by
  have k1 : KI B w w1 := KI.grown hg h.baseLe (row_nd3 h.row (Or.inl rfl))
  have hb1 := (hg.block pb (Array.getElem?_eq_some_iff.1 h.blk).1 (fun e => own_ne h.row h.blk (by decide) e.symm)).trans h.blk
  have hg2 := setc_grown w1 pb 4 iv'
  have k2 : KI B w1 (w1.setCell ⟨pb, 4, none⟩ iv') := KI.grown hg2 (Nat.le_trans h.baseLe k1.size) (fun g e => by
    cases e
    refine ⟨h.base, fun cs t fz hc => ?_⟩
    rw [hb1] at hc
    cases hc
    exact Or.inr (Or.inr rfl))
  have k := k1.trans k2
  refine ⟨⟨?_, h.base, own_set hr hb1 (by decide) 4 _, fun x hx => (hn x hx).keep k, ?_⟩, k⟩
  · simp [World.setCell, Array.getElem?_modify, hb1]
  · exact own_set (h.ops.kept hg (own_apart h.ops h.row (by decide)).ne) hb1 (by decide) 4 _
/-- The openers are others. -/
theorem RawSt.setOps (h : RawSt w B pb s atv tbv hv iv ov nsh Z O) {w1 : World} {ov' : Value} {O' : List Opn} (hg : w.grownBy w1 ov.ownBlock) (hr : w1.ownsRow B 103 3 ov' O'.length (flt opC O')) :
    RawSt (w1.setCell ⟨pb, 5, none⟩ ov') B pb s atv tbv hv iv ov' nsh Z O' ∧ KI B w (w1.setCell ⟨pb, 5, none⟩ ov') := by
  have k1 : KI B w w1 := KI.grown hg h.baseLe (row_nd3 h.ops (Or.inr (Or.inl rfl)))
  have hb1 := (hg.block pb (Array.getElem?_eq_some_iff.1 h.blk).1 (fun e => own_ne h.ops h.blk (by decide) e.symm)).trans h.blk
  have hg2 := setc_grown w1 pb 5 ov'
  have k2 : KI B w1 (w1.setCell ⟨pb, 5, none⟩ ov') := KI.grown hg2 (Nat.le_trans h.baseLe k1.size) (fun g e => by
    cases e
    refine ⟨h.base, fun cs t fz hc => ?_⟩
    rw [hb1] at hc
    cases hc
    exact Or.inr (Or.inr rfl))
  have k := k1.trans k2
  refine ⟨⟨?_, h.base, ?_, fun x hx => (h.nds x hx).keep k, own_set hr hb1 (by decide) 5 _⟩, k⟩
  · simp [World.setCell, Array.getElem?_modify, hb1]
  · exact own_set (h.row.kept hg (own_apart h.row h.ops (by decide)).ne) hb1 (by decide) 5 _
/-- How many openers are shut. -/
theorem RawSt.setShut (h : RawSt w B pb s atv tbv hv iv ov nsh Z O) (n : Nat) :
    RawSt (w.setCell ⟨pb, 6, none⟩ (.int .i64 n)) B pb s atv tbv hv iv ov n Z O ∧ KI B w (w.setCell ⟨pb, 6, none⟩ (.int .i64 n)) := by
  have hg2 := setc_grown w pb 6 (.int .i64 n)
  have k : KI B w (w.setCell ⟨pb, 6, none⟩ (.int .i64 n)) := KI.grown hg2 h.baseLe (blk_nd3 h)
  refine ⟨⟨?_, h.base, own_set h.row h.blk (by decide) 6 _, fun x hx => (h.nds x hx).keep k, own_set h.ops h.blk (by decide) 6 _⟩, k⟩
  simp [World.setCell, Array.getElem?_modify, h.blk]
/-- A row that is cut short. -/
theorem own_short {α : Type} {c : α → List Value} {z : Nat} {t : TypeId} {A : Option Addr} {n cap : Nat} {X : List α} (hs : ∀ x, (c x).length = z) (h : w.ownsRow B t z (.slice A n cap) X.length (flt c X)) {k : Nat} (hk : k ≤ X.length) : w.ownsRow B t z (.slice A k cap) k (flt c (X.take k)) := by
  have hfl : ∀ (X : List α) (k : Nat), k ≤ X.length → (flt c X).take (k * z) = flt c (X.take k) := by
    intro X
    induction X with
    | nil => intro k hk; simp at hk; subst hk; simp [flt]
    | cons x X ih =>
      intro k hk
      cases k with
      | zero => simp [flt]
      | succ k =>
        rw [List.take_succ_cons, flt_cons, flt_cons, ← ih k (by simpa using hk), Nat.succ_mul]
        have e : k * z + z = (c x).length + k * z := by rw [hs]; omega
        rw [e, List.take_length_add_append]
  refine ⟨by rw [flt_length hs, List.length_take, Nat.min_eq_left hk], ?_⟩
  rcases h.2 with ⟨e1, h0⟩ | ⟨g, cap', cur, e1, hb, hg, hnc, hcm, hcs, ht⟩
  · cases e1
    have : k = 0 := by omega
    subst this
    exact Or.inl ⟨rfl, rfl⟩
  · cases e1
    refine Or.inr ⟨g, cap, cur, rfl, hb, hg, by omega, hcm, hcs, ?_⟩
    rw [← hfl X k hk, ← ht, List.take_take, Nat.min_eq_left (Nat.mul_le_mul_right z hk)]
end
/-- The openers of entries (the first first), from place k on. -/
def opnL : Nat → List Ent → List Opn
  | _, [] => []
  | k, .it _ :: l => opnL (k + 1) l
  | k, .mk img pos _ :: l => ⟨img, k, pos⟩ :: opnL (k + 1) l
theorem opnL_append (a b : List Ent) : ∀ k, opnL k (a ++ b) = opnL k a ++ opnL (k + a.length) b := by
  induction a with
  | nil => intro k; simp [opnL]
  | cons e a ih =>
    intro k
    cases e with
    | it x => simp only [List.cons_append, opnL, ih, List.length_cons]; congr 2; omega
    | mk img pos sh => simp only [List.cons_append, opnL, ih, List.length_cons]; congr 3; omega
theorem opnL_its (m : List Itm) : ∀ k, opnL k (m.map Ent.it) = [] := by
  induction m with
  | nil => intro k; rfl
  | cons x m ih => intro k; exact ih (k + 1)
theorem opnL_shut (l : List Ent) : ∀ k, opnL k (l.map shutE) = opnL k l := by
  induction l with
  | nil => intro k; rfl
  | cons e l ih =>
    intro k
    cases e with
    | it x => exact ih (k + 1)
    | mk img pos sh => cases img <;> (simp only [List.map_cons, shutE, opnL]; rw [ih])
/-- Which of them are shut (the first first): links among the first n. -/
def shOk : Nat → List Ent → Prop
  | _, [] => True
  | n, .it _ :: l => shOk n l
  | n, .mk img _ sh :: l => sh = (!img && decide (0 < n)) ∧ shOk (n - 1) l
theorem shOk_append (a b : List Ent) : ∀ n, shOk n (a ++ b) ↔ shOk n a ∧ shOk (n - (opnL 0 a).length) b := by
  suffices ∀ (a : List Ent) (n k : Nat), shOk n (a ++ b) ↔ shOk n a ∧ shOk (n - (opnL k a).length) b from fun n => this a n 0
  intro a
  induction a with
  | nil => intro n k; simp [shOk, opnL]
  | cons e a ih =>
    intro n k
    cases e with
    | it x => exact ih n (k + 1)
    | mk img pos sh =>
      simp only [List.cons_append, shOk, opnL, List.length_cons]
      rw [ih (n - 1) (k + 1), and_assoc, show n - 1 - (opnL (k + 1) a).length = n - ((opnL (k + 1) a).length + 1) from by omega]
theorem shOk_its (m : List Itm) : ∀ n, shOk n (m.map Ent.it) := by
  induction m with
  | nil => intro n; trivial
  | cons x m ih => intro n; exact ih n
theorem shOk_less (l : List Ent) : ∀ n k, shOk n l → shOk (min n ((opnL k l).length)) l := by
  induction l with
  | nil => intro n k _; trivial
  | cons e l ih =>
    intro n k h
    cases e with
    | it x => exact ih n (k + 1) h
    | mk img pos sh =>
      simp only [shOk, opnL, List.length_cons] at h ⊢
      obtain ⟨h1, h2⟩ := h
      refine ⟨?_, ?_⟩
      · rw [h1]
        congr 1
        exact decide_eq_decide.2 (by omega)
      · have := ih (n - 1) (k + 1) h2
        rw [show min n ((opnL (k + 1) l).length + 1) - 1 = min (n - 1) (opnL (k + 1) l).length from by omega]
        exact this
theorem shOk_all (l : List Ent) : ∀ n k, shOk n l → shOk (opnL k l).length (l.map shutE) := by
  induction l with
  | nil => intro n k _; trivial
  | cons e l ih =>
    intro n k h
    cases e with
    | it x => exact ih n (k + 1) h
    | mk img pos sh =>
      simp only [shOk] at h
      obtain ⟨h1, h2⟩ := h
      have h3 := ih (n - 1) (k + 1) h2
      cases img with
      | false =>
        simp only [List.map_cons, shutE, shOk, opnL, List.length_cons]
        exact ⟨by simp, by simpa using h3⟩
      | true =>
        simp only [List.map_cons, shutE, shOk, opnL, List.length_cons]
        refine ⟨by simpa using h1, by simpa using h3⟩
/-- The parser holds these entries (E: the last first). -/
structure Rep (E : List Ent) (Z : List (Itm × Value)) (O : List Opn) (nsh : Nat) : Prop where
  its : Z.map Prod.fst = E.reverse.map entI
  ops : O = opnL 0 E.reverse
  sh : shOk nsh E.reverse
  le : nsh ≤ O.length
end Go.Proofs.YteihmgcphbijhaaGreatDoor

namespace Go.Proofs.YteihmgcphbijhaaGreatDoor
open Go.RowKit
set_option linter.unusedSimpArgs false
set_option linter.unusedVariables false
theorem Rep.len {E : List Ent} {Z : List (Itm × Value)} {O : List Opn} {nsh : Nat} (h : Rep E Z O nsh) : Z.length = E.length := by
  have := congrArg List.length h.its
  simpa using this
theorem Rep.it {E : List Ent} {Z : List (Itm × Value)} {O : List Opn} {nsh : Nat} (h : Rep E Z O nsh) (x : Itm) (v : Value) : Rep (.it x :: E) (Z ++ [(x, v)]) O nsh := by
  refine ⟨?_, ?_, ?_, h.le⟩
  · rw [List.map_append, h.its, List.reverse_cons, List.map_append]; rfl
  · rw [List.reverse_cons, opnL_append, h.ops]; simp [opnL]
  · rw [List.reverse_cons, shOk_append]
    exact ⟨h.sh, trivial⟩
theorem Rep.mk' {E : List Ent} {Z : List (Itm × Value)} {O : List Opn} {nsh : Nat} (h : Rep E Z O nsh) (img : Bool) (pos : Nat) (v : Value) : Rep (.mk img pos false :: E) (Z ++ [(ndI [wordsI 0 (markOf img)], v)]) (O ++ [⟨img, Z.length, pos⟩]) nsh := by
  have hl := h.le
  refine ⟨?_, ?_, ?_, ?_⟩
  · rw [List.map_append, h.its, List.reverse_cons, List.map_append]; rfl
  · rw [List.reverse_cons, opnL_append, ← h.ops, h.len]; simp [opnL]
  · rw [List.reverse_cons, shOk_append]
    refine ⟨h.sh, ?_, trivial⟩
    rw [← h.ops]
    have : ¬ 0 < nsh - O.length := by omega
    simp [this]
  · rw [List.length_append]; omega
theorem lastMk_its {l : List Ent} (h : lastMk l = none) : ∃ m : List Itm, l = m.map Ent.it := by
  induction l with
  | nil => exact ⟨[], rfl⟩
  | cons e l ih =>
    cases e with
    | mk img pos sh => cases h
    | it x =>
      unfold lastMk at h
      split at h
      · cases h
      · next he => obtain ⟨m, rfl⟩ := ih he; exact ⟨x :: m, rfl⟩
theorem Rep.none {E : List Ent} {Z : List (Itm × Value)} {O : List Opn} {nsh : Nat} (h : Rep E Z O nsh) (hn : lastMk E = none) : O = [] := by
  obtain ⟨m, rfl⟩ := lastMk_its hn
  rw [h.ops, ← List.map_reverse, opnL_its]
section
variable {E : List Ent} {Z : List (Itm × Value)} {O : List Opn} {nsh : Nat} {m : List Itm} {img sh : Bool} {pos : Nat} {l' : List Ent}
theorem Rep.last (h : Rep E Z O nsh) (hm : lastMk E = some (m, (img, pos, sh), l')) :
    O = opnL 0 l'.reverse ++ [⟨img, l'.length, pos⟩] ∧ sh = (!img && decide ((opnL 0 l'.reverse).length < nsh)) ∧ l'.length < Z.length ∧
    (Z.take l'.length).map Prod.fst = l'.reverse.map entI ∧ (Z.drop (l'.length + 1)).map Prod.fst = m.reverse ∧ shOk nsh l'.reverse := by
  have em := lastMk_pot hm
  simp only at em
  have er : E.reverse = l'.reverse ++ (.mk img pos sh :: (m.reverse).map Ent.it) := by
    rw [em, List.reverse_append, List.reverse_cons, List.map_reverse, List.append_assoc]; rfl
  have hits := h.its
  rw [er, List.map_append, List.map_cons, map_ent] at hits
  have hsh := h.sh
  rw [er, shOk_append] at hsh
  obtain ⟨s1, s2, _⟩ := hsh
  have hlen := h.len
  have hel : E.length = m.length + (1 + l'.length) := by rw [em]; simp; omega
  refine ⟨?_, ?_, by omega, ?_, ?_, s1⟩
  · rw [h.ops, er, opnL_append]
    simp only [opnL, opnL_its, List.length_reverse, Nat.zero_add]
  · rw [s2]
    congr 1
    exact decide_eq_decide.2 (by omega)
  · rw [List.map_take, hits, List.take_left' (by simp)]
  · rw [List.map_drop, hits, List.drop_append, List.drop_eq_nil_of_le (by simp)]
    simp
theorem Rep.fail (h : Rep E Z O nsh) (hm : lastMk E = some (m, (img, pos, sh), l')) :
    Rep (m.map Ent.it ++ .it (ndI [wordsI 0 (markOf img)]) :: l') Z (opnL 0 l'.reverse) (min nsh (opnL 0 l'.reverse).length) := by
  have em := lastMk_pot hm
  simp only at em
  obtain ⟨h1, h2, h3, h4, h5, h6⟩ := h.last hm
  have er : (m.map Ent.it ++ .it (ndI [wordsI 0 (markOf img)]) :: l').reverse = l'.reverse ++ (ndI [wordsI 0 (markOf img)] :: m.reverse).map Ent.it := by
    rw [List.reverse_append, List.reverse_cons, List.map_cons, List.map_reverse, List.append_assoc]; rfl
  refine ⟨?_, ?_, ?_, Nat.min_le_right _ _⟩
  · rw [h.its, er, em, List.reverse_append, List.reverse_cons, List.map_append, List.map_append, List.map_append, map_ent, List.map_cons, ← List.map_reverse, map_ent, List.append_assoc]
    rfl
  · rw [er, opnL_append, opnL_its, List.append_nil]
  · rw [er, shOk_append]
    exact ⟨shOk_less _ _ 0 h6, shOk_its _ _⟩
theorem Rep.swap (h : Rep E Z O nsh) (hm : lastMk E = some (m, (img, pos, sh), l')) (x : Itm) (v : Value) :
    Rep (.it x :: l') (Z.take l'.length ++ [(x, v)]) (opnL 0 l'.reverse) (min nsh (opnL 0 l'.reverse).length) := by
  obtain ⟨h1, h2, h3, h4, h5, h6⟩ := h.last hm
  exact Rep.it (E := l') (O := opnL 0 l'.reverse) ⟨h4, rfl, shOk_less _ _ 0 h6, Nat.min_le_right _ _⟩ x v
theorem Rep.link (h : Rep E Z O nsh) (hm : lastMk E = some (m, (img, pos, sh), l')) (x : Itm) (v : Value) :
    Rep (.it x :: l'.map shutE) (Z.take l'.length ++ [(x, v)]) (opnL 0 l'.reverse) (opnL 0 l'.reverse).length := by
  obtain ⟨h1, h2, h3, h4, h5, h6⟩ := h.last hm
  have e1 : (l'.map shutE).reverse = l'.reverse.map shutE := by rw [List.map_reverse]
  refine Rep.it (E := l'.map shutE) (O := opnL 0 l'.reverse) ⟨?_, ?_, ?_, Nat.le_refl _⟩ x v
  · rw [e1, shutE_entI]; exact h4
  · rw [e1, opnL_shut]
  · rw [e1]; exact shOk_all _ _ 0 h6
end
end Go.Proofs.YteihmgcphbijhaaGreatDoor

namespace Go.Proofs.YteihmgcphbijhaaGreatDoor
open Go.RowKit Go.Maps Go.ChangeShapes
set_option linter.unusedSimpArgs false
set_option linter.unusedVariables false
set_option maxRecDepth 100000
theorem elts_block {w : World} {α : Type} {c : α → List Value} {s g : Nat} {t : TypeId} {X : List α} (hs : ∀ x, (c x).length = s) (hg : w.heap[g]? = some (.cells (flt c X).toArray t (0, 0))) (hX : X.length ≤ maxLen) : EltsAt w c s (some ⟨g, 0, none⟩) X.length X := by
  refine ⟨Nat.le_refl _, hX, Or.inr ⟨g, 0, rfl, (Array.getElem?_eq_some_iff.1 hg).1, fun k hk j u hu => ?_⟩⟩
  rw [cell_of_row w g _ _ t (0, 0) hg, Nat.zero_add]
  simpa using flt_get hs X k hk j u hu
end Go.Proofs.YteihmgcphbijhaaGreatDoor

namespace Go.Proofs.YteihmgcphbijhaaGreatDoor
open Go.RowKit Go.Maps Go.ChangeShapes
set_option linter.unusedSimpArgs false
set_option linter.unusedVariables false
set_option maxRecDepth 100000
theorem infoItem : (Tryz.prog.info? 75).map (fun i => (i.zero, i.size, i.bytes)) = some (some (.agg #[.int .u8 0, .int .i64 0, .bool false, .bool false, .slice none 0 0]), 5, 48) := by kernel_rfl
theorem itC_one (x : Itm × Value) (h : ∃ A n c, x.2 = Value.slice A n c) : ∀ u ∈ itC x, u.oneCell' = true := by
  intro u hu
  obtain ⟨A, n, c, e⟩ := h
  simp [itC, e] at hu
  rcases hu with rfl | rfl | rfl | rfl | rfl <;> rfl
theorem its_one (X : List (Itm × Value)) (h : ∀ x ∈ X, ∃ A n c, x.2 = Value.slice A n c) : ∀ u ∈ flt itC X, u.oneCell' = true := by
  intro u hu
  obtain ⟨x, hx, hu⟩ := List.mem_flatMap.1 hu
  exact itC_one x (h x hx) u hu
theorem run_append_none_i {w : World} (base : Nat) (t ty e : TypeId) (i : TypeInfo) (size c : Nat) (ht : Tryz.prog.underlying t = some (.slice e)) (hi : Tryz.prog.info? e = some i)
    (v : Value) (n : Nat) (xs : List Value) (hown : w.ownsRow base e size v n xs) :
    (Builtin.append_ #[t, t] ty #[v, .slice none 0 c]).run Tryz.prog w = .ok v w := by
  rcases hown.2 with ⟨rfl, rfl⟩ | ⟨g, cap, cur, rfl, _, _, hnc, _⟩
  · simp [Builtin.append_, run_underlying ht, sizeOf, typeInfo, hi, Builtin.lenOf, Builtin.firstCells]
  · simp [Builtin.append_, run_underlying ht, sizeOf, typeInfo, hi, Builtin.lenOf, Builtin.firstCells, hnc, storeCells]
/-- Items that may be read behind a list of the call's own. -/
theorem append_itms {w : World} {ops : Array Oper} {rest : List Oper} {o : Oper} {a : Act} {Q : Exit → Act → World → Prop} (hgd : o.guard = none) (s x : Operand)
    (ho : o.op = .call { callee := .builtin .append, args := #[s, x], argTypes := #[45, 45] }) (base : Nat) (v : Value) (X : List (Itm × Value)) (hs : a.eval s = v)
    (hown : w.ownsRow base 75 5 v X.length (flt itC X)) (A : Option Addr) (c : Nat) (more : List (Itm × Value)) (hx : a.eval x = .slice A more.length c) (hrow : EltsAt w itC 5 A c more) (hsl : ∀ x ∈ more, ∃ A n c, x.2 = Value.slice A n c)
    (h63 : X.length + more.length ≤ 1000000) (hbase : base ≤ w.heap.size)
    (h : ∀ v' w', w'.ownsRow base 75 5 v' (X ++ more).length (flt itC (X ++ more)) → w.grownBy w' v.ownBlock → wpList Tryz.prog ops Q rest (a.put o.dst v') w') : wpList Tryz.prog ops Q (o :: rest) a w := by
  obtain ⟨i0, hi, hz0, hz1, hz2⟩ := info_parts infoItem
  cases A with
  | none =>
    obtain rfl : more = [] := by
      rcases hrow.cells with h | ⟨b, off, e, _⟩
      · exact h
      · cases e
    refine wpList_plain hgd fun K hK => ?_
    have hrun := run_append_none_i (w := w) base 45 o.type 75 i0 5 c Tryz.underlying45 hi v X.length (flt itC X) hown
    unfold Oper.wp
    rw [List.length_nil] at hx
    simp [execOp, ho, resolve, invoke, builtin, hs, hx, hrun, Result.andThen]
    exact hK _ _ (h v w (by simpa using hown) ⟨rfl, rfl, rfl, Nat.le_refl _, fun _ _ _ => rfl⟩)
  | some ad =>
    refine wpList_append_own w hgd s x 45 ho base 75 i0 (.agg #[.int .u8 0, .int .i64 0, .bool false, .bool false, .slice none 0 0]) 5 48 Tryz.underlying45 hi hz0 hz1 hz2 rfl (by decide) v X.length (flt itC X) hs hown ad more.length c (flt itC more) hx (flt_length itC_length more) (hrow.flat itC_length (by decide)) (its_one more hsl) (by unfold maxLen; omega) (by omega) hbase ?_
    intro v' w' h2 h3 _
    exact h v' w' (by rw [List.length_append, flt_append]; exact h2) h3
end Go.Proofs.YteihmgcphbijhaaGreatDoor

namespace Go.Proofs.YteihmgcphbijhaaGreatDoor
open Go.RowKit
set_option linter.unusedSimpArgs false
set_option linter.unusedVariables false
set_option maxRecDepth 100000
/-- Nodes that may be read behind a list of the call's own. -/
theorem append_inls {w : World} {ops : Array Oper} {rest : List Oper} {o : Oper} {a : Act} {Q : Exit → Act → World → Prop} (hgd : o.guard = none) (s x : Operand)
    (ho : o.op = .call { callee := .builtin .append, args := #[s, x], argTypes := #[25, 25] }) (base : Nat) (v : Value) (X : List Iln) (hs : a.eval s = v)
    (hown : w.ownsRow base 28 5 v X.length (flt ilC X)) (A : Option Addr) (c : Nat) (more : List Iln) (hx : a.eval x = .slice A more.length c) (hrow : InlsAt w A c more)
    (h63 : X.length + more.length ≤ 1000000000) (hbase : base ≤ w.heap.size)
    (h : ∀ v' w', w'.ownsRow base 28 5 v' (X ++ more).length (flt ilC (X ++ more)) → w.grownBy w' v.ownBlock → wpList Tryz.prog ops Q rest (a.put o.dst v') w') : wpList Tryz.prog ops Q (o :: rest) a w := by
  obtain ⟨i0, hi, hz0, hz1, hz2⟩ := info_parts infoInl
  cases A with
  | none =>
    obtain rfl : more = [] := by
      rcases hrow.cells with h | ⟨b, off, e, _⟩
      · exact h
      · cases e
    refine wpList_plain hgd fun K hK => ?_
    have hrun := run_append_none_i (w := w) base 25 o.type 28 i0 5 c Tryz.underlying25 hi v X.length (flt ilC X) hown
    unfold Oper.wp
    rw [List.length_nil] at hx
    simp [execOp, ho, resolve, invoke, builtin, hs, hx, hrun, Result.andThen]
    exact hK _ _ (h v w (by simpa using hown) ⟨rfl, rfl, rfl, Nat.le_refl _, fun _ _ _ => rfl⟩)
  | some ad =>
    refine wpList_append_own w hgd s x 25 ho base 28 i0 (.agg #[.int .i64 0, .int .i64 0, .string ByteArray.empty, .string ByteArray.empty, .string ByteArray.empty]) 5 64 Tryz.underlying25 hi hz0 hz1 hz2 rfl (by decide) v X.length (flt ilC X) hs hown ad more.length c (flt ilC more) hx (flt_length ilC_length more) (hrow.flat ilC_length (by decide)) (ils_one' more) (by unfold maxLen; omega) (by omega) hbase ?_
    intro v' w' h2 h3 _
    exact h v' w' (by rw [List.length_append, flt_append]; exact h2) h3
theorem inWords_any (s : ByteArray) (w : World) : Calls Tryz.prog 44 #[.string s] w fun e w' => (∃ v, e = .returned v ∧ NdAt w' v [wordsI 0 s.data.toList]) ∧ Below w.heap.size w w' := by
  go_enter Tryz.func44, Tryz.ntmps44
  go_wp2
  go_ret
  exact ⟨⟨_, rfl, NdAt.box (x := wordsI 0 s.data.toList) (heap_alloc_new _ _)⟩, (Below.refl _ _).alloc (Nat.le_refl _) _⟩
theorem own_lit {w : World} {B g : Nat} {x : Iln} (hg : w.heap[g]? = some (.cells (ilC x).toArray 28 (0, 0))) (hB : B ≤ g) : w.ownsRow B 28 5 (.slice (some ⟨g, 0, none⟩) 1 1) 1 (flt ilC [x]) :=
  ⟨by simp [flt, ilC], Or.inr ⟨g, 1, _, rfl, hB, hg, Nat.le_refl _, by decide, rfl, by simp [flt, ilC]⟩⟩
theorem lit_inls {w : World} {g : Nat} {x : Iln} (hg : w.heap[g]? = some (.cells (ilC x).toArray 28 (0, 0))) : InlsAt w (some ⟨g, 0, none⟩) 1 [x] := elts_block (t := 28) (X := [x]) ilC_length (by rw [hg]; simp [flt]) (by show (1 : Nat) ≤ maxLen; decide)
set_option maxHeartbeats 2000000 in
theorem holding_any (x : Iln) (v : Value) (nd : List Iln) (w : World) (h : NdAt w v nd) (hn : nd.length ≤ 1000000) :
    Calls Tryz.prog 50 #[ilV x, v] w fun e w' => (∃ v', e = .returned v' ∧ NdAt w' v' (x :: deepI nd)) ∧ Below w.heap.size w w' := by
  obtain ⟨Av, cv, rfl, hi, _⟩ := h
  obtain ⟨kd, dp, tx, ur, ti⟩ := x
  have HI := Lib.hid hi
  unfold ilV
  dsimp only
  clear hi
  go_enter Tryz.func50, Tryz.ntmps50
  go_wp2_with fail
  have hown0 : ((w.alloc (.cells #[.int .i64 kd, .int .i64 dp, .string ⟨tx.toArray⟩, .string ⟨ur.toArray⟩, .string ⟨ti.toArray⟩] 28)).alloc (.cells #[.int .i64 kd, .int .i64 dp, .string ⟨tx.toArray⟩, .string ⟨ur.toArray⟩, .string ⟨ti.toArray⟩] 28)).ownsRow w.heap.size 28 5 (.slice (some ⟨w.heap.size + 1, 0, none⟩) 1 1) 1 (flt ilC [⟨kd, dp, tx, ur, ti⟩]) := own_lit (heap_alloc2_new _ _ _) (by omega)
  have hB0 : Below w.heap.size w ((w.alloc (.cells #[.int .i64 kd, .int .i64 dp, .string ⟨tx.toArray⟩, .string ⟨ur.toArray⟩, .string ⟨ti.toArray⟩] 28)).alloc (.cells #[.int .i64 kd, .int .i64 dp, .string ⟨tx.toArray⟩, .string ⟨ur.toArray⟩, .string ⟨ti.toArray⟩] 28)) := ((Below.refl _ w).alloc (Nat.le_refl _) _).alloc (by simp) _
  have HO0 := Lib.hid hown0
  have HB0 := Lib.hid hB0
  clear hown0 hB0
  go_loopw [5, 7, 12] (fun av yv i wr => ∃ (k : Nat), i = .int .i64 k ∧ k ≤ nd.length ∧ wr.ownsRow w.heap.size 28 5 av (k + 1) (flt ilC (⟨kd, dp, tx, ur, ti⟩ :: deepI (nd.take k))) ∧ Below w.heap.size w wr) (fun _ _ i _ => nd.length - (intOf i).toNat)
  case atStart => exact ⟨0, rfl, Nat.zero_le _, HO0.out, HB0.out⟩
  case round =>
    obtain ⟨k, rfl, hk, hrow, hbw⟩ := hrel
    obtain ⟨A5, c5, rfl, _⟩ := own_form hrow
    by_cases hp : k < nd.length
    · obtain ⟨b, off, rfl, hb, c0, c1, c2, c3, c4⟩ := InlsAt.cells5 (EltsAt.below HI.out hbw) hp
      have hrow' : wr.ownsRow w.heap.size 28 5 (.slice A5 (k + 1) c5) ((⟨kd, dp, tx, ur, ti⟩ : Iln) :: deepI (nd.take k)).length (flt ilC (⟨kd, dp, tx, ur, ti⟩ :: deepI (nd.take k))) := by
        have e : ((⟨kd, dp, tx, ur, ti⟩ : Iln) :: deepI (nd.take k)).length = k + 1 := by simp [deepI]; omega
        rw [e]; exact hrow
      have htk : (⟨kd, dp, tx, ur, ti⟩ : Iln) :: deepI (nd.take k) ++ [deepOne nd[k]] = ⟨kd, dp, tx, ur, ti⟩ :: deepI (nd.take (k + 1)) := by
        rw [List.take_succ_eq_append_getElem hp, deepI_append]; rfl
      have hlen : ((⟨kd, dp, tx, ur, ti⟩ : Iln) :: deepI (nd.take k)).length = k + 1 := by simp [deepI]; omega
      have HROW := Lib.hid hrow'
      have HTK := Lib.hid htk
      have HLEN := Lib.hid hlen
      have HBW := Lib.hid hbw
      have hbs := hbw.size
      have HP := Lib.hid hp
      clear hrow hrow' htk hlen hbw
      generalize (⟨kd, dp, tx, ur, ti⟩ : Iln) :: deepI (nd.take k) = X at *
      generalize nd[k] = y at *
      obtain ⟨yk, yd, yt, yu, yi⟩ := y
      dsimp only at c0 c1 c2 c3 c4
      unfold deepOne at HTK
      dsimp only at HTK
      rw [show IntKind.i64.wrap (yd + 1) = wrap64 (yd + 1) from by first | rfl | simp only [wrap64, IntKind.wrap_i64]] at HTK
      have hr2 := (HROW.out.alloc (.cells #[.int .i64 yk, .int .i64 (wrap64 (yd + 1)), .string ⟨yt.toArray⟩, .string ⟨yu.toArray⟩, .string ⟨yi.toArray⟩] 28)).alloc (.cells #[.int .i64 yk, .int .i64 (wrap64 (yd + 1)), .string ⟨yt.toArray⟩, .string ⟨yu.toArray⟩, .string ⟨yi.toArray⟩] 28)
      have HR2 := Lib.hid hr2
      have hb2 : Below w.heap.size w ((wr.alloc (.cells #[.int .i64 yk, .int .i64 (wrap64 (yd + 1)), .string ⟨yt.toArray⟩, .string ⟨yu.toArray⟩, .string ⟨yi.toArray⟩] 28)).alloc (.cells #[.int .i64 yk, .int .i64 (wrap64 (yd + 1)), .string ⟨yt.toArray⟩, .string ⟨yu.toArray⟩, .string ⟨yi.toArray⟩] 28)) := (HBW.out.alloc hbs _).alloc (by simp; omega) _
      have HB2 := Lib.hid hb2
      clear hr2 hb2
      go_wp2_with (at_builtin; refine append_inls rfl _ _ rfl w.heap.size _ X rfl HR2.out (some ⟨wr.heap.size + 1, 0, none⟩) 1 [⟨yk, wrap64 (yd + 1), yt, yu, yi⟩] rfl (lit_inls (heap_alloc2_new _ _ _)) (by rw [HLEN.out]; simp; omega) (by simp; omega) ?_)
      intro v6 w6 ho6 hg6
      rw [HTK.out] at ho6
      have HO6 := Lib.hid ho6
      have HB6 := Lib.hid (HB2.out.grown hg6 HB2.out.size (fun r e => (HR2.out.lt r e).1))
      clear ho6 hg6
      go_wp2
      go_roundw
      case rel => exact ⟨k + 1, by go_num, HP.out, by have := HO6.out; rwa [HLEN.out] at this, HB6.out⟩
      case measure => have := HP.out; simp [intOf]; omega
    · obtain rfl : k = nd.length := by omega
      rw [List.take_length] at hrow
      have hnd := NdAt.own (nd := (⟨kd, dp, tx, ur, ti⟩ : Iln) :: deepI nd) (by rw [show ((⟨kd, dp, tx, ur, ti⟩ : Iln) :: deepI nd).length = nd.length + 1 from by simp [deepI]]; exact hrow)
      have HN := Lib.hid hnd
      clear hnd hrow
      go_wp2
      go_ret
      exact ⟨⟨_, rfl, HN.out⟩, hbw⟩
end Go.Proofs.YteihmgcphbijhaaGreatDoor

namespace Go.Proofs.YteihmgcphbijhaaGreatDoor
open Go.RowKit Go.Maps
set_option linter.unusedSimpArgs false
set_option linter.unusedVariables false
set_option maxRecDepth 100000
section
variable {w : World} {B pb : Nat} {s : ByteArray} {atv tbv hv iv ov : Value} {nsh : Nat} {Z : List (Itm × Value)} {O : List Opn}
theorem itm_lit {w : World} {g : Nat} {x : Itm × Value} (hg : w.heap[g]? = some (.cells (itC x).toArray 75 (0, 0))) : EltsAt w itC 5 (some ⟨g, 0, none⟩) 1 [x] := elts_block (t := 75) (X := [x]) itC_length (by rw [hg]; simp [flt]) (by show (1 : Nat) ≤ maxLen; decide)
/-- An item more, whatever it is. -/
theorem RawSt.push (h : RawSt w B pb s atv tbv hv iv ov nsh Z O) (x : Itm × Value) (hx : NdAt w x.2 x.1.nd) {w1 : World} {iv' : Value} (hg : w.grownBy w1 iv.ownBlock) (hr : w1.ownsRow B 75 5 iv' (Z ++ [x]).length (flt itC (Z ++ [x]))) :
    RawSt (w1.setCell ⟨pb, 4, none⟩ iv') B pb s atv tbv hv iv' ov nsh (Z ++ [x]) O ∧ KI B w (w1.setCell ⟨pb, 4, none⟩ iv') :=
  h.setItems hg hr fun y hy => by
    rcases List.mem_append.1 hy with hy | hy
    · exact h.nds y hy
    · rw [List.mem_singleton] at hy; subst hy; exact hx
set_option maxHeartbeats 2000000 in
theorem inAdd_any (h : RawSt w B pb s atv tbv hv iv ov nsh Z O) (v : Value) (nd : List Iln) (hn : NdAt w v nd) (hl : Z.length ≤ 100000) :
    Calls Tryz.prog 24 #[.pointer (some ⟨pb, 0, none⟩), v] w fun e w' => e = .returned (.tuple #[]) ∧ (∃ iv', RawSt w' B pb s atv tbv hv iv' ov nsh (Z ++ [(ndI nd, v)]) O) ∧ KI B w w' := by
  obtain ⟨c0, c1, c2, c3, c4, c5, c6, cf, hlt⟩ := h.bcells
  have cf4 := cf 4
  have hbl := h.baseLe
  obtain ⟨Ai, ci, rfl, _⟩ := own_form h.row
  obtain ⟨Av, cv, rfl, _, _⟩ := id hn
  have HH := Lib.hid h
  have HN := Lib.hid hn
  clear h hn cf
  have hr2 := Lib.hid (HH.out.row.alloc (.cells #[.int .u8 0, .int .i64 0, .bool false, .bool false, .slice Av nd.length cv] 75))
  go_enter Tryz.func24, Tryz.ntmps24
  go_wp2_with (at_builtin; refine append_itms rfl _ _ rfl B _ Z rfl hr2.out (some ⟨w.heap.size, 0, none⟩) 1 [(ndI nd, .slice Av nd.length cv)] rfl (itm_lit (x := (ndI nd, .slice Av nd.length cv)) (heap_alloc_new _ _)) (by intro x hx; simp at hx; subst hx; exact ⟨Av, _, cv, rfl⟩) (by simp; omega) (by simp; omega) ?_)
  intro v6 w6 ho6 hg6
  obtain ⟨A6, c6', rfl, _⟩ := own_form ho6
  have hg := (World.grownBy_alloc w (.cells #[.int .u8 0, .int .i64 0, .bool false, .bool false, .slice Av nd.length cv] 75) (Value.slice Ai Z.length ci).ownBlock).trans hg6
  have hfin := HH.out.push (ndI nd, .slice Av nd.length cv) HN.out hg (by rw [List.length_append, List.length_singleton]; exact ho6)
  have hb6 := (hg.block pb hlt (fun e => own_ne HH.out.row HH.out.blk (by decide) e.symm)).trans HH.out.blk
  have d4 : w6.cell? ⟨pb, 4, none⟩ = some (.slice Ai Z.length ci) := (cell_of_row w6 pb 4 _ _ (0, 0) hb6).trans rfl
  have df : w6.frozen? ⟨pb, 4, none⟩ = false := by simp [World.frozen?, hb6]
  have HF := Lib.hid hfin
  clear hfin ho6 hg6 hg hb6
  go_wp2
  go_end0
  exact ⟨rfl, ⟨_, HF.out.1⟩, HF.out.2⟩
theorem elem_itms : Tryz.prog.elem 45 = 75 := by kernel_rfl
theorem mslice_high (A : Option Addr) (len cap k : Nat) (h : k ≤ cap) (W : World) : (Instr.slice 45 (.slice A len cap) none (some (.int .i64 (k : Int))) none).run Tryz.prog W = .ok (.slice A k cap) W := by
  rw [run_slice_h W 45 A len cap (by kernel_rfl) .i64 (k : Int) (by omega) (by omega)]
  rw [show Tryz.prog.elem 45 = 75 from elem_itms]
  go_simp
def opV (o : Opn) : Value := .agg #[.string ⟨(markOf o.img).toArray⟩, .int .i64 o.item, .int .i64 o.pos]
theorem inBox3 (w : World) (a b c : Value) (t : TypeId) : (w.alloc (.cells #[a, b, c] t)).cell? ⟨w.heap.size, 0, none⟩ = some a ∧ (w.alloc (.cells #[a, b, c] t)).cell? ⟨w.heap.size, 1, none⟩ = some b ∧ (w.alloc (.cells #[a, b, c] t)).cell? ⟨w.heap.size, 2, none⟩ = some c :=
  ⟨(cell_of_row _ _ 0 _ t (0, 0) (heap_alloc_new w _)).trans rfl, (cell_of_row _ _ 1 _ t (0, 0) (heap_alloc_new w _)).trans rfl, (cell_of_row _ _ 2 _ t (0, 0) (heap_alloc_new w _)).trans rfl⟩
set_option maxHeartbeats 4000000 in
theorem replace_any (h : RawSt w B pb s atv tbv hv iv ov nsh Z O) (o : Opn) (hi : o.item ≤ Z.length) (v : Value) (nd : List Iln) (hn : NdAt w v nd) (hl : Z.length ≤ 100000) :
    Calls Tryz.prog 81 #[.pointer (some ⟨pb, 0, none⟩), opV o, v] w fun e w' => e = .returned (.tuple #[]) ∧ (∃ iv', RawSt w' B pb s atv tbv hv iv' ov nsh (Z.take o.item ++ [(ndI nd, v)]) O) ∧ KI B w w' := by
  obtain ⟨img, it, po⟩ := o
  dsimp only at hi ⊢
  unfold opV
  dsimp only
  obtain ⟨Ai, ci, rfl, hci⟩ := own_form h.row
  have bA := (Below.refl _ w).alloc (Nat.le_refl _) (.cells #[.string ⟨(markOf img).toArray⟩, .int .i64 it, .int .i64 po] 103)
  have h1 := h.below bA
  obtain ⟨c0, c1, c2, c3, c4, c5, c6, cf, hlt⟩ := h1.bcells
  have cf4 := cf 4
  have hsl := fun W => mslice_high Ai Z.length ci it (by omega) W
  obtain ⟨x0, x1, x2⟩ := inBox3 w (.string ⟨(markOf img).toArray⟩) (.int .i64 it) (.int .i64 po) 103
  obtain ⟨Av, cv, rfl, _, _⟩ := id hn
  have HH := Lib.hid h1
  have HN := Lib.hid (hn.keep (KI.of (B := B) bA h.baseLe))
  have HKI := Lib.hid (KI.of (B := B) bA h.baseLe)
  have hbl := h.baseLe
  clear h h1 hn cf bA c0 c1 c2 c3 c5 c6
  generalize hw1 : w.alloc (.cells #[.string ⟨(markOf img).toArray⟩, .int .i64 it, .int .i64 po] 103) = w1 at *
  go_enter Tryz.func81, Tryz.ntmps81
  go_wp2_with fail
  have hset := HH.out.setItems (World.grownBy.refl w1 _) (iv' := .slice Ai it ci) (Z' := Z.take it) (by
    have h2 := own_short itC_length HH.out.row hi
    rw [List.length_take, Nat.min_eq_left hi]
    exact h2) (fun x hx => HH.out.nds x (List.mem_of_mem_take hx))
  have hst := hset.1.drew 1
  have hki := HKI.out.trans (hset.2.thenB (below_drewN' (Below.refl _ _) 1) (Nat.le_trans HH.out.baseLe hset.2.size))
  have hnd := (HN.out.keep hset.2).keep (KI.of (B := B) (below_drewN' (Below.refl _ (w1.setCell ⟨pb, 4, none⟩ (.slice Ai it ci))) 1) (Nat.le_trans HH.out.baseLe hset.2.size))
  have ca := inAdd_any hst (.slice Av nd.length cv) nd hnd (by rw [List.length_take]; omega)
  have HK := Lib.hid hki
  clear hset hst hki hnd
  go_region
  go_wp2_with fail
  refine ca.mono ?_
  rintro e w5 ⟨rfl, hst5, hk5⟩
  have HS5 := Lib.hid hst5
  have HK5 := Lib.hid (HK.out.trans hk5)
  clear ca hst5 hk5
  go_wp2
  go_end0
  exact ⟨rfl, HS5.out, HK5.out⟩
def OpAt (w : World) (g : Nat) (a b c : Value) : Prop := w.heap[g]? = some (.cells #[a, b, c] 103 (0, 0))
theorem OpAt.cells {w : World} {g : Nat} {a b c : Value} (h : OpAt w g a b c) : w.cell? ⟨g, 0, none⟩ = some a ∧ w.cell? ⟨g, 1, none⟩ = some b ∧ w.cell? ⟨g, 2, none⟩ = some c ∧ ∀ i, w.frozen? ⟨g, i, none⟩ = false := by
  unfold OpAt at h
  refine ⟨?_, ?_, ?_, fun i => by simp [World.frozen?, h]⟩
  · rw [cell_of_row w _ 0 _ _ (0, 0) h]; rfl
  · rw [cell_of_row w _ 1 _ _ (0, 0) h]; rfl
  · rw [cell_of_row w _ 2 _ _ (0, 0) h]; rfl
theorem OpAt.set {w : World} {g : Nat} {a b c : Value} (h : OpAt w g a b c) (x y z : Value) : OpAt (((w.setCell ⟨g, 0, none⟩ x).setCell ⟨g, 1, none⟩ y).setCell ⟨g, 2, none⟩ z) g x y z := by
  unfold OpAt at *
  simp [World.setCell, Array.getElem?_modify, h]
theorem OpAt.keep {w w' : World} {g : Nat} {a b c : Value} (h : OpAt w g a b c) (e : w'.heap[g]? = w.heap[g]?) : OpAt w' g a b c := e.trans h
theorem ret_op {fn : Func} {p u : Tmp} (hres : fn.results = #[.cell p 103, .tmp u]) {W : World} {g : Nat} {x : ByteArray} {y z : Int} (h : OpAt W g (.string x) (.int .i64 y) (.int .i64 z)) {c : Value} {tmps : Array Value} (h2 : tmps.getD p undef = .pointer (some ⟨g, 0, none⟩)) (h3 : tmps.getD u undef = c) :
    (results fn tmps).run Tryz.prog W = .ok (.tuple #[.agg #[.string x, .int .i64 y, .int .i64 z], c]) W := by
  obtain ⟨c0, c1, c2, _⟩ := h.cells
  rw [results_cell_tmp hres, h2, h3]
  go_simp
theorem elem_opns : Tryz.prog.elem 46 = 103 := by kernel_rfl
theorem oslice_high (A : Option Addr) (len cap k : Nat) (h : k ≤ cap) (W : World) : (Instr.slice 46 (.slice A len cap) none (some (.int .i64 (k : Int))) none).run Tryz.prog W = .ok (.slice A k cap) W := by
  rw [run_slice_h W 46 A len cap (by kernel_rfl) .i64 (k : Int) (by omega) (by omega)]
  rw [show Tryz.prog.elem 46 = 103 from elem_opns]
  go_simp
set_option maxHeartbeats 4000000 in
theorem pop_none (h : RawSt w B pb s atv tbv hv iv ov nsh Z []) : Calls Tryz.prog 79 #[.pointer (some ⟨pb, 0, none⟩)] w fun e w' => e = .returned (.tuple #[.agg #[.string ⟨#[]⟩, .int .i64 0, .int .i64 0], .bool false]) ∧ Below w.heap.size w w' := by
  obtain ⟨Ao, co, rfl, _⟩ := own_form h.ops
  have bA := (Below.refl _ w).alloc (Nat.le_refl _) (.cells #[.string ⟨#[]⟩, .int .i64 0, .int .i64 0] 103)
  have h1 := h.below bA
  obtain ⟨c0, c1, c2, c3, c4, c5, c6, cf, hlt⟩ := h1.bcells
  have hz : OpAt (w.alloc (.cells #[.string ⟨#[]⟩, .int .i64 0, .int .i64 0] 103)) w.heap.size (.string ⟨#[]⟩) (.int .i64 0) (.int .i64 0) := heap_alloc_new w _
  obtain ⟨z0, z1, z2, zf⟩ := hz.cells
  have zf0 := zf 0
  have zf1 := zf 1
  have zf2 := zf 2
  have HS := Lib.hid hz
  have HB := Lib.hid bA
  clear h h1 cf bA hz c0 c1 c2 c3 c4 c6 zf
  rw [List.length_nil] at c5
  go_enter Tryz.func79, Tryz.ntmps79
  go_wp2
  (try simp only [Exit.inBlock, Exit.then])
  refine bodyPost_ret (v := .tuple #[.agg #[.string ⟨#[]⟩, .int .i64 0, .int .i64 0], .bool false]) ?_ rfl ⟨rfl, HB.out⟩
  exact ret_op rfl (g := w.heap.size) HS.out rfl rfl
theorem RawSt.aside (h : RawSt w B pb s atv tbv hv iv ov nsh Z O) {w' : World} {g0 : Nat} (hg : w.grownBy w' (some g0)) (h1 : g0 ≠ pb) (h2 : iv.ownBlock ≠ some g0) (h3 : ov.ownBlock ≠ some g0) (hB : B ≤ g0) (ht : ∀ (cs : Array Value) (t : TypeId) (fz : Nat × Nat), w.heap[g0]? = some (Obj.cells cs t fz) → Nd3 t) :
    RawSt w' B pb s atv tbv hv iv ov nsh Z O ∧ KI B w w' := by
  have k : KI B w w' := KI.grown hg h.baseLe (fun g e => by cases e; exact ⟨hB, ht⟩)
  exact ⟨⟨(hg.block pb (Array.getElem?_eq_some_iff.1 h.blk).1 (fun e => h1 (Option.some.inj e).symm)).trans h.blk, h.base, h.row.kept hg (Or.inr h2), fun x hx => (h.nds x hx).keep k, h.ops.kept hg (Or.inr h3)⟩, k⟩
set_option maxHeartbeats 8000000 in
theorem pop_some {o : Opn} (h : RawSt w B pb s atv tbv hv iv ov nsh Z (O ++ [o])) (hO : O.length ≤ 100000) (hn : nsh ≤ 100000) :
    Calls Tryz.prog 79 #[.pointer (some ⟨pb, 0, none⟩)] w fun e w' => e = .returned (.tuple #[opV o, .bool (!(!o.img && decide (O.length < nsh)))]) ∧ (∃ ov', RawSt w' B pb s atv tbv hv iv ov' (min nsh O.length) Z O) ∧ KI B w w' := by
  obtain ⟨Ao, co, rfl, hco⟩ := own_form h.ops
  have hl1 : (O ++ [o]).length = O.length + 1 := by simp
  have bA := (Below.refl _ w).alloc (Nat.le_refl _) (.cells #[.string ⟨#[]⟩, .int .i64 0, .int .i64 0] 103)
  have h1 := h.below bA
  have b2 := bA.alloc bA.size (.cells #[.string ⟨(markOf o.img).toArray⟩, .int .i64 o.item, .int .i64 o.pos] 103)
  have bB := (Below.refl _ (w.alloc (.cells #[.string ⟨#[]⟩, .int .i64 0, .int .i64 0] 103))).alloc (Nat.le_refl _) (.cells #[.string ⟨(markOf o.img).toArray⟩, .int .i64 o.item, .int .i64 o.pos] 103)
  have h2 := h1.below bB
  have hz : OpAt ((w.alloc (.cells #[.string ⟨#[]⟩, .int .i64 0, .int .i64 0] 103)).alloc (.cells #[.string ⟨(markOf o.img).toArray⟩, .int .i64 o.item, .int .i64 o.pos] 103)) w.heap.size (.string ⟨#[]⟩) (.int .i64 0) (.int .i64 0) := (Below.heap_alloc _ _ _ (by simp)).trans (heap_alloc_new w _)
  have hy : OpAt ((w.alloc (.cells #[.string ⟨#[]⟩, .int .i64 0, .int .i64 0] 103)).alloc (.cells #[.string ⟨(markOf o.img).toArray⟩, .int .i64 o.item, .int .i64 o.pos] 103)) (w.heap.size + 1) (.string ⟨(markOf o.img).toArray⟩) (.int .i64 o.item) (.int .i64 o.pos) := heap_alloc2_new _ _ _
  have hop := h1.ops
  rw [hl1] at hop hco
  obtain ⟨g, cap', cur, ev, hBg, hgl, _, _, hgo, hgc⟩ := own_block hop (by omega)
  injection ev with ev1 _ ev3
  subst ev1 ev3
  have hk : ∀ j u, (opC o)[j]? = some u → (w.alloc (.cells #[.string ⟨#[]⟩, .int .i64 0, .int .i64 0] 103)).cell? ⟨g, O.length * 3 + j, none⟩ = some u := fun j u hu => own_elt opC_length (X := O ++ [o]) (k := O.length) h1.ops (by simp) j u (by simpa using hu)
  have p0 := hk 0 _ rfl
  have p1 := hk 1 _ rfl
  have p2 := hk 2 _ rfl
  simp only [Nat.add_zero] at p0
  obtain ⟨c0, c1, c2, c3, c4, c5, c6, cf, hlt⟩ := h1.bcells
  rw [hl1] at c5
  have cf5 := cf 5
  have cf6 := cf 6
  have hpw : pb < w.heap.size := h.bcells.2.2.2.2.2.2.2.2
  have hsl := fun W => oslice_high (some ⟨g, 0, none⟩) (O.length + 1) co O.length (by omega) W
  -- what is written
  have hs5 := h2.setOps (World.grownBy.refl _ _) (ov' := .slice (some ⟨g, 0, none⟩) O.length co) (O' := O) (by
    have h3 := own_short opC_length h2.ops (k := O.length) (by simp)
    rw [List.take_left' rfl] at h3
    exact h3)
  have hs6 := hs5.1.setShut (min nsh O.length)
  have hki := ((KI.of (B := B) bA h.baseLe).thenB bB h1.baseLe).trans (hs5.2.trans hs6.2)
  have hz6 : ∀ a b c x y z, OpAt (((w.alloc (.cells #[.string ⟨#[]⟩, .int .i64 0, .int .i64 0] 103)).alloc (.cells #[.string ⟨(markOf o.img).toArray⟩, .int .i64 o.item, .int .i64 o.pos] 103))) w.heap.size a b c → OpAt (((((((w.alloc (.cells #[.string ⟨#[]⟩, .int .i64 0, .int .i64 0] 103)).alloc (.cells #[.string ⟨(markOf o.img).toArray⟩, .int .i64 o.item, .int .i64 o.pos] 103)).setCell ⟨pb, 5, none⟩ (.slice (some ⟨g, 0, none⟩) O.length co)).setCell ⟨pb, 6, none⟩ (.int .i64 (min nsh O.length : Nat))).setCell ⟨w.heap.size, 0, none⟩ x).setCell ⟨w.heap.size, 1, none⟩ y).setCell ⟨w.heap.size, 2, none⟩ z) w.heap.size x y z := by
    intro a b c x y z hh
    refine OpAt.set (a := a) (b := b) (c := c) (OpAt.keep hh ?_) x y z
    rw [heap_setCell_other _ ⟨pb, 6, none⟩ _ _ (by show w.heap.size ≠ pb; omega), heap_setCell_other _ ⟨pb, 5, none⟩ _ _ (by show w.heap.size ≠ pb; omega)]
  have hiv := fun g' e => (h.row.lt g' e).2
  have hgw : g < w.heap.size := (h.ops.lt g rfl).2
  have hfin : ∀ x y z, RawSt (((((((w.alloc (.cells #[.string ⟨#[]⟩, .int .i64 0, .int .i64 0] 103)).alloc (.cells #[.string ⟨(markOf o.img).toArray⟩, .int .i64 o.item, .int .i64 o.pos] 103)).setCell ⟨pb, 5, none⟩ (.slice (some ⟨g, 0, none⟩) O.length co)).setCell ⟨pb, 6, none⟩ (.int .i64 (min nsh O.length : Nat))).setCell ⟨w.heap.size, 0, none⟩ x).setCell ⟨w.heap.size, 1, none⟩ y).setCell ⟨w.heap.size, 2, none⟩ z) B pb s atv tbv hv iv (.slice (some ⟨g, 0, none⟩) O.length co) (min nsh O.length) Z O ∧ KI B w (((((((w.alloc (.cells #[.string ⟨#[]⟩, .int .i64 0, .int .i64 0] 103)).alloc (.cells #[.string ⟨(markOf o.img).toArray⟩, .int .i64 o.item, .int .i64 o.pos] 103)).setCell ⟨pb, 5, none⟩ (.slice (some ⟨g, 0, none⟩) O.length co)).setCell ⟨pb, 6, none⟩ (.int .i64 (min nsh O.length : Nat))).setCell ⟨w.heap.size, 0, none⟩ x).setCell ⟨w.heap.size, 1, none⟩ y).setCell ⟨w.heap.size, 2, none⟩ z) := by
    intro x y z
    have hgg := ((setc_grown ((((w.alloc (.cells #[.string ⟨#[]⟩, .int .i64 0, .int .i64 0] 103)).alloc (.cells #[.string ⟨(markOf o.img).toArray⟩, .int .i64 o.item, .int .i64 o.pos] 103)).setCell ⟨pb, 5, none⟩ (.slice (some ⟨g, 0, none⟩) O.length co)).setCell ⟨pb, 6, none⟩ (.int .i64 (min nsh O.length : Nat))) w.heap.size 0 x).trans (setc_grown _ w.heap.size 1 y)).trans (setc_grown _ w.heap.size 2 z)
    have hr := hs6.1.aside hgg (by omega) (fun e => by have := hiv _ e; omega) (fun e => by have := Option.some.inj e; simp at this; omega) h.baseLe (fun cs t fz hc => by
      rw [heap_setCell_other _ ⟨pb, 6, none⟩ _ _ (by show w.heap.size ≠ pb; omega), heap_setCell_other _ ⟨pb, 5, none⟩ _ _ (by show w.heap.size ≠ pb; omega)] at hc
      unfold OpAt at hz
      rw [hz] at hc
      cases hc
      exact Or.inr (Or.inl rfl))
    exact ⟨hr.1, hki.trans hr.2⟩
  have hmin : min (nsh : Int) (O.length : Int) = ((min nsh O.length : Nat) : Int) := by omega
  obtain ⟨y0, y1, y2, yf⟩ := hy.cells
  obtain ⟨z0, z1, z2, zf⟩ := hz.cells
  obtain ⟨d0, d1, d2, d3, d4, d5, d6, df, _⟩ := h2.bcells
  rw [hl1] at d5
  have df5 := df 5
  have df6 := df 6
  have zf0 := zf 0
  have zf1 := zf 1
  have zf2 := zf 2
  have HZ6 := Lib.hid (fun x y z => hz6 _ _ _ x y z hz)
  have HFIN := Lib.hid hfin
  clear hz6 hfin hs5 hs6 hki h h1 h2 bA bB b2 hz hy hop hgo hgc hk cf df zf yf hiv d0 d1 d2 d3 d4 c0 c1 c2 c3 c4
  have ne0 : ¬ pb = w.heap.size := by omega
  have ne1 : ¬ pb = w.heap.size + 1 := by omega
  have HPW := Lib.hid hpw
  have HGW := Lib.hid hgw
  clear hpw hgw hgl hlt
  obtain ⟨img, it, po⟩ := o
  dsimp only at *
  cases img with
  | true =>
    rw [show markOf true = [33, 91] from rfl] at *
    go_enter Tryz.func79, Tryz.ntmps79
    go_wp2
    (try simp only [Exit.inBlock, Exit.then])
    refine bodyPost_ret (v := .tuple #[opV ⟨true, it, po⟩, .bool true]) ?_ rfl ⟨rfl, ⟨_, (HFIN.out _ _ _).1⟩, (HFIN.out _ _ _).2⟩
    exact ret_op rfl (g := w.heap.size) (HZ6.out _ _ _) rfl rfl
  | false =>
    rw [show markOf false = [91] from rfl] at *
    by_cases hlt : O.length < nsh
    · have g1 : decide ((O.length : Int) < (nsh : Int)) = true := by simp; omega
      have e1 : (!(!false && decide (O.length < nsh))) = false := by simp [hlt]
      rw [e1]
      go_enter Tryz.func79, Tryz.ntmps79
      go_wp2
      (try simp only [Exit.inBlock, Exit.then])
      refine bodyPost_ret (v := .tuple #[opV ⟨false, it, po⟩, .bool false]) ?_ rfl ⟨rfl, ⟨_, (HFIN.out _ _ _).1⟩, (HFIN.out _ _ _).2⟩
      exact ret_op rfl (g := w.heap.size) (HZ6.out _ _ _) rfl rfl
    · have g1 : decide ((O.length : Int) < (nsh : Int)) = false := by simp; omega
      have e1 : (!(!false && decide (O.length < nsh))) = true := by simp [hlt]
      rw [e1]
      go_enter Tryz.func79, Tryz.ntmps79
      go_wp2
      (try simp only [Exit.inBlock, Exit.then])
      refine bodyPost_ret (v := .tuple #[opV ⟨false, it, po⟩, .bool true]) ?_ rfl ⟨rfl, ⟨_, (HFIN.out _ _ _).1⟩, (HFIN.out _ _ _).2⟩
      exact ret_op rfl (g := w.heap.size) (HZ6.out _ _ _) rfl rfl
end
end Go.Proofs.YteihmgcphbijhaaGreatDoor

namespace Go.Proofs.YteihmgcphbijhaaGreatDoor
open Go.RowKit
set_option linter.unusedSimpArgs false
set_option linter.unusedVariables false
def namedCells : Array Value := (namedL.flatMap fun e => [Value.string ⟨e.1.toArray⟩, Value.string ⟨e.2.toArray⟩]).toArray
/-- The variable 'named' holds the names and their texts. -/
def NamedIs (w : World) : Prop := ∃ t fr, w.heap[4]? = some (.cells namedCells t fr)
theorem NamedIs.below {w w' : World} (h : NamedIs w) (hb : Below w.heap.size w w') : NamedIs w' := by
  obtain ⟨t, fr, h⟩ := h
  exact ⟨t, fr, (hb.block _ (Array.getElem?_eq_some_iff.1 h).1).trans h⟩
theorem named_index : ∀ k : Nat, k < 23 → ∀ w : World, (Instr.index 222 (.agg namedCells) (.int .i64 k)).run Tryz.prog w = .ok (.agg #[.string (nmB k), .string (txB k)]) w
  | 0, _, _ => by kernel_rfl
  | 1, _, _ => by kernel_rfl
  | 2, _, _ => by kernel_rfl
  | 3, _, _ => by kernel_rfl
  | 4, _, _ => by kernel_rfl
  | 5, _, _ => by kernel_rfl
  | 6, _, _ => by kernel_rfl
  | 7, _, _ => by kernel_rfl
  | 8, _, _ => by kernel_rfl
  | 9, _, _ => by kernel_rfl
  | 10, _, _ => by kernel_rfl
  | 11, _, _ => by kernel_rfl
  | 12, _, _ => by kernel_rfl
  | 13, _, _ => by kernel_rfl
  | 14, _, _ => by kernel_rfl
  | 15, _, _ => by kernel_rfl
  | 16, _, _ => by kernel_rfl
  | 17, _, _ => by kernel_rfl
  | 18, _, _ => by kernel_rfl
  | 19, _, _ => by kernel_rfl
  | 20, _, _ => by kernel_rfl
  | 21, _, _ => by kernel_rfl
  | 22, _, _ => by kernel_rfl
  | n + 23, h, _ => by omega
theorem nm_toList (k : Nat) : (nmB k).toList = (namedL.getD k ([], [])).1 := by rw [ByteArray.toList_eq]; rfl
theorem named_find (l : List UInt8) (k : Nat) (h : k < 23) : ((namedL.drop k).find? fun e => e.1 == l) = if (namedL.getD k ([], [])).1 = l then some (namedL.getD k ([], [])) else (namedL.drop (k + 1)).find? fun e => e.1 == l := by
  have hl := namedL_length
  rw [List.drop_eq_getElem_cons (by omega), List.find?_cons, List.getD_eq_getElem?_getD, List.getElem?_eq_getElem (by omega), Option.getD_some]
  split
  · rename_i h1; rw [if_pos (by simpa using h1)]
  · rename_i h1; rw [if_neg (by simpa using h1)]
def NamedRel (s : ByteArray) (w : World) (i : Value) (wr : World) : Prop :=
  ∃ k : Nat, i = .int .i64 k ∧ k ≤ 23 ∧ Below w.heap.size w wr ∧ ((namedL.drop k).find? fun e => e.1 == s.data.toList) = namedL.find? fun e => e.1 == s.data.toList
/-- What Named answers. -/
def namedR (l : List UInt8) : Value := match lookL l with
  | none => .tuple #[.string ByteArray.empty, .bool false]
  | some t => .tuple #[.string ⟨t.toArray⟩, .bool true]
set_option maxHeartbeats 1000000 in
theorem named_any (s : ByteArray) (w : World) (hn : NamedIs w) :
    Calls Tryz.prog 128 #[.string s] w fun e w' => e = .returned (namedR s.data.toList) ∧ Below w.heap.size w w' := by
  obtain ⟨t, fr, hg⟩ := hn
  go_enter Tryz.func128, Tryz.ntmps128
  go_wp2_with (refine wpList_load_row rfl 222 _ rfl 4 rfl t namedCells fr _ hg Tryz.underlying222 rfl (by kernel_rfl) ?_)
  go_loopw [7] (fun i wr => NamedRel s w i wr) (fun i _ => 23 - (intOf i).toNat)
  case atStart => exact ⟨0, rfl, Nat.zero_le _, Below.refl _ _, rfl⟩
  case round =>
    obtain ⟨k, rfl, hk, hbw, hf⟩ := hrel
    by_cases hp : k < 23
    · have hx := named_index k hp
      have hst := named_find s.data.toList k hp
      have HF := Lib.hid hf
      have HS := Lib.hid hst
      clear hf hst
      by_cases he : (namedL.getD k ([], [])).1 = s.data.toList
      · have fe : ((nmB k).toList == s.toList) = true := by rw [beq_iff_eq, nm_toList, ByteArray.toList_eq]; exact he
        have HR := Lib.hid (show namedR s.data.toList = .tuple #[.string (txB k), .bool true] from by
          have h1 := HS.out
          rw [if_pos he, HF.out] at h1
          unfold namedR lookL
          rw [h1]
          rfl)
        clear he
        go_wp2
        go_ret2
        exact ⟨by rw [HR.out]; rfl, hbw.alloc (by have := hbw.size; omega) _⟩
      · have fe : ((nmB k).toList == s.toList) = false := by
          rw [beq_eq_false_iff_ne, nm_toList, ByteArray.toList_eq]; exact he
        have HR := Lib.hid (show ((namedL.drop (k + 1)).find? fun e => e.1 == s.data.toList) = namedL.find? fun e => e.1 == s.data.toList from by
          have h1 := HS.out
          rw [if_neg he, HF.out] at h1
          exact h1.symm)
        clear he
        go_wp2
        go_roundw
        case rel => exact ⟨k + 1, by go_num, by omega, hbw.alloc (by have := hbw.size; omega) _, HR.out⟩
        case measure => simp [intOf]; omega
    · obtain rfl : k = 23 := by omega
      have HR := Lib.hid (show namedR s.data.toList = .tuple #[.string ByteArray.empty, .bool false] from by
          rw [List.drop_of_length_le (by rw [namedL_length]; omega)] at hf
          unfold namedR lookL
          rw [← hf]
          rfl)
      clear hf
      go_wp2
      go_ret2
      exact ⟨by rw [HR.out]; rfl, hbw⟩
end Go.Proofs.YteihmgcphbijhaaGreatDoor

namespace Go.Proofs.YteihmgcphbijhaaGreatDoor
open Go.RowKit
set_option linter.unusedSimpArgs false
set_option linter.unusedVariables false
theorem ret_i32b {a b : Int} {c d : Bool} (h : a = b) (k : c = d) : Ending.returned (.tuple #[.int .i32 a, .bool c]) = .returned (.tuple #[.int .i32 b, .bool d]) := by rw [h, k]
theorem ret_strint {a b : ByteArray} {c d : Int} (h : a = b) (k : c = d) : Ending.returned (.tuple #[.string a, .int .i64 c]) = .returned (.tuple #[.string b, .int .i64 d]) := by rw [h, k]
theorem digit_any (r base : Int) (w : World) (hb : base = 10 ∨ base = 16) :
    Calls Tryz.prog 127 #[.int .i32 r, .int .i32 base] w fun e w' => e = .returned (.tuple #[.int .i32 (digV base r), .bool (digOk base r)]) ∧ w = w' := by
  rcases hb with rfl | rfl
  · by_cases h1 : 48 ≤ r ∧ r ≤ 57
    · have HV := Lib.hid (show digV 10 r = r - 48 ∧ digOk 10 r = true from by simp [digV, digOk, (inR_iff _ _ _).2 h1])
      obtain ⟨h1, h2⟩ := h1
      go_enter Tryz.func127, Tryz.ntmps127
      go_wp2
      go_ret2
      exact ⟨ret_i32b HV.out.1.symm HV.out.2.symm, rfl⟩
    · have HV := Lib.hid (show digV 10 r = 0 ∧ digOk 10 r = false from by simp [digV, digOk, (inR_f _ _ _).2 h1])
      go_enter Tryz.func127, Tryz.ntmps127
      go_wp2
      all_goals first | omega | (go_ret2; exact ⟨ret_i32b HV.out.1.symm HV.out.2.symm, rfl⟩)
  · by_cases h1 : 48 ≤ r ∧ r ≤ 57
    · have HV := Lib.hid (show digV 16 r = r - 48 ∧ digOk 16 r = true from by simp [digV, digOk, (inR_iff _ _ _).2 h1])
      obtain ⟨h1, h2⟩ := h1
      go_enter Tryz.func127, Tryz.ntmps127
      go_wp2
      go_ret2
      exact ⟨ret_i32b HV.out.1.symm HV.out.2.symm, rfl⟩
    · have n1 := (inR_f _ _ _).2 h1
      by_cases h2 : 97 ≤ r ∧ r ≤ 102
      · have HV := Lib.hid (show digV 16 r = r - 97 + 10 ∧ digOk 16 r = true from by simp [digV, digOk, n1, (inR_iff _ _ _).2 h2]; omega)
        clear n1 h1
        obtain ⟨h1, h2⟩ := h2
        go_enter Tryz.func127, Tryz.ntmps127
        go_wp2
        go_ret2
        exact ⟨ret_i32b HV.out.1.symm HV.out.2.symm, rfl⟩
      · have n2 := (inR_f _ _ _).2 h2
        by_cases h3 : 65 ≤ r ∧ r ≤ 70
        · have HV := Lib.hid (show digV 16 r = r - 65 + 10 ∧ digOk 16 r = true from by simp [digV, digOk, n1, n2, (inR_iff _ _ _).2 h3]; omega)
          clear n1 n2 h1 h2
          obtain ⟨h1, h2⟩ := h3
          go_enter Tryz.func127, Tryz.ntmps127
          go_wp2
          go_ret2
          exact ⟨ret_i32b HV.out.1.symm HV.out.2.symm, rfl⟩
        · have HV := Lib.hid (show digV 16 r = 0 ∧ digOk 16 r = false from by simp [digV, digOk, n1, n2, (inR_f _ _ _).2 h3])
          clear n1 n2
          go_enter Tryz.func127, Tryz.ntmps127
          go_wp2
          all_goals first | omega | (go_ret2; exact ⟨ret_i32b HV.out.1.symm HV.out.2.symm, rfl⟩)
theorem validRune_ok (v : Int) (h : v ≠ 0) : Lib.validRune v = okRune v := by
  rw [Bool.eq_iff_iff]
  simp [Lib.validRune, okRune, inR]
  omega
theorem etext_any (v : Int) (w : World) :
    Calls Tryz.prog 126 #[.int .i32 v] w fun e w' => e = .returned (.string (chrB v)) ∧ w = w' := by
  by_cases h0 : v = 0
  · subst h0
    have HV := Lib.hid (show chrB 0 = Utf8.encode 65533 from rfl)
    go_enter Tryz.func126, Tryz.ntmps126
    go_wp2
    go_ret
    exact ⟨ret_string HV.out.symm, rfl⟩
  · have f0 : (v == 0) = false := by simpa using h0
    have hr := Tryz.utf8_ValidRune v w
    rw [validRune_ok v h0] at hr
    cases ho : okRune v with
    | false =>
      have HV := Lib.hid (show chrB v = Utf8.encode 65533 from by simp [chrB, ho])
      rw [ho] at hr
      have HR := Lib.hid hr
      clear hr ho h0
      go_enter Tryz.func126, Tryz.ntmps126
      go_wp2_with (go_at_call 156; refine HR.out.mono ?_; rintro e w' ⟨rfl, rfl⟩)
      go_ret
      exact ⟨ret_string HV.out.symm, rfl⟩
    | true =>
      have HV := Lib.hid (show chrB v = Utf8.encode v from by simp [chrB, ho])
      rw [ho] at hr
      have HR := Lib.hid hr
      clear hr ho h0
      go_enter Tryz.func126, Tryz.ntmps126
      go_wp2_with (go_at_call 156; refine HR.out.mono ?_; rintro e w' ⟨rfl, rfl⟩)
      go_ret
      exact ⟨ret_string HV.out.symm, rfl⟩
end Go.Proofs.YteihmgcphbijhaaGreatDoor
namespace Go.Proofs.YteihmgcphbijhaaGreatDoor
open Go.RowKit
set_option linter.unusedSimpArgs false
set_option linter.unusedVariables false
theorem drop_ext (s : ByteArray) (f : Nat) : (s.extract f s.size).data.toList = s.data.toList.drop f := by
  rw [ByteArray.data_extract, Array.toList_extract, List.extract_eq_take_drop, List.take_of_length_le]
  simp
theorem ext_size (s : ByteArray) (f : Nat) : (s.extract f s.size).size = s.size - f := by rw [ByteArray.size_extract]; omega
theorem step_lt (base v d : Int) (i : Nat) (hb : 0 ≤ base) (hv : v < base ^ i) (hd : d < base) : v * base + d < base ^ (i + 1) := by
  have h := Int.mul_le_mul_of_nonneg_right (show v + 1 ≤ base ^ i from by omega) hb
  rw [Int.pow_succ]
  rw [Int.add_mul, Int.one_mul] at h
  omega
theorem pow_le (base : Int) (hb : 0 < base) {k m : Nat} (h : k ≤ m) : base ^ k ≤ base ^ m := by
  obtain ⟨d, rfl⟩ := Nat.le.dest h
  rw [Int.pow_add]
  have h1 : 0 < base ^ k := Int.pow_pos hb
  have h2 : 1 ≤ base ^ d := by have : 0 < base ^ d := Int.pow_pos hb; omega
  have h3 := Int.mul_le_mul_of_nonneg_left h2 (Int.le_of_lt h1)
  omega
def NumRel (base : Int) (most : Nat) (T : ByteArray) (w : World) (I : Nat) (n : Value) (wr : World) : Prop :=
  ∃ (k : Nat) (v : Int), n = .int .i32 v ∧ k ≤ T.size ∧ k ≤ most ∧ 0 ≤ v ∧ v < base ^ k ∧ wr.heap[I]? = some (.stringIter T k) ∧ Below w.heap.size w wr ∧ numGo base most (T.data.toList.drop k) k v = numGo base most T.data.toList 0 0
theorem numAt_none {base : Int} {f most : Nat} {s T : ByteArray} (hT : T.data.toList = s.data.toList.drop f) (h : numGo base most T.data.toList 0 0 = none) : numAt base f most s.data.toList = (ByteArray.empty, 0) := by
  unfold numAt
  rw [← hT, h]
theorem numAt_some {base : Int} {f most : Nat} {s T : ByteArray} {v : Int} {i : Nat} (hT : T.data.toList = s.data.toList.drop f) (h : numGo base most T.data.toList 0 0 = some (v, i)) : numAt base f most s.data.toList = (chrB v, f + i + 1) := by
  unfold numAt
  rw [← hT, h]
theorem digOk_high (base r : Int) (h : 128 ≤ r) : digOk base r = false := by
  simp [digOk, inR]; omega
set_option maxHeartbeats 2000000 in
set_option maxRecDepth 100000 in
theorem byNumber10 (s : ByteArray) (w : World) (hf : 2 ≤ s.size) (hs : s.size ≤ 70368744177664) :
    Calls Tryz.prog 96 #[.string s, .int .i64 2, .int .i32 10, .int .i64 7] w fun e w' => e = .returned (.tuple #[.string (numAt 10 2 7 s.data.toList).1, .int .i64 (numAt 10 2 7 s.data.toList).2]) ∧ Below w.heap.size w w' := by
  have hT := drop_ext s 2
  have hz := ext_size s 2
  have HT := Lib.hid hT
  have hz2 : (s.extract 2 s.size).size ≤ 70368744177664 := by omega
  clear hT hz
  go_enter Tryz.func96, Tryz.ntmps96
  go_wp2_with fail
  generalize s.extract 2 s.size = T at *
  go_loopw [10] (fun n wr => NumRel 10 7 T w w.heap.size n wr) (fun _ wr => T.size - wr.iterPos w.heap.size)
  case atStart => exact ⟨0, 0, rfl, Nat.zero_le _, Nat.zero_le _, Int.le_refl _, by decide, World.iter_heap w T 0, (Below.refl _ w).alloc (Nat.le_refl _) _, by simp⟩
  case round =>
    obtain ⟨k, v, rfl, hk, hm, hv0, hv1, hit, hbw, hgo⟩ := hrel
    by_cases hp : k < T.size
    · have hnx : ∀ ty, (Instr.next (.pointer (some ⟨w.heap.size, 0, none⟩)) true ty).run Tryz.prog wr = _ := fun ty => Lib.run_next_any_at wr w.heap.size T k ty hit hp
      have hit2 := Lib.iterAt_heap wr w.heap.size T k (k + (Utf8.decode T k).2) hit
      have hbw2 := Lib.below_iterAt hbw (k := w.heap.size) (by omega) T (k + (Utf8.decode T k).2)
      have Hit := Lib.hid hit
      rw [get_list T k hp] at hgo
      have HG := Lib.hid hgo
      clear hit hbw hgo
      by_cases ha : T[k].toNat < 128
      · have hd : Utf8.decode T k = (T[k].toNat, 1) := decode_ascii T k hp ha
        rw [hd] at hnx hit2 hbw2
        simp only at hnx hit2 hbw2
        clear hd
        obtain ⟨b, hb⟩ : ∃ b, T[k] = b := ⟨_, rfl⟩
        have HB := Lib.hid hb
        rw [hb] at hnx ha
        clear hb
        by_cases h59 : b.toNat = 59
        · have f59 : ((b.toNat : Int) == 59) = true := by simp; omega
          by_cases hk0 : 0 < k
          · have HR := Lib.hid (numAt_some HT.out (HG.out.symm.trans (by rw [HB.out]; exact numGo_end h59 hk0)))
            have HV := Lib.hid hv1
            clear h59 hv1
            go_wp2_with (go_at_call 126; refine (etext_any _ _).mono ?_; rintro e w' ⟨rfl, rfl⟩)
            go_ret2
            exact ⟨ret_strint (by rw [HR.out]) (by rw [HR.out]; simp), hbw2⟩
          · obtain rfl : k = 0 := by omega
            have h59i : (b.toNat : Int) = 59 := by omega
            have hdg := fun w => digit_any b.toNat 10 w (by omega)
            have hok : digOk 10 b.toNat = false := by rw [h59i]; rfl
            rw [hok] at hdg
            have HR := Lib.hid (numAt_none HT.out (HG.out.symm.trans (by rw [HB.out]; exact numGo_none (by omega) (Or.inl hok))))
            have HV := Lib.hid hv1
            have HD := Lib.hid hdg
            clear h59 h59i hv1 hok hdg
            go_wp2_with (go_at_call 127; refine (HD.out _).mono ?_; rintro e w' ⟨rfl, rfl⟩)
            go_ret2
            exact ⟨by rw [HR.out]; rfl, hbw2⟩
        · have f59 : ((b.toNat : Int) == 59) = false := by simp; omega
          have hdg := fun w => digit_any b.toNat 10 w (by omega)
          cases hok : digOk 10 b.toNat with
          | false =>
            rw [hok] at hdg
            have HR := Lib.hid (numAt_none HT.out (HG.out.symm.trans (by rw [HB.out]; exact numGo_none (by omega) (Or.inl hok))))
            have HV := Lib.hid hv1
            have HD := Lib.hid hdg
            clear h59 hv1 hok hdg
            go_wp2_with (go_at_call 127; refine (HD.out _).mono ?_; rintro e w' ⟨rfl, rfl⟩)
            go_ret2
            exact ⟨by rw [HR.out]; rfl, hbw2⟩
          | true =>
            rw [hok] at hdg
            have hbd := digV_bd 10 b.toNat hok (by omega)
            by_cases hmm : k = 7
            · have HR := Lib.hid (numAt_none HT.out (HG.out.symm.trans (by rw [HB.out]; exact numGo_none (by omega) (Or.inr hmm))))
              have HV := Lib.hid hv1
              have HD := Lib.hid hdg
              subst hmm
              clear h59 hv1 hok hdg
              generalize digV 10 b.toNat = d at *
              go_wp2_with (go_at_call 127; refine (HD.out _).mono ?_; rintro e w' ⟨rfl, rfl⟩)
              go_ret2
              exact ⟨by rw [HR.out]; rfl, hbw2⟩
            · have HR := Lib.hid (show numGo 10 7 (T.data.toList.drop (k + 1)) (k + 1) (v * 10 + digV 10 b.toNat) = numGo 10 7 T.data.toList 0 0 from by rw [← numGo_more hok hmm, ← HG.out, HB.out])
              have HP := Lib.hid (step_lt 10 v (digV 10 b.toNat) k (by omega) hv1 hbd.2)
              have hv2 : v < 1000000 := Int.lt_of_lt_of_le hv1 (pow_le 10 (by omega) (show k ≤ 7 - 1 from by omega))
              have fm : ((k : Int) == 7) = false := by simp; omega
              have hkm : k < 7 := by omega
              have HD := Lib.hid hdg
              obtain ⟨hb0, hb1⟩ := hbd
              clear h59 hv1 hok hdg hmm
              generalize digV 10 b.toNat = d at *
              go_wp2_with (go_at_call 127; refine (HD.out _).mono ?_; rintro e w' ⟨rfl, rfl⟩)
              go_roundw
              case rel => exact ⟨k + 1, v * 10 + d, by go_num, by omega, by omega, by omega, HP.out, hit2, hbw2, HR.out⟩
              case measure => simp only [World.iterPos, hit2, Hit.out]; omega
      · have hh := (decode_high T k hp (by omega)).1
        have hdg := fun w => digit_any (Utf8.decode T k).1 10 w (by omega)
        rw [digOk_high 10 _ (by omega)] at hdg
        have f59 : (((Utf8.decode T k).1 : Int) == 59) = false := by simp; omega
        have HR := Lib.hid (numAt_none HT.out (HG.out.symm.trans (numGo_none (by omega) (Or.inl (digOk_high 10 _ (by omega))))))
        have HV := Lib.hid hv1
        have HD := Lib.hid hdg
        clear hv1 hdg hh ha
        generalize (Utf8.decode T k).1 = r at *
        go_wp2_with (go_at_call 127; refine (HD.out _).mono ?_; rintro e w' ⟨rfl, rfl⟩)
        go_ret2
        exact ⟨by rw [HR.out]; rfl, hbw2⟩
    · have hnx : ∀ ty, (Instr.next (.pointer (some ⟨w.heap.size, 0, none⟩)) true ty).run Tryz.prog wr = _ := fun ty => Lib.run_next_end_at wr w.heap.size T k ty hit hp
      have e : T.data.toList.drop k = [] := List.drop_eq_nil_of_le (by simp; omega)
      rw [e] at hgo
      have HR := Lib.hid (numAt_none HT.out (hgo.symm.trans rfl))
      have HV := Lib.hid hv1
      clear e hgo hv1
      go_wp2
      go_ret2
      exact ⟨by rw [HR.out]; rfl, hbw⟩
set_option maxHeartbeats 2000000 in
set_option maxRecDepth 100000 in
theorem byNumber16 (s : ByteArray) (w : World) (hf : 3 ≤ s.size) (hs : s.size ≤ 70368744177664) :
    Calls Tryz.prog 96 #[.string s, .int .i64 3, .int .i32 16, .int .i64 6] w fun e w' => e = .returned (.tuple #[.string (numAt 16 3 6 s.data.toList).1, .int .i64 (numAt 16 3 6 s.data.toList).2]) ∧ Below w.heap.size w w' := by
  have hT := drop_ext s 3
  have hz := ext_size s 3
  have HT := Lib.hid hT
  have hz2 : (s.extract 3 s.size).size ≤ 70368744177664 := by omega
  clear hT hz
  go_enter Tryz.func96, Tryz.ntmps96
  go_wp2_with fail
  generalize s.extract 3 s.size = T at *
  go_loopw [10] (fun n wr => NumRel 16 6 T w w.heap.size n wr) (fun _ wr => T.size - wr.iterPos w.heap.size)
  case atStart => exact ⟨0, 0, rfl, Nat.zero_le _, Nat.zero_le _, Int.le_refl _, by decide, World.iter_heap w T 0, (Below.refl _ w).alloc (Nat.le_refl _) _, by simp⟩
  case round =>
    obtain ⟨k, v, rfl, hk, hm, hv0, hv1, hit, hbw, hgo⟩ := hrel
    by_cases hp : k < T.size
    · have hnx : ∀ ty, (Instr.next (.pointer (some ⟨w.heap.size, 0, none⟩)) true ty).run Tryz.prog wr = _ := fun ty => Lib.run_next_any_at wr w.heap.size T k ty hit hp
      have hit2 := Lib.iterAt_heap wr w.heap.size T k (k + (Utf8.decode T k).2) hit
      have hbw2 := Lib.below_iterAt hbw (k := w.heap.size) (by omega) T (k + (Utf8.decode T k).2)
      have Hit := Lib.hid hit
      rw [get_list T k hp] at hgo
      have HG := Lib.hid hgo
      clear hit hbw hgo
      by_cases ha : T[k].toNat < 128
      · have hd : Utf8.decode T k = (T[k].toNat, 1) := decode_ascii T k hp ha
        rw [hd] at hnx hit2 hbw2
        simp only at hnx hit2 hbw2
        clear hd
        obtain ⟨b, hb⟩ : ∃ b, T[k] = b := ⟨_, rfl⟩
        have HB := Lib.hid hb
        rw [hb] at hnx ha
        clear hb
        by_cases h59 : b.toNat = 59
        · have f59 : ((b.toNat : Int) == 59) = true := by simp; omega
          by_cases hk0 : 0 < k
          · have HR := Lib.hid (numAt_some HT.out (HG.out.symm.trans (by rw [HB.out]; exact numGo_end h59 hk0)))
            have HV := Lib.hid hv1
            clear h59 hv1
            go_wp2_with (go_at_call 126; refine (etext_any _ _).mono ?_; rintro e w' ⟨rfl, rfl⟩)
            go_ret2
            exact ⟨ret_strint (by rw [HR.out]) (by rw [HR.out]; simp), hbw2⟩
          · obtain rfl : k = 0 := by omega
            have h59i : (b.toNat : Int) = 59 := by omega
            have hdg := fun w => digit_any b.toNat 16 w (by omega)
            have hok : digOk 16 b.toNat = false := by rw [h59i]; rfl
            rw [hok] at hdg
            have HR := Lib.hid (numAt_none HT.out (HG.out.symm.trans (by rw [HB.out]; exact numGo_none (by omega) (Or.inl hok))))
            have HV := Lib.hid hv1
            have HD := Lib.hid hdg
            clear h59 h59i hv1 hok hdg
            go_wp2_with (go_at_call 127; refine (HD.out _).mono ?_; rintro e w' ⟨rfl, rfl⟩)
            go_ret2
            exact ⟨by rw [HR.out]; rfl, hbw2⟩
        · have f59 : ((b.toNat : Int) == 59) = false := by simp; omega
          have hdg := fun w => digit_any b.toNat 16 w (by omega)
          cases hok : digOk 16 b.toNat with
          | false =>
            rw [hok] at hdg
            have HR := Lib.hid (numAt_none HT.out (HG.out.symm.trans (by rw [HB.out]; exact numGo_none (by omega) (Or.inl hok))))
            have HV := Lib.hid hv1
            have HD := Lib.hid hdg
            clear h59 hv1 hok hdg
            go_wp2_with (go_at_call 127; refine (HD.out _).mono ?_; rintro e w' ⟨rfl, rfl⟩)
            go_ret2
            exact ⟨by rw [HR.out]; rfl, hbw2⟩
          | true =>
            rw [hok] at hdg
            have hbd := digV_bd 16 b.toNat hok (by omega)
            by_cases hmm : k = 6
            · have HR := Lib.hid (numAt_none HT.out (HG.out.symm.trans (by rw [HB.out]; exact numGo_none (by omega) (Or.inr hmm))))
              have HV := Lib.hid hv1
              have HD := Lib.hid hdg
              subst hmm
              clear h59 hv1 hok hdg
              generalize digV 16 b.toNat = d at *
              go_wp2_with (go_at_call 127; refine (HD.out _).mono ?_; rintro e w' ⟨rfl, rfl⟩)
              go_ret2
              exact ⟨by rw [HR.out]; rfl, hbw2⟩
            · have HR := Lib.hid (show numGo 16 6 (T.data.toList.drop (k + 1)) (k + 1) (v * 16 + digV 16 b.toNat) = numGo 16 6 T.data.toList 0 0 from by rw [← numGo_more hok hmm, ← HG.out, HB.out])
              have HP := Lib.hid (step_lt 16 v (digV 16 b.toNat) k (by omega) hv1 hbd.2)
              have hv2 : v < 1048576 := Int.lt_of_lt_of_le hv1 (pow_le 16 (by omega) (show k ≤ 6 - 1 from by omega))
              have fm : ((k : Int) == 6) = false := by simp; omega
              have hkm : k < 6 := by omega
              have HD := Lib.hid hdg
              obtain ⟨hb0, hb1⟩ := hbd
              clear h59 hv1 hok hdg hmm
              generalize digV 16 b.toNat = d at *
              go_wp2_with (go_at_call 127; refine (HD.out _).mono ?_; rintro e w' ⟨rfl, rfl⟩)
              go_roundw
              case rel => exact ⟨k + 1, v * 16 + d, by go_num, by omega, by omega, by omega, HP.out, hit2, hbw2, HR.out⟩
              case measure => simp only [World.iterPos, hit2, Hit.out]; omega
      · have hh := (decode_high T k hp (by omega)).1
        have hdg := fun w => digit_any (Utf8.decode T k).1 16 w (by omega)
        rw [digOk_high 16 _ (by omega)] at hdg
        have f59 : (((Utf8.decode T k).1 : Int) == 59) = false := by simp; omega
        have HR := Lib.hid (numAt_none HT.out (HG.out.symm.trans (numGo_none (by omega) (Or.inl (digOk_high 16 _ (by omega))))))
        have HV := Lib.hid hv1
        have HD := Lib.hid hdg
        clear hv1 hdg hh ha
        generalize (Utf8.decode T k).1 = r at *
        go_wp2_with (go_at_call 127; refine (HD.out _).mono ?_; rintro e w' ⟨rfl, rfl⟩)
        go_ret2
        exact ⟨by rw [HR.out]; rfl, hbw2⟩
    · have hnx : ∀ ty, (Instr.next (.pointer (some ⟨w.heap.size, 0, none⟩)) true ty).run Tryz.prog wr = _ := fun ty => Lib.run_next_end_at wr w.heap.size T k ty hit hp
      have e : T.data.toList.drop k = [] := List.drop_eq_nil_of_le (by simp; omega)
      rw [e] at hgo
      have HR := Lib.hid (numAt_none HT.out (hgo.symm.trans rfl))
      have HV := Lib.hid hv1
      clear e hgo hv1
      go_wp2
      go_ret2
      exact ⟨by rw [HR.out]; rfl, hbw⟩
end Go.Proofs.YteihmgcphbijhaaGreatDoor
namespace Go.Proofs.YteihmgcphbijhaaGreatDoor
open Go.RowKit
set_option linter.unusedSimpArgs false
set_option linter.unusedVariables false
theorem nameGo_end {b : UInt8} {l : List UInt8} {i : Nat} (h : b.toNat = 59) : nameGo (b :: l) i = some i := by rw [nameGo, if_pos h]
theorem nameGo_more {b : UInt8} {l : List UInt8} {i : Nat} (h : ¬ b.toNat = 59) (h2 : isLow b = true) : nameGo (b :: l) i = nameGo l (i + 1) := by rw [nameGo, if_neg h, if_pos h2]
theorem nameGo_none {b : UInt8} {l : List UInt8} {i : Nat} (h : ¬ b.toNat = 59) (h2 : isLow b = false) : nameGo (b :: l) i = none := by rw [nameGo, if_neg h, if_neg (by simp [h2])]
theorem nameAt_none {s T : ByteArray} (hT : T.data.toList = s.data.toList.drop 1) (h : nameGo T.data.toList 0 = none) : nameAt s.data.toList = (ByteArray.empty, 0) := by
  unfold nameAt
  rw [← hT, h]
theorem nameAt_some {s T : ByteArray} {i : Nat} (hT : T.data.toList = s.data.toList.drop 1) (h : nameGo T.data.toList 0 = some i) : nameAt s.data.toList = nameOf T.data.toList i := by
  unfold nameAt
  rw [← hT, h]
theorem part_list (s : ByteArray) (i : Nat) : (s.extract 1 (1 + i)).data.toList = (s.data.toList.drop 1).take i := by
  rw [ByteArray.data_extract, Array.toList_extract, List.extract_eq_take_drop]
  simp
theorem slice_part (s : ByteArray) (k : Nat) (h : k + 1 ≤ s.size) (w : World) :
    (Instr.slice 9 (.string s) (some (.int .i64 1)) (some (.int .i64 (1 + (k : Int)))) none).run Tryz.prog w = .ok (.string (s.extract 1 (1 + k))) w := by
  rw [run_slice_string w 9 s .i64 .i64 1 (1 + (k : Int)) Tryz.underlying9 (by omega) (by omega) (by omega)]
  rw [show (1 + (k : Int)).toNat = 1 + k from by omega]; rfl
def ByNameRel (T : ByteArray) (w : World) (I : Nat) (wr : World) : Prop :=
  ∃ k : Nat, k ≤ T.size ∧ wr.heap[I]? = some (.stringIter T k) ∧ Below w.heap.size w wr ∧ w.heap.size < wr.heap.size ∧ nameGo (T.data.toList.drop k) k = nameGo T.data.toList 0
set_option maxHeartbeats 2000000 in
set_option maxRecDepth 100000 in
theorem byName_any (s : ByteArray) (w : World) (hn : NamedIs w) (hf : 1 ≤ s.size) (hs : s.size ≤ 70368744177664) :
    Calls Tryz.prog 97 #[.string s, .int .i64 1] w fun e w' => e = .returned (.tuple #[.string (nameAt s.data.toList).1, .int .i64 (nameAt s.data.toList).2]) ∧ Below w.heap.size w w' := by
  have hT := drop_ext s 1
  have hz := ext_size s 1
  have HT := Lib.hid hT
  have HZ := Lib.hid hz
  have hz2 : (s.extract 1 s.size).size ≤ 70368744177664 := by omega
  have HN := Lib.hid hn
  clear hT hz hn
  go_enter Tryz.func97, Tryz.ntmps97
  go_wp2_with fail
  generalize s.extract 1 s.size = T at *
  go_loopw [] (fun wr => ByNameRel T w w.heap.size wr) (fun wr => T.size - wr.iterPos w.heap.size)
  case atStart => exact ⟨0, Nat.zero_le _, World.iter_heap w T 0, (Below.refl _ w).alloc (Nat.le_refl _) _, (by show _ < (w.heap.push _).size; simp), by rw [List.drop_zero]⟩
  case round =>
    obtain ⟨k, hk, hit, hbw, hsz, hgo⟩ := hrel
    by_cases hp : k < T.size
    · have hnx : ∀ ty, (Instr.next (.pointer (some ⟨w.heap.size, 0, none⟩)) true ty).run Tryz.prog wr = _ := fun ty => Lib.run_next_any_at wr w.heap.size T k ty hit hp
      have hit2 := Lib.iterAt_heap wr w.heap.size T k (k + (Utf8.decode T k).2) hit
      have hbw2 := Lib.below_iterAt hbw (k := w.heap.size) (by omega) T (k + (Utf8.decode T k).2)
      have hsz2 : w.heap.size < (wr.iterAt w.heap.size T (k + (Utf8.decode T k).2)).heap.size := by rw [Lib.iterAt_size]; exact hsz
      have Hit := Lib.hid hit
      have hzz : k + 1 ≤ s.size := by have := HZ.out; omega
      rw [get_list T k hp] at hgo
      have HG := Lib.hid hgo
      clear hit hbw hgo
      by_cases ha : T[k].toNat < 128
      · have hd : Utf8.decode T k = (T[k].toNat, 1) := decode_ascii T k hp ha
        rw [hd] at hnx hit2 hbw2 hsz2
        simp only at hnx hit2 hbw2 hsz2
        clear hd
        obtain ⟨b, hb⟩ : ∃ b, T[k] = b := ⟨_, rfl⟩
        have HB := Lib.hid hb
        rw [hb] at hnx ha
        clear hb
        by_cases h59 : b.toNat = 59
        · have f59 : ((b.toNat : Int) == 59) = true := by simp; omega
          have HR := Lib.hid (nameAt_some HT.out (HG.out.symm.trans (by rw [HB.out]; exact nameGo_end h59)))
          clear h59
          have hc := named_any (s.extract 1 (1 + k)) _ (HN.out.below hbw2)
          have hsl := slice_part s k hzz
          rw [part_list, ← HT.out] at hc
          cases hl : lookL (T.data.toList.take k) with
          | none =>
            have HO := Lib.hid (show nameOf T.data.toList k = (ByteArray.empty, 0) from by unfold nameOf; rw [hl])
            rw [show namedR (T.data.toList.take k) = .tuple #[.string ByteArray.empty, .bool false] from by unfold namedR; rw [hl]] at hc
            have HC := Lib.hid hc
            clear hc hl
            go_wp2_with (go_at_call 128; refine HC.out.mono ?_; rintro e w2 ⟨rfl, b2⟩)
            go_ret2
            exact ⟨by rw [HR.out, HO.out]; rfl, hbw2.trans (b2.mono hbw2.size)⟩
          | some t =>
            have HO := Lib.hid (show nameOf T.data.toList k = (⟨t.toArray⟩, 1 + k + 1) from by unfold nameOf; rw [hl])
            rw [show namedR (T.data.toList.take k) = .tuple #[.string ⟨t.toArray⟩, .bool true] from by unfold namedR; rw [hl]] at hc
            have HC := Lib.hid hc
            clear hc hl
            go_wp2_with (go_at_call 128; refine HC.out.mono ?_; rintro e w2 ⟨rfl, b2⟩)
            go_ret2
            exact ⟨ret_strint (by rw [HR.out, HO.out]) (by rw [HR.out, HO.out]; simp), hbw2.trans (b2.mono hbw2.size)⟩
        · have f59 : ((b.toNat : Int) == 59) = false := by simp; omega
          cases hlow : isLow b with
          | true =>
            have hr := (inR_iff _ _ _).1 hlow
            have HR := Lib.hid (show nameGo (T.data.toList.drop (k + 1)) (k + 1) = nameGo T.data.toList 0 from by rw [← nameGo_more h59 hlow, ← HG.out, HB.out])
            obtain ⟨hr1, hr2⟩ := hr
            clear h59 hlow
            go_wp2
            go_roundw
            case rel => exact ⟨k + 1, by omega, hit2, hbw2, hsz2, HR.out⟩
            case measure => simp only [World.iterPos, hit2, Hit.out]; omega
          | false =>
            have hr := (inR_f _ _ _).1 hlow
            have HR := Lib.hid (nameAt_none HT.out (HG.out.symm.trans (by rw [HB.out]; exact nameGo_none h59 hlow)))
            clear h59 hlow
            by_cases h97 : (b.toNat : Int) < 97
            · clear hr
              go_wp2
              go_ret2
              exact ⟨by rw [HR.out]; rfl, hbw2⟩
            · have h122 : ¬ (b.toNat : Int) ≤ 122 := by omega
              clear hr
              go_wp2
              go_ret2
              exact ⟨by rw [HR.out]; rfl, hbw2⟩
      · have hh := (decode_high T k hp (by omega)).1
        have f59 : (((Utf8.decode T k).1 : Int) == 59) = false := by simp; omega
        have HR := Lib.hid (nameAt_none HT.out (HG.out.symm.trans (nameGo_none (by omega) ((inR_f _ _ _).2 (by omega)))))
        have h97 : ¬ ((Utf8.decode T k).1 : Int) < 97 := by omega
        have h122 : ¬ ((Utf8.decode T k).1 : Int) ≤ 122 := by omega
        clear ha hh
        generalize (Utf8.decode T k).1 = r at *
        go_wp2
        go_ret2
        exact ⟨by rw [HR.out]; rfl, hbw2⟩
    · have hnx : ∀ ty, (Instr.next (.pointer (some ⟨w.heap.size, 0, none⟩)) true ty).run Tryz.prog wr = _ := fun ty => Lib.run_next_end_at wr w.heap.size T k ty hit hp
      have e : T.data.toList.drop k = [] := List.drop_eq_nil_of_le (by simp; omega)
      rw [e] at hgo
      have HR := Lib.hid (nameAt_none HT.out (hgo.symm.trans rfl))
      clear e hgo
      go_wp2
      go_ret2
      exact ⟨by rw [HR.out]; rfl, hbw⟩
theorem hasPrefix_size {s : ByteArray} {p : List UInt8} (h : Lib.hasPrefix s.data.toList p = true) : p.length ≤ s.size := by
  unfold Lib.hasPrefix at h
  have := (List.isPrefixOf_iff_prefix.1 h).length_le
  simpa using this
/-- The entity that a text begins with. -/
def atRet (l : List UInt8) : Value := .tuple #[.string (atL l).1, .int .i64 (atL l).2]
set_option maxHeartbeats 1000000 in
theorem at_any (s : ByteArray) (w : World) (hn : NamedIs w) (hs : s.size ≤ 70368744177664) :
    Calls Tryz.prog 68 #[.string s] w fun e w' => e = .returned (atRet s.data.toList) ∧ Below w.heap.size w w' := by
  have p1 := fun w => Tryz.strings_HasPrefix s ⟨#[38, 35, 120]⟩ w
  have p2 := fun w => Tryz.strings_HasPrefix s ⟨#[38, 35, 88]⟩ w
  have p3 := fun w => Tryz.strings_HasPrefix s ⟨#[38, 35]⟩ w
  have p4 := fun w => Tryz.strings_HasPrefix s ⟨#[38]⟩ w
  have e1 : (⟨#[38, 35, 120]⟩ : ByteArray).data.toList = [38, 35, 120] := rfl
  have e2 : (⟨#[38, 35, 88]⟩ : ByteArray).data.toList = [38, 35, 88] := rfl
  have e3 : (⟨#[38, 35]⟩ : ByteArray).data.toList = [38, 35] := rfl
  have e4 : (⟨#[38]⟩ : ByteArray).data.toList = [38] := rfl
  rw [e1] at p1
  rw [e2] at p2
  rw [e3] at p3
  rw [e4] at p4
  have HN := Lib.hid hn
  clear e1 e2 e3 e4 hn
  cases h1 : Lib.hasPrefix s.data.toList [38, 35, 120] with
  | true =>
    rw [h1] at p1
    have hz := hasPrefix_size h1
    have HR := Lib.hid (show atL s.data.toList = numAt 16 3 6 s.data.toList from by unfold atL; rw [if_pos h1])
    have P1 := Lib.hid p1
    clear p1 p2 p3 p4 h1
    go_enter Tryz.func68, Tryz.ntmps68
    go_wp2_with (first | (go_at_call 76; refine (P1.out _).mono ?_; rintro e w' ⟨rfl, rfl⟩) | (go_at_call 96; refine (byNumber16 s _ hz hs).mono ?_; rintro e w1 ⟨rfl, b1⟩))
    go_ret2
    exact ⟨by unfold atRet; rw [HR.out]; rfl, b1⟩
  | false =>
    rw [h1] at p1
    cases h2 : Lib.hasPrefix s.data.toList [38, 35, 88] with
    | true =>
      rw [h2] at p2
      have hz := hasPrefix_size h2
      have HR := Lib.hid (show atL s.data.toList = numAt 16 3 6 s.data.toList from by unfold atL; rw [if_neg (by simp [h1]), if_pos h2])
      have P1 := Lib.hid p1
      have P2 := Lib.hid p2
      clear p1 p2 p3 p4 h1 h2
      go_enter Tryz.func68, Tryz.ntmps68
      go_wp2_with fail
      refine (P1.out _).mono ?_
      rintro e w' ⟨rfl, rfl⟩
      go_wp2_with fail
      refine (P2.out _).mono ?_
      rintro e w' ⟨rfl, rfl⟩
      go_wp2_with (go_at_call 96; refine (byNumber16 s _ hz hs).mono ?_; rintro e w1 ⟨rfl, b1⟩)
      go_ret2
      exact ⟨by unfold atRet; rw [HR.out]; rfl, b1⟩
    | false =>
      rw [h2] at p2
      cases h3 : Lib.hasPrefix s.data.toList [38, 35] with
      | true =>
        rw [h3] at p3
        have hz := hasPrefix_size h3
        have HR := Lib.hid (show atL s.data.toList = numAt 10 2 7 s.data.toList from by unfold atL; rw [if_neg (by simp [h1]), if_neg (by simp [h2]), if_pos h3])
        have P1 := Lib.hid p1
        have P2 := Lib.hid p2
        have P3 := Lib.hid p3
        clear p1 p2 p3 p4 h1 h2 h3
        go_enter Tryz.func68, Tryz.ntmps68
        go_wp2_with fail
        refine (P1.out _).mono ?_
        rintro e w' ⟨rfl, rfl⟩
        go_wp2_with fail
        refine (P2.out _).mono ?_
        rintro e w' ⟨rfl, rfl⟩
        go_wp2_with fail
        refine (P3.out _).mono ?_
        rintro e w' ⟨rfl, rfl⟩
        go_wp2_with (go_at_call 96; refine (byNumber10 s _ hz hs).mono ?_; rintro e w1 ⟨rfl, b1⟩)
        go_ret2
        exact ⟨by unfold atRet; rw [HR.out]; rfl, b1⟩
      | false =>
        rw [h3] at p3
        cases h4 : Lib.hasPrefix s.data.toList [38] with
        | true =>
          rw [h4] at p4
          have hz := hasPrefix_size h4
          have HR := Lib.hid (show atL s.data.toList = nameAt s.data.toList from by unfold atL; rw [if_neg (by simp [h1]), if_neg (by simp [h2]), if_neg (by simp [h3]), if_pos h4])
          have P1 := Lib.hid p1
          have P2 := Lib.hid p2
          have P3 := Lib.hid p3
          have P4 := Lib.hid p4
          clear p1 p2 p3 p4 h1 h2 h3 h4
          go_enter Tryz.func68, Tryz.ntmps68
          go_wp2_with fail
          refine (P1.out _).mono ?_
          rintro e w' ⟨rfl, rfl⟩
          go_wp2_with fail
          refine (P2.out _).mono ?_
          rintro e w' ⟨rfl, rfl⟩
          go_wp2_with fail
          refine (P3.out _).mono ?_
          rintro e w' ⟨rfl, rfl⟩
          go_wp2_with fail
          refine (P4.out _).mono ?_
          rintro e w' ⟨rfl, rfl⟩
          go_wp2_with (go_at_call 97; refine (byName_any s _ HN.out hz hs).mono ?_; rintro e w1 ⟨rfl, b1⟩)
          go_ret2
          exact ⟨by unfold atRet; rw [HR.out]; rfl, b1⟩
        | false =>
          rw [h4] at p4
          have HR := Lib.hid (show atL s.data.toList = (ByteArray.empty, 0) from by unfold atL; rw [if_neg (by simp [h1]), if_neg (by simp [h2]), if_neg (by simp [h3]), if_neg (by simp [h4])])
          have P1 := Lib.hid p1
          have P2 := Lib.hid p2
          have P3 := Lib.hid p3
          have P4 := Lib.hid p4
          clear p1 p2 p3 p4 h1 h2 h3 h4
          go_enter Tryz.func68, Tryz.ntmps68
          go_wp2_with fail
          refine (P1.out _).mono ?_
          rintro e w' ⟨rfl, rfl⟩
          go_wp2_with fail
          refine (P2.out _).mono ?_
          rintro e w' ⟨rfl, rfl⟩
          go_wp2_with fail
          refine (P3.out _).mono ?_
          rintro e w' ⟨rfl, rfl⟩
          go_wp2_with fail
          refine (P4.out _).mono ?_
          rintro e w' ⟨rfl, rfl⟩
          go_wp2
          go_ret2
          exact ⟨by unfold atRet; rw [HR.out]; rfl, Below.refl _ _⟩
end Go.Proofs.YteihmgcphbijhaaGreatDoor
