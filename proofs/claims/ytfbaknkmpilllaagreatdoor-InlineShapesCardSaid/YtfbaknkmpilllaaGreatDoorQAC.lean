/- Texts joined: EmF EmG EmH Reg EmI. -/
import Derived.Test.YtfbaknkmpilllaaGreatDoorQAB
import Derived.Test.YtfbaknkmpilllaaGreatDoorQAA
import Derived.Maps.GroupsBeside
import Derived.Maps.OwnSet
import Derived.DeepKeys4
import Derived.ArgAppend
import Derived.OwnWalk
import Derived.Deep.RegionHeld3
import Derived.Lib.MinMax
import Derived.BigQuiet
import Derived.OrdersHeld
import Derived.Tactics
import Derived.WalkKit
import Derived.Deep.AppendLies
import Derived.BigRegion
namespace Go.Proofs.YtfbaknkmpilllaaGreatDoor
open Go.RowKit Go.Maps Go.ChangeShapes
set_option linter.unusedSimpArgs false
set_option linter.unusedVariables false
set_option maxRecDepth 100000
abbrev DU := DataW Unit
def kLit (sg : UInt8) (b : Bool) (r : Int) : Lit := .string (keyBytes [.int .u8 sg.toNat, .bool b, .int .i64 r])
theorem keyLaw : Keyed Tryz.prog 147 := Keyed.of_law (deep_law_laid laidOut (m := 2) (by omega) (of_decide_eq_true (by kernel_rfl)) (by kernel_rfl) (by kernel_rfl))
theorem types_two : ∃ m, Tryz.prog.types.size = m + 2 := ⟨Tryz.prog.types.size - 2, by have : 2 ≤ Tryz.prog.types.size := of_decide_eq_true (by kernel_rfl); omega⟩
theorem keyOf_kind (sg : UInt8) (b : Bool) (r : Int) (h : -2 ≤ r ∧ r ≤ 2) : keyOf Tryz.prog 147 (kindV sg b r) = some (kLit sg b r) := by
  obtain ⟨m, hm⟩ := types_two
  have hw1 : (Lit.int .u8 (sg.toNat : Int)).wf = true := by
    have := sg.toNat_lt
    simp [Lit.wf, IntKind.min, IntKind.max, IntKind.signed, IntKind.bits]
    omega
  have hw2 : (Lit.int .i64 r).wf = true := WalkArith.wf_i64 (by omega)
  have hk : Tryz.prog.keyType 147 = true := by kernel_rfl
  have hf : (kindV sg b r).formed Tryz.prog 147 = true := by
    unfold kindV Value.formed
    rw [Tryz.underlying147]
    rfl
  have h1 : Tryz.prog.keyLits (m + 2) 5 [.int .u8 sg.toNat] = some [.int .u8 sg.toNat] := by
    unfold Program.keyLits
    rw [Tryz.underlying5]
    simp [hw1]
  have h2 : Tryz.prog.keyLits (m + 2) 4 [.bool b] = some [.bool b] := by
    unfold Program.keyLits
    rw [Tryz.underlying4]
  have h3 : Tryz.prog.keyLits (m + 2) 3 [.int .i64 r] = some [.int .i64 r] := by
    unfold Program.keyLits
    rw [Tryz.underlying3]
    simp [hw2]
  have hc : Tryz.prog.cellsOf 147 = 3 := by kernel_rfl
  have hc1 : Tryz.prog.cellsOf 5 = 1 := by kernel_rfl
  have hc2 : Tryz.prog.cellsOf 4 = 1 := by kernel_rfl
  have hc3 : Tryz.prog.cellsOf 3 = 1 := by kernel_rfl
  have h4 : Tryz.prog.keyLits (m + 2 + 1) 147 [.int .u8 sg.toNat, .bool b, .int .i64 r] = some [.int .u8 sg.toNat, .bool b, .int .i64 r] := by
    unfold Program.keyLits
    rw [Tryz.underlying147]
    simp [hc, hc1, hc2, hc3, h1, h2, h3]
  unfold keyOf
  rw [Tryz.underlying147]
  simp only
  rw [hk, hf, hm, show (kindV sg b r).cells.toList = [.int .u8 sg.toNat, .bool b, .int .i64 r] from rfl, h4]
  rfl
theorem kLit_key {sg : UInt8} {b : Bool} {r : Int} (h : -2 ≤ r ∧ r ≤ 2) : WideAt.IsKeyLit (kLit sg b r) := keyLaw.key (keyOf_kind sg b r h)
theorem kLit_inj {sg sg2 : UInt8} {b b2 : Bool} {r r2 : Int} (h : -2 ≤ r ∧ r ≤ 2) (h2 : -2 ≤ r2 ∧ r2 ≤ 2) (e : kLit sg b r = kLit sg2 b2 r2) : sg = sg2 ∧ b = b2 ∧ r = r2 := by
  have h3 := keyLaw.inj (keyOf_kind sg b r h) (by rw [e]; exact keyOf_kind sg2 b2 r2 h2)
  unfold kindV at h3
  simp at h3
  exact ⟨UInt8.toNat_inj.1 (by have := h3.1; omega), h3.2⟩
def zsOf : DU → List Int
  | .slice es _ => es.filterMap fun e => match e with | .lit (.int _ x) => some x | _ => none
  | _ => []
theorem zsOf_lits (q : IntKind) (zs : List Int) (sp : List DU) : zsOf (.slice (lits q zs) sp) = zs := by
  unfold zsOf lits
  induction zs with
  | nil => rfl
  | cons x zs ih => simpa using ih
theorem zsOf_row {w : World} {base : Nat} {e : TypeId} {q : IntKind} {v : Value} {zs : List Int} (h : w.ownsInts base e q v zs) : zsOf (rowDatum q v zs) = zs := by
  rcases h.datum (H := Unit) with ⟨h1, rfl⟩ | h1
  · rw [h1]; rfl
  · rw [h1]; exact zsOf_lits q zs []
/-- The map's lists, kind by kind. -/
def KD (D : DU) (f : UInt8 → Bool → Int → List Int) : Prop := IsMap D ∧ ∀ sg b r, -2 ≤ r → r ≤ 2 → zsOf (D.atKey (kLit sg b r) .nil) = f sg b r
theorem KD.new : KD (.map []) (fun _ _ _ => []) := ⟨isMap_empty, fun _ _ _ _ _ => rfl⟩
theorem KD.put {D : DU} {f : UInt8 → Bool → Int → List Int} (h : KD D f) {sg : UInt8} {b : Bool} {r : Int} (hr : -2 ≤ r ∧ r ≤ 2) (d : DU) (f' : UInt8 → Bool → Int → List Int)
    (h1 : f' sg b r = zsOf d) (h2 : ∀ sg2 b2 r2, ¬ (sg2 = sg ∧ b2 = b ∧ r2 = r) → f' sg2 b2 r2 = f sg2 b2 r2) : KD (D.put (kLit sg b r) d) f' := by
  refine ⟨h.1.put _ _, fun sg2 b2 r2 hlo hhi => ?_⟩
  by_cases e : sg2 = sg ∧ b2 = b ∧ r2 = r
  · obtain ⟨rfl, rfl, rfl⟩ := e
    rw [atKey_put_same h.1 (kLit_key hr), h1]
  · rw [atKey_put_other (fun e2 => e (kLit_inj ⟨hlo, hhi⟩ hr e2)), h2 sg2 b2 r2 e]
    exact h.2 sg2 b2 r2 hlo hhi
structure Fam (w : World) (base bm n : Nat) (D : DU) (F : List (Value × List Int)) : Prop where
  own : ∀ x ∈ F, w.ownsInts base 3 .i64 x.1 x.2
  dist : F.Pairwise fun x y => Apart x.1 y.1
  grp : w.ownsGroups Tryz.prog 147 base 3 .i64 bm n D
  shun : w.Shuns bm fun g => ∃ x ∈ F, x.1.ownBlock = some g
theorem fam_map {w : World} {base bm n : Nat} {D : DU} {F : List (Value × List Int)} (h : Fam w base bm n D F) : ∃ es clock, w.heap[bm]? = some (.map es clock) := by
  obtain ⟨es, clock, hb, _⟩ := h.grp
  exact ⟨es, clock, hb⟩
theorem fam_lt {w : World} {base bm n : Nat} {D : DU} {F : List (Value × List Int)} (h : Fam w base bm n D F) : bm < w.heap.size := by
  obtain ⟨es, clock, hb⟩ := fam_map h
  exact (Array.getElem?_eq_some_iff.1 hb).1
theorem ints_ne_map {w : World} {base : Nat} {v : Value} {zs : List Int} (h : w.ownsInts base 3 .i64 v zs) {bm : Nat} {es : Array MapEntry} {clock : Nat} (hb : w.heap[bm]? = some (.map es clock)) : v.ownBlock ≠ some bm := by
  intro e
  rcases h.1.2 with ⟨rfl, _⟩ | ⟨g', cap, cur, rfl, _, hh, _⟩
  · cases e
  · cases e
    rw [hb] at hh
    cases hh
theorem ints_ne {w : World} {base : Nat} {v : Value} {zs : List Int} (h : w.ownsInts base 3 .i64 v zs) {g : Nat} {cs : Array Value} {t : TypeId} {fz : Nat × Nat} (hg : w.heap[g]? = some (.cells cs t fz)) (ht : t ≠ 3) : v.ownBlock ≠ some g := own_ne h.1 hg (fun e => ht e.symm)
theorem group_rows {w : World} {base bm n : Nat} {D : DU} (h : w.ownsGroups Tryz.prog 147 base 3 .i64 bm n D) {es : Array MapEntry} {clock : Nat} (hb : w.heap[bm]? = some (.map es clock)) : ∀ x ∈ es.toList, ∃ zs, w.ownsInts base 3 .i64 x.val zs := by
  obtain ⟨es', clock', hb', F, _⟩ := h
  obtain ⟨rfl, rfl⟩ : es' = es ∧ clock' = clock := by rw [hb'] at hb; simpa using hb
  intro x hx
  obtain ⟨y, hy⟩ := F.reads x hx
  obtain ⟨z, hz, _⟩ := WideElems.rd_val hy
  obtain ⟨zs, ho, _⟩ := rowElem_inv hz
  exact ⟨zs, ho⟩
theorem or_ne {v : Value} {row : Option Nat} (h : ∀ g, row = some g → v.ownBlock ≠ some g) : v.ownBlock = none ∨ v.ownBlock ≠ row := by
  cases hv : v.ownBlock with
  | none => exact Or.inl rfl
  | some g => exact Or.inr (fun e => h g e.symm hv)
/-- Blocks of another type turn, or new ones come. -/
theorem Fam.keep {w w' : World} {base bm n : Nat} {D : DU} {F : List (Value × List Int)} (h : Fam w base bm n D F) {row : Option Nat} (hg : w.grownBy w' row)
    (hr : ∀ g, row = some g → ∃ cs t fz, w.heap[g]? = some (.cells cs t fz) ∧ t ≠ 3) : Fam w' base bm n D F := by
  obtain ⟨es, clock, hb⟩ := fam_map h
  have hbr : some bm ≠ row := fun e => by
    obtain ⟨cs, t, fz, h1, _⟩ := hr bm e.symm
    rw [hb] at h1
    cases h1
  have hv : ∀ {v : Value} {zs : List Int}, w.ownsInts base 3 .i64 v zs → v.ownBlock = none ∨ v.ownBlock ≠ row := fun {v zs} ho => or_ne fun g e => by
    obtain ⟨cs, t, fz, h1, h2⟩ := hr g e
    exact ints_ne ho h1 h2
  refine ⟨fun x hx => (h.own x hx).kept hg (hv (h.own x hx)), h.dist, h.grp.kept hg hbr fun es' clock' hb' x hx => ?_, h.shun.kept hg (fam_lt h) hbr⟩
  obtain ⟨zs, ho⟩ := group_rows h.grp hb' x hx
  exact hv ho
theorem Fam.below {w w' : World} {base bm n : Nat} {D : DU} {F : List (Value × List Int)} (h : Fam w base bm n D F) (hb : Below w.heap.size w w') : Fam w' base bm n D F := h.keep (grownBy_of_below hb none) (fun g e => by cases e)
theorem mem_set_ne {α : Type} {F : List α} {i : Nat} {y x : α} (h : x ∈ F.set i y) : x = y ∨ ∃ j, j ≠ i ∧ F[j]? = some x := by
  obtain ⟨j, hj⟩ := List.mem_iff_getElem?.1 h
  rw [List.getElem?_set] at hj
  split at hj
  · split at hj
    · exact Or.inl (Option.some.inj hj).symm
    · cases hj
  · exact Or.inr ⟨j, by omega, hj⟩
/-- One of the lists grows, is cut, or is written anew. -/
theorem Fam.grow {w w' : World} {base bm n : Nat} {D : DU} {F : List (Value × List Int)} (h : Fam w base bm n D F) {i : Nat} {v v' : Value} {zs zs' : List Int} (hi : F[i]? = some (v, zs)) (hg : w.grownBy w' v.ownBlock)
    (ho : w'.ownsInts base 3 .i64 v' zs') (loc : v'.ownBlock = v.ownBlock ∨ ∃ g, v'.ownBlock = some g ∧ w.heap.size ≤ g) : Fam w' base bm n D (F.set i (v', zs')) := by
  obtain ⟨es, clock, hb⟩ := fam_map h
  have hvm : (v, zs) ∈ F := List.mem_of_getElem? hi
  have hov := h.own _ hvm
  have hbr : some bm ≠ v.ownBlock := fun e => ints_ne_map hov hb e.symm
  have hap : ∀ j x, j ≠ i → F[j]? = some x → Apart x.1 v := fun j x hj hx => by
    obtain ⟨h1, rfl⟩ := List.getElem?_eq_some_iff.1 hx
    obtain ⟨h2, e2⟩ := List.getElem?_eq_some_iff.1 hi
    rcases Nat.lt_or_gt_of_ne hj with h3 | h3
    · have := List.pairwise_iff_getElem.1 h.dist j i h1 h2 h3
      rw [e2] at this
      exact this
    · have := List.pairwise_iff_getElem.1 h.dist i j h2 h1 h3
      rw [e2] at this
      exact this.symm
  have hap' : ∀ j x, j ≠ i → F[j]? = some x → Apart x.1 v' := fun j x hj hx g hgx hgv => by
    rcases loc with e | ⟨g', e, hlo⟩
    · exact hap j x hj hx g hgx (by rw [← e]; exact hgv)
    · rw [e] at hgv
      cases hgv
      have := ((h.own x (List.mem_of_getElem? hx)).1.lt g hgx).2
      omega
  refine ⟨fun x hx => ?_, ?_, h.grp.kept hg hbr (h.shun.rowsOff fun j hj => ⟨_, hvm, hj⟩), ?_⟩
  · rcases mem_set_ne hx with rfl | ⟨j, hj, hx⟩
    · exact ho
    · refine (h.own x (List.mem_of_getElem? hx)).kept hg (or_ne fun g e e2 => hap j x hj hx g e2 e)
  · rw [List.pairwise_iff_getElem]
    intro a b ha hb' hab
    rw [List.length_set] at ha hb'
    rw [List.getElem_set, List.getElem_set]
    split
    · next e =>
      subst e
      rw [if_neg (by omega)]
      exact (hap' b _ (by omega) (List.getElem?_eq_getElem hb')).symm
    · next e =>
      split
      · next e2 =>
        exact hap' a _ (fun e3 => e e3.symm) (List.getElem?_eq_getElem ha)
      · exact List.pairwise_iff_getElem.1 h.dist a b ha hb' hab
  · refine (h.shun.reno h.grp (No' := fun g => ∃ x ∈ F.set i (v', zs'), x.1.ownBlock = some g) fun g => ?_).kept hg (fam_lt h) hbr
    rintro ⟨x, hx, hgx⟩
    rcases mem_set_ne hx with rfl | ⟨j, hj, hx⟩
    · rcases loc with e | ⟨g', e, hlo⟩
      · exact Or.inl ⟨_, hvm, by rw [← e]; exact hgx⟩
      · rw [e] at hgx
        cases hgx
        exact Or.inr hlo
    · exact Or.inl ⟨x, List.mem_of_getElem? hx, hgx⟩
theorem Fam.push {w : World} {base bm n : Nat} {D : DU} {F : List (Value × List Int)} (h : Fam w base bm n D F) : Fam w base bm n D (F ++ [(.slice none 0 0, [])]) := by
  refine ⟨fun x hx => ?_, ?_, h.grp, fun es clock hb x hx g hg => ?_⟩
  · rcases List.mem_append.1 hx with hx | hx
    · exact h.own x hx
    · rw [List.mem_singleton] at hx; subst hx; exact World.ownsInts_nil _ _ _ _
  · rw [List.pairwise_append]
    refine ⟨h.dist, by simp, fun x _ y hy g _ hgy => ?_⟩
    rw [List.mem_singleton] at hy
    subst hy
    cases hgy
  · rintro ⟨y, hy, hgy⟩
    rcases List.mem_append.1 hy with hy | hy
    · exact h.shun es clock hb x hx g hg ⟨y, hy, hgy⟩
    · rw [List.mem_singleton] at hy; subst hy; cases hgy
/-- A list of the map's is written anew. -/
theorem Fam.store {w w1 w2 : World} {base bm n : Nat} {D D' : DU} {F : List (Value × List Int)} (h : Fam w base bm n D F) {u : Value} {zs : List Int} (hu : w.ownsInts base 3 .i64 u zs)
    (hsh : ∀ No : Nat → Prop, w.Shuns bm No → ∀ g, u.ownBlock = some g → ¬ No g) (hg1 : w.grownBy w1 u.ownBlock) (hg2 : w1.grownBy w2 (some bm)) (hgr : w2.ownsGroups Tryz.prog 147 base 3 .i64 bm (n + 1) D')
    (hs2 : w2.Shuns bm fun g => ∃ x ∈ F, x.1.ownBlock = some g) : Fam w2 base bm (n + 1) D' F := by
  obtain ⟨es, clock, hb⟩ := fam_map h
  refine ⟨fun x hx => ?_, h.dist, hgr, hs2⟩
  have h1 := (h.own x hx).kept hg1 (or_ne fun g e e2 => hsh _ h.shun g e ⟨x, hx, e2⟩)
  have hb1 : w1.heap[bm]? = some (.map es clock) := (hg1.block bm (fam_lt h) (fun e => ints_ne_map hu hb e.symm)).trans hb
  exact h1.kept hg2 (or_ne fun g e => by cases e; exact ints_ne_map h1 hb1)
end Go.Proofs.YtfbaknkmpilllaaGreatDoor

namespace Go.Proofs.YtfbaknkmpilllaaGreatDoor
open Go.RowKit Go.Maps Go.ChangeShapes
set_option linter.unusedSimpArgs false
set_option linter.unusedVariables false
set_option maxRecDepth 100000
/-- A piece, its item's slice of nodes, its slice of what begins behind it. -/
abbrev Pm := Pc × Value × Value
def pmC (x : Pm) : List Value := [.int .u8 x.1.it.sg.toNat, .int .i64 x.1.it.ff, .bool x.1.it.op, .bool x.1.it.cl, x.2.1, .int .i64 x.1.it.n, .int .i64 x.1.en, x.2.2]
theorem pmC_length (x : Pm) : (pmC x).length = 8 := rfl
theorem flt_set1 {α : Type} {c : α → List Value} {s : Nat} (hs : ∀ x, (c x).length = s) (j : Nat) (u : Value) (y : α) (hj : j < s) : ∀ (X : List α) (q : Nat) (x : α), X[q]? = some x → c y = (c x).set j u → (flt c X).set (q * s + j) u = flt c (X.set q y)
  | z :: X, 0, x, hx, hy => by
    have e : z = x := Option.some.inj hx
    subst e
    rw [List.set_cons_zero, flt_cons, flt_cons, hy, Nat.zero_mul, Nat.zero_add, List.set_append_left _ _ (by rw [hs]; exact hj)]
  | z :: X, q + 1, x, hx, hy => by
    have ih := flt_set1 hs j u y hj X q x hx hy
    rw [List.set_cons_succ, flt_cons, flt_cons, ← ih]
    have e : (q + 1) * s + j = (c z).length + (q * s + j) := by rw [hs, Nat.succ_mul]; omega
    rw [e, List.set_append_right _ _ (Nat.le_add_right _ _), Nat.add_sub_cancel_left]
def kB (x : Itm) (sg : UInt8) (b : Bool) (r : Int) : Bool := x.sg == sg && (x.op && x.cl) == b && x.ff.tmod 3 == r
def kAt (ps : List Pc) (sg : UInt8) (b : Bool) (r : Int) (i : Nat) : Bool := match ps[i]? with | some p => kB p.it sg b r | none => false
def natI (ops : List Nat) : List Int := ops.map fun i => ((i : Nat) : Int)
def opsK (ps : List Pc) (ops : List Nat) (sg : UInt8) (b : Bool) (r : Int) : List Int := natI (ops.filter (kAt ps sg b r))
theorem opsK_same {ps ps' : List Pc} {ops : List Nat} (h : ∀ i ∈ ops, ∀ sg b r, kAt ps' sg b r i = kAt ps sg b r i) : opsK ps' ops = opsK ps ops := by
  funext sg b r
  unfold opsK
  rw [List.filter_congr fun i hi => h i hi sg b r]
theorem kAt_set {ps : List Pc} {j : Nat} {p p' : Pc} (hj : ps[j]? = some p) (h1 : p'.it.sg = p.it.sg) (h2 : p'.it.op = p.it.op) (h3 : p'.it.cl = p.it.cl) (h4 : p'.it.ff = p.it.ff) (sg : UInt8) (b : Bool) (r : Int) (i : Nat) : kAt (ps.set j p') sg b r i = kAt ps sg b r i := by
  unfold kAt
  by_cases e : j = i
  · subst e
    rw [List.getElem?_set, if_pos rfl, if_pos (List.getElem?_eq_some_iff.1 hj).1, hj]
    simp only [kB, h1, h2, h3, h4]
  · rw [List.getElem?_set, if_neg e]
theorem set_self {α : Type} {l : List α} {i : Nat} {x : α} (h : l[i]? = some x) : l.set i x = l := by
  obtain ⟨h1, rfl⟩ := List.getElem?_eq_some_iff.1 h
  exact List.set_getElem_self h1
theorem kAt_push {ps : List Pc} {p : Pc} {i : Nat} (hi : i < ps.length) (sg : UInt8) (b : Bool) (r : Int) : kAt (ps ++ [p]) sg b r i = kAt ps sg b r i := by
  unfold kAt
  rw [List.getElem?_append_left hi]
/-- What lay below B lies as it lay; and so does every item's block. -/
structure KB (B : Nat) (w w' : World) : Prop where
  below : Below B w w'
  items : ∀ (g : Nat) (cs : Array Value) (fz : Nat × Nat), w.heap[g]? = some (Obj.cells cs 94 fz) → w'.heap[g]? = some (Obj.cells cs 94 fz)
theorem KB.refl (B : Nat) (w : World) : KB B w w := ⟨Below.refl _ _, fun _ _ _ h => h⟩
theorem KB.trans {B : Nat} {a b c : World} (h : KB B a b) (k : KB B b c) : KB B a c := ⟨h.below.trans k.below, fun g cs fz hg => k.items g cs fz (h.items g cs fz hg)⟩
theorem KB.size {B : Nat} {a b : World} (h : KB B a b) : a.heap.size ≤ b.heap.size := h.below.size
theorem KB.of {B : Nat} {w w' : World} (h : Below w.heap.size w w') (hB : B ≤ w.heap.size) : KB B w w' := ⟨h.mono hB, fun g cs fz hg => (h.block g (Array.getElem?_eq_some_iff.1 hg).1).trans hg⟩
theorem KB.thenB {B : Nat} {a b c : World} (h : KB B a b) (k : Below b.heap.size b c) (hB : B ≤ b.heap.size) : KB B a c := h.trans (KB.of k hB)
theorem KB.grown {B : Nat} {a b c : World} (h : KB B a b) {row : Option Nat} (hg : b.grownBy c row) (hB : B ≤ b.heap.size) (hr : ∀ g : Nat, row = some g → B ≤ g ∧ ∀ (cs : Array Value) (fz : Nat × Nat), b.heap[g]? ≠ some (Obj.cells cs 94 fz)) : KB B a c :=
  ⟨h.below.grown hg hB (fun g e => (hr g e).1), fun g cs fz hi => by
    have h1 := h.items g cs fz hi
    exact (hg.block g (Array.getElem?_eq_some_iff.1 h1).1 (fun e => (hr g e.symm).2 cs fz h1)).trans h1⟩
theorem not_item_ints {w : World} {base : Nat} {v : Value} {zs : List Int} (h : w.ownsInts base 3 .i64 v zs) {g : Nat} (hg : v.ownBlock = some g) (cs : Array Value) (fz : Nat × Nat) : w.heap[g]? ≠ some (Obj.cells cs 94 fz) := fun e => ints_ne h e (by decide) hg
theorem not_item_cells {w : World} {g : Nat} {cs0 : Array Value} {t : TypeId} {fz0 : Nat × Nat} (h : w.heap[g]? = some (Obj.cells cs0 t fz0)) (ht : t ≠ 94) (cs : Array Value) (fz : Nat × Nat) : w.heap[g]? ≠ some (Obj.cells cs 94 fz) := fun e => by
  rw [h] at e
  injection e with e
  injection e with _ e
  exact ht e
theorem not_item_map {w : World} {g : Nat} {es : Array MapEntry} {clock : Nat} (h : w.heap[g]? = some (Obj.map es clock)) (cs : Array Value) (fz : Nat × Nat) : w.heap[g]? ≠ some (Obj.cells cs 94 fz) := fun e => by
  rw [h] at e
  cases e
structure PrSt (w : World) (b bp bm cap n : Nat) (D : DU) (Ps : List Pm) (ops opsM : List Nat) (ov : Value) : Prop where
  blk : w.heap[b]? = some (.cells #[.slice (some ⟨bp, 0, none⟩) Ps.length cap, ov, .map (some bm)] 101 (0, 0))
  row : w.ownsRow bp 144 8 (.slice (some ⟨bp, 0, none⟩) Ps.length cap) Ps.length (flt pmC Ps)
  fam : Fam w (bm + 1) bm n D ((ov, natI ops) :: Ps.map fun x => (x.2.2, x.1.bg))
  kd : KD D (opsK (Ps.map Prod.fst) opsM)
  cnt : n + opsM.length ≤ 2 * Ps.length
  small : cap ≤ 1000
section
variable {w : World} {b bp bm cap n : Nat} {D : DU} {Ps : List Pm} {ops opsM : List Nat} {ov : Value}
theorem PrSt.bcells (h : PrSt w b bp bm cap n D Ps ops opsM ov) : w.cell? ⟨b, 0, none⟩ = some (.slice (some ⟨bp, 0, none⟩) Ps.length cap) ∧ w.cell? ⟨b, 1, none⟩ = some ov ∧ w.cell? ⟨b, 2, none⟩ = some (.map (some bm)) ∧ (∀ i, w.frozen? ⟨b, i, none⟩ = false) ∧ b < w.heap.size :=
  ⟨(cell_of_row w b 0 _ _ (0, 0) h.blk).trans rfl, (cell_of_row w b 1 _ _ (0, 0) h.blk).trans rfl, (cell_of_row w b 2 _ _ (0, 0) h.blk).trans rfl, fun i => by simp [World.frozen?, h.blk], (Array.getElem?_eq_some_iff.1 h.blk).1⟩
theorem PrSt.len (h : PrSt w b bp bm cap n D Ps ops opsM ov) : Ps.length ≤ cap := by
  rcases h.row.2 with ⟨e, _⟩ | ⟨g, c, cur, e, _, _, h1, _⟩
  · cases e
  · cases e; exact h1
theorem PrSt.rowObj (h : PrSt w b bp bm cap n D Ps ops opsM ov) : ∃ cur, w.heap[bp]? = some (.cells cur 144 (0, 0)) := by
  rcases h.row.2 with ⟨e, _⟩ | ⟨g, c, cur, e, _, h1, _⟩
  · cases e
  · cases e; exact ⟨cur, h1⟩
theorem PrSt.pcells (h : PrSt w b bp bm cap n D Ps ops opsM ov) {k : Nat} {x : Pm} (hk : Ps[k]? = some x) :
    (w.cell? ⟨bp, k * 8, none⟩ = some (.int .u8 x.1.it.sg.toNat) ∧ w.cell? ⟨bp, k * 8 + 1, none⟩ = some (.int .i64 x.1.it.ff) ∧ w.cell? ⟨bp, k * 8 + 2, none⟩ = some (.bool x.1.it.op) ∧ w.cell? ⟨bp, k * 8 + 3, none⟩ = some (.bool x.1.it.cl) ∧
      w.cell? ⟨bp, k * 8 + 4, none⟩ = some x.2.1 ∧ w.cell? ⟨bp, k * 8 + 5, none⟩ = some (.int .i64 x.1.it.n) ∧ w.cell? ⟨bp, k * 8 + 6, none⟩ = some (.int .i64 x.1.en) ∧ w.cell? ⟨bp, k * 8 + 7, none⟩ = some x.2.2) ∧
    (∀ i, w.frozen? ⟨bp, i, none⟩ = false) ∧ bp < w.heap.size ∧ k < Ps.length := by
  obtain ⟨hlt, hx⟩ := List.getElem?_eq_some_iff.1 hk
  have hc : ∀ j u, (pmC x)[j]? = some u → w.cell? ⟨bp, k * 8 + j, none⟩ = some u := fun j u hu => own_elt pmC_length h.row hlt j u (by rw [hx]; exact hu)
  exact ⟨⟨hc 0 _ rfl, hc 1 _ rfl, hc 2 _ rfl, hc 3 _ rfl, hc 4 _ rfl, hc 5 _ rfl, hc 6 _ rfl, hc 7 _ rfl⟩, fun i => h.row.frozenAt i, (h.row.lt bp rfl).2, hlt⟩
theorem PrSt.below {w' : World} (h : PrSt w b bp bm cap n D Ps ops opsM ov) (hb : Below w.heap.size w w') : PrSt w' b bp bm cap n D Ps ops opsM ov :=
  ⟨(hb.block b (Array.getElem?_eq_some_iff.1 h.blk).1).trans h.blk, ownsRow_below h.row hb, h.fam.below hb, h.kd, h.cnt, h.small⟩
theorem PrSt.row_b (h : PrSt w b bp bm cap n D Ps ops opsM ov) {B : Nat} (hB : B ≤ b) : ∀ g : Nat, some b = some g → B ≤ g ∧ ∀ (cs : Array Value) (fz : Nat × Nat), w.heap[g]? ≠ some (Obj.cells cs 94 fz) := fun g e => by
  cases e; exact ⟨hB, not_item_cells h.blk (by decide)⟩
theorem PrSt.row_bp (h : PrSt w b bp bm cap n D Ps ops opsM ov) {B : Nat} (hB : B ≤ bp) : ∀ g : Nat, some bp = some g → B ≤ g ∧ ∀ (cs : Array Value) (fz : Nat × Nat), w.heap[g]? ≠ some (Obj.cells cs 94 fz) := fun g e => by
  cases e
  obtain ⟨cur, hc⟩ := h.rowObj
  exact ⟨hB, not_item_cells hc (by decide)⟩
theorem PrSt.row_bm (h : PrSt w b bp bm cap n D Ps ops opsM ov) {B : Nat} (hB : B ≤ bm) : ∀ g : Nat, some bm = some g → B ≤ g ∧ ∀ (cs : Array Value) (fz : Nat × Nat), w.heap[g]? ≠ some (Obj.cells cs 94 fz) := fun g e => by
  cases e
  obtain ⟨es, clock, hm⟩ := fam_map h.fam
  exact ⟨hB, not_item_map hm⟩
theorem PrSt.b_ne (h : PrSt w b bp bm cap n D Ps ops opsM ov) : b ≠ bp := by
  obtain ⟨cur, hc⟩ := h.rowObj
  intro e
  have h1 := h.blk
  rw [e, hc] at h1
  injection h1 with h1
  injection h1 with _ h2
  exact absurd h2 (by decide)
theorem PrSt.own_at (h : PrSt w b bp bm cap n D Ps ops opsM ov) {k : Nat} {x : Pm} (hk : Ps[k]? = some x) : w.ownsInts (bm + 1) 3 .i64 x.2.2 x.1.bg :=
  h.fam.own (x.2.2, x.1.bg) (List.mem_cons_of_mem _ (List.mem_map.2 ⟨x, List.mem_of_getElem? hk, rfl⟩))
theorem PrSt.own_ops (h : PrSt w b bp bm cap n D Ps ops opsM ov) : w.ownsInts (bm + 1) 3 .i64 ov (natI ops) := h.fam.own (ov, natI ops) (by simp)
/-- A cell of a piece is written, but its slice. -/
theorem PrSt.setCell (h : PrSt w b bp bm cap n D Ps ops opsM ov) {k : Nat} {x : Pm} (hk : Ps[k]? = some x) (j : Nat) (hj : j < 8) (u : Value) (y : Pm) (hy : pmC y = (pmC x).set j u) (hb : (y.2.2, y.1.bg) = (x.2.2, x.1.bg))
    (h1 : y.1.it.sg = x.1.it.sg) (h2 : y.1.it.op = x.1.it.op) (h3 : y.1.it.cl = x.1.it.cl) (h4 : y.1.it.ff = x.1.it.ff) :
    PrSt (w.setCell ⟨bp, k * 8 + j, none⟩ u) b bp bm cap n D (Ps.set k y) ops opsM ov ∧ w.grownBy (w.setCell ⟨bp, k * 8 + j, none⟩ u) (some bp) := by
  obtain ⟨cur, hc⟩ := h.rowObj
  have hg := setc_grown w bp (k * 8 + j) u
  obtain ⟨s1, _⟩ := h.row.stored (k * 8 + j) u
  rw [flt_set1 pmC_length j u y hj Ps k x hk hy] at s1
  refine ⟨⟨?_, ?_, ?_, ?_, ?_, h.small⟩, hg⟩
  · rw [List.length_set]
    exact (hg.block b (Array.getElem?_eq_some_iff.1 h.blk).1 (fun e => h.b_ne (Option.some.inj e))).trans h.blk
  · rw [List.length_set]; exact s1
  · have e : (Ps.set k y).map (fun x => (x.2.2, x.1.bg)) = Ps.map fun x => (x.2.2, x.1.bg) := by
      rw [List.map_set, hb]
      exact set_self (by rw [List.getElem?_map, hk]; rfl)
    rw [e]
    exact h.fam.keep hg (fun g e => by cases e; exact ⟨cur, _, _, hc, by decide⟩)
  · rw [List.map_set, opsK_same fun i _ sg b r => kAt_set (p := x.1) (by rw [List.getElem?_map, hk]; rfl) h1 h2 h3 h4 sg b r i]
    exact h.kd
  · rw [List.length_set]; exact h.cnt
/-- What begins behind a piece grows; its slice is written. -/
theorem PrSt.begins (h : PrSt w b bp bm cap n D Ps ops opsM ov) {k : Nat} {x : Pm} (hk : Ps[k]? = some x) {w1 : World} {v' : Value} {zs' : List Int} (hg : w.grownBy w1 x.2.2.ownBlock) (ho : w1.ownsInts (bm + 1) 3 .i64 v' zs')
    (loc : v'.ownBlock = x.2.2.ownBlock ∨ ∃ g, v'.ownBlock = some g ∧ w.heap.size ≤ g) :
    PrSt (w1.setCell ⟨bp, k * 8 + 7, none⟩ v') b bp bm cap n D (Ps.set k ({ x.1 with bg := zs' }, x.2.1, v')) ops opsM ov ∧ w1.grownBy (w1.setCell ⟨bp, k * 8 + 7, none⟩ v') (some bp) := by
  obtain ⟨cur, hc⟩ := h.rowObj
  have hox := h.own_at hk
  have hr1 := h.row.kept hg (Or.inr (fun e => ints_ne hox hc (by decide) e.symm))
  have hc1 := (hg.block bp (Array.getElem?_eq_some_iff.1 hc).1 (fun e => ints_ne hox hc (by decide) e.symm)).trans hc
  have hb1 := (hg.block b (Array.getElem?_eq_some_iff.1 h.blk).1 (fun e => ints_ne hox h.blk (by decide) e.symm)).trans h.blk
  have hg2 := setc_grown w1 bp (k * 8 + 7) v'
  obtain ⟨s1, _⟩ := hr1.stored (k * 8 + 7) v'
  rw [flt_set1 pmC_length 7 v' (({ x.1 with bg := zs' } : Pc), x.2.1, v') (by omega) Ps k x hk rfl] at s1
  refine ⟨⟨?_, ?_, ?_, ?_, ?_, h.small⟩, hg2⟩
  · rw [List.length_set]
    exact (hg2.block b (Array.getElem?_eq_some_iff.1 hb1).1 (fun e => h.b_ne (Option.some.inj e))).trans hb1
  · rw [List.length_set]; exact s1
  · have f1 := h.fam.grow (i := k + 1) (v := x.2.2) (zs := x.1.bg) (by rw [List.getElem?_cons_succ, List.getElem?_map, hk]; rfl) hg ho loc
    rw [List.set_cons_succ] at f1
    rw [List.map_set]
    exact f1.keep hg2 (fun g e => by cases e; exact ⟨cur, _, _, hc1, by decide⟩)
  · have e : opsK ((Ps.set k ({ x.1 with bg := zs' }, x.2.1, v')).map Prod.fst) opsM = opsK (Ps.map Prod.fst) opsM := by
      rw [List.map_set]
      exact opsK_same fun i _ sg b r => kAt_set (p := x.1) (p' := ({ x.1 with bg := zs' } : Pc)) (by rw [List.getElem?_map, hk]; rfl) rfl rfl rfl rfl sg b r i
    rw [e]
    exact h.kd
  · rw [List.length_set]; exact h.cnt
/-- The list of openers is another one. -/
theorem PrSt.openers (h : PrSt w b bp bm cap n D Ps ops opsM ov) {w1 : World} {v' : Value} {ops' : List Nat} (hg : w.grownBy w1 ov.ownBlock) (ho : w1.ownsInts (bm + 1) 3 .i64 v' (natI ops'))
    (loc : v'.ownBlock = ov.ownBlock ∨ ∃ g, v'.ownBlock = some g ∧ w.heap.size ≤ g) :
    PrSt (w1.setCell ⟨b, 1, none⟩ v') b bp bm cap n D Ps ops' opsM v' ∧ w1.grownBy (w1.setCell ⟨b, 1, none⟩ v') (some b) := by
  obtain ⟨cur, hc⟩ := h.rowObj
  have hox := h.own_ops
  have hr1 := h.row.kept hg (Or.inr (fun e => ints_ne hox hc (by decide) e.symm))
  have hb1 := (hg.block b (Array.getElem?_eq_some_iff.1 h.blk).1 (fun e => ints_ne hox h.blk (by decide) e.symm)).trans h.blk
  have hg2 := setc_grown w1 b 1 v'
  refine ⟨⟨?_, ?_, ?_, h.kd, h.cnt, h.small⟩, hg2⟩
  · simp [World.setCell, Array.getElem?_modify, hb1]
  · exact hr1.kept hg2 (Or.inr (fun e => h.b_ne (Option.some.inj e).symm))
  · have f1 := h.fam.grow (i := 0) (v := ov) (zs := natI ops) rfl hg ho loc
    rw [List.set_cons_zero] at f1
    exact f1.keep hg2 (fun g e => by cases e; exact ⟨_, _, _, hb1, by decide⟩)
/-- A list of the map is another one. -/
theorem PrSt.kinds (h : PrSt w b bp bm cap n D Ps ops opsM ov) {w1 w2 : World} {u : Value} {zs : List Int} {D' : DU} {opsM' : List Nat} (hu : w.ownsInts (bm + 1) 3 .i64 u zs)
    (hsh : ∀ No : Nat → Prop, w.Shuns bm No → ∀ g, u.ownBlock = some g → ¬ No g) (hg1 : w.grownBy w1 u.ownBlock) (hg2 : w1.grownBy w2 (some bm)) (hgr : w2.ownsGroups Tryz.prog 147 (bm + 1) 3 .i64 bm (n + 1) D')
    (hs2 : w2.Shuns bm fun g => ∃ x ∈ ((ov, natI ops) :: Ps.map fun x => (x.2.2, x.1.bg)), x.1.ownBlock = some g) (hkd : KD D' (opsK (Ps.map Prod.fst) opsM')) (hcnt : n + 1 + opsM'.length ≤ 2 * Ps.length) :
    PrSt w2 b bp bm cap (n + 1) D' Ps ops opsM' ov := by
  obtain ⟨cur, hc⟩ := h.rowObj
  obtain ⟨es, clock, hm⟩ := fam_map h.fam
  have nb : some b ≠ some bm := fun e => by
    have h1 := h.blk
    rw [Option.some.inj e, hm] at h1
    cases h1
  have np : some bp ≠ some bm := fun e => by
    have h1 := hc
    rw [Option.some.inj e, hm] at h1
    cases h1
  have hb1 := (hg1.block b (Array.getElem?_eq_some_iff.1 h.blk).1 (fun e => ints_ne hu h.blk (by decide) e.symm)).trans h.blk
  have hr1 := h.row.kept hg1 (Or.inr (fun e => ints_ne hu hc (by decide) e.symm))
  exact ⟨(hg2.block b (Array.getElem?_eq_some_iff.1 hb1).1 nb).trans hb1, hr1.kept hg2 (Or.inr np), h.fam.store hu hsh hg1 hg2 hgr hs2, hkd, hcnt, h.small⟩
/-- A piece more. -/
theorem PrSt.push (h : PrSt w b bp bm cap n D Ps ops opsM ov) (hops : ∀ i ∈ opsM, i < Ps.length) {w1 : World} {x : Pm} (hg : w.grownBy w1 (some bp)) (hx : x.1.bg = [] ∧ x.2.2 = .slice none 0 0)
    (ho : w1.ownsRow bp 144 8 (.slice (some ⟨bp, 0, none⟩) (Ps.length + 1) cap) (Ps.length + 1) (flt pmC Ps ++ pmC x)) :
    PrSt (w1.setCell ⟨b, 0, none⟩ (.slice (some ⟨bp, 0, none⟩) (Ps.length + 1) cap)) b bp bm cap n D (Ps ++ [x]) ops opsM ov ∧ w1.grownBy (w1.setCell ⟨b, 0, none⟩ (.slice (some ⟨bp, 0, none⟩) (Ps.length + 1) cap)) (some b) := by
  obtain ⟨cur, hc⟩ := h.rowObj
  have hb1 := (hg.block b (Array.getElem?_eq_some_iff.1 h.blk).1 (fun e => h.b_ne (Option.some.inj e))).trans h.blk
  have hg2 := setc_grown w1 b 0 (.slice (some ⟨bp, 0, none⟩) (Ps.length + 1) cap)
  refine ⟨⟨?_, ?_, ?_, ?_, ?_, h.small⟩, hg2⟩
  · rw [List.length_append]
    simp [World.setCell, Array.getElem?_modify, hb1]
  · rw [List.length_append, flt_append, flt_one]
    exact ho.kept hg2 (Or.inr (fun e => h.b_ne (Option.some.inj e).symm))
  · have f1 := (h.fam.keep hg (fun g e => by cases e; exact ⟨cur, _, _, hc, by decide⟩)).keep hg2 (fun g e => by cases e; exact ⟨_, _, _, hb1, by decide⟩)
    rw [List.map_append, List.map_cons, List.map_nil, hx.1, hx.2]
    exact f1.push
  · rw [List.map_append, List.map_cons, List.map_nil, opsK_same fun i hi sg b r => kAt_push (by rw [List.length_map]; exact hops i hi) sg b r]
    exact h.kd
  · rw [List.length_append]; have := h.cnt; simp; omega
end
end Go.Proofs.YtfbaknkmpilllaaGreatDoor

namespace Go.Proofs.YtfbaknkmpilllaaGreatDoor
open Go.RowKit Go.Maps Go.ChangeShapes
set_option linter.unusedSimpArgs false
set_option linter.unusedVariables false
set_option maxRecDepth 100000
theorem zeroInts (w : World) : (zeroValue 35).run Tryz.prog w = .ok (.slice none 0 0) w := by kernel_rfl
/-- The look-up, in every world that keeps the map's block. -/
theorem groups_look {w : World} {base bm n : Nat} {D : DU} (h : w.ownsGroups Tryz.prog 147 base 3 .i64 bm n D) (hn : n < maxLen) (sg : UInt8) (b : Bool) (r : Int) (hr : -2 ≤ r ∧ r ≤ 2) :
    ∃ v zs, (∀ w' : World, w'.heap[bm]? = w.heap[bm]? → (Instr.lookup 99 (.map (some bm)) (kindV sg b r) false).run Tryz.prog w' = .ok v w') ∧ D.atKey (kLit sg b r) .nil = rowDatum .i64 v zs ∧ w.ownsInts base 3 .i64 v zs ∧ zs.length ≤ n ∧
      w.groupBack Tryz.prog 99 147 base 3 .i64 bm n D (kindV sg b r) (kLit sg b r) v ∧ (∀ No : Nat → Prop, w.Shuns bm No → ∀ g, v.ownBlock = some g → ¬ No g) := by
  have hkey := keyOf_kind sg b r hr
  obtain ⟨v, zs, hrun, hat, hoi, hzl, hback⟩ := h.at keyLaw Tryz.underlying99 (zeroInts w) hn hkey
  have hsh : ∀ No : Nat → Prop, w.Shuns bm No → ∀ g, v.ownBlock = some g → ¬ No g := by
    obtain ⟨es, clock, hb, F, _⟩ := h
    rcases Maps.fit_look false keyLaw Tryz.underlying99 (zeroInts w) hb F hkey with ⟨hrun', _, _⟩ | ⟨e0, y, hm0, _, hrun', _, _, _⟩
    · rw [hrun] at hrun'
      obtain rfl : v = .slice none 0 0 := by simpa using hrun'
      intro _ _ g hg'
      cases hg'
    · rw [hrun] at hrun'
      obtain rfl : v = e0.val := by simpa using hrun'
      exact fun No hs g hg' => hs es clock hb e0 hm0 g hg'
  obtain ⟨es, clock, hb, F, _⟩ := h
  have F0 : WideElems.Fit Tryz.prog 147 (fun v => some ((.held v : DataW Value), ([] : List MemPlace))) es clock := ⟨F.size, F.stamped, fun x hx => by
    obtain ⟨y, hy⟩ := F.reads x hx
    exact ⟨(y.1, .held x.val), by simp [WideElems.rd, WideElems.rd_key hy]⟩⟩
  have one : ∀ w' : World, w'.heap[bm]? = w.heap[bm]? → ∃ u, (Instr.lookup 99 (.map (some bm)) (kindV sg b r) false).run Tryz.prog w' = .ok u w' ∧
      (DataW.map ((es.toList.map (WideElems.rg Tryz.prog 147 (fun v => some ((.held v : DataW Value), ([] : List MemPlace))))).foldr DataW.insert [])).atKey (kLit sg b r) (.held (.slice none 0 0)) = .held u := by
    intro w' hw'
    rcases Maps.fit_look false keyLaw Tryz.underlying99 (zeroInts w') (hw'.trans hb) F0 hkey with ⟨h1, _, h2⟩ | ⟨e0, y, _, _, h1, hy, h2, _⟩
    · exact ⟨_, h1, h2 _⟩
    · refine ⟨_, h1, ?_⟩
      rw [h2]
      cases hy
      rfl
  obtain ⟨u, h1, h2⟩ := one w rfl
  rw [hrun] at h1
  obtain rfl : v = u := by simpa using h1
  refine ⟨v, zs, fun w' hw' => ?_, hat, hoi, hzl, hback, hsh⟩
  obtain ⟨u', h3, h4⟩ := one w' hw'
  rw [h2] at h4
  cases h4
  exact h3
/-- The greatest of those of which S holds; -1. -/
def IsBest (S : Nat → Prop) (v : Int) : Prop := (v = -1 ∧ ∀ i, ¬ S i) ∨ ∃ i : Nat, v = i ∧ S i ∧ ∀ j, S j → j ≤ i
theorem IsBest.congr {S S' : Nat → Prop} {v : Int} (h : IsBest S v) (e : ∀ i, S' i ↔ S i) : IsBest S' v := by
  rcases h with ⟨h1, h2⟩ | ⟨i, h1, h2, h3⟩
  · exact Or.inl ⟨h1, fun i hi => h2 i ((e i).1 hi)⟩
  · exact Or.inr ⟨i, h1, (e i).2 h2, fun j hj => h3 j ((e j).1 hj)⟩
theorem IsBest.ge {S : Nat → Prop} {v : Int} (h : IsBest S v) : -1 ≤ v ∧ (v = -1 ∨ ∃ i : Nat, v = i ∧ S i) := by
  rcases h with ⟨rfl, _⟩ | ⟨i, rfl, h, _⟩
  · exact ⟨Int.le_refl _, Or.inl rfl⟩
  · exact ⟨by omega, Or.inr ⟨i, rfl, h⟩⟩
theorem IsBest.add {S S' : Nat → Prop} {v : Int} (h : IsBest S v) {m : Nat} {T : Nat → Prop} (e : ∀ i, S' i ↔ S i ∨ T i) (hT : T m) (hm : ∀ j, T j → j ≤ m) : IsBest S' (max v m) := by
  rcases h with ⟨rfl, h2⟩ | ⟨i, rfl, h2, h3⟩
  · refine Or.inr ⟨m, by omega, (e m).2 (Or.inr hT), fun j hj => ?_⟩
    rcases (e j).1 hj with h4 | h4
    · exact absurd h4 (h2 j)
    · exact hm j h4
  · rcases Nat.le_total i m with hle | hle
    · refine Or.inr ⟨m, by omega, (e m).2 (Or.inr hT), fun j hj => ?_⟩
      rcases (e j).1 hj with h4 | h4
      · exact Nat.le_trans (h3 j h4) hle
      · exact hm j h4
    · refine Or.inr ⟨i, by omega, (e i).2 (Or.inl h2), fun j hj => ?_⟩
      rcases (e j).1 hj with h4 | h4
      · exact h3 j h4
      · exact Nat.le_trans (hm j h4) hle
/-- The last of ascending places is the greatest. -/
theorem last_best {L : List Nat} (h : L.Pairwise (· < ·)) (hne : L ≠ []) : ∀ j ∈ L, j ≤ L.getLast hne := by
  intro j hj
  obtain ⟨i, hi, rfl⟩ := List.getElem_of_mem hj
  rw [List.getLast_eq_getElem]
  rcases Nat.lt_or_ge i (L.length - 1) with h1 | h1
  · exact Nat.le_of_lt (List.pairwise_iff_getElem.1 h i (L.length - 1) hi (by omega) h1)
  · have e : i = L.length - 1 := by omega
    simp only [e, Nat.le_refl]
/-- What has been asked: kinds by whether they both open and close (q of them), and by the rest (k of them). -/
def proc (q k : Nat) (b : Bool) (r : Int) : Prop := 0 ≤ r ∧ r < 3 ∧ (b.toNat < q ∨ b.toNat = q ∧ r < k)
def SAt (ps : List Pc) (ops : List Nat) (sg : UInt8) (b2 : Bool) (r2 : Int) (q k : Nat) (i : Nat) : Prop := i ∈ ops ∧ ∃ b r, proc q k b r ∧ kAt ps sg b r i = true ∧ fitK sg b r b2 r2 = true
theorem proc_next {q k : Nat} {bq : Bool} (hq : bq.toNat = q) (hk : k < 3) (b : Bool) (r : Int) : proc q (k + 1) b r ↔ proc q k b r ∨ (b = bq ∧ r = k) := by
  unfold proc
  constructor
  · rintro ⟨h1, h2, h3 | ⟨h3, h4⟩⟩
    · exact Or.inl ⟨h1, h2, Or.inl h3⟩
    · by_cases e : r = k
      · refine Or.inr ⟨?_, e⟩
        have : b.toNat = bq.toNat := by rw [h3, hq]
        revert this
        cases b <;> cases bq <;> simp
      · exact Or.inl ⟨h1, h2, Or.inr ⟨h3, by omega⟩⟩
  · rintro (⟨h1, h2, h3 | ⟨h3, h4⟩⟩ | ⟨rfl, rfl⟩)
    · exact ⟨h1, h2, Or.inl h3⟩
    · exact ⟨h1, h2, Or.inr ⟨h3, by omega⟩⟩
    · exact ⟨by omega, by omega, Or.inr ⟨hq, by omega⟩⟩
theorem proc_row {q : Nat} (b : Bool) (r : Int) : proc q 3 b r ↔ proc (q + 1) 0 b r := by
  unfold proc
  constructor
  · rintro ⟨h1, h2, h3 | ⟨h3, h4⟩⟩
    · exact ⟨h1, h2, Or.inl (by omega)⟩
    · exact ⟨h1, h2, Or.inl (by omega)⟩
  · rintro ⟨h1, h2, h3 | ⟨h3, h4⟩⟩
    · by_cases e : b.toNat = q
      · exact ⟨h1, h2, Or.inr ⟨e, by omega⟩⟩
      · exact ⟨h1, h2, Or.inl (by omega)⟩
    · omega
theorem sat_next {ps : List Pc} {ops : List Nat} {sg : UInt8} {b2 : Bool} {r2 : Int} {q k : Nat} {bq : Bool} (hq : bq.toNat = q) (hk : k < 3) (i : Nat) :
    SAt ps ops sg b2 r2 q (k + 1) i ↔ SAt ps ops sg b2 r2 q k i ∨ (i ∈ ops.filter (kAt ps sg bq k) ∧ fitK sg bq k b2 r2 = true) := by
  unfold SAt
  constructor
  · rintro ⟨h1, b, r, hp, h2, h3⟩
    rcases (proc_next hq hk b r).1 hp with hp | ⟨rfl, rfl⟩
    · exact Or.inl ⟨h1, b, r, hp, h2, h3⟩
    · exact Or.inr ⟨List.mem_filter.2 ⟨h1, h2⟩, h3⟩
  · rintro (⟨h1, b, r, hp, h2, h3⟩ | ⟨h1, h3⟩)
    · exact ⟨h1, b, r, (proc_next hq hk b r).2 (Or.inl hp), h2, h3⟩
    · obtain ⟨h1, h2⟩ := List.mem_filter.1 h1
      exact ⟨h1, bq, k, (proc_next hq hk bq k).2 (Or.inr ⟨rfl, rfl⟩), h2, h3⟩
theorem sat_row {ps : List Pc} {ops : List Nat} {sg : UInt8} {b2 : Bool} {r2 : Int} {q : Nat} (i : Nat) : SAt ps ops sg b2 r2 (q + 1) 0 i ↔ SAt ps ops sg b2 r2 q 3 i := by
  unfold SAt
  constructor
  · rintro ⟨h1, b, r, hp, h2⟩
    exact ⟨h1, b, r, (proc_row b r).2 hp, h2⟩
  · rintro ⟨h1, b, r, hp, h2⟩
    exact ⟨h1, b, r, (proc_row b r).1 hp, h2⟩
theorem sat_start {ps : List Pc} {ops : List Nat} {sg : UInt8} {b2 : Bool} {r2 : Int} : IsBest (SAt ps ops sg b2 r2 0 0) (-1) := by
  refine Or.inl ⟨rfl, fun i => ?_⟩
  rintro ⟨_, b, r, ⟨h1, h2, h3 | ⟨h3, h4⟩⟩, _⟩
  · omega
  · omega
def BoxK (w wr : World) (sg : UInt8) (b2 : Bool) (r2 : Int) : Prop := wr.heap[w.heap.size]? = some (.cells #[.int .u8 sg.toNat, .bool b2, .int .i64 r2] 147 (0, 0))
theorem BoxK.cells {w wr : World} {sg : UInt8} {b2 : Bool} {r2 : Int} (h : BoxK w wr sg b2 r2) : wr.cell? ⟨w.heap.size, 0, none⟩ = some (.int .u8 sg.toNat) ∧ wr.cell? ⟨w.heap.size, 1, none⟩ = some (.bool b2) ∧ wr.cell? ⟨w.heap.size, 2, none⟩ = some (.int .i64 r2) ∧ w.heap.size < wr.heap.size :=
  ⟨(cell_of_row _ _ 0 _ _ (0, 0) h).trans rfl, (cell_of_row _ _ 1 _ _ (0, 0) h).trans rfl, (cell_of_row _ _ 2 _ _ (0, 0) h).trans rfl, (Array.getElem?_eq_some_iff.1 h).1⟩
theorem BoxK.below {w wr w2 : World} {sg : UInt8} {b2 : Bool} {r2 : Int} (h : BoxK w wr sg b2 r2) (hb : Below wr.heap.size wr w2) : BoxK w w2 sg b2 r2 := (hb.block _ h.cells.2.2.2).trans h
def OpRel (ps : List Pc) (ops : List Nat) (sg : UInt8) (b2 : Bool) (r2 : Int) (w : World) (q : Nat) (s t : Value) (wr : World) : Prop :=
  ∃ (k : Nat) (v : Int), s = .int .i64 v ∧ t = .int .i64 k ∧ k ≤ 3 ∧ IsBest (SAt ps ops sg b2 r2 q k) v ∧ Below w.heap.size w wr ∧ BoxK w wr sg b2 r2
def OpRel0 (ps : List Pc) (ops : List Nat) (sg : UInt8) (b2 : Bool) (r2 : Int) (w : World) (s t : Value) (wr : World) : Prop :=
  ∃ (q : Nat) (v qi : Int), s = .int .i64 v ∧ t = .int .i64 qi ∧ qi = q ∧ q ≤ 2 ∧ IsBest (SAt ps ops sg b2 r2 q 0) v ∧ Below w.heap.size w wr ∧ BoxK w wr sg b2 r2
set_option maxHeartbeats 4000000 in
theorem opener_any {w : World} {b bp bm cap n : Nat} {D : DU} {Ps : List Pm} {ops opsM : List Nat} {ov : Value} (h : PrSt w b bp bm cap n D Ps ops opsM ov) (ha : opsM.Pairwise (· < ·)) (hops : ∀ i ∈ opsM, i < Ps.length)
    (sg : UInt8) (b2 : Bool) (r2 : Int) (hr2 : -2 ≤ r2 ∧ r2 ≤ 2) :
    Calls Tryz.prog 98 #[.pointer (some ⟨b, 0, none⟩), kindV sg b2 r2] w fun e w' => (∃ v : Int, e = .returned (.int .i64 v) ∧ IsBest (SAt (Ps.map Prod.fst) opsM sg b2 r2 2 0) v) ∧ Below w.heap.size w w' := by
  have hcnt := h.cnt
  have hsm := h.small
  have hln := h.len
  have hbc := h.bcells
  have HH := Lib.hid h
  clear h
  generalize hps : Ps.map Prod.fst = ps at *
  unfold kindV
  have hix0 : ∀ W : World, (Instr.index 194 (.agg #[.bool false, .bool true]) (.int .i64 0)).run Tryz.prog W = .ok (.bool false) W := fun W => by kernel_rfl
  have hix1 : ∀ W : World, (Instr.index 194 (.agg #[.bool false, .bool true]) (.int .i64 1)).run Tryz.prog W = .ok (.bool true) W := fun W => by kernel_rfl
  go_enter Tryz.func98, Tryz.ntmps98
  go_wp2_with fail
  go_loopw [5, 12] (fun s t wr => OpRel0 ps opsM sg b2 r2 w s t wr) (fun _ t _ => 2 - (intOf t).toNat)
  case atStart => exact ⟨0, -1, 0, rfl, rfl, rfl, by omega, sat_start, (Below.refl _ w).alloc (Nat.le_refl _) _, heap_alloc_new _ _⟩
  case round =>
    obtain ⟨q, v, qi, rfl, rfl, hqi, hq, hbest, hbw, hbox⟩ := hrel
    have HBest := Lib.hid hbest
    clear hbest
    have hq3 : q = 0 ∨ q = 1 ∨ q = 2 := by omega
    rcases hq3 with rfl | rfl | rfl
    · obtain rfl : qi = 0 := by omega
      clear hqi
      go_wp2_with fail
      go_loopw [5, 15] (fun s t wr => OpRel ps opsM sg b2 r2 w 0 s t wr) (fun _ t _ => 3 - (intOf t).toNat)
      case atStart => exact ⟨0, v, rfl, rfl, by omega, HBest.out, hbw, hbox⟩
      case round =>
        obtain ⟨k, v, rfl, rfl, hk, hbest, hbw, hbox⟩ := hrel
        have hge := hbest.ge
        have HBest := Lib.hid hbest
        have HBW := Lib.hid hbw
        have HBox := Lib.hid hbox
        clear hbest
        by_cases hk3 : k < 3
        · obtain ⟨gv, zs, hrun, hat, hoi, hzl, _, _⟩ := groups_look HH.out.fam.grp (by unfold maxLen; omega) sg false (k : Int) (by omega)
          have hzs : zs = natI (opsM.filter (kAt ps sg false k)) := by
            have h1 := HH.out.kd.2 sg false (k : Int) (by omega) (by omega)
            rw [hat, zsOf_row hoi] at h1
            rw [h1, ← hps]
            rfl
          have HS := Lib.hid (sat_next (ps := ps) (ops := opsM) (sg := sg) (b2 := b2) (r2 := r2) (q := 0) (k := k) (bq := false) rfl hk3)
          have HP := Lib.hid (ha.filter (kAt ps sg false k))
          generalize opsM.filter (kAt ps sg false k) = L at *
          subst hzs
          have hcf := fun W => fits_any sg sg false b2 (k : Int) r2 W (by omega) hr2
          have bA := (Below.refl _ wr).alloc (Nat.le_refl _) (.cells #[.int .u8 sg.toNat, .bool false, .int .i64 k] 147)
          have hbA : Below w.heap.size w _ := hbw.then bA
          have hsA := alloc_size wr (.cells #[.int .u8 sg.toNat, .bool false, .int .i64 k] 147)
          obtain ⟨x0, x1, x2⟩ := box3 wr (.int .u8 sg.toNat) (.bool false) (.int .i64 k) 147
          obtain ⟨n0, n1, n2, _⟩ := hbox.cells
          obtain ⟨y0, y1, y2, hyl⟩ := (hbox.below bA).cells
          have hc2 := (hbA.cell (p := ⟨b, 2, none⟩) hbc.2.2.2.2).trans hbc.2.2.1
          have hlk : ∀ j, (Instr.lookup 99 (.map (some bm)) (.agg #[.int .u8 sg.toNat, .bool false, .int .i64 k]) false).run Tryz.prog ((wr.alloc (.cells #[.int .u8 sg.toNat, .bool false, .int .i64 k] 147)).drewN j) = .ok gv ((wr.alloc (.cells #[.int .u8 sg.toNat, .bool false, .int .i64 k] 147)).drewN j) := fun j =>
            hrun _ (hbA.block bm (fam_lt HH.out.fam))
          have HBA := Lib.hid bA
          have HG := Lib.hid hoi
          clear hrun hat hoi hbw hbox
          unfold kindV at hcf
          rcases L with _ | ⟨i0, L'⟩
          · obtain ⟨Ag, cg, rfl, _⟩ := own_form HG.out.1
            have HE := Lib.hid (HBest.out.congr (S' := SAt ps opsM sg b2 r2 0 (k + 1)) (fun i => by rw [HS.out i]; simp))
            have hl0 : (natI []).length = 0 := rfl
            clear HG HP
            go_wp2_with fail
            go_quiet (fail)
            go_wp2
            go_roundw
            case rel => exact ⟨k + 1, v, rfl, by go_num, by omega, HE.out, HBW.out.then (below_drewN' HBA.out _), HBox.out.below (below_drewN' HBA.out _)⟩
            case measure => simp [intOf]; omega
          · have hne : (i0 :: L') ≠ [] := by simp
            have hmx := last_best HP.out hne
            have hmem := List.getLast_mem hne
            obtain ⟨g, c, rfl, hbg, hgl⟩ := HG.out.1.form (by simp [natI])
            have hlen : (natI (i0 :: L')).length = L'.length + 1 := by simp [natI]
            have hcl := HG.out.1.cellAt L'.length (by rw [hlen]; omega)
            rw [List.getElem?_map, natI, List.getElem?_map, List.getElem?_eq_getElem (by simp)] at hcl
            have hgl1 : (i0 :: L')[L'.length]'(by simp) = (i0 :: L').getLast hne := by rw [List.getLast_eq_getElem]; simp
            rw [hgl1] at hcl
            simp only [Option.map_some] at hcl
            generalize (i0 :: L').getLast hne = m at *
            have HM := Lib.hid (And.intro hmx hmem)
            have hL : L'.length + 1 ≤ n := by rw [← hlen]; exact hzl
            have hcA := (hbA.cell (p := ⟨g, L'.length, none⟩) hgl).trans hcl
            clear hmx hmem hgl1 hcl HG HP hne hzl
            rw [hlen] at hlk
            cases hfk : fitK sg false (k : Int) b2 r2 with
            | false =>
              have HE := Lib.hid (HBest.out.congr (S' := SAt ps opsM sg b2 r2 0 (k + 1)) (fun i => by rw [HS.out i, hfk]; simp))
              rw [hfk] at hcf
              clear hfk
              go_wp2_with fail
              go_quiet (fail)
              go_wp2_with fail
              refine (hcf _).mono ?_
              rintro e w3 ⟨rfl, b3⟩
              go_wp2
              go_roundw
              case rel => exact ⟨k + 1, v, rfl, by go_num, by omega, HE.out, (HBW.out.then (below_drewN' HBA.out _)).then b3, (HBox.out.below (below_drewN' HBA.out _)).below b3⟩
              case measure => simp [intOf]; omega
            | true =>
              have HE := Lib.hid (HBest.out.add (S' := SAt ps opsM sg b2 r2 0 (k + 1)) (m := m) (T := fun i => i ∈ i0 :: L') (fun i => by rw [HS.out i, hfk]; simp) HM.out.2 HM.out.1)
              rw [hfk] at hcf
              clear hfk
              obtain ⟨mv, hmv⟩ : ∃ mv, max v (m : Int) = mv := ⟨_, rfl⟩
              rw [hmv] at HE
              go_wp2_with fail
              go_quiet (fail)
              go_wp2_with fail
              refine (hcf _).mono ?_
              rintro e w3 ⟨rfl, b3⟩
              have hc3 := (b3.cell (p := ⟨g, L'.length, none⟩) (by simp; omega)).trans hcA
              go_wp2
              go_roundw
              case rel => exact ⟨k + 1, mv, rfl, by go_num, by omega, HE.out, (HBW.out.then (below_drewN' HBA.out _)).then b3, (HBox.out.below (below_drewN' HBA.out _)).below b3⟩
              case measure => simp [intOf]; omega
        · obtain rfl : k = 3 := by omega
          have HE := Lib.hid (HBest.out.congr (S' := SAt ps opsM sg b2 r2 1 0) (fun i => sat_row (q := 0) i))
          clear hbw hbox
          go_wp2
          go_roundw
          case rel => exact ⟨1, v, 1, rfl, by go_num, rfl, by omega, HE.out, HBW.out, HBox.out⟩
          case measure => simp [intOf]
    · obtain rfl : qi = 1 := by omega
      clear hqi
      go_wp2_with fail
      go_loopw [5, 15] (fun s t wr => OpRel ps opsM sg b2 r2 w 1 s t wr) (fun _ t _ => 3 - (intOf t).toNat)
      case atStart => exact ⟨0, v, rfl, rfl, by omega, HBest.out, hbw, hbox⟩
      case round =>
        obtain ⟨k, v, rfl, rfl, hk, hbest, hbw, hbox⟩ := hrel
        have hge := hbest.ge
        have HBest := Lib.hid hbest
        have HBW := Lib.hid hbw
        have HBox := Lib.hid hbox
        clear hbest
        by_cases hk3 : k < 3
        · obtain ⟨gv, zs, hrun, hat, hoi, hzl, _, _⟩ := groups_look HH.out.fam.grp (by unfold maxLen; omega) sg true (k : Int) (by omega)
          have hzs : zs = natI (opsM.filter (kAt ps sg true k)) := by
            have h1 := HH.out.kd.2 sg true (k : Int) (by omega) (by omega)
            rw [hat, zsOf_row hoi] at h1
            rw [h1, ← hps]
            rfl
          have HS := Lib.hid (sat_next (ps := ps) (ops := opsM) (sg := sg) (b2 := b2) (r2 := r2) (q := 1) (k := k) (bq := true) rfl hk3)
          have HP := Lib.hid (ha.filter (kAt ps sg true k))
          generalize opsM.filter (kAt ps sg true k) = L at *
          subst hzs
          have hcf := fun W => fits_any sg sg true b2 (k : Int) r2 W (by omega) hr2
          have bA := (Below.refl _ wr).alloc (Nat.le_refl _) (.cells #[.int .u8 sg.toNat, .bool true, .int .i64 k] 147)
          have hbA : Below w.heap.size w _ := hbw.then bA
          have hsA := alloc_size wr (.cells #[.int .u8 sg.toNat, .bool true, .int .i64 k] 147)
          obtain ⟨x0, x1, x2⟩ := box3 wr (.int .u8 sg.toNat) (.bool true) (.int .i64 k) 147
          obtain ⟨n0, n1, n2, _⟩ := hbox.cells
          obtain ⟨y0, y1, y2, hyl⟩ := (hbox.below bA).cells
          have hc2 := (hbA.cell (p := ⟨b, 2, none⟩) hbc.2.2.2.2).trans hbc.2.2.1
          have hlk : ∀ j, (Instr.lookup 99 (.map (some bm)) (.agg #[.int .u8 sg.toNat, .bool true, .int .i64 k]) false).run Tryz.prog ((wr.alloc (.cells #[.int .u8 sg.toNat, .bool true, .int .i64 k] 147)).drewN j) = .ok gv ((wr.alloc (.cells #[.int .u8 sg.toNat, .bool true, .int .i64 k] 147)).drewN j) := fun j =>
            hrun _ (hbA.block bm (fam_lt HH.out.fam))
          have HBA := Lib.hid bA
          have HG := Lib.hid hoi
          clear hrun hat hoi hbw hbox
          unfold kindV at hcf
          rcases L with _ | ⟨i0, L'⟩
          · obtain ⟨Ag, cg, rfl, _⟩ := own_form HG.out.1
            have HE := Lib.hid (HBest.out.congr (S' := SAt ps opsM sg b2 r2 1 (k + 1)) (fun i => by rw [HS.out i]; simp))
            have hl0 : (natI []).length = 0 := rfl
            clear HG HP
            go_wp2_with fail
            go_quiet (fail)
            go_wp2
            go_roundw
            case rel => exact ⟨k + 1, v, rfl, by go_num, by omega, HE.out, HBW.out.then (below_drewN' HBA.out _), HBox.out.below (below_drewN' HBA.out _)⟩
            case measure => simp [intOf]; omega
          · have hne : (i0 :: L') ≠ [] := by simp
            have hmx := last_best HP.out hne
            have hmem := List.getLast_mem hne
            obtain ⟨g, c, rfl, hbg, hgl⟩ := HG.out.1.form (by simp [natI])
            have hlen : (natI (i0 :: L')).length = L'.length + 1 := by simp [natI]
            have hcl := HG.out.1.cellAt L'.length (by rw [hlen]; omega)
            rw [List.getElem?_map, natI, List.getElem?_map, List.getElem?_eq_getElem (by simp)] at hcl
            have hgl1 : (i0 :: L')[L'.length]'(by simp) = (i0 :: L').getLast hne := by rw [List.getLast_eq_getElem]; simp
            rw [hgl1] at hcl
            simp only [Option.map_some] at hcl
            generalize (i0 :: L').getLast hne = m at *
            have HM := Lib.hid (And.intro hmx hmem)
            have hL : L'.length + 1 ≤ n := by rw [← hlen]; exact hzl
            have hcA := (hbA.cell (p := ⟨g, L'.length, none⟩) hgl).trans hcl
            clear hmx hmem hgl1 hcl HG HP hne hzl
            rw [hlen] at hlk
            cases hfk : fitK sg true (k : Int) b2 r2 with
            | false =>
              have HE := Lib.hid (HBest.out.congr (S' := SAt ps opsM sg b2 r2 1 (k + 1)) (fun i => by rw [HS.out i, hfk]; simp))
              rw [hfk] at hcf
              clear hfk
              go_wp2_with fail
              go_quiet (fail)
              go_wp2_with fail
              refine (hcf _).mono ?_
              rintro e w3 ⟨rfl, b3⟩
              go_wp2
              go_roundw
              case rel => exact ⟨k + 1, v, rfl, by go_num, by omega, HE.out, (HBW.out.then (below_drewN' HBA.out _)).then b3, (HBox.out.below (below_drewN' HBA.out _)).below b3⟩
              case measure => simp [intOf]; omega
            | true =>
              have HE := Lib.hid (HBest.out.add (S' := SAt ps opsM sg b2 r2 1 (k + 1)) (m := m) (T := fun i => i ∈ i0 :: L') (fun i => by rw [HS.out i, hfk]; simp) HM.out.2 HM.out.1)
              rw [hfk] at hcf
              clear hfk
              obtain ⟨mv, hmv⟩ : ∃ mv, max v (m : Int) = mv := ⟨_, rfl⟩
              rw [hmv] at HE
              go_wp2_with fail
              go_quiet (fail)
              go_wp2_with fail
              refine (hcf _).mono ?_
              rintro e w3 ⟨rfl, b3⟩
              have hc3 := (b3.cell (p := ⟨g, L'.length, none⟩) (by simp; omega)).trans hcA
              go_wp2
              go_roundw
              case rel => exact ⟨k + 1, mv, rfl, by go_num, by omega, HE.out, (HBW.out.then (below_drewN' HBA.out _)).then b3, (HBox.out.below (below_drewN' HBA.out _)).below b3⟩
              case measure => simp [intOf]; omega
        · obtain rfl : k = 3 := by omega
          have HE := Lib.hid (HBest.out.congr (S' := SAt ps opsM sg b2 r2 2 0) (fun i => sat_row (q := 1) i))
          clear hbw hbox
          go_wp2
          go_roundw
          case rel => exact ⟨2, v, 2, rfl, by go_num, rfl, by omega, HE.out, HBW.out, HBox.out⟩
          case measure => simp [intOf]
    · obtain rfl : qi = 2 := by omega
      clear hqi
      go_wp2
      go_ret
      exact ⟨⟨v, rfl, HBest.out⟩, hbw⟩
end Go.Proofs.YtfbaknkmpilllaaGreatDoor

namespace Go.Proofs.YtfbaknkmpilllaaGreatDoor
set_option linter.unusedVariables false
section
variable {P : Program} {ops : Array Oper} {Q : Exit → Act → World → Prop} {md : Region.Mode} {S : World → Prop} {pre : Nat → Bool}
theorem listed_both {listed : Array Bool} {i : Nat} (h : listed.getD i true = false) : listed.getD i false = false := by
  rcases Nat.lt_or_ge i listed.size with h' | h'
  · simp [h'] at h ⊢; exact h
  · simp [Array.getElem?_eq_none h'] at h
/-- May the last ones come up in this order alone? -/
def seqN (md : Region.Mode) (ops : Array Oper) : Nat → Nat → Array Bool → Bool
  | 0, _, listed => (Region.ready md ops listed).isEmpty
  | g + 1, k, listed => decide (Region.ready md ops listed = [k]) && seqN md ops g (k + 1) (listed.setIfInBounds k true)
/-- Whatever order is picked from here on; behind what is 'pre' S holds. -/
def wpAnyN (P : Program) (md : Region.Mode) (ops : Array Oper) (Q : Exit → Act → World → Prop) (S : World → Prop) (pre : Nat → Bool) : Nat → Array Bool → Act → World → Prop
  | 0, listed, a, w => Region.ready md ops listed = [] ∧ Q .normal a w
  | fuel + 1, listed, a, w =>
    (Region.ready md ops listed = [] → Q .normal a w) ∧
    ∀ i ∈ Region.ready md ops listed, wpOp P ops Q i (fun a' w' => (pre i = true → S w') ∧ wpAnyN P md ops Q S pre fuel (listed.setIfInBounds i true) a' w') a w
theorem wpAny_of_N : ∀ (fuel : Nat) (listed : Array Bool) (a : Act) (w : World), wpAnyN P md ops Q S pre fuel listed a w → wpAny P md ops Q fuel listed a w
  | 0, _, _, _, h => h
  | fuel + 1, _, _, _, h => ⟨h.1, fun i hi => wpOp_mono (fun a' w' h' => wpAny_of_N fuel _ a' w' h'.2) (h.2 i hi)⟩
theorem wp_region_N {id : Nat} {a : Act} {w : World} (S : World → Prop) (pre : Nat → Bool) (hm : P.follows .mixedOrders = true)
    (h : wpAnyN P .any ops Q S pre ops.size (Array.replicate ops.size false) a w.drew) : (Code.region id ops true).wp P Q a w :=
  wp_region_any hm (wpAny_of_N _ _ _ _ h)
/-- What is in E waits for number i, by way of others in E. -/
def waitsB (md : Region.Mode) (ops : Array Oper) (listed : Array Bool) (i : Nat) (E : Nat → Bool) (pre : Nat → Bool) : Bool :=
  (List.range ops.size).all fun j => (E j || pre j) && (!E j || (!listed.getD j false && ((ops[j]?).map fun o => o.after.any fun e => Region.binds md e && (e.on == i || E e.on)).getD false))
theorem waitsB_spec {listed : Array Bool} {i : Nat} {E : Nat → Bool} (h : waitsB md ops listed i E pre = true) :
    (∀ j, j < ops.size → pre j = false → E j = true) ∧ (∀ j, j < ops.size → E j = true → listed.getD j false = false) ∧
      (∀ j oj, ops[j]? = some oj → E j = true → ∃ e ∈ oj.after, Region.binds md e = true ∧ (e.on = i ∨ E e.on = true)) := by
  have hall : ∀ j, j < ops.size → (E j = true ∨ pre j = true) ∧ (E j = false ∨ (listed.getD j false = false ∧ ((ops[j]?).map fun o => o.after.any fun e => Region.binds md e && (e.on == i || E e.on)).getD false = true)) := by
    intro j hj
    have := List.all_eq_true.1 h j (List.mem_range.2 hj)
    simp only [Bool.and_eq_true, Bool.or_eq_true, Bool.not_eq_true'] at this
    exact this
  refine ⟨fun j hj hp => ?_, fun j hj he => ?_, fun j oj hoj he => ?_⟩
  · rcases (hall j hj).1 with h1 | h1
    · exact h1
    · rw [hp] at h1; cases h1
  · rcases (hall j hj).2 with h1 | h1
    · rw [he] at h1; cases h1
    · exact h1.1
  · have hj : j < ops.size := (Array.getElem?_eq_some_iff.1 hoj).1
    rcases (hall j hj).2 with h1 | h1
    · rw [he] at h1; cases h1
    · have h2 := h1.2
      rw [hoj] at h2
      simp only [Option.map_some, Option.getD_some] at h2
      obtain ⟨e, hem, hb⟩ := Array.any_eq_true'.1 h2
      simp only [Bool.and_eq_true, Bool.or_eq_true, beq_iff_eq] at hb
      exact ⟨e, hem, hb.1, hb.2⟩
/-- A load that may come up now may be taken first. -/
theorem wpAnyN_first {i : Nat} {oi : Oper} {v : Value} {E : Nat → Bool} (hi : ops[i]? = some oi) (hsel : ∀ (j : Nat) (o : Oper) cs b, ops[j]? = some o → o.op ≠ .select cs b)
    (hQ : ∀ c a w, Q (.panic c) (a.put oi.dst v) w → Q (.panic c) a w)
    (hE1 : ∀ j, j < ops.size → pre j = false → E j = true) (hE3 : ∀ j oj, ops[j]? = some oj → E j = true → ∃ e ∈ oj.after, Region.binds md e = true ∧ (e.on = i ∨ E e.on = true)) :
    ∀ (fuel : Nat) (listed : Array Bool) (a : Act) (w : World),
      (∀ j oj, ops[j]? = some oj → j ≠ i → listed.getD j true = false → (∀ e ∈ oj.after, Region.binds md e = true → e.on ≠ i) → oi.apart ops oj = true) →
      i ∈ Region.ready md ops listed → YieldsIf P ops S oi v a → S w → (∀ j, j < ops.size → E j = true → listed.getD j false = false) → listed.size = ops.size →
      wpAnyN P md ops Q S pre fuel (listed.setIfInBounds i true) (a.put oi.dst v) w → wpAnyN P md ops Q S pre (fuel + 1) listed a w := by
  intro fuel
  induction fuel with
  | zero =>
    intro listed a w _ hr hy hS _ _ H
    refine ⟨fun h => (by rw [h] at hr; cases hr), fun j hj => ?_⟩
    by_cases hji : j = i
    · subst hji; exact hy.wpOp hi hS ⟨fun _ => hS, H⟩
    · have := ready_mono hj hji
      rw [H.1] at this
      cases this
  | succ fuel ih =>
    intro listed a w hfree hr hy hS hE2 hsz H
    refine ⟨fun h => (by rw [h] at hr; cases hr), fun j hj => ?_⟩
    by_cases hji : j = i
    · subst hji; exact hy.wpOp hi hS ⟨fun _ => hS, H⟩
    · have h1 := H.2 j (ready_mono hj hji)
      obtain ⟨hjun, oj, hoj, hall⟩ := mem_ready.1 hj
      have hjs : j < ops.size := (Array.getElem?_eq_some_iff.1 hoj).1
      have hiun : listed.getD i false = false := listed_both (mem_ready.1 hr).1
      have hnot : ∀ e ∈ oj.after, Region.binds md e = true → e.on ≠ i := fun e he hb heq => by
        have h1 := hall e he hb
        rw [heq, hiun] at h1
        cases h1
      have hEj : E j = false := by
        cases hx : E j with
        | false => rfl
        | true =>
          obtain ⟨e, he, hb, h2⟩ := hE3 j oj hoj hx
          have h3 := hall e he hb
          rcases h2 with h2 | h2
          · exact absurd h2 (hnot e he hb)
          · have hes : e.on < ops.size := by
              rcases Nat.lt_or_ge e.on listed.size with h' | h'
              · omega
              · simp [Array.getElem?_eq_none h'] at h3
            rw [hE2 e.on hes h2] at h3
            cases h3
      have hpj : pre j = true := by
        cases hx : pre j with
        | true => rfl
        | false => rw [hE1 j hjs hx] at hEj; cases hEj
      have h2 := wpOp_putIf hoj (hfree j oj hoj hji hjun hnot) (fun cs b => hsel i oi cs b hi) (fun cs b => hsel j oj cs b hoj) hQ hy h1
      have hfree' : ∀ k ok, ops[k]? = some ok → k ≠ i → (listed.setIfInBounds j true).getD k true = false →
          (∀ e ∈ ok.after, Region.binds md e = true → e.on ≠ i) → oi.apart ops ok = true := fun k ok hk hki hun hno => by
        refine hfree k ok hk hki ?_ hno
        by_cases hjk : j = k
        · subst hjk; exact hjun
        · rw [getD_set_ne true hjk] at hun; exact hun
      have hE2' : ∀ k, k < ops.size → E k = true → (listed.setIfInBounds j true).getD k false = false := fun k hk he => by
        have hjk : j ≠ k := fun e => by subst e; rw [he] at hEj; cases hEj
        rw [getD_set_ne false hjk]
        exact hE2 k hk he
      refine wpOp_mono (fun a' w' h3 => ⟨h3.2.1, ih (listed.setIfInBounds j true) a' w' hfree' (ready_mono hr (Ne.symm hji)) h3.1 (h3.2.1 hpj) hE2' (by simp [hsz]) ?_⟩) h2
      rw [Array.setIfInBounds_comm _ _ hji]
      exact h3.2.2
/-- What waits for number i, by way of others. -/
def descA (md : Region.Mode) (ops : Array Oper) (i : Nat) : Array Bool :=
  (List.range ops.size).foldl (fun arr j => arr.push (((ops[j]?).map fun o => o.after.any fun e => Region.binds md e && (e.on == i || arr.getD e.on false)).getD false)) #[]
/-- The same, its conditions as Bools. -/
theorem wpAnyN_take {i : Nat} {oi : Oper} {v : Value} {fuel : Nat} {listed : Array Bool} {a : Act} {w : World} (hi : ops[i]? = some oi)
    (hs : Region.noSelect ops = true) (hf : Region.free md ops listed i = true) (hr : (Region.ready md ops listed).contains i = true) (hw : waitsB md ops listed i (fun j => (descA md ops i).getD j false) pre = true) (hz : (listed.size == ops.size) = true)
    (hQ : ∀ c a w, Q (.panic c) (a.put oi.dst v) w → Q (.panic c) a w) (hy : YieldsIf P ops S oi v a) (hS : S w)
    (h : wpAnyN P md ops Q S pre fuel (listed.setIfInBounds i true) (a.put oi.dst v) w) : wpAnyN P md ops Q S pre (fuel + 1) listed a w := by
  obtain ⟨e1, e2, e3⟩ := waitsB_spec hw
  exact wpAnyN_first hi (Region.noSelect_spec hs) hQ e1 e3 fuel listed a w (Region.free_spec hi hf) (by simpa using hr) hy hS e2 (by simpa using hz) h
/-- The same, its slot told. -/
theorem wpAnyN_take_at (i : Nat) (d : Tmp) {oi : Oper} {v : Value} {fuel : Nat} {listed : Array Bool} {a : Act} {w : World} (hi : ops[i]? = some oi) (hd : oi.dst = some d)
    (hs : Region.noSelect ops = true) (hf : Region.free md ops listed i = true) (hr : (Region.ready md ops listed).contains i = true) (hw : waitsB md ops listed i (fun j => (descA md ops i).getD j false) pre = true) (hz : (listed.size == ops.size) = true)
    (hQ : ∀ c a w, Q (.panic c) (a.put (some d) v) w → Q (.panic c) a w) (hg : Region.wanted oi (yielded ops a.tmps) = true) (hv : ∀ w, S w → (execOp a.eval oi).run P w = .ok (.value v) w) (hS : S w)
    (h : wpAnyN P md ops Q S pre fuel (listed.setIfInBounds i true) (a.put (some d) v) w) : wpAnyN P md ops Q S pre (fuel + 1) listed a w := by
  refine wpAnyN_take (v := v) hi hs hf hr hw hz ?_ (Or.inl ⟨hg, hv⟩) hS ?_
  · rw [hd]; exact hQ
  · rw [hd]; exact h
/-- One alone may come up. -/
theorem wpAnyN_one {i : Nat} {o : Oper} {fuel : Nat} {listed : Array Bool} {a : Act} {w : World} (hi : ops[i]? = some o) (hr : Region.ready md ops listed = [i])
    (h : ∀ K : Act → World → Prop, (∀ a' w', (pre i = true → S w') → wpAnyN P md ops Q S pre fuel (listed.setIfInBounds i true) a' w' → K a' w') →
      if Region.wanted o (yielded ops a.tmps) = true then Oper.wp P o a w K Q else K (a.put o.dst undef) w) : wpAnyN P md ops Q S pre (fuel + 1) listed a w := by
  refine ⟨fun h0 => (by rw [hr] at h0; cases h0), fun j hj => ?_⟩
  rw [hr] at hj
  obtain rfl : j = i := by simpa using hj
  have hk := h (fun a' w' => (pre j = true → S w') ∧ wpAnyN P md ops Q S pre fuel (listed.setIfInBounds j true) a' w') (fun a' w' h1 h2 => ⟨h1, h2⟩)
  unfold wpOp
  simp only [hi]
  split
  · rename_i hw
    rw [if_pos hw] at hk
    exact .inl hk
  · rename_i hw
    rw [if_neg hw] at hk
    exact hk
/-- Two may come up. -/
theorem wpAnyN_two {i j : Nat} {o o' : Oper} {fuel : Nat} {listed : Array Bool} {a : Act} {w : World} (hi : ops[i]? = some o) (hj : ops[j]? = some o') (hr : Region.ready md ops listed = [i, j])
    (h : ∀ K : Act → World → Prop, (∀ a' w', (pre i = true → S w') → wpAnyN P md ops Q S pre fuel (listed.setIfInBounds i true) a' w' → K a' w') →
      if Region.wanted o (yielded ops a.tmps) = true then Oper.wp P o a w K Q else K (a.put o.dst undef) w)
    (h' : ∀ K : Act → World → Prop, (∀ a' w', (pre j = true → S w') → wpAnyN P md ops Q S pre fuel (listed.setIfInBounds j true) a' w' → K a' w') →
      if Region.wanted o' (yielded ops a.tmps) = true then Oper.wp P o' a w K Q else K (a.put o'.dst undef) w) : wpAnyN P md ops Q S pre (fuel + 1) listed a w := by
  refine ⟨fun h0 => (by rw [hr] at h0; cases h0), fun m hm => ?_⟩
  rw [hr] at hm
  have hm' : m = i ∨ m = j := by simpa using hm
  rcases hm' with rfl | rfl
  · have hk := h (fun a' w' => (pre m = true → S w') ∧ wpAnyN P md ops Q S pre fuel (listed.setIfInBounds m true) a' w') (fun a' w' h1 h2 => ⟨h1, h2⟩)
    unfold wpOp
    simp only [hi]
    split
    · rename_i hw
      rw [if_pos hw] at hk
      exact .inl hk
    · rename_i hw
      rw [if_neg hw] at hk
      exact hk
  · have hk := h' (fun a' w' => (pre m = true → S w') ∧ wpAnyN P md ops Q S pre fuel (listed.setIfInBounds m true) a' w') (fun a' w' h1 h2 => ⟨h1, h2⟩)
    unfold wpOp
    simp only [hj]
    split
    · rename_i hw
      rw [if_pos hw] at hk
      exact .inl hk
    · rename_i hw
      rw [if_neg hw] at hk
      exact hk
/-- The rest comes up one behind the other. -/
theorem wpAnyN_seq : ∀ (l : List Oper) (k : Nat) (listed : Array Bool) (a : Act) (w : World), (∀ j, l[j]? = ops[k + j]?) → seqN md ops l.length k listed = true →
    (∀ j, k ≤ j → j < k + l.length → pre j = false) → wpList P ops Q l a w → wpAnyN P md ops Q S pre l.length listed a w
  | [], _, _, _, _, _, hB, _, h => ⟨by simpa [seqN] using hB, h⟩
  | o :: l, k, listed, a, w, hl, hB, hp, h => by
    have h0 : ops[k]? = some o := by simpa using (hl 0).symm
    simp only [List.length_cons, seqN, Bool.and_eq_true, decide_eq_true_eq] at hB
    refine ⟨fun h1 => (by rw [hB.1] at h1; cases h1), fun i hi => ?_⟩
    rw [hB.1] at hi
    have hik : i = k := by simpa using hi
    subst hik
    have hw : wpOp P ops Q i (wpList P ops Q l) a w := by unfold wpOp; simp only [h0]; exact h
    exact wpOp_mono (fun a' w' h' => ⟨fun hx => (by rw [hp i (Nat.le_refl _) (by simp)] at hx; cases hx),
      wpAnyN_seq l (i + 1) _ a' w' (fun j => by have := hl (j + 1); simpa [Nat.add_assoc, Nat.add_comm 1 j] using this) hB.2 (fun j h1 h2 => hp j (by omega) (by simp; omega)) h'⟩) hw
theorem wpAnyN_rest (k : Nat) (l : List Oper) {listed : Array Bool} {a : Act} {w : World} (hl : ops.toList.drop k = l) (hB : seqN md ops l.length k listed = true)
    (hp : ((List.range l.length).all fun j => !pre (k + j)) = true) (h : wpList P ops Q l a w) : wpAnyN P md ops Q S pre l.length listed a w := by
  refine wpAnyN_seq l k listed a w (fun j => ?_) hB (fun j h1 h2 => ?_) h
  · rw [← hl, List.getElem?_drop, Array.getElem?_toList]
  · have := List.all_eq_true.1 hp (j - k) (List.mem_range.2 (by omega))
    rw [show k + (j - k) = j from by omega] at this
    simpa using this
end
end Go.Proofs.YtfbaknkmpilllaaGreatDoor
namespace Go.Proofs.YtfbaknkmpilllaaGreatDoor
set_option linter.unusedVariables false
section
variable {P : Program} {ops : Array Oper} {Q : Exit → Act → World → Prop} {md : Region.Mode} {S : World → Prop}
end
end Go.Proofs.YtfbaknkmpilllaaGreatDoor

namespace Go.Proofs.YtfbaknkmpilllaaGreatDoor
open Go.RowKit Go.Maps Go.ChangeShapes
set_option linter.unusedSimpArgs false
set_option linter.unusedVariables false
set_option maxRecDepth 100000
theorem natI_length (l : List Nat) : (natI l).length = l.length := by simp [natI]
theorem natI_append (a b : List Nat) : natI (a ++ b) = natI a ++ natI b := by simp [natI]
/-- The last of a list of places. -/
theorem last_cell {w : World} {base : Nat} {v : Value} {l : List Nat} {j : Nat} (h : w.ownsInts base 3 .i64 v (natI (l ++ [j]))) :
    ∃ g c, v = .slice (some ⟨g, 0, none⟩) (l.length + 1) c ∧ base ≤ g ∧ g < w.heap.size ∧ w.cell? ⟨g, l.length, none⟩ = some (.int .i64 j) ∧ l.length + 1 ≤ c ∧ c ≤ maxLen := by
  have hl : (natI (l ++ [j])).length = l.length + 1 := by simp [natI]
  have hr := h.1
  rw [hl] at hr
  obtain ⟨g, c, rfl, hb, hg⟩ := hr.form (by omega)
  refine ⟨g, c, rfl, hb, hg, ?_, ?_⟩
  · rw [hr.cellAt _ (by omega), List.getElem?_map, natI, List.getElem?_map]
    simp
  · rcases hr.2 with ⟨e, _⟩ | ⟨g', c', cur, e, _, _, h1, h2, _⟩
    · cases e
    · cases e; exact ⟨h1, h2⟩
/-- All but the last. -/
theorem cut_last {w : World} {base : Nat} {g c : Nat} {l : List Nat} {j : Nat} (h : w.ownsInts base 3 .i64 (.slice (some ⟨g, 0, none⟩) (l.length + 1) c) (natI (l ++ [j]))) :
    w.ownsInts base 3 .i64 (.slice (some ⟨g, 0, none⟩) l.length c) (natI l) := by
  have hl : (natI (l ++ [j])).length = l.length + 1 := by simp [natI]
  have hr := h.1
  rw [hl] at hr
  have := own_cut (m := l.length) hr (by omega)
  rw [natI_append, List.map_append, Nat.mul_one, List.take_left' (by simp [natI])] at this
  refine ⟨by rw [natI_length]; exact this, fun z hz => h.2 z (by rw [natI_append]; exact List.mem_append_left _ hz)⟩
theorem elem_ints : Tryz.prog.elem 35 = 3 := by kernel_rfl
theorem nslice_high (A : Option Addr) (len cap k : Nat) (h : k ≤ cap) (W : World) : (Instr.slice 35 (.slice A len cap) none (some (.int .i64 (k : Int))) none).run Tryz.prog W = .ok (.slice A k cap) W := by
  rw [run_slice_h W 35 A len cap (by kernel_rfl) .i64 (k : Int) (by omega) (by omega)]
  rw [show Tryz.prog.elem 35 = 3 from elem_ints]
  go_simp
theorem em_tmod (f : Int) : -2 ≤ f.tmod 3 ∧ f.tmod 3 ≤ 2 := by
  have h1 := Int.tmod_lt_of_pos f (show (0 : Int) < 3 by decide)
  have h2 := Int.lt_tmod_of_pos f (show (0 : Int) < 3 by decide)
  omega
theorem boxK_at {wx : World} {g : Nat} {c0 c1 c2 : Value} {t : TypeId} (h : wx.heap[g]? = some (.cells #[c0, c1, c2] t (0, 0))) : wx.cell? ⟨g, 0, none⟩ = some c0 ∧ wx.cell? ⟨g, 1, none⟩ = some c1 ∧ wx.cell? ⟨g, 2, none⟩ = some c2 ∧ (∀ i, wx.frozen? ⟨g, i, none⟩ = false) ∧ g < wx.heap.size :=
  ⟨(cell_of_row _ _ 0 _ _ (0, 0) h).trans rfl, (cell_of_row _ _ 1 _ _ (0, 0) h).trans rfl, (cell_of_row _ _ 2 _ _ (0, 0) h).trans rfl, fun i => by simp [World.frozen?, h], (Array.getElem?_eq_some_iff.1 h).1⟩
/-- The last place of a kind. -/
theorem opsK_last {ps : List Pc} {l : List Nat} {j : Nat} {p : Pc} (hj : ps[j]? = some p) : opsK ps (l ++ [j]) p.it.sg (p.it.op && p.it.cl) (p.it.ff.tmod 3) = natI ((l.filter (kAt ps p.it.sg (p.it.op && p.it.cl) (p.it.ff.tmod 3))) ++ [j]) := by
  unfold opsK
  rw [List.filter_append, List.filter_cons, if_pos (by simp [kAt, hj, kB])]
  rfl
theorem opsK_other {ps : List Pc} {l : List Nat} {j : Nat} {p : Pc} (hj : ps[j]? = some p) (sg : UInt8) (b : Bool) (r : Int) (h : ¬ (sg = p.it.sg ∧ b = (p.it.op && p.it.cl) ∧ r = p.it.ff.tmod 3)) : opsK ps (l ++ [j]) sg b r = opsK ps l sg b r := by
  unfold opsK
  rw [List.filter_append, List.filter_cons, if_neg]
  · simp
  · simp only [kAt, hj, kB]
    intro e
    simp at e
    exact h ⟨e.1.1.symm, e.1.2.symm, e.2.symm⟩
theorem snoc_cases {α : Type} (l : List α) : l = [] ∨ ∃ l' x, l = l' ++ [x] := by
  rcases List.eq_nil_or_concat l with h | ⟨l', x, h⟩
  · exact Or.inl h
  · exact Or.inr ⟨l', x, by rw [h, List.concat_eq_append]⟩
theorem groups_store {w0 w1 : World} {base bm n : Nat} {D : DU} (h : w0.ownsGroups Tryz.prog 147 base 3 .i64 bm n D) (hn : n < maxLen) {sg : UInt8} {b : Bool} {r : Int} (hr : -2 ≤ r ∧ r ≤ 2) {u v' : Value} {zs zs' : List Int}
    (hu : w0.ownsInts base 3 .i64 u zs) (hback : w0.groupBack Tryz.prog 99 147 base 3 .i64 bm n D (kindV sg b r) (kLit sg b r) u) (hgr : w0.grownBy w1 u.ownBlock) (ho : w1.ownsInts base 3 .i64 v' zs')
    (hl : zs'.length ≤ n + 1) (hloc : v'.ownBlock = u.ownBlock ∨ ∃ g, v'.ownBlock = some g ∧ w0.heap.size ≤ g) {No : Nat → Prop} (hs : w0.Shuns bm No) (hno : ∀ g, v'.ownBlock = some g → ¬ No g) :
    ∃ w2, (Instr.mapUpdate 99 (.map (some bm)) (kindV sg b r) v').run Tryz.prog w1 = .ok () w2 ∧ w2.ownsGroups Tryz.prog 147 base 3 .i64 bm (n + 1) (D.put (kLit sg b r) (rowDatum .i64 v' zs')) ∧ w1.grownBy w2 (some bm) ∧ w2.Shuns bm No := by
  obtain ⟨w2, hrun, r1, r2⟩ := hback w1 v' zs' hgr ho hl hloc
  refine ⟨w2, hrun, r1, r2, ?_⟩
  obtain ⟨es, clock, hb, F, hsz, _, hbb, _⟩ := h
  have hblt : bm < w0.heap.size := (Array.getElem?_eq_some_iff.1 hb).1
  have hb1 : w1.heap[bm]? = some (.map es clock) := (hgr.block bm hblt (fun e1 => by have := (hu.1.lt bm e1.symm).1; omega)).trans hb
  obtain ⟨es', clock', hb2, hwho⟩ := stored_who keyLaw Tryz.underlying99 hb1 F (Nat.lt_of_le_of_lt hsz hn) (keyOf_kind sg b r hr) hrun
  intro es2 clock2 hb2' y hy g hyg
  obtain ⟨rfl, rfl⟩ : es' = es2 ∧ clock' = clock2 := by rw [hb2] at hb2'; simpa using hb2'
  rcases hwho y hy with ⟨hy0, _⟩ | ⟨_, hval⟩
  · exact hs es clock hb y hy0 g hyg
  · exact hno g (hval ▸ hyg)
def ShRel (M : Nat) (b bp bm cap : Nat) (Ps : List Pm) (o1 o2 : List Nat) (B : Nat) (w : World) (s : Value) (wr : World) : Prop :=
  ∃ (o3 : List Nat) (n : Nat) (D : DU) (ov : Value), s = .int .i64 (((o1.length + o3.length : Nat) : Int) - 1) ∧ o3 <+: o2 ∧ PrSt wr b bp bm cap n D Ps (o1 ++ o3) (o1 ++ o3) ov ∧ KB B w wr ∧ n + (o1 ++ o3).length ≤ M
set_option maxHeartbeats 8000000 in
theorem shut_any {w : World} {b bp bm cap n B : Nat} {D : DU} {Ps : List Pm} {o1 o2 : List Nat} {ov : Value} (h : PrSt w b bp bm cap n D Ps (o1 ++ o2) (o1 ++ o2) ov) (hB : B ≤ bm ∧ B ≤ b ∧ B ≤ w.heap.size) (hops : ∀ i ∈ o1 ++ o2, i < Ps.length)
    (f : Nat) (hf : f ≤ 1000) (h1 : ∀ i ∈ o1, i < f) (h2 : ∀ i ∈ o2, f ≤ i) :
    Calls Tryz.prog 128 #[.pointer (some ⟨b, 0, none⟩), .int .i64 f] w fun e w' => e = .returned (.tuple #[]) ∧ (∃ n' D' ov', PrSt w' b bp bm cap n' D' Ps o1 o1 ov' ∧ n' + o1.length ≤ n + (o1 ++ o2).length) ∧ KB B w w' := by
  have hcnt := h.cnt
  have hsm := h.small
  have hln := h.len
  obtain ⟨A0, cp0, ho0, _⟩ := own_form h.own_ops.1
  rw [natI_length] at ho0
  obtain ⟨c0, c1, c2, _⟩ := h.bcells
  rw [ho0, List.length_append] at c1
  have HH := Lib.hid h
  have H1 := Lib.hid h1
  have H2 := Lib.hid h2
  have HO := Lib.hid hops
  clear h h1 h2 hops
  have hbnd : o1.length + o2.length ≤ 2000 := by rw [List.length_append] at hcnt; omega
  go_enter Tryz.func128, Tryz.ntmps128
  go_wp2_with fail
  go_loopw [4] (fun s wr => ShRel (n + (o1 ++ o2).length) b bp bm cap Ps o1 o2 B w s wr) (fun s _ => (intOf s + 1).toNat)
  case atStart => exact ⟨o2, n, D, ov, by go_num, List.prefix_refl _, HH.out, KB.refl _ _, Nat.le_refl _⟩
  case round =>
    obtain ⟨o3, n', D', ov', rfl, hpre, h, hbw, hM⟩ := hrel
    have HMM := Lib.hid hM
    clear hM
    have HP := Lib.hid hpre
    have hcnt' := h.cnt
    have hol : (o1 ++ o3).length ≤ 2000 := by omega
    rw [List.length_append] at hol
    have hbwB := hbw.size
    clear c0 c1 c2
    obtain ⟨c0, c1, c2, hfz, hbl⟩ := h.bcells
    rcases snoc_cases o3 with rfl | ⟨o4, j, rfl⟩
    · rw [List.append_nil] at h
      rcases snoc_cases o1 with rfl | ⟨o5, i, rfl⟩
      · have HE := Lib.hid h
        clear h
        go_wp2
        go_end0
        exact ⟨rfl, ⟨n', D', ov', HE.out, by have := HMM.out; simpa using this⟩, hbw⟩
      · obtain ⟨g, c, rfl, hg, hgl, hcl, hc⟩ := last_cell h.own_ops
        have hi : i < f := H1.out i (by simp)
        have hlen : (o5 ++ [i]).length + ([] : List Nat).length = o5.length + 1 := by simp
        rw [hlen]
        have HE := Lib.hid h
        clear h
        go_wp2
        go_end0
        exact ⟨rfl, ⟨n', D', _, HE.out, by have := HMM.out; simpa using this⟩, hbw⟩
    · rw [← List.append_assoc] at h
      obtain ⟨g, c, rfl, hg, hgl, hcl, hc, hcM⟩ := last_cell h.own_ops
      have hjf : f ≤ j := H2.out j ((HP.out).subset (by simp))
      have hjl : j < Ps.length := HO.out j (List.mem_append_right _ ((HP.out).subset (by simp)))
      obtain ⟨x, hx⟩ : ∃ x, Ps[j]? = some x := ⟨_, List.getElem?_eq_getElem hjl⟩
      obtain ⟨⟨p0, p1, p2, p3, p4, p5, p6, p7⟩, pfz, hbpl, _⟩ := h.pcells hx
      have hck := fun W => kindOf_any x.1.it x.2.1 W
      unfold itV kV kindV at hck
      have hmm : ((o1.length + (o4 ++ [j]).length : Nat) : Int) - 1 = ((o1 ++ o4).length : Nat) := by simp; omega
      rw [hmm]
      have hol2 : (o1 ++ o4).length ≤ 2000 := by rw [List.length_append]; simp at hol; omega
      have HPS := Lib.hid h
      clear h
      have HM := Lib.hid (show (o1 ++ o4).length = o1.length + o4.length from List.length_append)
      generalize hm : (o1 ++ o4).length = m at *
      unfold maxLen at hcM
      have hcM2 : c ≤ 9223372036854775807 := hcM
      have hmlt : (m : Int) < (m : Int) + 1 := by omega
      have hjlt : (j : Int) < (Ps.length : Int) := by omega
      go_upto_region 3 with fail
      go_cut [5] from 27 to 41 (fun s wx => ∃ gk, s = .pointer (some ⟨gk, 0, none⟩) ∧ wx.heap[gk]? = some (.cells #[.int .u8 x.1.it.sg.toNat, .bool (x.1.it.op && x.1.it.cl), .int .i64 (x.1.it.ff.tmod 3)] 147 (0, 0)) ∧ Below wr.heap.size wr wx)
      case first =>
        have hSB : ∀ W : World, Below wr.heap.size wr W → (W.cell? ⟨b, 0, none⟩ = some (.slice (some ⟨bp, 0, none⟩) Ps.length cap) ∧ W.cell? ⟨b, 1, none⟩ = some (.slice (some ⟨g, 0, none⟩) (m + 1) c) ∧ W.cell? ⟨g, m, none⟩ = some (.int .i64 j) ∧ W.cell? ⟨bp, j * 8, none⟩ = some (.int .u8 x.1.it.sg.toNat) ∧ W.cell? ⟨bp, j * 8 + 1, none⟩ = some (.int .i64 x.1.it.ff) ∧ W.cell? ⟨bp, j * 8 + 2, none⟩ = some (.bool x.1.it.op) ∧ W.cell? ⟨bp, j * 8 + 3, none⟩ = some (.bool x.1.it.cl) ∧ W.cell? ⟨bp, j * 8 + 4, none⟩ = some x.2.1) := fun W hb =>
          ⟨(hb.cell (p := ⟨b, 0, none⟩) hbl).trans c0, (hb.cell (p := ⟨b, 1, none⟩) hbl).trans c1, (hb.cell (p := ⟨g, m, none⟩) hgl).trans hcl, (hb.cell (p := ⟨bp, j * 8, none⟩) hbpl).trans p0, (hb.cell (p := ⟨bp, j * 8 + 1, none⟩) hbpl).trans p1, (hb.cell (p := ⟨bp, j * 8 + 2, none⟩) hbpl).trans p2, (hb.cell (p := ⟨bp, j * 8 + 3, none⟩) hbpl).trans p3, (hb.cell (p := ⟨bp, j * 8 + 4, none⟩) hbpl).trans p4⟩
        have HSB := Lib.hid hSB
        have HS := Lib.hid (hSB wr.drew (Below.refl _ wr).drew)
        clear hSB c0 c1 c2 hcl p0 p1 p2 p3 p4 p5 p6 p7
        have hs0 : wr.drew.heap.size = wr.heap.size := rfl
        have hbd : Below wr.heap.size wr wr.drew := (Below.refl _ wr).drew
        refine wp_region_N (fun W => W.cell? ⟨b, 0, none⟩ = some (.slice (some ⟨bp, 0, none⟩) Ps.length cap) ∧ W.cell? ⟨b, 1, none⟩ = some (.slice (some ⟨g, 0, none⟩) (m + 1) c) ∧ W.cell? ⟨g, m, none⟩ = some (.int .i64 j) ∧ W.cell? ⟨bp, j * 8, none⟩ = some (.int .u8 x.1.it.sg.toNat) ∧ W.cell? ⟨bp, j * 8 + 1, none⟩ = some (.int .i64 x.1.it.ff) ∧ W.cell? ⟨bp, j * 8 + 2, none⟩ = some (.bool x.1.it.op) ∧ W.cell? ⟨bp, j * 8 + 3, none⟩ = some (.bool x.1.it.cl) ∧ W.cell? ⟨bp, j * 8 + 4, none⟩ = some x.2.1) (fun i => decide (i < 14) || i == 15) (by kernel_rfl) ?_
        generalize hwd : wr.drew = wd at *
        refine wpAnyN_take_at 0 27 (v := ?_) rfl rfl (by kernel_rfl) (by kernel_rfl) (by kernel_rfl) (by kernel_rfl) (by kernel_rfl) (fun _ _ _ h => h) (by rfl) ?_ HS.out ?_
        rotate_left
        · intro W hSw; (try dsimp only at hSw); obtain ⟨q0, q1, q2, q3, q4, q5, q6, q7⟩ := hSw; go_simp; (try with_reducible rfl)
        simp only [Act.put, List.setIfInBounds_toArray, List.set_cons_zero, List.set_cons_succ]
        refine wpAnyN_take_at 1 28 (v := ?_) rfl rfl (by kernel_rfl) (by kernel_rfl) (by kernel_rfl) (by kernel_rfl) (by kernel_rfl) (fun _ _ _ h => h) (by rfl) ?_ HS.out ?_
        rotate_left
        · intro W hSw; (try dsimp only at hSw); obtain ⟨q0, q1, q2, q3, q4, q5, q6, q7⟩ := hSw; go_simp; (try with_reducible rfl)
        simp only [Act.put, List.setIfInBounds_toArray, List.set_cons_zero, List.set_cons_succ]
        refine wpAnyN_take_at 2 29 (v := ?_) rfl rfl (by kernel_rfl) (by kernel_rfl) (by kernel_rfl) (by kernel_rfl) (by kernel_rfl) (fun _ _ _ h => h) (by rfl) ?_ HS.out ?_
        rotate_left
        · intro W hSw; (try dsimp only at hSw); obtain ⟨q0, q1, q2, q3, q4, q5, q6, q7⟩ := hSw; go_simp; (try with_reducible rfl)
        simp only [Act.put, List.setIfInBounds_toArray, List.set_cons_zero, List.set_cons_succ]
        refine wpAnyN_take_at 3 30 (v := ?_) rfl rfl (by kernel_rfl) (by kernel_rfl) (by kernel_rfl) (by kernel_rfl) (by kernel_rfl) (fun _ _ _ h => h) (by rfl) ?_ HS.out ?_
        rotate_left
        · intro W hSw; (try dsimp only at hSw); obtain ⟨q0, q1, q2, q3, q4, q5, q6, q7⟩ := hSw; go_simp; (try with_reducible rfl)
        simp only [Act.put, List.setIfInBounds_toArray, List.set_cons_zero, List.set_cons_succ]
        refine wpAnyN_take_at 4 31 (v := ?_) rfl rfl (by kernel_rfl) (by kernel_rfl) (by kernel_rfl) (by kernel_rfl) (by kernel_rfl) (fun _ _ _ h => h) (by rfl) ?_ HS.out ?_
        rotate_left
        · intro W hSw; (try dsimp only at hSw); obtain ⟨q0, q1, q2, q3, q4, q5, q6, q7⟩ := hSw; go_simp; (try with_reducible rfl)
        simp only [Act.put, List.setIfInBounds_toArray, List.set_cons_zero, List.set_cons_succ]
        refine wpAnyN_take_at 5 32 (v := ?_) rfl rfl (by kernel_rfl) (by kernel_rfl) (by kernel_rfl) (by kernel_rfl) (by kernel_rfl) (fun _ _ _ h => h) (by rfl) ?_ HS.out ?_
        rotate_left
        · intro W hSw; (try dsimp only at hSw); obtain ⟨q0, q1, q2, q3, q4, q5, q6, q7⟩ := hSw; go_simp; (try with_reducible rfl)
        simp only [Act.put, List.setIfInBounds_toArray, List.set_cons_zero, List.set_cons_succ]
        refine wpAnyN_take_at 6 33 (v := ?_) rfl rfl (by kernel_rfl) (by kernel_rfl) (by kernel_rfl) (by kernel_rfl) (by kernel_rfl) (fun _ _ _ h => h) (by rfl) ?_ HS.out ?_
        rotate_left
        · intro W hSw; (try dsimp only at hSw); obtain ⟨q0, q1, q2, q3, q4, q5, q6, q7⟩ := hSw; go_simp; (try with_reducible rfl)
        simp only [Act.put, List.setIfInBounds_toArray, List.set_cons_zero, List.set_cons_succ]
        refine wpAnyN_take_at 7 34 (v := ?_) rfl rfl (by kernel_rfl) (by kernel_rfl) (by kernel_rfl) (by kernel_rfl) (by kernel_rfl) (fun _ _ _ h => h) (by rfl) ?_ HS.out ?_
        rotate_left
        · intro W hSw; (try dsimp only at hSw); obtain ⟨q0, q1, q2, q3, q4, q5, q6, q7⟩ := hSw; go_simp; (try with_reducible rfl)
        simp only [Act.put, List.setIfInBounds_toArray, List.set_cons_zero, List.set_cons_succ]
        refine wpAnyN_take_at 8 35 (v := ?_) rfl rfl (by kernel_rfl) (by kernel_rfl) (by kernel_rfl) (by kernel_rfl) (by kernel_rfl) (fun _ _ _ h => h) (by rfl) ?_ HS.out ?_
        rotate_left
        · intro W hSw; (try dsimp only at hSw); obtain ⟨q0, q1, q2, q3, q4, q5, q6, q7⟩ := hSw; go_simp; (try with_reducible rfl)
        simp only [Act.put, List.setIfInBounds_toArray, List.set_cons_zero, List.set_cons_succ]
        refine wpAnyN_take_at 9 36 (v := ?_) rfl rfl (by kernel_rfl) (by kernel_rfl) (by kernel_rfl) (by kernel_rfl) (by kernel_rfl) (fun _ _ _ h => h) (by rfl) ?_ HS.out ?_
        rotate_left
        · intro W hSw; (try dsimp only at hSw); obtain ⟨q0, q1, q2, q3, q4, q5, q6, q7⟩ := hSw; go_simp; (try with_reducible rfl)
        simp only [Act.put, List.setIfInBounds_toArray, List.set_cons_zero, List.set_cons_succ]
        refine wpAnyN_take_at 10 37 (v := ?_) rfl rfl (by kernel_rfl) (by kernel_rfl) (by kernel_rfl) (by kernel_rfl) (by kernel_rfl) (fun _ _ _ h => h) (by rfl) ?_ HS.out ?_
        rotate_left
        · intro W hSw; (try dsimp only at hSw); obtain ⟨q0, q1, q2, q3, q4, q5, q6, q7⟩ := hSw; go_simp; (try with_reducible rfl)
        simp only [Act.put, List.setIfInBounds_toArray, List.set_cons_zero, List.set_cons_succ]
        refine wpAnyN_take_at 11 38 (v := ?_) rfl rfl (by kernel_rfl) (by kernel_rfl) (by kernel_rfl) (by kernel_rfl) (by kernel_rfl) (fun _ _ _ h => h) (by rfl) ?_ HS.out ?_
        rotate_left
        · intro W hSw; (try dsimp only at hSw); obtain ⟨q0, q1, q2, q3, q4, q5, q6, q7⟩ := hSw; go_simp; (try with_reducible rfl)
        simp only [Act.put, List.setIfInBounds_toArray, List.set_cons_zero, List.set_cons_succ]
        refine wpAnyN_take_at 12 39 (v := ?_) rfl rfl (by kernel_rfl) (by kernel_rfl) (by kernel_rfl) (by kernel_rfl) (by kernel_rfl) (fun _ _ _ h => h) (by rfl) ?_ HS.out ?_
        rotate_left
        · intro W hSw; (try dsimp only at hSw); obtain ⟨q0, q1, q2, q3, q4, q5, q6, q7⟩ := hSw; go_simp; (try with_reducible rfl)
        simp only [Act.put, List.setIfInBounds_toArray, List.set_cons_zero, List.set_cons_succ]
        refine wpAnyN_take_at 13 40 (v := ?_) rfl rfl (by kernel_rfl) (by kernel_rfl) (by kernel_rfl) (by kernel_rfl) (by kernel_rfl) (fun _ _ _ h => h) (by rfl) ?_ HS.out ?_
        rotate_left
        · intro W hSw; (try dsimp only at hSw); obtain ⟨q0, q1, q2, q3, q4, q5, q6, q7⟩ := hSw; go_simp; (try with_reducible rfl)
        simp only [Act.put, List.setIfInBounds_toArray, List.set_cons_zero, List.set_cons_succ]
        refine wpAnyN_two (i := 14) (j := 15) rfl rfl (by kernel_rfl) (fun K hK => ?_) (fun K hK => ?_)
        · go_simp
          go_at_call 64
          refine (hck _).mono ?_
          rintro e w3 ⟨rfl, b3⟩
          have hb3 : Below wr.heap.size wr w3 := hbd.trans (b3.mono (by omega))
          have hs3 := hb3.size
          refine hK _ _ (fun h => absurd h (by decide)) ?_
          clear hK
          (try simp only [Act.put, List.setIfInBounds_toArray, List.set_cons_zero, List.set_cons_succ])
          refine wpAnyN_one (i := 15) rfl (by kernel_rfl) (fun K hK => ?_)
          go_simp
          refine hK _ _ (fun _ => HSB.out _ (hb3.alloc hs3 _)) ?_
          clear hK
          (try simp only [Act.put, List.setIfInBounds_toArray, List.set_cons_zero, List.set_cons_succ])
          refine wpAnyN_rest 16 [_] rfl (by kernel_rfl) (by rfl) ?_
          go_wp2
          go_meet
          exact ⟨w3.heap.size, rfl, heap_alloc_new _ _, hb3.alloc hs3 _⟩
        · go_simp
          refine hK _ _ (fun _ => HSB.out _ (hbd.alloc (by omega) _)) ?_
          clear hK
          (try simp only [Act.put, List.setIfInBounds_toArray, List.set_cons_zero, List.set_cons_succ])
          refine wpAnyN_one (i := 14) rfl (by kernel_rfl) (fun K hK => ?_)
          go_simp
          go_at_call 64
          refine (hck _).mono ?_
          rintro e w3 ⟨rfl, b3⟩
          have hbx : w3.heap[wd.heap.size]? = some (.cells #[.int .u8 0, .bool false, .int .i64 0] 147 (0, 0)) := (b3.block _ (by simp)).trans (heap_alloc_new _ _)
          rw [hs0] at hbx
          obtain ⟨v0, v1, v2, vf, vlt⟩ := boxK_at hbx
          have hb3 : Below wr.heap.size wr w3 := (hbd.alloc (by omega) _).trans (b3.mono (by simp; omega))
          refine hK _ _ (fun h => absurd h (by decide)) ?_
          clear hK
          (try simp only [Act.put, List.setIfInBounds_toArray, List.set_cons_zero, List.set_cons_succ])
          refine wpAnyN_rest 16 [_] rfl (by kernel_rfl) (by rfl) ?_
          have HBX := Lib.hid hbx
          have HB3 := Lib.hid hb3
          clear hbx hb3 b3
          go_wp2
          go_meet
          exact ⟨wr.heap.size, rfl, by simp [World.setCell, Array.getElem?_modify, HBX.out], ((HB3.out.setCell (p := ⟨wr.heap.size, 0, none⟩) (Nat.le_refl _) _).setCell (p := ⟨wr.heap.size, 1, none⟩) (Nat.le_refl _) _).setCell (p := ⟨wr.heap.size, 2, none⟩) (Nat.le_refl _) _⟩
      case rest =>
        obtain ⟨gk, rfl, hbk, hbx⟩ := hcut
        have HBk := Lib.hid hbk
        have HBx := Lib.hid hbx
        clear c0 c1 c2 hcl p0 p1 p2 p3 p4 p5 p6 p7 hbk hbx hck
        go_wp2_with fail
        have hbd : Below wr.heap.size wr wc.drew := HBx.out.drew
        have hd := HPS.out.below hbd
        refine wp_region_N (fun W => W = wc.drew) (fun i => decide (i < 20)) (by kernel_rfl) ?_
        obtain ⟨b0, b1, b2, bfz, blt⟩ := boxK_at (wx := wc.drew) HBk.out
        generalize hwd : wc.drew = wd at *
        obtain ⟨gv, zs, hrun, hat, hoi, hzl, hback, hsh⟩ := groups_look hd.fam.grp (by unfold maxLen; omega) x.1.it.sg (x.1.it.op && x.1.it.cl) (x.1.it.ff.tmod 3) (em_tmod _)
        have hxp : (Ps.map Prod.fst)[j]? = some x.1 := by rw [List.getElem?_map, hx]; rfl
        have hzs : zs = natI (((o1 ++ o4).filter (kAt (Ps.map Prod.fst) x.1.it.sg (x.1.it.op && x.1.it.cl) (x.1.it.ff.tmod 3))) ++ [j]) := by
          have h1 := hd.kd.2 x.1.it.sg (x.1.it.op && x.1.it.cl) (x.1.it.ff.tmod 3) (em_tmod _).1 (em_tmod _).2
          rw [hat, zsOf_row hoi, opsK_last hxp] at h1
          exact h1
        have HKD := Lib.hid (show opsK (Ps.map Prod.fst) (o1 ++ o4) x.1.it.sg (x.1.it.op && x.1.it.cl) (x.1.it.ff.tmod 3) = natI ((o1 ++ o4).filter (kAt (Ps.map Prod.fst) x.1.it.sg (x.1.it.op && x.1.it.cl) (x.1.it.ff.tmod 3))) from rfl)
        generalize (o1 ++ o4).filter (kAt (Ps.map Prod.fst) x.1.it.sg (x.1.it.op && x.1.it.cl) (x.1.it.ff.tmod 3)) = F at *
        subst hzs
        obtain ⟨g2, cc, rfl, hg2, hg2l, _, hcc, hccM⟩ := last_cell hoi
        have hcut := cut_last hoi
        rw [natI_length, List.length_append] at hzl
        have hzl2 : F.length + 1 ≤ n' := hzl
        obtain ⟨w2, hup, hgr2, hgb2, hsh2⟩ := groups_store hd.fam.grp (by unfold maxLen; omega) (em_tmod x.1.it.ff) hoi hback (World.grownBy.refl _ _) hcut (by rw [natI_length]; omega) (Or.inl rfl) hd.fam.shun (fun g' hg' => hsh _ hd.fam.shun g' hg')
        have hd2 := hd.kinds (opsM' := o1 ++ o4) hoi hsh (World.grownBy.refl _ _) hgb2 hgr2 hsh2 (hd.kd.put (em_tmod _) _ (opsK (Ps.map Prod.fst) (o1 ++ o4)) (by rw [zsOf_row hcut, HKD.out]) (fun sg2 b2 r2 hne => (opsK_other hxp sg2 b2 r2 hne).symm)) (by have := hd.cnt; simp only [List.length_append, List.length_cons, List.length_nil] at this ⊢; omega)
        obtain ⟨d0, d1, d2, dfz, dlt⟩ := hd2.bcells
        obtain ⟨a0, a1, a2, afz, alt⟩ := hd.bcells
        have hsl := fun W => nslice_high (some ⟨g2, 0, none⟩) (F.length + 1) cc F.length (by omega) W
        have hsl2 := fun W => nslice_high (some ⟨g, 0, none⟩) (m + 1) c m (by omega) W
        have hwF : IntKind.i64.wrap (F.length : Int) = (F.length : Int) := IntWalk.i64_in _ (by omega)
        have hFc : F.length ≤ cc := by omega
        unfold kindV at hrun hup
        have hlk := hrun wd rfl
        have hopn := hd2.openers (World.grownBy.refl _ _) (cut_last (by rw [hm]; exact hd2.own_ops)) (Or.inl rfl)
        rw [hm] at hopn
        have HOP := Lib.hid hopn
        have hb2 : KB B w w2 := (hbw.thenB hbd (by omega)).grown hgb2 (by have := hbd.size; omega) (hd.row_bm hB.1)
        have hb2' : KB B w (w2.setCell ⟨b, 1, none⟩ (.slice (some ⟨g, 0, none⟩) m c)) := hb2.grown (setc_grown _ _ _ _) (by have := hb2.size; omega) (hd2.row_b hB.2.1)
        have HB2 := Lib.hid hb2'
        have HG := Lib.hid hgb2
        have HDD := Lib.hid hd2
        clear hd hback hsh hoi hat hcut hgr2 hgb2 hsh2 hd2 hopn hb2 hb2' hrun hxp HBk HBx HPS hwd
        refine wpAnyN_take_at 0 42 (v := ?_) rfl rfl (by kernel_rfl) (by kernel_rfl) (by kernel_rfl) (by kernel_rfl) (by kernel_rfl) (fun _ _ _ h => h) (by rfl) ?_ rfl ?_
        rotate_left
        · intro W hSw; (try dsimp only at hSw); subst hSw; go_simp; (try with_reducible rfl)
        simp only [Act.put, List.setIfInBounds_toArray, List.set_cons_zero, List.set_cons_succ]
        refine wpAnyN_take_at 1 43 (v := ?_) rfl rfl (by kernel_rfl) (by kernel_rfl) (by kernel_rfl) (by kernel_rfl) (by kernel_rfl) (fun _ _ _ h => h) (by rfl) ?_ rfl ?_
        rotate_left
        · intro W hSw; (try dsimp only at hSw); subst hSw; go_simp; (try with_reducible rfl)
        simp only [Act.put, List.setIfInBounds_toArray, List.set_cons_zero, List.set_cons_succ]
        refine wpAnyN_take_at 2 44 (v := ?_) rfl rfl (by kernel_rfl) (by kernel_rfl) (by kernel_rfl) (by kernel_rfl) (by kernel_rfl) (fun _ _ _ h => h) (by rfl) ?_ rfl ?_
        rotate_left
        · intro W hSw; (try dsimp only at hSw); subst hSw; go_simp; (try with_reducible rfl)
        simp only [Act.put, List.setIfInBounds_toArray, List.set_cons_zero, List.set_cons_succ]
        refine wpAnyN_take_at 3 45 (v := ?_) rfl rfl (by kernel_rfl) (by kernel_rfl) (by kernel_rfl) (by kernel_rfl) (by kernel_rfl) (fun _ _ _ h => h) (by rfl) ?_ rfl ?_
        rotate_left
        · intro W hSw; (try dsimp only at hSw); subst hSw; go_simp; (try with_reducible rfl)
        simp only [Act.put, List.setIfInBounds_toArray, List.set_cons_zero, List.set_cons_succ]
        refine wpAnyN_take_at 4 46 (v := ?_) rfl rfl (by kernel_rfl) (by kernel_rfl) (by kernel_rfl) (by kernel_rfl) (by kernel_rfl) (fun _ _ _ h => h) (by rfl) ?_ rfl ?_
        rotate_left
        · intro W hSw; (try dsimp only at hSw); subst hSw; go_simp; (try with_reducible rfl)
        simp only [Act.put, List.setIfInBounds_toArray, List.set_cons_zero, List.set_cons_succ]
        refine wpAnyN_take_at 5 47 (v := ?_) rfl rfl (by kernel_rfl) (by kernel_rfl) (by kernel_rfl) (by kernel_rfl) (by kernel_rfl) (fun _ _ _ h => h) (by rfl) ?_ rfl ?_
        rotate_left
        · intro W hSw; (try dsimp only at hSw); subst hSw; go_simp; (try with_reducible rfl)
        simp only [Act.put, List.setIfInBounds_toArray, List.set_cons_zero, List.set_cons_succ]
        refine wpAnyN_take_at 6 48 (v := ?_) rfl rfl (by kernel_rfl) (by kernel_rfl) (by kernel_rfl) (by kernel_rfl) (by kernel_rfl) (fun _ _ _ h => h) (by rfl) ?_ rfl ?_
        rotate_left
        · intro W hSw; (try dsimp only at hSw); subst hSw; go_simp; (try with_reducible rfl)
        simp only [Act.put, List.setIfInBounds_toArray, List.set_cons_zero, List.set_cons_succ]
        refine wpAnyN_take_at 7 49 (v := ?_) rfl rfl (by kernel_rfl) (by kernel_rfl) (by kernel_rfl) (by kernel_rfl) (by kernel_rfl) (fun _ _ _ h => h) (by rfl) ?_ rfl ?_
        rotate_left
        · intro W hSw; (try dsimp only at hSw); subst hSw; go_simp; (try with_reducible rfl)
        simp only [Act.put, List.setIfInBounds_toArray, List.set_cons_zero, List.set_cons_succ]
        refine wpAnyN_take_at 8 50 (v := ?_) rfl rfl (by kernel_rfl) (by kernel_rfl) (by kernel_rfl) (by kernel_rfl) (by kernel_rfl) (fun _ _ _ h => h) (by rfl) ?_ rfl ?_
        rotate_left
        · intro W hSw; (try dsimp only at hSw); subst hSw; go_simp; (try with_reducible rfl)
        simp only [Act.put, List.setIfInBounds_toArray, List.set_cons_zero, List.set_cons_succ]
        refine wpAnyN_take_at 9 51 (v := ?_) rfl rfl (by kernel_rfl) (by kernel_rfl) (by kernel_rfl) (by kernel_rfl) (by kernel_rfl) (fun _ _ _ h => h) (by rfl) ?_ rfl ?_
        rotate_left
        · intro W hSw; (try dsimp only at hSw); subst hSw; go_simp; (try with_reducible rfl)
        simp only [Act.put, List.setIfInBounds_toArray, List.set_cons_zero, List.set_cons_succ]
        refine wpAnyN_take_at 10 52 (v := ?_) rfl rfl (by kernel_rfl) (by kernel_rfl) (by kernel_rfl) (by kernel_rfl) (by kernel_rfl) (fun _ _ _ h => h) (by rfl) ?_ rfl ?_
        rotate_left
        · intro W hSw; (try dsimp only at hSw); subst hSw; go_simp; (try with_reducible rfl)
        simp only [Act.put, List.setIfInBounds_toArray, List.set_cons_zero, List.set_cons_succ]
        refine wpAnyN_take_at 11 53 (v := ?_) rfl rfl (by kernel_rfl) (by kernel_rfl) (by kernel_rfl) (by kernel_rfl) (by kernel_rfl) (fun _ _ _ h => h) (by rfl) ?_ rfl ?_
        rotate_left
        · intro W hSw; (try dsimp only at hSw); subst hSw; go_simp; (try with_reducible rfl)
        simp only [Act.put, List.setIfInBounds_toArray, List.set_cons_zero, List.set_cons_succ]
        refine wpAnyN_take_at 12 54 (v := ?_) rfl rfl (by kernel_rfl) (by kernel_rfl) (by kernel_rfl) (by kernel_rfl) (by kernel_rfl) (fun _ _ _ h => h) (by rfl) ?_ rfl ?_
        rotate_left
        · intro W hSw; (try dsimp only at hSw); subst hSw; go_simp; (try with_reducible rfl)
        simp only [Act.put, List.setIfInBounds_toArray, List.set_cons_zero, List.set_cons_succ]
        refine wpAnyN_take_at 13 55 (v := ?_) rfl rfl (by kernel_rfl) (by kernel_rfl) (by kernel_rfl) (by kernel_rfl) (by kernel_rfl) (fun _ _ _ h => h) (by rfl) ?_ rfl ?_
        rotate_left
        · intro W hSw; (try dsimp only at hSw); subst hSw; go_simp; (try with_reducible rfl)
        simp only [Act.put, List.setIfInBounds_toArray, List.set_cons_zero, List.set_cons_succ]
        refine wpAnyN_take_at 14 56 (v := ?_) rfl rfl (by kernel_rfl) (by kernel_rfl) (by kernel_rfl) (by kernel_rfl) (by kernel_rfl) (fun _ _ _ h => h) (by rfl) ?_ rfl ?_
        rotate_left
        · intro W hSw; (try dsimp only at hSw); subst hSw; go_simp; (try with_reducible rfl)
        simp only [Act.put, List.setIfInBounds_toArray, List.set_cons_zero, List.set_cons_succ]
        refine wpAnyN_take_at 15 57 (v := ?_) rfl rfl (by kernel_rfl) (by kernel_rfl) (by kernel_rfl) (by kernel_rfl) (by kernel_rfl) (fun _ _ _ h => h) (by rfl) ?_ rfl ?_
        rotate_left
        · intro W hSw; (try dsimp only at hSw); subst hSw; go_simp; (try with_reducible rfl)
        simp only [Act.put, List.setIfInBounds_toArray, List.set_cons_zero, List.set_cons_succ]
        refine wpAnyN_take_at 16 58 (v := ?_) rfl rfl (by kernel_rfl) (by kernel_rfl) (by kernel_rfl) (by kernel_rfl) (by kernel_rfl) (fun _ _ _ h => h) (by rfl) ?_ rfl ?_
        rotate_left
        · intro W hSw; (try dsimp only at hSw); subst hSw; go_simp; (try with_reducible rfl)
        simp only [Act.put, List.setIfInBounds_toArray, List.set_cons_zero, List.set_cons_succ]
        refine wpAnyN_take_at 17 59 (v := ?_) rfl rfl (by kernel_rfl) (by kernel_rfl) (by kernel_rfl) (by kernel_rfl) (by kernel_rfl) (fun _ _ _ h => h) (by rfl) ?_ rfl ?_
        rotate_left
        · intro W hSw; (try dsimp only at hSw); subst hSw; go_simp; (try with_reducible rfl)
        simp only [Act.put, List.setIfInBounds_toArray, List.set_cons_zero, List.set_cons_succ]
        refine wpAnyN_take_at 18 60 (v := ?_) rfl rfl (by kernel_rfl) (by kernel_rfl) (by kernel_rfl) (by kernel_rfl) (by kernel_rfl) (fun _ _ _ h => h) (by rfl) ?_ rfl ?_
        rotate_left
        · intro W hSw; (try dsimp only at hSw); subst hSw; go_simp; (try with_reducible rfl)
        simp only [Act.put, List.setIfInBounds_toArray, List.set_cons_zero, List.set_cons_succ]
        refine wpAnyN_take_at 19 61 (v := ?_) rfl rfl (by kernel_rfl) (by kernel_rfl) (by kernel_rfl) (by kernel_rfl) (by kernel_rfl) (fun _ _ _ h => h) (by rfl) ?_ rfl ?_
        rotate_left
        · intro W hSw; (try dsimp only at hSw); subst hSw; go_simp; (try with_reducible rfl)
        simp only [Act.put, List.setIfInBounds_toArray, List.set_cons_zero, List.set_cons_succ]
        refine wpAnyN_one (i := 20) rfl (by kernel_rfl) (fun K hK => ?_)
        go_simp
        refine hK _ _ (fun h => absurd h (by decide)) ?_
        clear hK hup hlk b0 b1 b2 bfz a0 a1 a2 afz
        (try simp only [Act.put, List.setIfInBounds_toArray, List.set_cons_zero, List.set_cons_succ])
        refine wpAnyN_rest 21 [] rfl (by kernel_rfl) (by rfl) ?_
        have df1 := dfz 1
        go_wp2
        go_roundw
        case rel => exact ⟨o4, n' + 1, _, _, by rw [← HM.out], (List.prefix_append o4 [j]).trans HP.out, HOP.out.1, HB2.out, by have := HMM.out; simp only [List.length_append, List.length_cons, List.length_nil] at this ⊢; omega⟩
        case measure => simp [intOf]
end Go.Proofs.YtfbaknkmpilllaaGreatDoor
