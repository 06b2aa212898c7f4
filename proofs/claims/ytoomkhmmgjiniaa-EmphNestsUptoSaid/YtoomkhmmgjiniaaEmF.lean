/-
  Package emph: the keys of its map; lists of places that share no block, and the map of such lists beside them.
-/
import Derived.Test.YtoomkhmmgjiniaaEmA
import Derived.Test.YtoomkhmmgjiniaaGrw
import Derived.Maps.GroupsBeside
import Derived.Maps.OwnSet
import Derived.DeepKeys4
namespace Go.Proofs.Ytoomkhmmgjiniaa
open Go.RowKit Go.Maps Go.ChangeShapes
set_option linter.unusedSimpArgs false
set_option linter.unusedVariables false
set_option maxRecDepth 100000

abbrev DU := DataW Unit
/-! ### Keys -/
def kLit (sg : UInt8) (b : Bool) (r : Int) : Lit := .string (keyBytes [.int .u8 sg.toNat, .bool b, .int .i64 r])
theorem keyLaw : Keyed Try.prog 60 := Keyed.of_law (deep_law_laid laidOut (m := 2) (by omega) (of_decide_eq_true (by kernel_rfl)) (by kernel_rfl) (by kernel_rfl))
theorem types_two : ∃ m, Try.prog.types.size = m + 2 := ⟨Try.prog.types.size - 2, by have : 2 ≤ Try.prog.types.size := of_decide_eq_true (by kernel_rfl); omega⟩
theorem keyOf_kind (sg : UInt8) (b : Bool) (r : Int) (h : -2 ≤ r ∧ r ≤ 2) : keyOf Try.prog 60 (kindV sg b r) = some (kLit sg b r) := by
  obtain ⟨m, hm⟩ := types_two
  have hw1 : (Lit.int .u8 (sg.toNat : Int)).wf = true := by
    have := sg.toNat_lt
    simp [Lit.wf, IntKind.min, IntKind.max, IntKind.signed, IntKind.bits]
    omega
  have hw2 : (Lit.int .i64 r).wf = true := WalkArith.wf_i64 (by omega)
  have hk : Try.prog.keyType 60 = true := by kernel_rfl
  have hf : (kindV sg b r).formed Try.prog 60 = true := by
    unfold kindV Value.formed
    rw [Try.underlying60]
    rfl
  have h1 : Try.prog.keyLits (m + 2) 5 [.int .u8 sg.toNat] = some [.int .u8 sg.toNat] := by
    unfold Program.keyLits
    rw [Try.underlying5]
    simp [hw1]
  have h2 : Try.prog.keyLits (m + 2) 4 [.bool b] = some [.bool b] := by
    unfold Program.keyLits
    rw [Try.underlying4]
  have h3 : Try.prog.keyLits (m + 2) 3 [.int .i64 r] = some [.int .i64 r] := by
    unfold Program.keyLits
    rw [Try.underlying3]
    simp [hw2]
  have hc : Try.prog.cellsOf 60 = 3 := by kernel_rfl
  have hc1 : Try.prog.cellsOf 5 = 1 := by kernel_rfl
  have hc2 : Try.prog.cellsOf 4 = 1 := by kernel_rfl
  have hc3 : Try.prog.cellsOf 3 = 1 := by kernel_rfl
  have h4 : Try.prog.keyLits (m + 2 + 1) 60 [.int .u8 sg.toNat, .bool b, .int .i64 r] = some [.int .u8 sg.toNat, .bool b, .int .i64 r] := by
    unfold Program.keyLits
    rw [Try.underlying60]
    simp [hc, hc1, hc2, hc3, h1, h2, h3]
  unfold keyOf
  rw [Try.underlying60]
  simp only
  rw [hk, hf, hm, show (kindV sg b r).cells.toList = [.int .u8 sg.toNat, .bool b, .int .i64 r] from rfl, h4]
  rfl
theorem kLit_key {sg : UInt8} {b : Bool} {r : Int} (h : -2 ≤ r ∧ r ≤ 2) : WideAt.IsKeyLit (kLit sg b r) := keyLaw.key (keyOf_kind sg b r h)
theorem kLit_inj {sg sg2 : UInt8} {b b2 : Bool} {r r2 : Int} (h : -2 ≤ r ∧ r ≤ 2) (h2 : -2 ≤ r2 ∧ r2 ≤ 2) (e : kLit sg b r = kLit sg2 b2 r2) : sg = sg2 ∧ b = b2 ∧ r = r2 := by
  have h3 := keyLaw.inj (keyOf_kind sg b r h) (by rw [e]; exact keyOf_kind sg2 b2 r2 h2)
  unfold kindV at h3
  simp at h3
  exact ⟨UInt8.toNat_inj.1 (by have := h3.1; omega), h3.2⟩

/-! ### What the map says -/
def zsOf : DU → List Int
  | .slice es _ => es.filterMap fun e => match e with | .lit (.int _ x) => some x | _ => none
  | _ => []
theorem zsOf_lits (q : IntKind) (zs : List Int) (sp : List DU) : zsOf (.slice (lits q zs) sp) = zs := by
  unfold zsOf lits
  induction zs with
  | nil => rfl
  | cons x zs ih => simpa using ih
theorem zsOf_row {w : World} {base : Nat} {e : TypeId} {q : IntKind} {v : Value} {zs : List Int} (h : w.ownsInts base e q v zs) : zsOf (rowDatum q v zs) = zs := by
  rcases h.datum (H := Unit) with ⟨h1, rfl⟩ | h1
  · rw [h1]; rfl
  · rw [h1]; exact zsOf_lits q zs []
/-- The map's lists, kind by kind. -/
def KD (D : DU) (f : UInt8 → Bool → Int → List Int) : Prop := IsMap D ∧ ∀ sg b r, -2 ≤ r → r ≤ 2 → zsOf (D.atKey (kLit sg b r) .nil) = f sg b r
theorem KD.new : KD (.map []) (fun _ _ _ => []) := ⟨isMap_empty, fun _ _ _ _ _ => rfl⟩
theorem KD.put {D : DU} {f : UInt8 → Bool → Int → List Int} (h : KD D f) {sg : UInt8} {b : Bool} {r : Int} (hr : -2 ≤ r ∧ r ≤ 2) (d : DU) (f' : UInt8 → Bool → Int → List Int)
    (h1 : f' sg b r = zsOf d) (h2 : ∀ sg2 b2 r2, ¬ (sg2 = sg ∧ b2 = b ∧ r2 = r) → f' sg2 b2 r2 = f sg2 b2 r2) : KD (D.put (kLit sg b r) d) f' := by
  refine ⟨h.1.put _ _, fun sg2 b2 r2 hlo hhi => ?_⟩
  by_cases e : sg2 = sg ∧ b2 = b ∧ r2 = r
  · obtain ⟨rfl, rfl, rfl⟩ := e
    rw [atKey_put_same h.1 (kLit_key hr), h1]
  · rw [atKey_put_other (fun e2 => e (kLit_inj ⟨hlo, hhi⟩ hr e2)), h2 sg2 b2 r2 e]
    exact h.2 sg2 b2 r2 hlo hhi

/-! ### Lists of places -/
structure Fam (w : World) (base bm n : Nat) (D : DU) (F : List (Value × List Int)) : Prop where
  own : ∀ x ∈ F, w.ownsInts base 3 .i64 x.1 x.2
  dist : F.Pairwise fun x y => Apart x.1 y.1
  grp : w.ownsGroups Try.prog 60 base 3 .i64 bm n D
  shun : w.Shuns bm fun g => ∃ x ∈ F, x.1.ownBlock = some g

theorem fam_map {w : World} {base bm n : Nat} {D : DU} {F : List (Value × List Int)} (h : Fam w base bm n D F) : ∃ es clock, w.heap[bm]? = some (.map es clock) := by
  obtain ⟨es, clock, hb, _⟩ := h.grp
  exact ⟨es, clock, hb⟩
theorem fam_lt {w : World} {base bm n : Nat} {D : DU} {F : List (Value × List Int)} (h : Fam w base bm n D F) : bm < w.heap.size := by
  obtain ⟨es, clock, hb⟩ := fam_map h
  exact (Array.getElem?_eq_some_iff.1 hb).1
theorem ints_ne_map {w : World} {base : Nat} {v : Value} {zs : List Int} (h : w.ownsInts base 3 .i64 v zs) {bm : Nat} {es : Array MapEntry} {clock : Nat} (hb : w.heap[bm]? = some (.map es clock)) : v.ownBlock ≠ some bm := by
  intro e
  rcases h.1.2 with ⟨rfl, _⟩ | ⟨g', cap, cur, rfl, _, hh, _⟩
  · cases e
  · cases e
    rw [hb] at hh
    cases hh
theorem ints_ne {w : World} {base : Nat} {v : Value} {zs : List Int} (h : w.ownsInts base 3 .i64 v zs) {g : Nat} {cs : Array Value} {t : TypeId} {fz : Nat × Nat} (hg : w.heap[g]? = some (.cells cs t fz)) (ht : t ≠ 3) : v.ownBlock ≠ some g := own_ne h.1 hg (fun e => ht e.symm)
theorem group_rows {w : World} {base bm n : Nat} {D : DU} (h : w.ownsGroups Try.prog 60 base 3 .i64 bm n D) {es : Array MapEntry} {clock : Nat} (hb : w.heap[bm]? = some (.map es clock)) : ∀ x ∈ es.toList, ∃ zs, w.ownsInts base 3 .i64 x.val zs := by
  obtain ⟨es', clock', hb', F, _⟩ := h
  obtain ⟨rfl, rfl⟩ : es' = es ∧ clock' = clock := by rw [hb'] at hb; simpa using hb
  intro x hx
  obtain ⟨y, hy⟩ := F.reads x hx
  obtain ⟨z, hz, _⟩ := WideElems.rd_val hy
  obtain ⟨zs, ho, _⟩ := rowElem_inv hz
  exact ⟨zs, ho⟩

theorem or_ne {v : Value} {row : Option Nat} (h : ∀ g, row = some g → v.ownBlock ≠ some g) : v.ownBlock = none ∨ v.ownBlock ≠ row := by
  cases hv : v.ownBlock with
  | none => exact Or.inl rfl
  | some g => exact Or.inr (fun e => h g e.symm hv)
/-- Blocks of another type turn, or new ones come. -/
theorem Fam.keep {w w' : World} {base bm n : Nat} {D : DU} {F : List (Value × List Int)} (h : Fam w base bm n D F) {row : Option Nat} (hg : w.grownBy w' row)
    (hr : ∀ g, row = some g → ∃ cs t fz, w.heap[g]? = some (.cells cs t fz) ∧ t ≠ 3) : Fam w' base bm n D F := by
  obtain ⟨es, clock, hb⟩ := fam_map h
  have hbr : some bm ≠ row := fun e => by
    obtain ⟨cs, t, fz, h1, _⟩ := hr bm e.symm
    rw [hb] at h1
    cases h1
  have hv : ∀ {v : Value} {zs : List Int}, w.ownsInts base 3 .i64 v zs → v.ownBlock = none ∨ v.ownBlock ≠ row := fun {v zs} ho => or_ne fun g e => by
    obtain ⟨cs, t, fz, h1, h2⟩ := hr g e
    exact ints_ne ho h1 h2
  refine ⟨fun x hx => (h.own x hx).kept hg (hv (h.own x hx)), h.dist, h.grp.kept hg hbr fun es' clock' hb' x hx => ?_, h.shun.kept hg (fam_lt h) hbr⟩
  obtain ⟨zs, ho⟩ := group_rows h.grp hb' x hx
  exact hv ho
theorem Fam.below {w w' : World} {base bm n : Nat} {D : DU} {F : List (Value × List Int)} (h : Fam w base bm n D F) (hb : Below w.heap.size w w') : Fam w' base bm n D F := h.keep (grownBy_of_below hb none) (fun g e => by cases e)
theorem mem_set_ne {α : Type} {F : List α} {i : Nat} {y x : α} (h : x ∈ F.set i y) : x = y ∨ ∃ j, j ≠ i ∧ F[j]? = some x := by
  obtain ⟨j, hj⟩ := List.mem_iff_getElem?.1 h
  rw [List.getElem?_set] at hj
  split at hj
  · split at hj
    · exact Or.inl (Option.some.inj hj).symm
    · cases hj
  · exact Or.inr ⟨j, by omega, hj⟩
/-- One of the lists grows, is cut, or is written anew. -/
theorem Fam.grow {w w' : World} {base bm n : Nat} {D : DU} {F : List (Value × List Int)} (h : Fam w base bm n D F) {i : Nat} {v v' : Value} {zs zs' : List Int} (hi : F[i]? = some (v, zs)) (hg : w.grownBy w' v.ownBlock)
    (ho : w'.ownsInts base 3 .i64 v' zs') (loc : v'.ownBlock = v.ownBlock ∨ ∃ g, v'.ownBlock = some g ∧ w.heap.size ≤ g) : Fam w' base bm n D (F.set i (v', zs')) := by
  obtain ⟨es, clock, hb⟩ := fam_map h
  have hvm : (v, zs) ∈ F := List.mem_of_getElem? hi
  have hov := h.own _ hvm
  have hbr : some bm ≠ v.ownBlock := fun e => ints_ne_map hov hb e.symm
  have hap : ∀ j x, j ≠ i → F[j]? = some x → Apart x.1 v := fun j x hj hx => by
    obtain ⟨h1, rfl⟩ := List.getElem?_eq_some_iff.1 hx
    obtain ⟨h2, e2⟩ := List.getElem?_eq_some_iff.1 hi
    rcases Nat.lt_or_gt_of_ne hj with h3 | h3
    · have := List.pairwise_iff_getElem.1 h.dist j i h1 h2 h3
      rw [e2] at this
      exact this
    · have := List.pairwise_iff_getElem.1 h.dist i j h2 h1 h3
      rw [e2] at this
      exact this.symm
  have hap' : ∀ j x, j ≠ i → F[j]? = some x → Apart x.1 v' := fun j x hj hx g hgx hgv => by
    rcases loc with e | ⟨g', e, hlo⟩
    · exact hap j x hj hx g hgx (by rw [← e]; exact hgv)
    · rw [e] at hgv
      cases hgv
      have := ((h.own x (List.mem_of_getElem? hx)).1.lt g hgx).2
      omega
  refine ⟨fun x hx => ?_, ?_, h.grp.kept hg hbr (h.shun.rowsOff fun j hj => ⟨_, hvm, hj⟩), ?_⟩
  · rcases mem_set_ne hx with rfl | ⟨j, hj, hx⟩
    · exact ho
    · refine (h.own x (List.mem_of_getElem? hx)).kept hg (or_ne fun g e e2 => hap j x hj hx g e2 e)
  · rw [List.pairwise_iff_getElem]
    intro a b ha hb' hab
    rw [List.length_set] at ha hb'
    rw [List.getElem_set, List.getElem_set]
    split
    · next e =>
      subst e
      rw [if_neg (by omega)]
      exact (hap' b _ (by omega) (List.getElem?_eq_getElem hb')).symm
    · next e =>
      split
      · next e2 =>
        exact hap' a _ (fun e3 => e e3.symm) (List.getElem?_eq_getElem ha)
      · exact List.pairwise_iff_getElem.1 h.dist a b ha hb' hab
  · refine (h.shun.reno h.grp (No' := fun g => ∃ x ∈ F.set i (v', zs'), x.1.ownBlock = some g) fun g => ?_).kept hg (fam_lt h) hbr
    rintro ⟨x, hx, hgx⟩
    rcases mem_set_ne hx with rfl | ⟨j, hj, hx⟩
    · rcases loc with e | ⟨g', e, hlo⟩
      · exact Or.inl ⟨_, hvm, by rw [← e]; exact hgx⟩
      · rw [e] at hgx
        cases hgx
        exact Or.inr hlo
    · exact Or.inl ⟨x, List.mem_of_getElem? hx, hgx⟩
theorem Fam.push {w : World} {base bm n : Nat} {D : DU} {F : List (Value × List Int)} (h : Fam w base bm n D F) : Fam w base bm n D (F ++ [(.slice none 0 0, [])]) := by
  refine ⟨fun x hx => ?_, ?_, h.grp, fun es clock hb x hx g hg => ?_⟩
  · rcases List.mem_append.1 hx with hx | hx
    · exact h.own x hx
    · rw [List.mem_singleton] at hx; subst hx; exact World.ownsInts_nil _ _ _ _
  · rw [List.pairwise_append]
    refine ⟨h.dist, by simp, fun x _ y hy g _ hgy => ?_⟩
    rw [List.mem_singleton] at hy
    subst hy
    cases hgy
  · rintro ⟨y, hy, hgy⟩
    rcases List.mem_append.1 hy with hy | hy
    · exact h.shun es clock hb x hx g hg ⟨y, hy, hgy⟩
    · rw [List.mem_singleton] at hy; subst hy; cases hgy
/-- A list of the map's is written anew. -/
theorem Fam.store {w w1 w2 : World} {base bm n : Nat} {D D' : DU} {F : List (Value × List Int)} (h : Fam w base bm n D F) {u : Value} {zs : List Int} (hu : w.ownsInts base 3 .i64 u zs)
    (hsh : ∀ No : Nat → Prop, w.Shuns bm No → ∀ g, u.ownBlock = some g → ¬ No g) (hg1 : w.grownBy w1 u.ownBlock) (hg2 : w1.grownBy w2 (some bm)) (hgr : w2.ownsGroups Try.prog 60 base 3 .i64 bm (n + 1) D')
    (hs2 : w2.Shuns bm fun g => ∃ x ∈ F, x.1.ownBlock = some g) : Fam w2 base bm (n + 1) D' F := by
  obtain ⟨es, clock, hb⟩ := fam_map h
  refine ⟨fun x hx => ?_, h.dist, hgr, hs2⟩
  have h1 := (h.own x hx).kept hg1 (or_ne fun g e e2 => hsh _ h.shun g e ⟨x, hx, e2⟩)
  have hb1 : w1.heap[bm]? = some (.map es clock) := (hg1.block bm (fam_lt h) (fun e => ints_ne_map hu hb e.symm)).trans hb
  exact h1.kept hg2 (or_ne fun g e => by cases e; exact ints_ne_map h1 hb1)

end Go.Proofs.Ytoomkhmmgjiniaa
