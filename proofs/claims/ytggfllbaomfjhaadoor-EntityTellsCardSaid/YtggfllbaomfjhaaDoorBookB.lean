/-
  The statements' book of lists: copyTexts; what the book holds of texts; Texts.
-/
import Derived.Test.YtggfllbaomfjhaaDoorBookZ
import Derived.Laws.AppendOwnNone
import Derived.Deep.AppendLies
import Derived.Deep.RegionLaw
namespace Go.Proofs.YtggfllbaomfjhaaDoor
open Go.RowKit
set_option linter.unusedSimpArgs false
set_option linter.unusedVariables false

theorem strs_one' (ls : List (List UInt8)) : ∀ u ∈ strs ls, u.oneCell' = true := by
  intro u hu
  obtain ⟨l, _, rfl⟩ := List.mem_map.1 hu
  rfl
/-- Where the cells of a list that may be read lie. -/
theorem RowOf.cells {w : World} {ad : Addr} {cap : Nat} {xs : List Value} (h : RowOf w (some ad) cap xs) : ∀ j u, xs[j]? = some u → w.cell? (ad.add j) = some u := by
  intro j u hu
  have hj : j < xs.length := (List.getElem?_eq_some_iff.1 hu).1
  rcases h.2.2 with h | ⟨b, off, e, hb, hc⟩
  · rw [h] at hj; simp at hj
  · cases e
    rw [addr_add, hc j hj, ← hu, List.getElem?_eq_getElem hj]

theorem copyTexts_any (A : Option Addr) (cap : Nat) (ls : List (List UInt8)) (w : World) (hrow : RowOf w A cap (strs ls)) (hn : ls.length ≤ 1000000) :
    Calls Tryd.prog 22 #[.slice A ls.length cap] w fun e w' => ∃ v, e = .returned v ∧ w'.ownsRow w.heap.size 9 1 v ls.length (strs ls) ∧ Below w.heap.size w w' := by
  obtain ⟨i0, hi, hz0, hz1, hz2⟩ := info_parts infoString
  have hl := strs_length ls
  have h1 := strs_one' ls
  rcases A with _ | ad
  · have h0 : ls = [] := by
      rcases hrow.2.2 with h | ⟨b, off, e, _⟩
      · exact List.map_eq_nil_iff.1 h
      · cases e
    subst h0
    go_enter Tryd.func22, Tryd.ntmps22
    go_wp2
    go_ret
    exact ⟨_, rfl, World.ownsRow_nil _ _ _ _, Below.refl _ _⟩
  · have hc := hrow.cells
    have HL := Lib.hid hl
    clear hl
    go_enter Tryd.func22, Tryd.ntmps22
    go_wp2_with (at_builtin; refine wpList_append_own _ rfl _ _ 25 rfl w.heap.size 9 i0 (.string ByteArray.empty) 1 16 Tryd.underlying25 hi hz0 hz1 hz2 rfl (by decide) _ 0 [] rfl (World.ownsRow_nil _ _ _ _) ad ls.length cap (strs ls) rfl (by rw [HL.out]; omega) hc h1 (by unfold maxLen; omega) (by omega) (Nat.le_refl _) ?_)
    intro v' w2 hown' hgrow _
    have hb := (Below.refl w.heap.size w).grown hgrow (Nat.le_refl _) (fun k hk => by simp [Value.ownBlock] at hk)
    have HO := Lib.hid hown'
    clear hown' hgrow
    go_wp2
    go_ret
    exact ⟨_, rfl, HO.out, hb⟩

theorem infoSlice : (Tryd.prog.info? 25).map (fun i => (i.zero, i.size, i.bytes)) = some (some (.slice none 0 0), 1, 24) := by kernel_rfl

/-- The book's cells where it holds texts alone. -/
def bookCells (tv uv : Value) : Array Value := #[tv, uv, .slice none 0 0, .slice none 0 0, .slice none 0 0, .slice none 0 0, .slice none 0 0, .slice none 0 0, .slice none 0 0, .slice none 0 0, .slice none 0 0, .slice none 0 0, .slice none 0 0, .slice none 0 0, .slice none 0 0, .slice none 0 0]

/-- Rows of texts, one behind the other in blocks of their own. -/
def Rows1 (w : World) (B : Nat) (vs : List Value) (lss : List (List (List UInt8))) : Prop :=
  vs.length = lss.length ∧ ∀ (i : Nat) (v : Value) (ls : List (List UInt8)), vs[i]? = some v → lss[i]? = some ls → w.ownsRow B 9 1 v ls.length (strs ls)
/-- Two values own no block together. -/
def Apart (v u : Value) : Prop := ∀ g, v.ownBlock = some g → u.ownBlock ≠ some g
theorem Apart.symm {v u : Value} (h : Apart v u) : Apart u v := fun g hu hv => h g hv hu
theorem Apart.ne {v u : Value} (h : Apart v u) : v.ownBlock = none ∨ v.ownBlock ≠ u.ownBlock := by
  cases hv : v.ownBlock with
  | none => exact Or.inl rfl
  | some g => exact Or.inr fun e => h g hv e.symm
def Dist (vs : List Value) : Prop := vs.Pairwise Apart

/-- What the book at b holds: texts (and copies of what was in them). -/
structure BookIs (w : World) (B b : Nat) (tv uv : Value) (vs us : List Value) (lss : List (List (List UInt8))) : Prop where
  blk : w.heap[b]? = some (.cells (bookCells tv uv) 42 (0, 0))
  base : B ≤ b
  tvs : w.ownsRow B 25 1 tv vs.length vs
  uvs : w.ownsRow B 25 1 uv us.length us
  ne : Apart tv uv
  tl : Rows1 w B vs lss
  ul : Rows1 w B us lss
  dist : Dist (vs ++ us)

theorem BookIs.lt {w : World} {B b : Nat} {tv uv : Value} {vs us : List Value} {lss : List (List (List UInt8))} (h : BookIs w B b tv uv vs us lss) : b < w.heap.size := (Array.getElem?_eq_some_iff.1 h.blk).1
theorem BookIs.cell {w : World} {B b : Nat} {tv uv : Value} {vs us : List Value} {lss : List (List (List UInt8))} (h : BookIs w B b tv uv vs us lss) (i : Nat) : w.cell? ⟨b, i, none⟩ = (bookCells tv uv)[i]? := cell_of_row w b i _ _ (0, 0) h.blk
theorem BookIs.free {w : World} {B b : Nat} {tv uv : Value} {vs us : List Value} {lss : List (List (List UInt8))} (h : BookIs w B b tv uv vs us lss) (i : Nat) : w.frozen? ⟨b, i, none⟩ = false := by
  have := h.blk
  simp [World.frozen?, this]

/-- Two rows whose elements are of different types lie apart; and a row lies apart from a block of another type. -/
theorem own_ne {w : World} {B : Nat} {e e' : TypeId} {size n : Nat} {v : Value} {xs : List Value} (h : w.ownsRow B e size v n xs) {g : Nat} {cs : Array Value} {fz : Nat × Nat} (hg : w.heap[g]? = some (.cells cs e' fz)) (hne : e ≠ e') : v.ownBlock ≠ some g := by
  rcases h.2 with ⟨rfl, _⟩ | ⟨g', cap, cur, rfl, _, hh, _⟩
  · simp [Value.ownBlock]
  · intro he
    simp [Value.ownBlock] at he
    subst he
    rw [hh] at hg
    injection hg with hg
    injection hg with _ ht
    exact hne ht
theorem own_apart {w : World} {B B' : Nat} {e e' : TypeId} {size size' n n' : Nat} {v u : Value} {xs ys : List Value} (h : w.ownsRow B e size v n xs) (k : w.ownsRow B' e' size' u n' ys) (hne : e ≠ e') : Apart v u := by
  intro g hv hu
  rcases k.2 with ⟨rfl, _⟩ | ⟨g', cap, cur, rfl, _, hh, _⟩
  · simp [Value.ownBlock] at hu
  · simp [Value.ownBlock] at hu
    subst hu
    exact own_ne h hh hne hv
/-- A row among older blocks, and one among newer ones. -/
theorem own_new {w w' : World} {B B' : Nat} {e e' : TypeId} {size size' n n' : Nat} {v u : Value} {xs ys : List Value} (h : w.ownsRow B e size v n xs) (k : w'.ownsRow B' e' size' u n' ys) (hB : w.heap.size ≤ B') : Apart v u := by
  intro g hv hu
  have h1 := (h.lt g hv).2
  have h2 := (k.lt g hu).1
  omega

/-- Every row of texts stays as it was. -/
def StrKept (w w' : World) : Prop := ∀ (g : Nat) (cs : Array Value) (fz : Nat × Nat), w.heap[g]? = some (.cells cs 9 fz) → w'.heap[g]? = some (.cells cs 9 fz)
theorem StrKept.row {w w' : World} (h : StrKept w w') {B : Nat} {v : Value} {n : Nat} {xs : List Value} (k : w.ownsRow B 9 1 v n xs) : w'.ownsRow B 9 1 v n xs := by
  refine ⟨k.1, ?_⟩
  rcases k.2 with hn | ⟨g, cap, cur, rfl, hB, hg, rest⟩
  · exact .inl hn
  · exact .inr ⟨g, cap, cur, rfl, hB, h _ _ _ hg, rest⟩
theorem StrKept.rows {w w' : World} (h : StrKept w w') {B : Nat} {vs : List Value} {lss : List (List (List UInt8))} (k : Rows1 w B vs lss) : Rows1 w' B vs lss :=
  ⟨k.1, fun i v ls hv hl => h.row (k.2 i v ls hv hl)⟩
theorem StrKept.refl (w : World) : StrKept w w := fun _ _ _ h => h
theorem StrKept.trans {a b c : World} (h : StrKept a b) (k : StrKept b c) : StrKept a c := fun g cs fz hg => k g cs fz (h g cs fz hg)
theorem StrKept.below {w w' : World} (h : Below w.heap.size w w') : StrKept w w' := fun g cs fz hg => (h.block g (Array.getElem?_eq_some_iff.1 hg).1).trans hg
theorem StrKept.drew (w : World) : StrKept w w.drew := fun _ _ _ h => h
theorem StrKept.alloc (w : World) (o : Obj) : StrKept w (w.alloc o) := fun g cs fz hg => (Below.heap_alloc w o g (Array.getElem?_eq_some_iff.1 hg).1).trans hg
theorem StrKept.grown {w w' : World} {B : Nat} {e : TypeId} {size : Nat} {v : Value} {n : Nat} {xs : List Value} (h : w.ownsRow B e size v n xs) (hg : w.grownBy w' v.ownBlock) (hne : e ≠ 9) : StrKept w w' := by
  intro g cs fz hgg
  rw [hg.block g (Array.getElem?_eq_some_iff.1 hgg).1 (fun e1 => own_ne h hgg hne e1.symm)]
  exact hgg
theorem StrKept.setCell {w : World} {b : Nat} {cs : Array Value} {t : TypeId} {fz : Nat × Nat} (hb : w.heap[b]? = some (.cells cs t fz)) (hne : t ≠ 9) (i : Nat) (u : Value) : StrKept w (w.setCell ⟨b, i, none⟩ u) := by
  intro g cs' fz' hg
  have hgb : g ≠ b := by
    rintro rfl
    rw [hb] at hg
    injection hg with hg
    injection hg with _ ht
    exact hne ht
  rw [Below.heap_setCell w ⟨b, i, none⟩ u g hgb]
  exact hg

end Go.Proofs.YtggfllbaomfjhaaDoor
