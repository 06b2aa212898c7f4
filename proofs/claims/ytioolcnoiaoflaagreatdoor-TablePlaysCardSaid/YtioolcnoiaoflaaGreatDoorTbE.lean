/-
  Package define: a Table: its keys; its map as what it reads as; which definition a name and a kind have.
  Package define: a Table in memory; slices.Clone of definitions; All.
  Package define: Table.Add.
  Package define: Table.Add where none is of that name and kind.
  Package define: Table.Find; a Table that is none; the document's Find.
  Package define: the document's Find of definitions.
  Package define: TablePlays: what stands in memory between its steps.
-/
import Derived.Test.YtioolcnoiaoflaaGreatDoorDfn
import Derived.Test.YtioolcnoiaoflaaGreatDoorBase
import Derived.Maps.OwnSet
import Derived.DeepKeys4
import Derived.Test.YtioolcnoiaoflaaGreatDoorDfA
import Derived.Lib.SliceRun
import Derived.BigQuiet
import Derived.BigRegion
import Derived.Maps.OwnOps
import Derived.Test.YtioolcnoiaoflaaGreatDoorReg
import Derived.Deep.AppendLies
import Derived.WalkSpells
import Derived.Test.YtioolcnoiaoflaaGreatDoorDnA
import Derived.Test.YtioolcnoiaoflaaGreatDoorRdA
import Derived.Test.YtioolcnoiaoflaaGreatDoorDfH
namespace Go.Proofs.YtioolcnoiaoflaaGreatDoor
open Go.RowKit Go.Maps
set_option linter.unusedSimpArgs false
set_option linter.unusedVariables false
set_option maxRecDepth 100000

/-! ### Keys -/
def kLit (n : List UInt8) (b : Bool) : Lit := .string (keyBytes [.string n, .bool b])
def keyV (n : List UInt8) (b : Bool) : Value := .agg #[.string ⟨n.toArray⟩, .bool b]
theorem keyLaw : Keyed Tryz.prog 84 := Keyed.of_law (deep_law_laid laidOut (m := 2) (by omega) (of_decide_eq_true (by kernel_rfl)) (by kernel_rfl) (by kernel_rfl))
theorem types_two : ∃ m, Tryz.prog.types.size = m + 2 := ⟨Tryz.prog.types.size - 2, by have : 2 ≤ Tryz.prog.types.size := of_decide_eq_true (by kernel_rfl); omega⟩
theorem keyOf_key (n : List UInt8) (b : Bool) (h : n.length ≤ maxLen) : keyOf Tryz.prog 84 (keyV n b) = some (kLit n b) := by
  obtain ⟨m, hm⟩ := types_two
  have hs : (⟨n.toArray⟩ : ByteArray).size ≤ maxLen := by rw [str_size]; exact h
  have hk : Tryz.prog.keyType 84 = true := by kernel_rfl
  have hf : (keyV n b).formed Tryz.prog 84 = true := by
    unfold keyV Value.formed
    rw [Tryz.underlying84]
    rfl
  have h1 : Tryz.prog.keyLits (m + 2) 9 [.string ⟨n.toArray⟩] = some [.string n] := by
    unfold Program.keyLits
    rw [Tryz.underlying9]
    simp only
    rw [if_pos hs]
  have h2 : Tryz.prog.keyLits (m + 2) 4 [.bool b] = some [.bool b] := by
    unfold Program.keyLits
    rw [Tryz.underlying4]
  have hc : Tryz.prog.cellsOf 84 = 2 := by kernel_rfl
  have hc1 : Tryz.prog.cellsOf 9 = 1 := by kernel_rfl
  have hc2 : Tryz.prog.cellsOf 4 = 1 := by kernel_rfl
  have h3 : Tryz.prog.keyLits (m + 2 + 1) 84 [.string ⟨n.toArray⟩, .bool b] = some [.string n, .bool b] := by
    unfold Program.keyLits
    rw [Tryz.underlying84]
    simp [hc, hc1, hc2, h1, h2]
  unfold keyOf
  rw [Tryz.underlying84]
  simp only
  rw [hk, hf, hm, show (keyV n b).cells.toList = [.string ⟨n.toArray⟩, .bool b] from rfl, h3]
  rfl
theorem kLit_key {n : List UInt8} {b : Bool} (h : n.length ≤ maxLen) : WideAt.IsKeyLit (kLit n b) := keyLaw.key (keyOf_key n b h)
theorem kLit_inj {n m : List UInt8} {b c : Bool} (h : n.length ≤ maxLen) (h2 : m.length ≤ maxLen) (e : kLit n b = kLit m c) : n = m ∧ b = c := by
  have h3 := keyLaw.inj (keyOf_key n b h) (by rw [e]; exact keyOf_key m c h2)
  unfold keyV at h3
  simp at h3
  exact h3

/-! ### The map's datum -/
abbrev DU := DataW Unit
def tbF (m : DU) (i : Nat) : List Dfn → DU
  | [] => m
  | x :: D => tbF (m.put (kLit x.nm x.nt) (.lit (.int .i64 i))) (i + 1) D
def tbD (D : List Dfn) : DU := tbF (.map []) 0 D
theorem tbF_snoc (x : Dfn) : ∀ (D : List Dfn) (m : DU) (i : Nat), tbF m i (D ++ [x]) = (tbF m i D).put (kLit x.nm x.nt) (.lit (.int .i64 ((i + D.length : Nat) : Int)))
  | [], m, i => rfl
  | y :: D, m, i => by
    rw [List.cons_append, tbF, tbF_snoc x D, tbF, List.length_cons, show i + 1 + D.length = i + (D.length + 1) from by omega]
theorem tbD_snoc (D : List Dfn) (x : Dfn) : tbD (D ++ [x]) = (tbD D).put (kLit x.nm x.nt) (.lit (.int .i64 (D.length : Int))) := by
  unfold tbD
  rw [tbF_snoc, Nat.zero_add]
/-- Whether there is one of that name and kind. -/
def dfHas (D : List Dfn) (n : List UInt8) (b : Bool) : Bool := D.any fun x => decide (x.nm = n) && (x.nt == b)
def NmOk (D : List Dfn) : Prop := ∀ x ∈ D, x.nm.length ≤ maxLen
def Uniq : List Dfn → Prop
  | [] => True
  | x :: D => dfHas D x.nm x.nt = false ∧ Uniq D
theorem tbF_map : ∀ (D : List Dfn) (m : DU) (i : Nat), IsMap m → IsMap (tbF m i D)
  | [], _, _, h => h
  | x :: D, m, i, h => tbF_map D _ _ (h.put _ _)
theorem tbD_map (D : List Dfn) : IsMap (tbD D) := tbF_map D _ _ isMap_empty
theorem has_tbF {n : List UInt8} {b : Bool} (hn : n.length ≤ maxLen) : ∀ (D : List Dfn) (m : DU) (i : Nat), IsMap m → NmOk D → Maps.has (tbF m i D) (kLit n b) = (Maps.has m (kLit n b) || dfHas D n b)
  | [], m, i, hm, h => by simp [tbF, dfHas]
  | x :: D, m, i, hm, h => by
    have hx := h x (by simp)
    rw [tbF, has_tbF hn D _ _ (hm.put _ _) (fun y hy => h y (by simp [hy]))]
    by_cases e : x.nm = n ∧ x.nt = b
    · obtain ⟨rfl, rfl⟩ := e
      rw [has_put_same hm (kLit_key hx)]
      simp [dfHas]
    · have hne : kLit n b ≠ kLit x.nm x.nt := fun e2 => e (by have := kLit_inj hn hx e2; exact ⟨this.1.symm, this.2.symm⟩)
      rw [has_put_other hne]
      have h9 : (decide (x.nm = n) && (x.nt == b)) = false := by
        cases h1 : decide (x.nm = n) && (x.nt == b) with
        | false => rfl
        | true =>
          simp at h1
          exact absurd h1 e
      show _ = (_ || ((decide (x.nm = n) && (x.nt == b)) || dfHas D n b))
      rw [h9, Bool.false_or]
theorem has_tbD {n : List UInt8} {b : Bool} (hn : n.length ≤ maxLen) {D : List Dfn} (h : NmOk D) : Maps.has (tbD D) (kLit n b) = dfHas D n b := by
  unfold tbD
  rw [has_tbF hn D _ _ isMap_empty h]
  rfl
theorem at_tbF_other {n : List UInt8} {b : Bool} (hn : n.length ≤ maxLen) (z : DU) : ∀ (D : List Dfn) (m : DU) (i : Nat), NmOk D → dfHas D n b = false → (tbF m i D).atKey (kLit n b) z = m.atKey (kLit n b) z
  | [], _, _, _, _ => rfl
  | x :: D, m, i, h, hh => by
    have hx := h x (by simp)
    have h2 : (decide (x.nm = n) && (x.nt == b)) = false ∧ dfHas D n b = false := by
      have : ((decide (x.nm = n) && (x.nt == b)) || dfHas D n b) = false := hh
      simpa using this
    have hne : kLit n b ≠ kLit x.nm x.nt := fun e2 => by
      have := kLit_inj hn hx e2
      have h1 := h2.1
      rw [← this.1, ← this.2] at h1
      simp at h1
    rw [tbF, at_tbF_other hn z D _ _ (fun y hy => h y (by simp [hy])) h2.2, atKey_put_other hne]
theorem at_tbF (z : DU) : ∀ (D : List Dfn) (m : DU) (i j : Nat) (hj : j < D.length), IsMap m → NmOk D → Uniq D → (tbF m i D).atKey (kLit D[j].nm D[j].nt) z = .lit (.int .i64 ((i + j : Nat) : Int))
  | x :: D, m, i, 0, _, hm, h, hu => by
    have hx := h x (by simp)
    show (tbF (m.put _ _) (i + 1) D).atKey (kLit x.nm x.nt) z = _
    rw [at_tbF_other hx z D _ _ (fun y hy => h y (by simp [hy])) hu.1, atKey_put_same hm (kLit_key hx)]
    rfl
  | x :: D, m, i, j + 1, hj, hm, h, hu => by
    have := at_tbF z D (m.put (kLit x.nm x.nt) (.lit (.int .i64 i))) (i + 1) j (by simpa using hj) (hm.put _ _) (fun y hy => h y (by simp [hy])) hu.2
    rw [show i + 1 + j = i + (j + 1) from by omega] at this
    exact this
theorem at_tbD {D : List Dfn} (z : DU) (h : NmOk D) (hu : Uniq D) {j : Nat} (hj : j < D.length) : (tbD D).atKey (kLit D[j].nm D[j].nt) z = .lit (.int .i64 (j : Int)) := by
  have := at_tbF z D (.map []) 0 j hj isMap_empty h hu
  rw [Nat.zero_add] at this
  exact this
theorem uniq_snoc {x : Dfn} : ∀ {D : List Dfn}, Uniq D → dfHas D x.nm x.nt = false → Uniq (D ++ [x])
  | [], _, _ => ⟨rfl, trivial⟩
  | y :: D, h, hh => by
    have h2 : (decide (y.nm = x.nm) && (y.nt == x.nt)) = false ∧ dfHas D x.nm x.nt = false := by
      have : ((decide (y.nm = x.nm) && (y.nt == x.nt)) || dfHas D x.nm x.nt) = false := hh
      simpa using this
    refine ⟨?_, uniq_snoc h.2 h2.2⟩
    show dfHas (D ++ [x]) y.nm y.nt = false
    unfold dfHas
    rw [List.any_append]
    have h1 := h.1
    unfold dfHas at h1
    rw [h1]
    have h3 := h2.1
    simp at h3 ⊢
    intro e
    have := h3 e.symm
    intro e2
    exact this e2.symm
/-- The one of that name and kind, and where it is. -/
theorem dfHas_at {D : List Dfn} {n : List UInt8} {b : Bool} (h : dfHas D n b = true) : ∃ j, ∃ hj : j < D.length, D[j].nm = n ∧ D[j].nt = b ∧ ∀ i (hi : i < j), ¬ (D[i].nm = n ∧ D[i].nt = b) := by
  induction D with
  | nil => cases h
  | cons x D ih =>
    by_cases e : x.nm = n ∧ x.nt = b
    · exact ⟨0, by simp, e.1, e.2, fun i hi => by omega⟩
    · have h2 : dfHas D n b = true := by
        have h1 : ((decide (x.nm = n) && (x.nt == b)) || dfHas D n b) = true := h
        rw [Bool.or_eq_true] at h1
        rcases h1 with h1 | h1
        · simp at h1
          exact absurd h1 e
        · exact h1
      obtain ⟨j, hj, e1, e2, h3⟩ := ih h2
      refine ⟨j + 1, by simpa using hj, e1, e2, fun i hi => ?_⟩
      cases i with
      | zero => exact e
      | succ i => exact h3 i (by omega)

end Go.Proofs.YtioolcnoiaoflaaGreatDoor

namespace Go.Proofs.YtioolcnoiaoflaaGreatDoor
open Go.RowKit Go.Maps
set_option linter.unusedSimpArgs false
set_option linter.unusedVariables false
set_option maxRecDepth 100000

/-- A table: the list of its definitions, a row of its own; its map. -/
structure TableIs (w : World) (B b : Nat) (v m : Value) (D : List Dfn) : Prop where
  blk : w.heap[b]? = some (.cells #[v, m] 49 (0, 0))
  base : B ≤ b
  row : w.ownsRow B 26 5 v D.length (flt dfC D)
  map : (m = .map none ∧ D = []) ∨ ∃ g, m = .map (some g) ∧ B ≤ g ∧ w.ownsMap Tryz.prog 84 (plainElem (H := Unit) Tryz.prog 3) g D.length (tbD D)
  nm : NmOk D
  uq : Uniq D

theorem map_block {w w' : World} {P : Program} {k : TypeId} {R : Value → Option (DU × List MemPlace)} {g n : Nat} {D : DU} (h : w.ownsMap P k R g n D) (e : w'.heap[g]? = w.heap[g]?) : w'.ownsMap P k R g n D := by
  obtain ⟨es, cl, hb, r⟩ := h
  exact ⟨es, cl, e.trans hb, r⟩
theorem TableIs.below {w w' : World} {B b : Nat} {v m : Value} {D : List Dfn} (h : TableIs w B b v m D) (hb : Below w.heap.size w w') : TableIs w' B b v m D := by
  refine ⟨(hb.block b (Array.getElem?_eq_some_iff.1 h.blk).1).trans h.blk, h.base, ownsRow_below h.row hb, ?_, h.nm, h.uq⟩
  rcases h.map with h1 | ⟨g, e, hg, hm⟩
  · exact .inl h1
  · exact .inr ⟨g, e, hg, map_block hm (hb.block g hm.lt)⟩
theorem TableIs.new {w : World} {B b : Nat} (h : w.heap[b]? = some (.cells #[.slice none 0 0, .map none] 49 (0, 0))) (hB : B ≤ b) : TableIs w B b (.slice none 0 0) (.map none) [] :=
  ⟨h, hB, World.ownsRow_nil _ _ _ _, .inl ⟨rfl, rfl⟩, fun x hx => by simp at hx, trivial⟩
/-- What the table's own doings leave as it was. -/
def TbTurn (w w' : World) (v : Value) : Prop := ∀ (g : Nat) (cs : Array Value) (t : TypeId) (fz : Nat × Nat), w.heap[g]? = some (.cells cs t fz) → t ≠ 49 → v.ownBlock ≠ some g → w'.heap[g]? = some (.cells cs t fz)
theorem TbTurn.row {w w' : World} {v u : Value} (h : TbTurn w w' v) {B : Nat} {e : TypeId} {s n : Nat} {xs : List Value} (k : w.ownsRow B e s u n xs) (he : e ≠ 49) (ha : ∀ g, u.ownBlock = some g → v.ownBlock ≠ some g) : w'.ownsRow B e s u n xs := by
  refine ⟨k.1, ?_⟩
  rcases k.2 with hn | ⟨g, cap, cur, rfl, hB, hg, rest⟩
  · exact .inl hn
  · exact .inr ⟨g, cap, cur, rfl, hB, h _ _ _ _ hg he (ha g rfl), rest⟩
theorem TbTurn.book {w w' : World} {v : Value} (h : TbTurn w w' v) {B0 n0 : Nat} {xs0 : List Value} (hv : w.ownsRow B0 26 5 v n0 xs0) {B b : Nat} {tv uv : Value} {vs us : List Value} {lss : List (List Dfn)}
    (k : DBookIs w B b tv uv vs us lss) (ha : ∀ u ∈ vs ++ us, Apart v u) : DBookIs w' B b tv uv vs us lss := by
  have hne : ∀ {u : Value} {n : Nat} {xs : List Value}, w.ownsRow B 40 1 u n xs → ∀ g, u.ownBlock = some g → v.ownBlock ≠ some g := fun {u n xs} hu g hg hvg => by
    rcases hu.2 with ⟨e, _⟩ | ⟨g1, c1, cur, e, _, hb, _⟩
    · subst e; simp [Value.ownBlock] at hg
    · subst e
      simp [Value.ownBlock] at hg
      subst hg
      exact own_ne hv hb (by decide) hvg
  have hel : ∀ {us' : List Value} {ls' : List (List Dfn)}, (∀ u ∈ us', u ∈ vs ++ us) → DRows1 w B us' ls' → DRows1 w' B us' ls' := fun {us' ls'} hin hd =>
    ⟨hd.1, fun i u l hu hl => h.row (hd.2 i u l hu hl) (by decide) (fun g hg hvg => ha u (hin u (List.mem_of_getElem? hu)) g hvg hg)⟩
  refine ⟨h b _ _ _ k.blk (by decide) (fun e => own_ne hv k.blk (by decide) e), k.base, h.row k.tvs (by decide) (hne k.tvs), h.row k.uvs (by decide) (hne k.uvs), k.ne, hel (fun u hu => by simp [hu]) k.tl, hel (fun u hu => by simp [hu]) k.ul, k.dist⟩

/-! ### Clone -/
theorem clone_defs (A : Option Addr) (cap : Nat) (ls : List Dfn) (w : World) (hrow : DefsAt w A cap ls) (hn : ls.length ≤ 1000000) :
    Calls Tryz.prog 65 #[.slice A ls.length cap] w fun e w' => ∃ v, e = .returned v ∧ w'.ownsRow w.heap.size 26 5 v ls.length (flt dfC ls) ∧ Below w.heap.size w w' := by
  obtain ⟨i0, hi, hz0, hz1, hz2⟩ := info_parts infoDef
  have hl := flt_length dfC_length ls
  have h1 := dfs_one ls
  have qe : ∀ (w : World) (a : Option Addr) (n c n' c' : Nat), (binOp .eql 40 (.slice a n c) (.slice none n' c')).run Tryz.prog w = .ok (.bool a.isNone) w := fun w a n c n' c' => Lib.run_eql_slice_nil w _ _ a n c n' c' Tryz.underlying40
  rcases A with _ | ad
  · have h0 : ls = [] := by
      rcases hrow.cells with h | ⟨b, off, e, _⟩
      · exact h
      · cases e
    subst h0
    go_enter Tryz.func65, Tryz.ntmps65
    go_wp2
    go_ret
    exact ⟨_, rfl, World.ownsRow_nil _ _ _ _, Below.refl _ _⟩
  · have hown0 : (w.alloc (.cells #[] 26)).ownsRow w.heap.size 26 5 (.slice (some ⟨w.heap.size, 0, none⟩) 0 0) 0 [] :=
      ⟨rfl, .inr ⟨w.heap.size, 0, #[], rfl, Nat.le_refl _, heap_alloc_new w _, Nat.le_refl _, Nat.zero_le _, rfl, rfl⟩⟩
    have b0 : Below w.heap.size w (w.alloc (.cells #[] 26)) := (Below.refl _ w).alloc (Nat.le_refl _) _
    have hc := (hrow.below b0).flat dfC_length (by decide)
    have hbs := b0.size
    have HL := Lib.hid hl
    have HB0 := Lib.hid b0
    clear hl b0
    go_enter Tryz.func65, Tryz.ntmps65
    go_wp2_with (at_builtin; refine wpList_append_own _ rfl _ _ 40 rfl w.heap.size 26 i0 (.agg #[.string ByteArray.empty, .string ByteArray.empty, .string ByteArray.empty, .string ByteArray.empty, .bool false]) 5 72 Tryz.underlying40 hi hz0 hz1 hz2 rfl (by decide) _ 0 [] rfl hown0 ad ls.length cap (flt dfC ls) rfl HL.out hc h1 (by unfold maxLen; omega) (by omega) hbs ?_)
    intro v' w2 hown' hgrow _
    have hb := HB0.out.grown hgrow hbs (fun k hk => (hown0.lt k hk).1)
    have HO := Lib.hid hown'
    clear hown' hgrow
    go_wp2
    go_ret
    exact ⟨_, rfl, by simpa using HO.out, hb⟩

/-- All: a copy of its own. -/
theorem all_any {w : World} {B b : Nat} {v m : Value} {D : List Dfn} (h : TableIs w B b v m D) (hl : D.length ≤ 1000) :
    Calls Tryz.prog 16 #[.pointer (some ⟨b, 0, none⟩)] w fun e w' => ∃ v', e = .returned v' ∧ w'.ownsRow w.heap.size 26 5 v' D.length (flt dfC D) ∧ Below w.heap.size w w' := by
  obtain ⟨A, c, rfl, hr⟩ := EltsAt.own dfC_length h.row
  have c0 : w.cell? ⟨b, 0, none⟩ = some (.slice A D.length c) := (cell_of_row w b 0 _ _ (0, 0) h.blk).trans rfl
  have ha := clone_defs A c D w hr (by omega)
  clear hr
  go_enter Tryz.func16, Tryz.ntmps16
  go_wp2_with fail
  refine ha.mono ?_
  rintro e w1 ⟨v', rfl, hown, hb⟩
  have HO := Lib.hid hown
  clear hown
  go_wp2
  go_ret
  exact ⟨_, rfl, HO.out, hb⟩
theorem all_nil (w : World) : Calls Tryz.prog 16 #[.pointer none] w fun e w' => e = .returned (.slice none 0 0) ∧ w' = w := by
  go_enter Tryz.func16, Tryz.ntmps16
  go_wp2
  go_ret
  exact ⟨rfl, rfl⟩

end Go.Proofs.YtioolcnoiaoflaaGreatDoor

namespace Go.Proofs.YtioolcnoiaoflaaGreatDoor
open Go.RowKit Go.Maps
set_option linter.unusedSimpArgs false
set_option linter.unusedVariables false
set_option maxRecDepth 100000

def dfV' (x : Dfn) : Value := .agg #[.string ⟨x.nm.toArray⟩, .string ⟨x.url.toArray⟩, .string ⟨x.ttl.toArray⟩, .string ⟨x.txt.toArray⟩, .bool x.nt]
theorem zeroInt (w : World) : (zeroValue 3).run Tryz.prog w = .ok (.int .i64 0) w := by kernel_rfl
theorem look_any {w : World} {B b : Nat} {v m : Value} {D : List Dfn} (h : TableIs w B b v m D) {n : List UInt8} {t : Bool} (hn : n.length ≤ maxLen) :
    ∃ c : Int, (∀ w' : World, (∀ g, g < w.heap.size → w'.heap[g]? = w.heap[g]?) → (Instr.lookup 47 m (keyV n t) true).run Tryz.prog w' = .ok (.tuple #[.int .i64 c, .bool (dfHas D n t)]) w') ∧ (∀ j (hj : j < D.length), D[j].nm = n → D[j].nt = t → c = j) := by
  have hkey := keyOf_key n t hn
  rcases h.map with ⟨rfl, rfl⟩ | ⟨g, rfl, hg, hm⟩
  · exact ⟨0, fun w' _ => (look_nil (w := w') true keyLaw Tryz.underlying47 (zeroInt _) hkey).trans rfl, fun j hj => by simp at hj⟩
  · have one : ∀ w' : World, (∀ g, g < w.heap.size → w'.heap[g]? = w.heap[g]?) → ∃ c : Int, (Instr.lookup 47 (.map (some g)) (keyV n t) true).run Tryz.prog w' = .ok (.tuple #[.int .i64 c, .bool (dfHas D n t)]) w' ∧ (tbD D).atKey (kLit n t) (.lit (.int .i64 0)) = .lit (.int .i64 c) := by
      intro w' hh
      have hm' := map_block hm (hh g hm.lt)
      obtain ⟨u, ps, hrun, hu⟩ := hm'.look_ok keyLaw Tryz.underlying47 (zeroInt _) (zd := .lit (.int .i64 0)) (zp := []) (plainElem_int Tryz.underlying3 (by decide)) hkey
      obtain ⟨c, rfl, hc, hwc⟩ := plainElem_int_inv Tryz.underlying3 hu
      rw [has_tbD hn h.nm] at hrun
      exact ⟨c, hrun, congrArg Prod.fst hc⟩
    obtain ⟨c, _, hc⟩ := one w (fun _ _ => rfl)
    refine ⟨c, fun w' hh => ?_, fun j hj e1 e2 => ?_⟩
    · obtain ⟨c', h1, h2⟩ := one w' hh
      rw [hc] at h2
      injection h2 with h2
      injection h2 with _ h2
      rw [h2]
      exact h1
    · subst e1 e2
      rw [at_tbD _ h.nm h.uq hj] at hc
      injection hc with hc3
      injection hc3 with _ hc4
      exact hc4.symm
theorem alloc_keeps (w : World) (o : Obj) {w' : World} (h : ∀ g, g < w.heap.size → w'.heap[g]? = w.heap[g]?) : ∀ g, g < w.heap.size → (w'.alloc o).heap[g]? = w.heap[g]? := by
  intro g hg
  have h1 : g < w'.heap.size := by
    have := h g hg
    rw [Array.getElem?_eq_getElem hg] at this
    exact (Array.getElem?_eq_some_iff.1 this).1
  rw [Below.heap_alloc w' o g h1]
  exact h g hg

set_option maxHeartbeats 4000000 in
theorem add_twice {w : World} {B b : Nat} {v m : Value} {D : List Dfn} (h : TableIs w B b v m D) (x : Dfn) (hx : x.nm.length ≤ maxLen) (hd : dfHas D x.nm x.nt = true) :
    Calls Tryz.prog 15 #[.pointer (some ⟨b, 0, none⟩), dfV' x] w fun e w' => e = .returned (.bool false) ∧ Below w.heap.size w w' := by
  unfold dfV'
  obtain ⟨n, u, t, y, k⟩ := x
  dsimp only at hd hx ⊢
  have c1 : w.cell? ⟨b, 1, none⟩ = some m := (cell_of_row w b 1 _ _ (0, 0) h.blk).trans rfl
  obtain ⟨c, hc, _⟩ := look_any h (n := n) (t := k) hx
  rw [hd] at hc
  unfold keyV at hc
  have HL := Lib.hid hc
  clear hc
  have hbl := (Array.getElem?_eq_some_iff.1 h.blk).1
  go_enter Tryz.func15, Tryz.ntmps15
  go_wp2_with fail
  obtain ⟨w2, hw2⟩ : ∃ w2, w2 = (w.alloc (Obj.cells #[Value.string { data := n.toArray }, Value.string { data := u.toArray }, Value.string { data := t.toArray }, Value.string { data := y.toArray }, Value.bool k] 26)).alloc (Obj.cells #[Value.string { data := n.toArray }, Value.bool k] 84) := ⟨_, rfl⟩
  have hb2 : Below w.heap.size w w2 := by rw [hw2]; exact ((Below.refl _ w).alloc (Nat.le_refl _) _).alloc (by simp) _
  have hrun : ∀ j, (Instr.lookup 47 m (Value.agg #[Value.string { data := n.toArray }, Value.bool k]) true).run Tryz.prog (w2.drewN j) = .ok (.tuple #[.int .i64 c, .bool true]) (w2.drewN j) := fun j => HL.out _ (fun g hg => hb2.block g hg)
  have hrun1 : (Instr.lookup 47 m (Value.agg #[Value.string { data := n.toArray }, Value.bool k]) true).run Tryz.prog w2 = .ok (.tuple #[.int .i64 c, .bool true]) w2 := HL.out _ (fun g hg => hb2.block g hg)
  have hrun2 : (Instr.lookup 47 m (Value.agg #[Value.string { data := n.toArray }, Value.bool k]) true).run Tryz.prog w2.drew = .ok (.tuple #[.int .i64 c, .bool true]) w2.drew := HL.out _ (fun g hg => hb2.block g hg)
  have k1 : w2.cell? ⟨b, 1, none⟩ = some m := (hb2.cell (p := ⟨b, 1, none⟩) hbl).trans c1
  have k2 : w2.cell? ⟨w.heap.size + 1, 0, none⟩ = some (Value.string { data := n.toArray }) := by rw [hw2]; simp
  have k3 : w2.cell? ⟨w.heap.size + 1, 1, none⟩ = some (Value.bool k) := by rw [hw2]; simp
  rw [← hw2]
  clear c1 hw2
  go_quiet (fail)
  go_wp2
  go_ret
  exact ⟨rfl, below_drewN' hb2 _⟩

theorem map_ne {w : World} {P : Program} {k : TypeId} {R : Value → Option (DU × List MemPlace)} {g n : Nat} {D : DU} (h : w.ownsMap P k R g n D) {g' : Nat} {cs : Array Value} {t : TypeId} {fz : Nat × Nat} (hc : w.heap[g']? = some (.cells cs t fz)) : g' ≠ g := by
  rintro rfl
  obtain ⟨es, cl, hb, _⟩ := h
  rw [hb] at hc
  cases hc
theorem row_ne_map {w : World} {P : Program} {k : TypeId} {R : Value → Option (DU × List MemPlace)} {g n : Nat} {D : DU} (h : w.ownsMap P k R g n D) {B : Nat} {e : TypeId} {s : Nat} {v : Value} {m : Nat} {xs : List Value} (hv : w.ownsRow B e s v m xs) : v.ownBlock ≠ some g := by
  rcases hv.2 with ⟨rfl, _⟩ | ⟨g1, c1, cur, rfl, _, hb, _⟩
  · simp [Value.ownBlock]
  · intro e
    simp [Value.ownBlock] at e
    exact map_ne h hb e
theorem row_kept {w w' : World} {row : Option Nat} (hg : w.grownBy w' row) {B : Nat} {e : TypeId} {s : Nat} {v : Value} {m : Nat} {xs : List Value} (hv : w.ownsRow B e s v m xs) (hn : ∀ g, v.ownBlock = some g → row ≠ some g) : w'.ownsRow B e s v m xs := by
  refine ⟨hv.1, ?_⟩
  rcases hv.2 with h1 | ⟨g1, c1, cur, rfl, hB, hb, rest⟩
  · exact .inl h1
  · exact .inr ⟨g1, c1, cur, rfl, hB, (hg.block g1 (Array.getElem?_eq_some_iff.1 hb).1 (fun e => hn g1 rfl e.symm)).trans hb, rest⟩

theorem add_end {B b g : Nat} {v : Value} {D : List Dfn} {x : Dfn} {w4 w5 w6 : World} (hB : B ≤ w4.heap.size) (h : TableIs w4 B b v (.map (some g)) D) (hBg : B ≤ g)
    (hm4 : w4.ownsMap Tryz.prog 84 (plainElem (H := Unit) Tryz.prog 3) g D.length (tbD D))
    (hm : w5.ownsMap Tryz.prog 84 (plainElem (H := Unit) Tryz.prog 3) g (D.length + 1) ((tbD D).put (kLit x.nm x.nt) (.lit (.int .i64 (D.length : Int))))) (hg5 : w4.grownBy w5 (some g))
    (o : Obj) (g1 cap1 : Nat) (hown : w6.ownsRow B 26 5 (.slice (some ⟨g1, 0, none⟩) (D.length + 1) cap1) (D.length + 1) (flt dfC D ++ dfC x)) (hg6 : (w5.alloc o).grownBy w6 v.ownBlock)
    (hx : x.nm.length ≤ maxLen) (hd : dfHas D x.nm x.nt = false) :
    TableIs (w6.setCell ⟨b, 0, none⟩ (.slice (some ⟨g1, 0, none⟩) (D.length + 1) cap1)) B b (.slice (some ⟨g1, 0, none⟩) (D.length + 1) cap1) (.map (some g)) (D ++ [x]) ∧
      TbTurn w4 (w6.setCell ⟨b, 0, none⟩ (.slice (some ⟨g1, 0, none⟩) (D.length + 1) cap1)) v ∧ Below B w4 (w6.setCell ⟨b, 0, none⟩ (.slice (some ⟨g1, 0, none⟩) (D.length + 1) cap1)) := by
  have hbl := (Array.getElem?_eq_some_iff.1 h.blk).1
  have s5 := hg5.size
  have s5a : (w5.alloc o).heap.size = w5.heap.size + 1 := by show (w5.heap.push _).size = _; simp
  have s6 := hg6.size
  have row5 := row_kept hg5 h.row (fun g2 e1 e2 => row_ne_map hm4 h.row (by rw [e1, e2]))
  have keep : ∀ (g' : Nat) (cs : Array Value) (t : TypeId) (fz : Nat × Nat), w4.heap[g']? = some (.cells cs t fz) → v.ownBlock ≠ some g' → w6.heap[g']? = some (.cells cs t fz) := by
    intro g' cs t fz hc hv
    have hl := (Array.getElem?_eq_some_iff.1 hc).1
    rw [hg6.block g' (by omega) (fun e => hv e.symm), Below.heap_alloc w5 o g' (by omega), hg5.block g' hl (fun e => map_ne hm4 hc (by injection e))]
    exact hc
  have hvb : v.ownBlock ≠ some b := fun e => own_ne h.row h.blk (by decide) e
  have blk6 := keep b _ _ _ h.blk hvb
  have hgb : b ≠ g := map_ne hm4 h.blk
  have hgl := hm.lt
  refine ⟨⟨?_, h.base, ?_, .inr ⟨g, rfl, hBg, ?_⟩, ?_, uniq_snoc h.uq hd⟩, ?_, ?_⟩
  · simp [World.setCell, Array.getElem?_modify, blk6]
  · rw [List.length_append, flt_append, flt_one]
    exact own_set hown blk6 (by decide) 0 _
  · rw [List.length_append, tbD_snoc]
    refine map_block hm ?_
    rw [Below.heap_setCell _ _ _ g (fun e => hgb e.symm), hg6.block g (by omega) (fun e => row_ne_map hm row5 e.symm), Below.heap_alloc w5 o g hgl]
  · intro y hy
    rcases List.mem_append.1 hy with h1 | h1
    · exact h.nm y h1
    · simp at h1
      subst h1
      exact hx
  · intro g' cs t fz hc ht hv
    have hne : g' ≠ b := by
      rintro rfl
      rw [h.blk] at hc
      injection hc with hc
      injection hc with _ hc
      exact ht hc.symm
    rw [Below.heap_setCell _ _ _ g' hne]
    exact keep g' cs t fz hc hv
  · exact ((((Below.refl B w4).grown hg5 hB (fun k hk => by injection hk with hk; omega)).alloc (by omega) o).grown hg6 (by omega) (fun k hk => (row5.lt k hk).1)).setCell h.base _

end Go.Proofs.YtioolcnoiaoflaaGreatDoor

namespace Go.Proofs.YtioolcnoiaoflaaGreatDoor
open Go.RowKit Go.Maps
set_option linter.unusedSimpArgs false
set_option linter.unusedVariables false
set_option maxRecDepth 100000

theorem TbTurn.below {w w' : World} (h : Below w.heap.size w w') (v : Value) : TbTurn w w' v := fun g cs t fz hc _ _ => (h.block g (Array.getElem?_eq_some_iff.1 hc).1).trans hc
theorem TbTurn.trans {a b c : World} {v : Value} (h : TbTurn a b v) (k : TbTurn b c v) : TbTurn a c v := fun g cs t fz hc ht hv => k g cs t fz (h g cs t fz hc ht hv) ht hv
/-- A map of its own is made. -/
theorem add_made {w : World} {B b : Nat} {v : Value} {D : List Dfn} (hB : B ≤ w.heap.size) (hD : D = []) (h : TableIs w B b v (.map none) D) (w' : World) (hw : w' = (w.alloc (.map #[] 0)).setCell ⟨b, 1, none⟩ (.map (some w.heap.size))) :
    TableIs w' B b v (.map (some w.heap.size)) D ∧ w'.ownsMap Tryz.prog 84 (plainElem (H := Unit) Tryz.prog 3) w.heap.size D.length (tbD D) ∧ TbTurn w w' v ∧ Below B w w' ∧
      (∀ (a : Addr) (u : Value), a.block ≠ b → w.cell? a = some u → w'.cell? a = some u) := by
  subst hD
  have hbl := (Array.getElem?_eq_some_iff.1 h.blk).1
  have hm : w'.ownsMap Tryz.prog 84 (plainElem (H := Unit) Tryz.prog 3) w.heap.size ([] : List Dfn).length (tbD []) := by
    rw [hw]
    exact World.ownsMap.setCell (World.ownsMap_made w _ _ _) (by show w.heap.size ≠ b; omega) _
  have blk := (Below.heap_alloc w (.map #[] 0) b hbl).trans h.blk
  have keep : ∀ (g : Nat), g < w.heap.size → g ≠ b → w'.heap[g]? = w.heap[g]? := fun g hg hgb => by
    rw [hw, Below.heap_setCell _ _ _ g hgb, Below.heap_alloc w _ g hg]
  refine ⟨⟨?_, h.base, ?_, .inr ⟨_, rfl, hB, hm⟩, h.nm, h.uq⟩, hm, ?_, ?_, ?_⟩
  · rw [hw]
    simp [World.setCell, Array.getElem?_modify, blk]
  · rw [hw]
    exact own_set (h.row.alloc _) blk (by decide) 1 _
  · intro g cs t fz hc ht hv
    rw [keep g (Array.getElem?_eq_some_iff.1 hc).1 (by
      rintro rfl
      rw [h.blk] at hc
      injection hc with hc
      injection hc with _ hc
      exact ht hc.symm)]
    exact hc
  · rw [hw]
    exact ((Below.refl B w).alloc hB _).setCell h.base _
  · intro a u ha hc
    rw [World.cell?_of_block (keep a.block (World.block_lt_of_cell? _ _ hc) ha)]
    exact hc

set_option maxHeartbeats 4000000 in
theorem add_new {w : World} {B b : Nat} {v m : Value} {D : List Dfn} (hB : B ≤ w.heap.size) (h : TableIs w B b v m D) (x : Dfn) (hx : x.nm.length ≤ maxLen) (hd : dfHas D x.nm x.nt = false) (hl : D.length ≤ 1000) :
    Calls Tryz.prog 15 #[.pointer (some ⟨b, 0, none⟩), dfV' x] w fun e w' => e = .returned (.bool true) ∧ (∃ v' m', TableIs w' B b v' m' (D ++ [x]) ∧ (v'.ownBlock = v.ownBlock ∨ ∃ g, v'.ownBlock = some g ∧ w.heap.size ≤ g)) ∧ TbTurn w w' v ∧ Below B w w' := by
  obtain ⟨i0, hi, hz0, hz1, hz2⟩ := info_parts infoDef
  unfold dfV'
  have hX : x = ⟨x.nm, x.url, x.ttl, x.txt, x.nt⟩ := rfl
  have HX := Lib.hid hX
  have HH := Lib.hid h
  have HD := Lib.hid hd
  have HN := Lib.hid hx
  have hkey := keyOf_key x.nm x.nt hx
  unfold keyV at hkey
  have c0 : w.cell? ⟨b, 0, none⟩ = some v := (cell_of_row w b 0 _ _ (0, 0) h.blk).trans rfl
  have c1 : w.cell? ⟨b, 1, none⟩ = some m := (cell_of_row w b 1 _ _ (0, 0) h.blk).trans rfl
  have hbl := (Array.getElem?_eq_some_iff.1 h.blk).1
  obtain ⟨c, hc, _⟩ := look_any h (n := x.nm) (t := x.nt) hx
  rw [hd] at hc
  unfold keyV at hc
  have HL := Lib.hid hc
  obtain ⟨A, cap, hA, hrow⟩ := EltsAt.own dfC_length h.row
  have HR := Lib.hid hrow
  clear hX hc hx hd h hrow
  subst hA
  generalize x.nm = n at *
  generalize x.url = u at *
  generalize x.ttl = t at *
  generalize x.txt = y at *
  generalize x.nt = k at *
  go_enter Tryz.func15, Tryz.ntmps15
  go_wp2_with fail
  obtain ⟨w2, hw2⟩ : ∃ w2, w2 = (w.alloc (Obj.cells #[Value.string { data := n.toArray }, Value.string { data := u.toArray }, Value.string { data := t.toArray }, Value.string { data := y.toArray }, Value.bool k] 26)).alloc (Obj.cells #[Value.string { data := n.toArray }, Value.bool k] 84) := ⟨_, rfl⟩
  have hb2 : Below w.heap.size w w2 := by rw [hw2]; exact ((Below.refl _ w).alloc (Nat.le_refl _) _).alloc (by simp) _
  have hs2 : w2.heap.size = w.heap.size + 2 := by rw [hw2]; simp
  have hrun : ∀ j, (Instr.lookup 47 m (Value.agg #[Value.string { data := n.toArray }, Value.bool k]) true).run Tryz.prog (w2.drewN j) = .ok (.tuple #[.int .i64 c, .bool false]) (w2.drewN j) := fun j => HL.out _ (fun g hg => hb2.block g hg)
  have hrun1 : (Instr.lookup 47 m (Value.agg #[Value.string { data := n.toArray }, Value.bool k]) true).run Tryz.prog w2 = .ok (.tuple #[.int .i64 c, .bool false]) w2 := HL.out _ (fun g hg => hb2.block g hg)
  have k0 : w2.cell? ⟨b, 0, none⟩ = some (.slice A D.length cap) := (hb2.cell (p := ⟨b, 0, none⟩) hbl).trans c0
  have k1 : w2.cell? ⟨b, 1, none⟩ = some m := (hb2.cell (p := ⟨b, 1, none⟩) hbl).trans c1
  have k2 : w2.cell? ⟨w.heap.size + 1, 0, none⟩ = some (Value.string { data := n.toArray }) := by rw [hw2]; simp
  have k3 : w2.cell? ⟨w.heap.size + 1, 1, none⟩ = some (Value.bool k) := by rw [hw2]; simp
  have x0 : w2.cell? ⟨w.heap.size, 0, none⟩ = some (Value.string { data := n.toArray }) := by rw [hw2]; simp
  have x1 : w2.cell? ⟨w.heap.size, 1, none⟩ = some (Value.string { data := u.toArray }) := by rw [hw2]; simp
  have x2 : w2.cell? ⟨w.heap.size, 2, none⟩ = some (Value.string { data := t.toArray }) := by rw [hw2]; simp
  have x3 : w2.cell? ⟨w.heap.size, 3, none⟩ = some (Value.string { data := y.toArray }) := by rw [hw2]; simp
  have x4 : w2.cell? ⟨w.heap.size, 4, none⟩ = some (Value.bool k) := by rw [hw2]; simp
  rw [← hw2]
  clear c1 c0 hw2
  go_quiet (fail)
  clear hrun hrun1
  obtain ⟨w3, hw3⟩ : ∃ w3, w3 = w2.drewN nq := ⟨_, rfl⟩
  rw [← hw3]
  have hb3 : Below w.heap.size w w3 := by rw [hw3]; exact below_drewN' hb2 _
  have hs3 : w3.heap.size = w.heap.size + 2 := by rw [hw3]; exact hs2
  have hbl3 : b < w3.heap.size := by omega
  have hB3 : B ≤ w3.heap.size := by omega
  have HS3 := Lib.hid hs3
  have HT3 := Lib.hid (HH.out.below hb3)
  have HX3 := Lib.hid (show w3.cell? ⟨w.heap.size + 1, 0, none⟩ = some (Value.string { data := n.toArray }) ∧ w3.cell? ⟨w.heap.size + 1, 1, none⟩ = some (Value.bool k) ∧ w3.cell? ⟨w.heap.size, 0, none⟩ = some (Value.string { data := n.toArray }) ∧
    w3.cell? ⟨w.heap.size, 1, none⟩ = some (Value.string { data := u.toArray }) ∧ w3.cell? ⟨w.heap.size, 2, none⟩ = some (Value.string { data := t.toArray }) ∧ w3.cell? ⟨w.heap.size, 3, none⟩ = some (Value.string { data := y.toArray }) ∧ w3.cell? ⟨w.heap.size, 4, none⟩ = some (Value.bool k) from by
      rw [hw3]; exact ⟨k2, k3, x0, x1, x2, x3, x4⟩)
  have HB3 := Lib.hid hb3
  have y1 : w3.cell? ⟨b, 1, none⟩ = some m := by rw [hw3]; exact k1
  clear hs3 hw3 k0 k1 k2 k3 x0 x1 x2 x3 x4 hb2 hs2 hb3
  have qe : ∀ (W : World) (r : Option Nat), (binOp .eql 47 (.map r) (.map none)).run Tryz.prog W = .ok (.bool r.isNone) W := fun W r => run_eql_map_nil W _ _ _ r Tryz.underlying47
  rcases HT3.out.map with ⟨rfl, hD⟩ | ⟨g, rfl, hBg, hm⟩
  · have hD9 := Lib.hid hD
    clear hD
    have hmm := @run_makeMap Tryz.prog
    have hblk3 := HT3.out.blk
    have f1 : (w3.alloc (.map #[] 0)).frozen? ⟨b, 1, none⟩ = false := by
      have := (Below.heap_alloc w3 (.map #[] 0) b hbl3).trans hblk3
      simp [World.frozen?, this]
    have y2 : (w3.alloc (.map #[] 0)).cell? ⟨b, 1, none⟩ = some (.map none) := cell_of_row _ b 1 _ _ (0, 0) ((Below.heap_alloc w3 (.map #[] 0) b hbl3).trans hblk3)
    clear hblk3
    go_wp2_with fail
    clear f1 y1 y2 hmm
    have hs3 := HS3.out
    obtain ⟨w4, hw4⟩ : ∃ w4, w4 = (w3.setCell ⟨b, 1, none⟩ (.map (some w3.heap.size))).alloc (.map #[] 0) := ⟨_, rfl⟩
    rw [← hw4]
    rw [← World.setCell_alloc_past _ _ _ _ hbl3] at hw4
    obtain ⟨ht4, hm4, htt4, hbb4, hcc4⟩ := add_made hB3 hD9.out HT3.out w4 hw4
    have hs4 : w4.heap.size = w3.heap.size + 1 := by rw [hw4]; simp [World.setCell]
    have HX4 := Lib.hid (show _ ∧ _ ∧ _ ∧ _ ∧ _ ∧ _ ∧ _ from ⟨hcc4 _ _ (by simp; omega) HX3.out.1, hcc4 _ _ (by simp; omega) HX3.out.2.1, hcc4 _ _ (by simp; omega) HX3.out.2.2.1, hcc4 _ _ (by simp; omega) HX3.out.2.2.2.1, hcc4 _ _ (by simp; omega) HX3.out.2.2.2.2.1, hcc4 _ _ (by simp; omega) HX3.out.2.2.2.2.2.1, hcc4 _ _ (by simp; omega) HX3.out.2.2.2.2.2.2⟩)
    have HW4 := Lib.hid (show TbTurn w w4 (.slice A D.length cap) ∧ Below B w w4 from ⟨(TbTurn.below HB3.out _).trans htt4, (HB3.out.mono hB).trans hbb4⟩)
    have hBg : B ≤ w3.heap.size := by omega
    have hs5 : w.heap.size + 2 ≤ w4.heap.size := by omega
    clear hD9 htt4 hbb4 hcc4 hw4 HT3 HX3 HB3 HS3 hbl3 hB3 hs4 hs3
    generalize w3.heap.size = g at *
    have hmd : w4.drew.ownsMap Tryz.prog 84 (plainElem (H := Unit) Tryz.prog 3) g D.length (tbD D) := hm4
    have HTd := Lib.hid (ht4.below (w' := w4.drew) (Below.refl _ w4).drew)
    have HWd := Lib.hid (show TbTurn w w4.drew (.slice A D.length cap) ∧ Below B w w4.drew from ⟨HW4.out.1, HW4.out.2.drew⟩)
    have hxd : w4.drew.cell? ⟨w.heap.size + 1, 0, none⟩ = some (Value.string { data := n.toArray }) ∧ w4.drew.cell? ⟨w.heap.size + 1, 1, none⟩ = some (Value.bool k) ∧ w4.drew.cell? ⟨w.heap.size, 0, none⟩ = some (Value.string { data := n.toArray }) ∧
      w4.drew.cell? ⟨w.heap.size, 1, none⟩ = some (Value.string { data := u.toArray }) ∧ w4.drew.cell? ⟨w.heap.size, 2, none⟩ = some (Value.string { data := t.toArray }) ∧ w4.drew.cell? ⟨w.heap.size, 3, none⟩ = some (Value.string { data := y.toArray }) ∧ w4.drew.cell? ⟨w.heap.size, 4, none⟩ = some (Value.bool k) := HX4.out
    have HXd := Lib.hid hxd
    clear hxd
    have hsd : w.heap.size + 2 ≤ w4.drew.heap.size := hs5
    clear ht4 hm4 HW4 HX4 hs5
    refine wp_region_N (fun W => W = w4.drew) (fun i => decide (i < 10)) (by kernel_rfl) ?_
    generalize w4.drew = wd at *
    have c0 : wd.cell? ⟨b, 0, none⟩ = some (.slice A D.length cap) := (cell_of_row wd b 0 _ _ (0, 0) HTd.out.blk).trans rfl
    have c1 : wd.cell? ⟨b, 1, none⟩ = some (.map (some g)) := (cell_of_row wd b 1 _ _ (0, 0) HTd.out.blk).trans rfl
    obtain ⟨K0, K1, _⟩ := HXd.out
    obtain ⟨w5, hup, hm5, hg5⟩ := hmd.update keyLaw Tryz.underlying47 (by unfold maxLen; omega) hkey (val := .int .i64 (D.length : Int)) (plainElem_int Tryz.underlying3 (WalkArith.wf_i64 (by omega)))
    have HM5 := Lib.hid hm5
    have HG5 := Lib.hid hg5
    clear hm5 hg5
    refine wpAnyN_take_at 0 34 (v := ?_) rfl rfl (by kernel_rfl) (by kernel_rfl) (by kernel_rfl) (by kernel_rfl) (by kernel_rfl) (fun _ _ _ h => h) (by rfl) ?_ rfl ?_
    rotate_left
    · intro W hSw; (try dsimp only at hSw); subst hSw; go_simp; (try with_reducible rfl)
    simp only [Act.put, List.setIfInBounds_toArray, List.set_cons_zero, List.set_cons_succ]
    refine wpAnyN_take_at 1 35 (v := ?_) rfl rfl (by kernel_rfl) (by kernel_rfl) (by kernel_rfl) (by kernel_rfl) (by kernel_rfl) (fun _ _ _ h => h) (by rfl) ?_ rfl ?_
    rotate_left
    · intro W hSw; (try dsimp only at hSw); subst hSw; go_simp; (try with_reducible rfl)
    simp only [Act.put, List.setIfInBounds_toArray, List.set_cons_zero, List.set_cons_succ]
    refine wpAnyN_take_at 2 36 (v := ?_) rfl rfl (by kernel_rfl) (by kernel_rfl) (by kernel_rfl) (by kernel_rfl) (by kernel_rfl) (fun _ _ _ h => h) (by rfl) ?_ rfl ?_
    rotate_left
    · intro W hSw; (try dsimp only at hSw); subst hSw; go_simp; (try with_reducible rfl)
    simp only [Act.put, List.setIfInBounds_toArray, List.set_cons_zero, List.set_cons_succ]
    refine wpAnyN_take_at 3 37 (v := ?_) rfl rfl (by kernel_rfl) (by kernel_rfl) (by kernel_rfl) (by kernel_rfl) (by kernel_rfl) (fun _ _ _ h => h) (by rfl) ?_ rfl ?_
    rotate_left
    · intro W hSw; (try dsimp only at hSw); subst hSw; go_simp; (try with_reducible rfl)
    simp only [Act.put, List.setIfInBounds_toArray, List.set_cons_zero, List.set_cons_succ]
    refine wpAnyN_take_at 4 38 (v := ?_) rfl rfl (by kernel_rfl) (by kernel_rfl) (by kernel_rfl) (by kernel_rfl) (by kernel_rfl) (fun _ _ _ h => h) (by rfl) ?_ rfl ?_
    rotate_left
    · intro W hSw; (try dsimp only at hSw); subst hSw; go_simp; (try with_reducible rfl)
    simp only [Act.put, List.setIfInBounds_toArray, List.set_cons_zero, List.set_cons_succ]
    refine wpAnyN_take_at 5 39 (v := ?_) rfl rfl (by kernel_rfl) (by kernel_rfl) (by kernel_rfl) (by kernel_rfl) (by kernel_rfl) (fun _ _ _ h => h) (by rfl) ?_ rfl ?_
    rotate_left
    · intro W hSw; (try dsimp only at hSw); subst hSw; go_simp; (try with_reducible rfl)
    simp only [Act.put, List.setIfInBounds_toArray, List.set_cons_zero, List.set_cons_succ]
    refine wpAnyN_take_at 6 40 (v := ?_) rfl rfl (by kernel_rfl) (by kernel_rfl) (by kernel_rfl) (by kernel_rfl) (by kernel_rfl) (fun _ _ _ h => h) (by rfl) ?_ rfl ?_
    rotate_left
    · intro W hSw; (try dsimp only at hSw); subst hSw; go_simp; (try with_reducible rfl)
    simp only [Act.put, List.setIfInBounds_toArray, List.set_cons_zero, List.set_cons_succ]
    refine wpAnyN_take_at 7 41 (v := ?_) rfl rfl (by kernel_rfl) (by kernel_rfl) (by kernel_rfl) (by kernel_rfl) (by kernel_rfl) (fun _ _ _ h => h) (by rfl) ?_ rfl ?_
    rotate_left
    · intro W hSw; (try dsimp only at hSw); subst hSw; go_simp; (try with_reducible rfl)
    simp only [Act.put, List.setIfInBounds_toArray, List.set_cons_zero, List.set_cons_succ]
    refine wpAnyN_take_at 8 42 (v := ?_) rfl rfl (by kernel_rfl) (by kernel_rfl) (by kernel_rfl) (by kernel_rfl) (by kernel_rfl) (fun _ _ _ h => h) (by rfl) ?_ rfl ?_
    rotate_left
    · intro W hSw; (try dsimp only at hSw); subst hSw; go_simp; (try with_reducible rfl)
    simp only [Act.put, List.setIfInBounds_toArray, List.set_cons_zero, List.set_cons_succ]
    refine wpAnyN_take_at 9 43 (v := ?_) rfl rfl (by kernel_rfl) (by kernel_rfl) (by kernel_rfl) (by kernel_rfl) (by kernel_rfl) (fun _ _ _ h => h) (by rfl) ?_ rfl ?_
    rotate_left
    · intro W hSw; (try dsimp only at hSw); subst hSw; go_simp; (try with_reducible rfl)
    simp only [Act.put, List.setIfInBounds_toArray, List.set_cons_zero, List.set_cons_succ]
    refine wpAnyN_one (i := 10) rfl (by kernel_rfl) (fun K hK => ?_)
    go_simp
    refine hK _ _ (fun h => absurd h (by decide)) ?_
    clear hK
    (try simp only [Act.put, List.setIfInBounds_toArray, List.set_cons_zero, List.set_cons_succ])
    refine wpAnyN_rest 11 [] rfl (by kernel_rfl) (by rfl) ?_
    have hsz5 := HG5.out.size
    have hgne : ∀ (p : Addr) (u' : Value), wd.cell? p = some u' → p.block ≠ g := fun p u' hp => by
      rintro e
      obtain ⟨es, cl, hbm, _⟩ := hmd
      simp [World.cell?, e, hbm] at hp
    have hx5 : w5.drew.cell? ⟨b, 0, none⟩ = some (.slice A D.length cap) ∧ w5.drew.cell? ⟨w.heap.size, 0, none⟩ = some (Value.string { data := n.toArray }) ∧ w5.drew.cell? ⟨w.heap.size, 1, none⟩ = some (Value.string { data := u.toArray }) ∧ w5.drew.cell? ⟨w.heap.size, 2, none⟩ = some (Value.string { data := t.toArray }) ∧ w5.drew.cell? ⟨w.heap.size, 3, none⟩ = some (Value.string { data := y.toArray }) ∧ w5.drew.cell? ⟨w.heap.size, 4, none⟩ = some (Value.bool k) := ⟨HG5.out.cell c0 (by intro e; injection e with e; exact hgne _ _ c0 e), HG5.out.cell HXd.out.2.2.1 (by intro e; injection e with e; exact hgne _ _ HXd.out.2.2.1 e), HG5.out.cell HXd.out.2.2.2.1 (by intro e; injection e with e; exact hgne _ _ HXd.out.2.2.2.1 e), HG5.out.cell HXd.out.2.2.2.2.1 (by intro e; injection e with e; exact hgne _ _ HXd.out.2.2.2.2.1 e), HG5.out.cell HXd.out.2.2.2.2.2.1 (by intro e; injection e with e; exact hgne _ _ HXd.out.2.2.2.2.2.1 e), HG5.out.cell HXd.out.2.2.2.2.2.2 (by intro e; injection e with e; exact hgne _ _ HXd.out.2.2.2.2.2.2 e)⟩
    have HX5 := Lib.hid hx5
    have hm6 : w5.drew.ownsMap Tryz.prog 84 (plainElem (H := Unit) Tryz.prog 3) g (D.length + 1) ((tbD D).put (kLit n k) (.lit (.int .i64 (D.length : Int)))) := HM5.out
    have HM6 := Lib.hid hm6
    have hg6 : wd.grownBy w5.drew (some g) := ⟨HG5.out.os, HG5.out.tape, HG5.out.output, HG5.out.size, HG5.out.block⟩
    have HG6 := Lib.hid hg6
    have hs6 : w.heap.size + 2 ≤ w5.drew.heap.size := Nat.le_trans hsd hsz5
    have HMd := Lib.hid hmd
    clear c0 c1 K0 K1 hup HM5 HG5 hsz5 hgne hmd hx5 hm6 hg6
    go_wp2_with fail
    refine wp_region_N (fun W => W.cell? ⟨b, 0, none⟩ = some (.slice A D.length cap) ∧ W.cell? ⟨w.heap.size, 0, none⟩ = some (Value.string { data := n.toArray }) ∧ W.cell? ⟨w.heap.size, 1, none⟩ = some (Value.string { data := u.toArray }) ∧ W.cell? ⟨w.heap.size, 2, none⟩ = some (Value.string { data := t.toArray }) ∧ W.cell? ⟨w.heap.size, 3, none⟩ = some (Value.string { data := y.toArray }) ∧ W.cell? ⟨w.heap.size, 4, none⟩ = some (Value.bool k)) (fun i => decide (i < 10)) (by kernel_rfl) ?_
    have hsW : w.heap.size + 2 ≤ w5.drew.heap.size := hs6
    generalize w5.drew = wf at *
    have hbf : b < wf.heap.size := by omega
    have hBf : B ≤ wf.heap.size := by omega
    have hxf : w.heap.size < wf.heap.size := by omega
    have hrow5 := row_kept HG6.out HTd.out.row (fun g2 e1 e2 => row_ne_map HMd.out HTd.out.row (by rw [e1, e2]))
    have hvb : (Value.slice A D.length cap).ownBlock ≠ some b := own_ne HH.out.row HH.out.blk (by decide)
    have hvx : (Value.slice A D.length cap).ownBlock ≠ some w.heap.size := fun e => by have := (HH.out.row.lt _ e).2; omega
    have bal := (Below.refl wf.heap.size wf).alloc (Nat.le_refl _) (.cells #[Value.string { data := n.toArray }, Value.string { data := u.toArray }, Value.string { data := t.toArray }, Value.string { data := y.toArray }, Value.bool k] 26)
    have hxa : (wf.alloc (.cells #[Value.string { data := n.toArray }, Value.string { data := u.toArray }, Value.string { data := t.toArray }, Value.string { data := y.toArray }, Value.bool k] 26)).cell? ⟨b, 0, none⟩ = some (.slice A D.length cap) ∧ (wf.alloc (.cells #[Value.string { data := n.toArray }, Value.string { data := u.toArray }, Value.string { data := t.toArray }, Value.string { data := y.toArray }, Value.bool k] 26)).cell? ⟨w.heap.size, 0, none⟩ = some (Value.string { data := n.toArray }) ∧ (wf.alloc (.cells #[Value.string { data := n.toArray }, Value.string { data := u.toArray }, Value.string { data := t.toArray }, Value.string { data := y.toArray }, Value.bool k] 26)).cell? ⟨w.heap.size, 1, none⟩ = some (Value.string { data := u.toArray }) ∧ (wf.alloc (.cells #[Value.string { data := n.toArray }, Value.string { data := u.toArray }, Value.string { data := t.toArray }, Value.string { data := y.toArray }, Value.bool k] 26)).cell? ⟨w.heap.size, 2, none⟩ = some (Value.string { data := t.toArray }) ∧ (wf.alloc (.cells #[Value.string { data := n.toArray }, Value.string { data := u.toArray }, Value.string { data := t.toArray }, Value.string { data := y.toArray }, Value.bool k] 26)).cell? ⟨w.heap.size, 3, none⟩ = some (Value.string { data := y.toArray }) ∧ (wf.alloc (.cells #[Value.string { data := n.toArray }, Value.string { data := u.toArray }, Value.string { data := t.toArray }, Value.string { data := y.toArray }, Value.bool k] 26)).cell? ⟨w.heap.size, 4, none⟩ = some (Value.bool k) :=
      ⟨(bal.cell (p := ⟨b, 0, none⟩) hbf).trans HX5.out.1, (bal.cell (p := ⟨w.heap.size, 0, none⟩) hxf).trans HX5.out.2.1, (bal.cell (p := ⟨w.heap.size, 1, none⟩) hxf).trans HX5.out.2.2.1, (bal.cell (p := ⟨w.heap.size, 2, none⟩) hxf).trans HX5.out.2.2.2.1, (bal.cell (p := ⟨w.heap.size, 3, none⟩) hxf).trans HX5.out.2.2.2.2.1, (bal.cell (p := ⟨w.heap.size, 4, none⟩) hxf).trans HX5.out.2.2.2.2.2⟩
    have HXA := Lib.hid hxa
    have HRW := Lib.hid hrow5
    have HVB := Lib.hid hvb
    have HVX := Lib.hid hvx
    clear hxa hrow5 hvb hvx bal hsW
    refine wpAnyN_take_at 0 44 (v := ?_) rfl rfl (by kernel_rfl) (by kernel_rfl) (by kernel_rfl) (by kernel_rfl) (by kernel_rfl) (fun _ _ _ h => h) (by rfl) ?_ HX5.out ?_
    rotate_left
    · intro W hSw; (try dsimp only at hSw); go_simp; (try with_reducible rfl)
    simp only [Act.put, List.setIfInBounds_toArray, List.set_cons_zero, List.set_cons_succ]
    refine wpAnyN_take_at 1 45 (v := ?_) rfl rfl (by kernel_rfl) (by kernel_rfl) (by kernel_rfl) (by kernel_rfl) (by kernel_rfl) (fun _ _ _ h => h) (by rfl) ?_ HX5.out ?_
    rotate_left
    · intro W hSw; (try dsimp only at hSw); go_simp; (try with_reducible rfl)
    simp only [Act.put, List.setIfInBounds_toArray, List.set_cons_zero, List.set_cons_succ]
    refine wpAnyN_take_at 2 46 (v := ?_) rfl rfl (by kernel_rfl) (by kernel_rfl) (by kernel_rfl) (by kernel_rfl) (by kernel_rfl) (fun _ _ _ h => h) (by rfl) ?_ HX5.out ?_
    rotate_left
    · intro W hSw; (try dsimp only at hSw); go_simp; (try with_reducible rfl)
    simp only [Act.put, List.setIfInBounds_toArray, List.set_cons_zero, List.set_cons_succ]
    refine wpAnyN_take_at 3 47 (v := ?_) rfl rfl (by kernel_rfl) (by kernel_rfl) (by kernel_rfl) (by kernel_rfl) (by kernel_rfl) (fun _ _ _ h => h) (by rfl) ?_ HX5.out ?_
    rotate_left
    · intro W hSw; (try dsimp only at hSw); go_simp; (try with_reducible rfl)
    simp only [Act.put, List.setIfInBounds_toArray, List.set_cons_zero, List.set_cons_succ]
    refine wpAnyN_take_at 4 48 (v := ?_) rfl rfl (by kernel_rfl) (by kernel_rfl) (by kernel_rfl) (by kernel_rfl) (by kernel_rfl) (fun _ _ _ h => h) (by rfl) ?_ HX5.out ?_
    rotate_left
    · intro W hSw; (try dsimp only at hSw); have q0 := hSw.1; go_simp; (try with_reducible rfl)
    simp only [Act.put, List.setIfInBounds_toArray, List.set_cons_zero, List.set_cons_succ]
    refine wpAnyN_take_at 5 49 (v := ?_) rfl rfl (by kernel_rfl) (by kernel_rfl) (by kernel_rfl) (by kernel_rfl) (by kernel_rfl) (fun _ _ _ h => h) (by rfl) ?_ HX5.out ?_
    rotate_left
    · intro W hSw; (try dsimp only at hSw); obtain ⟨_, q1, q2, q3, q4, q5⟩ := hSw; go_simp; (try with_reducible rfl)
    simp only [Act.put, List.setIfInBounds_toArray, List.set_cons_zero, List.set_cons_succ]
    refine wpAnyN_one (i := 6) rfl (by kernel_rfl) (fun K hK => ?_)
    go_simp
    refine hK _ _ (fun _ => HXA.out) ?_
    clear hK
    (try simp only [Act.put, List.setIfInBounds_toArray, List.set_cons_zero, List.set_cons_succ])
    refine wpAnyN_one (i := 7) rfl (by kernel_rfl) (fun K hK => ?_)
    rw [if_pos (by rfl)]
    refine wp_append_lies _ (.tmp 48) (.tmp 50) 40 rfl B 26 i0 (.agg #[.string ByteArray.empty, .string ByteArray.empty, .string ByteArray.empty, .string ByteArray.empty, .bool false]) 5 72 Tryz.underlying40 hi hz0 hz1 hz2 rfl (by decide) (.slice A D.length cap) D.length (flt dfC D) (by rfl) (HRW.out.alloc _) ⟨wf.heap.size, 0, none⟩ 1 1 (dfC ⟨n, u, t, y, k⟩) (by rfl) rfl (elt_cells wf (dfC ⟨n, u, t, y, k⟩) 26) (dfC_one _) (by omega) (by unfold maxLen; omega) (by omega) (by simp; omega) _ rfl ?_
    intro g1 cap1 w6 hown6 hgrow6 hat6 hlt6
    have hx6 : w6.cell? ⟨b, 0, none⟩ = some (.slice A D.length cap) ∧ w6.cell? ⟨w.heap.size, 0, none⟩ = some (Value.string { data := n.toArray }) ∧ w6.cell? ⟨w.heap.size, 1, none⟩ = some (Value.string { data := u.toArray }) ∧ w6.cell? ⟨w.heap.size, 2, none⟩ = some (Value.string { data := t.toArray }) ∧ w6.cell? ⟨w.heap.size, 3, none⟩ = some (Value.string { data := y.toArray }) ∧ w6.cell? ⟨w.heap.size, 4, none⟩ = some (Value.bool k) :=
      ⟨hgrow6.cell HXA.out.1 (fun e => HVB.out e.symm), hgrow6.cell HXA.out.2.1 (fun e => HVX.out e.symm), hgrow6.cell HXA.out.2.2.1 (fun e => HVX.out e.symm), hgrow6.cell HXA.out.2.2.2.1 (fun e => HVX.out e.symm), hgrow6.cell HXA.out.2.2.2.2.1 (fun e => HVX.out e.symm), hgrow6.cell HXA.out.2.2.2.2.2 (fun e => HVX.out e.symm)⟩
    have HX6 := Lib.hid hx6
    refine hK _ _ (fun _ => hx6) ?_
    obtain ⟨r1, r2, r3⟩ := add_end (x := ⟨n, u, t, y, k⟩) (by omega) HTd.out hBg HMd.out HM6.out HG6.out _ g1 cap1 hown6 hgrow6 HN.out HD.out
    have hf6 : w6.frozen? ⟨b, 0, none⟩ = false := by
      have hb6 := hgrow6.block b (by simp; omega) (fun e => HVB.out e.symm)
      have hb7 := HTd.out.blk
      rw [Below.heap_alloc _ _ b hbf, HG6.out.block b (Array.getElem?_eq_some_iff.1 hb7).1 (fun e => map_ne HMd.out hb7 (by injection e)), hb7] at hb6
      simp [World.frozen?, hb6]
    have HE := Lib.hid (show (∃ v' m', TableIs (w6.setCell ⟨b, 0, none⟩ (.slice (some ⟨g1, 0, none⟩) (D.length + 1) cap1)) B b v' m' (D ++ [x]) ∧ (v'.ownBlock = (Value.slice A D.length cap).ownBlock ∨ ∃ g, v'.ownBlock = some g ∧ w.heap.size ≤ g)) ∧
        TbTurn w (w6.setCell ⟨b, 0, none⟩ (.slice (some ⟨g1, 0, none⟩) (D.length + 1) cap1)) (.slice A D.length cap) ∧ Below B w (w6.setCell ⟨b, 0, none⟩ (.slice (some ⟨g1, 0, none⟩) (D.length + 1) cap1)) from by
      refine ⟨⟨_, _, by rw [HX.out]; exact r1, ?_⟩, HWd.out.1.trans r2, HWd.out.2.trans r3⟩
      rcases hat6 with e | e
      · exact .inl e.symm
      · exact .inr ⟨g1, rfl, by rw [e]; simp; omega⟩)
    have q0 := hx6.1
    clear hK r1 r2 r3 hown6 hgrow6 hat6 hlt6 hx6
    simp only [Act.put, List.setIfInBounds_toArray, List.set_cons_zero, List.set_cons_succ]
    refine wpAnyN_take_at 8 52 (v := ?_) rfl rfl (by kernel_rfl) (by kernel_rfl) (by kernel_rfl) (by kernel_rfl) (by kernel_rfl) (fun _ _ _ h => h) (by rfl) ?_ HX6.out ?_
    rotate_left
    · intro W hSw; (try dsimp only at hSw); go_simp; (try with_reducible rfl)
    simp only [Act.put, List.setIfInBounds_toArray, List.set_cons_zero, List.set_cons_succ]
    refine wpAnyN_take_at 9 53 (v := ?_) rfl rfl (by kernel_rfl) (by kernel_rfl) (by kernel_rfl) (by kernel_rfl) (by kernel_rfl) (fun _ _ _ h => h) (by rfl) ?_ HX6.out ?_
    rotate_left
    · intro W hSw; (try dsimp only at hSw); go_simp; (try with_reducible rfl)
    simp only [Act.put, List.setIfInBounds_toArray, List.set_cons_zero, List.set_cons_succ]
    refine wpAnyN_rest 10 [_] rfl (by kernel_rfl) (by rfl) ?_
    go_wp2
    go_ret
    exact ⟨rfl, HE.out⟩
  · have ht4 := HT3.out
    have hm4 := hm
    go_wp2_with fail
    clear y1
    obtain ⟨w4, hw4⟩ : ∃ w4, w4 = w3 := ⟨_, rfl⟩
    have hs3 := HS3.out
    rw [← hw4] at ht4 hm4 HX3 HB3 hs3 ⊢
    have HX4 := HX3
    have HW4 := Lib.hid (show TbTurn w w4 (.slice A D.length cap) ∧ Below B w w4 from ⟨TbTurn.below HB3.out _, HB3.out.mono hB⟩)
    have hs5 : w.heap.size + 2 ≤ w4.heap.size := by omega
    clear hw4 HT3 HX3 HB3 hm HS3 hbl3 hB3 hs3
    have hmd : w4.drew.ownsMap Tryz.prog 84 (plainElem (H := Unit) Tryz.prog 3) g D.length (tbD D) := hm4
    have HTd := Lib.hid (ht4.below (w' := w4.drew) (Below.refl _ w4).drew)
    have HWd := Lib.hid (show TbTurn w w4.drew (.slice A D.length cap) ∧ Below B w w4.drew from ⟨HW4.out.1, HW4.out.2.drew⟩)
    have hxd : w4.drew.cell? ⟨w.heap.size + 1, 0, none⟩ = some (Value.string { data := n.toArray }) ∧ w4.drew.cell? ⟨w.heap.size + 1, 1, none⟩ = some (Value.bool k) ∧ w4.drew.cell? ⟨w.heap.size, 0, none⟩ = some (Value.string { data := n.toArray }) ∧
      w4.drew.cell? ⟨w.heap.size, 1, none⟩ = some (Value.string { data := u.toArray }) ∧ w4.drew.cell? ⟨w.heap.size, 2, none⟩ = some (Value.string { data := t.toArray }) ∧ w4.drew.cell? ⟨w.heap.size, 3, none⟩ = some (Value.string { data := y.toArray }) ∧ w4.drew.cell? ⟨w.heap.size, 4, none⟩ = some (Value.bool k) := HX4.out
    have HXd := Lib.hid hxd
    clear hxd
    have hsd : w.heap.size + 2 ≤ w4.drew.heap.size := hs5
    clear ht4 hm4 HW4 HX4 hs5
    refine wp_region_N (fun W => W = w4.drew) (fun i => decide (i < 10)) (by kernel_rfl) ?_
    generalize w4.drew = wd at *
    have c0 : wd.cell? ⟨b, 0, none⟩ = some (.slice A D.length cap) := (cell_of_row wd b 0 _ _ (0, 0) HTd.out.blk).trans rfl
    have c1 : wd.cell? ⟨b, 1, none⟩ = some (.map (some g)) := (cell_of_row wd b 1 _ _ (0, 0) HTd.out.blk).trans rfl
    obtain ⟨K0, K1, _⟩ := HXd.out
    obtain ⟨w5, hup, hm5, hg5⟩ := hmd.update keyLaw Tryz.underlying47 (by unfold maxLen; omega) hkey (val := .int .i64 (D.length : Int)) (plainElem_int Tryz.underlying3 (WalkArith.wf_i64 (by omega)))
    have HM5 := Lib.hid hm5
    have HG5 := Lib.hid hg5
    clear hm5 hg5
    refine wpAnyN_take_at 0 34 (v := ?_) rfl rfl (by kernel_rfl) (by kernel_rfl) (by kernel_rfl) (by kernel_rfl) (by kernel_rfl) (fun _ _ _ h => h) (by rfl) ?_ rfl ?_
    rotate_left
    · intro W hSw; (try dsimp only at hSw); subst hSw; go_simp; (try with_reducible rfl)
    simp only [Act.put, List.setIfInBounds_toArray, List.set_cons_zero, List.set_cons_succ]
    refine wpAnyN_take_at 1 35 (v := ?_) rfl rfl (by kernel_rfl) (by kernel_rfl) (by kernel_rfl) (by kernel_rfl) (by kernel_rfl) (fun _ _ _ h => h) (by rfl) ?_ rfl ?_
    rotate_left
    · intro W hSw; (try dsimp only at hSw); subst hSw; go_simp; (try with_reducible rfl)
    simp only [Act.put, List.setIfInBounds_toArray, List.set_cons_zero, List.set_cons_succ]
    refine wpAnyN_take_at 2 36 (v := ?_) rfl rfl (by kernel_rfl) (by kernel_rfl) (by kernel_rfl) (by kernel_rfl) (by kernel_rfl) (fun _ _ _ h => h) (by rfl) ?_ rfl ?_
    rotate_left
    · intro W hSw; (try dsimp only at hSw); subst hSw; go_simp; (try with_reducible rfl)
    simp only [Act.put, List.setIfInBounds_toArray, List.set_cons_zero, List.set_cons_succ]
    refine wpAnyN_take_at 3 37 (v := ?_) rfl rfl (by kernel_rfl) (by kernel_rfl) (by kernel_rfl) (by kernel_rfl) (by kernel_rfl) (fun _ _ _ h => h) (by rfl) ?_ rfl ?_
    rotate_left
    · intro W hSw; (try dsimp only at hSw); subst hSw; go_simp; (try with_reducible rfl)
    simp only [Act.put, List.setIfInBounds_toArray, List.set_cons_zero, List.set_cons_succ]
    refine wpAnyN_take_at 4 38 (v := ?_) rfl rfl (by kernel_rfl) (by kernel_rfl) (by kernel_rfl) (by kernel_rfl) (by kernel_rfl) (fun _ _ _ h => h) (by rfl) ?_ rfl ?_
    rotate_left
    · intro W hSw; (try dsimp only at hSw); subst hSw; go_simp; (try with_reducible rfl)
    simp only [Act.put, List.setIfInBounds_toArray, List.set_cons_zero, List.set_cons_succ]
    refine wpAnyN_take_at 5 39 (v := ?_) rfl rfl (by kernel_rfl) (by kernel_rfl) (by kernel_rfl) (by kernel_rfl) (by kernel_rfl) (fun _ _ _ h => h) (by rfl) ?_ rfl ?_
    rotate_left
    · intro W hSw; (try dsimp only at hSw); subst hSw; go_simp; (try with_reducible rfl)
    simp only [Act.put, List.setIfInBounds_toArray, List.set_cons_zero, List.set_cons_succ]
    refine wpAnyN_take_at 6 40 (v := ?_) rfl rfl (by kernel_rfl) (by kernel_rfl) (by kernel_rfl) (by kernel_rfl) (by kernel_rfl) (fun _ _ _ h => h) (by rfl) ?_ rfl ?_
    rotate_left
    · intro W hSw; (try dsimp only at hSw); subst hSw; go_simp; (try with_reducible rfl)
    simp only [Act.put, List.setIfInBounds_toArray, List.set_cons_zero, List.set_cons_succ]
    refine wpAnyN_take_at 7 41 (v := ?_) rfl rfl (by kernel_rfl) (by kernel_rfl) (by kernel_rfl) (by kernel_rfl) (by kernel_rfl) (fun _ _ _ h => h) (by rfl) ?_ rfl ?_
    rotate_left
    · intro W hSw; (try dsimp only at hSw); subst hSw; go_simp; (try with_reducible rfl)
    simp only [Act.put, List.setIfInBounds_toArray, List.set_cons_zero, List.set_cons_succ]
    refine wpAnyN_take_at 8 42 (v := ?_) rfl rfl (by kernel_rfl) (by kernel_rfl) (by kernel_rfl) (by kernel_rfl) (by kernel_rfl) (fun _ _ _ h => h) (by rfl) ?_ rfl ?_
    rotate_left
    · intro W hSw; (try dsimp only at hSw); subst hSw; go_simp; (try with_reducible rfl)
    simp only [Act.put, List.setIfInBounds_toArray, List.set_cons_zero, List.set_cons_succ]
    refine wpAnyN_take_at 9 43 (v := ?_) rfl rfl (by kernel_rfl) (by kernel_rfl) (by kernel_rfl) (by kernel_rfl) (by kernel_rfl) (fun _ _ _ h => h) (by rfl) ?_ rfl ?_
    rotate_left
    · intro W hSw; (try dsimp only at hSw); subst hSw; go_simp; (try with_reducible rfl)
    simp only [Act.put, List.setIfInBounds_toArray, List.set_cons_zero, List.set_cons_succ]
    refine wpAnyN_one (i := 10) rfl (by kernel_rfl) (fun K hK => ?_)
    go_simp
    refine hK _ _ (fun h => absurd h (by decide)) ?_
    clear hK
    (try simp only [Act.put, List.setIfInBounds_toArray, List.set_cons_zero, List.set_cons_succ])
    refine wpAnyN_rest 11 [] rfl (by kernel_rfl) (by rfl) ?_
    have hsz5 := HG5.out.size
    have hgne : ∀ (p : Addr) (u' : Value), wd.cell? p = some u' → p.block ≠ g := fun p u' hp => by
      rintro e
      obtain ⟨es, cl, hbm, _⟩ := hmd
      simp [World.cell?, e, hbm] at hp
    have hx5 : w5.drew.cell? ⟨b, 0, none⟩ = some (.slice A D.length cap) ∧ w5.drew.cell? ⟨w.heap.size, 0, none⟩ = some (Value.string { data := n.toArray }) ∧ w5.drew.cell? ⟨w.heap.size, 1, none⟩ = some (Value.string { data := u.toArray }) ∧ w5.drew.cell? ⟨w.heap.size, 2, none⟩ = some (Value.string { data := t.toArray }) ∧ w5.drew.cell? ⟨w.heap.size, 3, none⟩ = some (Value.string { data := y.toArray }) ∧ w5.drew.cell? ⟨w.heap.size, 4, none⟩ = some (Value.bool k) := ⟨HG5.out.cell c0 (by intro e; injection e with e; exact hgne _ _ c0 e), HG5.out.cell HXd.out.2.2.1 (by intro e; injection e with e; exact hgne _ _ HXd.out.2.2.1 e), HG5.out.cell HXd.out.2.2.2.1 (by intro e; injection e with e; exact hgne _ _ HXd.out.2.2.2.1 e), HG5.out.cell HXd.out.2.2.2.2.1 (by intro e; injection e with e; exact hgne _ _ HXd.out.2.2.2.2.1 e), HG5.out.cell HXd.out.2.2.2.2.2.1 (by intro e; injection e with e; exact hgne _ _ HXd.out.2.2.2.2.2.1 e), HG5.out.cell HXd.out.2.2.2.2.2.2 (by intro e; injection e with e; exact hgne _ _ HXd.out.2.2.2.2.2.2 e)⟩
    have HX5 := Lib.hid hx5
    have hm6 : w5.drew.ownsMap Tryz.prog 84 (plainElem (H := Unit) Tryz.prog 3) g (D.length + 1) ((tbD D).put (kLit n k) (.lit (.int .i64 (D.length : Int)))) := HM5.out
    have HM6 := Lib.hid hm6
    have hg6 : wd.grownBy w5.drew (some g) := ⟨HG5.out.os, HG5.out.tape, HG5.out.output, HG5.out.size, HG5.out.block⟩
    have HG6 := Lib.hid hg6
    have hs6 : w.heap.size + 2 ≤ w5.drew.heap.size := Nat.le_trans hsd hsz5
    have HMd := Lib.hid hmd
    clear c0 c1 K0 K1 hup HM5 HG5 hsz5 hgne hmd hx5 hm6 hg6
    go_wp2_with fail
    refine wp_region_N (fun W => W.cell? ⟨b, 0, none⟩ = some (.slice A D.length cap) ∧ W.cell? ⟨w.heap.size, 0, none⟩ = some (Value.string { data := n.toArray }) ∧ W.cell? ⟨w.heap.size, 1, none⟩ = some (Value.string { data := u.toArray }) ∧ W.cell? ⟨w.heap.size, 2, none⟩ = some (Value.string { data := t.toArray }) ∧ W.cell? ⟨w.heap.size, 3, none⟩ = some (Value.string { data := y.toArray }) ∧ W.cell? ⟨w.heap.size, 4, none⟩ = some (Value.bool k)) (fun i => decide (i < 10)) (by kernel_rfl) ?_
    have hsW : w.heap.size + 2 ≤ w5.drew.heap.size := hs6
    generalize w5.drew = wf at *
    have hbf : b < wf.heap.size := by omega
    have hBf : B ≤ wf.heap.size := by omega
    have hxf : w.heap.size < wf.heap.size := by omega
    have hrow5 := row_kept HG6.out HTd.out.row (fun g2 e1 e2 => row_ne_map HMd.out HTd.out.row (by rw [e1, e2]))
    have hvb : (Value.slice A D.length cap).ownBlock ≠ some b := own_ne HH.out.row HH.out.blk (by decide)
    have hvx : (Value.slice A D.length cap).ownBlock ≠ some w.heap.size := fun e => by have := (HH.out.row.lt _ e).2; omega
    have bal := (Below.refl wf.heap.size wf).alloc (Nat.le_refl _) (.cells #[Value.string { data := n.toArray }, Value.string { data := u.toArray }, Value.string { data := t.toArray }, Value.string { data := y.toArray }, Value.bool k] 26)
    have hxa : (wf.alloc (.cells #[Value.string { data := n.toArray }, Value.string { data := u.toArray }, Value.string { data := t.toArray }, Value.string { data := y.toArray }, Value.bool k] 26)).cell? ⟨b, 0, none⟩ = some (.slice A D.length cap) ∧ (wf.alloc (.cells #[Value.string { data := n.toArray }, Value.string { data := u.toArray }, Value.string { data := t.toArray }, Value.string { data := y.toArray }, Value.bool k] 26)).cell? ⟨w.heap.size, 0, none⟩ = some (Value.string { data := n.toArray }) ∧ (wf.alloc (.cells #[Value.string { data := n.toArray }, Value.string { data := u.toArray }, Value.string { data := t.toArray }, Value.string { data := y.toArray }, Value.bool k] 26)).cell? ⟨w.heap.size, 1, none⟩ = some (Value.string { data := u.toArray }) ∧ (wf.alloc (.cells #[Value.string { data := n.toArray }, Value.string { data := u.toArray }, Value.string { data := t.toArray }, Value.string { data := y.toArray }, Value.bool k] 26)).cell? ⟨w.heap.size, 2, none⟩ = some (Value.string { data := t.toArray }) ∧ (wf.alloc (.cells #[Value.string { data := n.toArray }, Value.string { data := u.toArray }, Value.string { data := t.toArray }, Value.string { data := y.toArray }, Value.bool k] 26)).cell? ⟨w.heap.size, 3, none⟩ = some (Value.string { data := y.toArray }) ∧ (wf.alloc (.cells #[Value.string { data := n.toArray }, Value.string { data := u.toArray }, Value.string { data := t.toArray }, Value.string { data := y.toArray }, Value.bool k] 26)).cell? ⟨w.heap.size, 4, none⟩ = some (Value.bool k) :=
      ⟨(bal.cell (p := ⟨b, 0, none⟩) hbf).trans HX5.out.1, (bal.cell (p := ⟨w.heap.size, 0, none⟩) hxf).trans HX5.out.2.1, (bal.cell (p := ⟨w.heap.size, 1, none⟩) hxf).trans HX5.out.2.2.1, (bal.cell (p := ⟨w.heap.size, 2, none⟩) hxf).trans HX5.out.2.2.2.1, (bal.cell (p := ⟨w.heap.size, 3, none⟩) hxf).trans HX5.out.2.2.2.2.1, (bal.cell (p := ⟨w.heap.size, 4, none⟩) hxf).trans HX5.out.2.2.2.2.2⟩
    have HXA := Lib.hid hxa
    have HRW := Lib.hid hrow5
    have HVB := Lib.hid hvb
    have HVX := Lib.hid hvx
    clear hxa hrow5 hvb hvx bal hsW
    refine wpAnyN_take_at 0 44 (v := ?_) rfl rfl (by kernel_rfl) (by kernel_rfl) (by kernel_rfl) (by kernel_rfl) (by kernel_rfl) (fun _ _ _ h => h) (by rfl) ?_ HX5.out ?_
    rotate_left
    · intro W hSw; (try dsimp only at hSw); go_simp; (try with_reducible rfl)
    simp only [Act.put, List.setIfInBounds_toArray, List.set_cons_zero, List.set_cons_succ]
    refine wpAnyN_take_at 1 45 (v := ?_) rfl rfl (by kernel_rfl) (by kernel_rfl) (by kernel_rfl) (by kernel_rfl) (by kernel_rfl) (fun _ _ _ h => h) (by rfl) ?_ HX5.out ?_
    rotate_left
    · intro W hSw; (try dsimp only at hSw); go_simp; (try with_reducible rfl)
    simp only [Act.put, List.setIfInBounds_toArray, List.set_cons_zero, List.set_cons_succ]
    refine wpAnyN_take_at 2 46 (v := ?_) rfl rfl (by kernel_rfl) (by kernel_rfl) (by kernel_rfl) (by kernel_rfl) (by kernel_rfl) (fun _ _ _ h => h) (by rfl) ?_ HX5.out ?_
    rotate_left
    · intro W hSw; (try dsimp only at hSw); go_simp; (try with_reducible rfl)
    simp only [Act.put, List.setIfInBounds_toArray, List.set_cons_zero, List.set_cons_succ]
    refine wpAnyN_take_at 3 47 (v := ?_) rfl rfl (by kernel_rfl) (by kernel_rfl) (by kernel_rfl) (by kernel_rfl) (by kernel_rfl) (fun _ _ _ h => h) (by rfl) ?_ HX5.out ?_
    rotate_left
    · intro W hSw; (try dsimp only at hSw); go_simp; (try with_reducible rfl)
    simp only [Act.put, List.setIfInBounds_toArray, List.set_cons_zero, List.set_cons_succ]
    refine wpAnyN_take_at 4 48 (v := ?_) rfl rfl (by kernel_rfl) (by kernel_rfl) (by kernel_rfl) (by kernel_rfl) (by kernel_rfl) (fun _ _ _ h => h) (by rfl) ?_ HX5.out ?_
    rotate_left
    · intro W hSw; (try dsimp only at hSw); have q0 := hSw.1; go_simp; (try with_reducible rfl)
    simp only [Act.put, List.setIfInBounds_toArray, List.set_cons_zero, List.set_cons_succ]
    refine wpAnyN_take_at 5 49 (v := ?_) rfl rfl (by kernel_rfl) (by kernel_rfl) (by kernel_rfl) (by kernel_rfl) (by kernel_rfl) (fun _ _ _ h => h) (by rfl) ?_ HX5.out ?_
    rotate_left
    · intro W hSw; (try dsimp only at hSw); obtain ⟨_, q1, q2, q3, q4, q5⟩ := hSw; go_simp; (try with_reducible rfl)
    simp only [Act.put, List.setIfInBounds_toArray, List.set_cons_zero, List.set_cons_succ]
    refine wpAnyN_one (i := 6) rfl (by kernel_rfl) (fun K hK => ?_)
    go_simp
    refine hK _ _ (fun _ => HXA.out) ?_
    clear hK
    (try simp only [Act.put, List.setIfInBounds_toArray, List.set_cons_zero, List.set_cons_succ])
    refine wpAnyN_one (i := 7) rfl (by kernel_rfl) (fun K hK => ?_)
    rw [if_pos (by rfl)]
    refine wp_append_lies _ (.tmp 48) (.tmp 50) 40 rfl B 26 i0 (.agg #[.string ByteArray.empty, .string ByteArray.empty, .string ByteArray.empty, .string ByteArray.empty, .bool false]) 5 72 Tryz.underlying40 hi hz0 hz1 hz2 rfl (by decide) (.slice A D.length cap) D.length (flt dfC D) (by rfl) (HRW.out.alloc _) ⟨wf.heap.size, 0, none⟩ 1 1 (dfC ⟨n, u, t, y, k⟩) (by rfl) rfl (elt_cells wf (dfC ⟨n, u, t, y, k⟩) 26) (dfC_one _) (by omega) (by unfold maxLen; omega) (by omega) (by simp; omega) _ rfl ?_
    intro g1 cap1 w6 hown6 hgrow6 hat6 hlt6
    have hx6 : w6.cell? ⟨b, 0, none⟩ = some (.slice A D.length cap) ∧ w6.cell? ⟨w.heap.size, 0, none⟩ = some (Value.string { data := n.toArray }) ∧ w6.cell? ⟨w.heap.size, 1, none⟩ = some (Value.string { data := u.toArray }) ∧ w6.cell? ⟨w.heap.size, 2, none⟩ = some (Value.string { data := t.toArray }) ∧ w6.cell? ⟨w.heap.size, 3, none⟩ = some (Value.string { data := y.toArray }) ∧ w6.cell? ⟨w.heap.size, 4, none⟩ = some (Value.bool k) :=
      ⟨hgrow6.cell HXA.out.1 (fun e => HVB.out e.symm), hgrow6.cell HXA.out.2.1 (fun e => HVX.out e.symm), hgrow6.cell HXA.out.2.2.1 (fun e => HVX.out e.symm), hgrow6.cell HXA.out.2.2.2.1 (fun e => HVX.out e.symm), hgrow6.cell HXA.out.2.2.2.2.1 (fun e => HVX.out e.symm), hgrow6.cell HXA.out.2.2.2.2.2 (fun e => HVX.out e.symm)⟩
    have HX6 := Lib.hid hx6
    refine hK _ _ (fun _ => hx6) ?_
    obtain ⟨r1, r2, r3⟩ := add_end (x := ⟨n, u, t, y, k⟩) (by omega) HTd.out hBg HMd.out HM6.out HG6.out _ g1 cap1 hown6 hgrow6 HN.out HD.out
    have hf6 : w6.frozen? ⟨b, 0, none⟩ = false := by
      have hb6 := hgrow6.block b (by simp; omega) (fun e => HVB.out e.symm)
      have hb7 := HTd.out.blk
      rw [Below.heap_alloc _ _ b hbf, HG6.out.block b (Array.getElem?_eq_some_iff.1 hb7).1 (fun e => map_ne HMd.out hb7 (by injection e)), hb7] at hb6
      simp [World.frozen?, hb6]
    have HE := Lib.hid (show (∃ v' m', TableIs (w6.setCell ⟨b, 0, none⟩ (.slice (some ⟨g1, 0, none⟩) (D.length + 1) cap1)) B b v' m' (D ++ [x]) ∧ (v'.ownBlock = (Value.slice A D.length cap).ownBlock ∨ ∃ g, v'.ownBlock = some g ∧ w.heap.size ≤ g)) ∧
        TbTurn w (w6.setCell ⟨b, 0, none⟩ (.slice (some ⟨g1, 0, none⟩) (D.length + 1) cap1)) (.slice A D.length cap) ∧ Below B w (w6.setCell ⟨b, 0, none⟩ (.slice (some ⟨g1, 0, none⟩) (D.length + 1) cap1)) from by
      refine ⟨⟨_, _, by rw [HX.out]; exact r1, ?_⟩, HWd.out.1.trans r2, HWd.out.2.trans r3⟩
      rcases hat6 with e | e
      · exact .inl e.symm
      · exact .inr ⟨g1, rfl, by rw [e]; simp; omega⟩)
    have q0 := hx6.1
    clear hK r1 r2 r3 hown6 hgrow6 hat6 hlt6 hx6
    simp only [Act.put, List.setIfInBounds_toArray, List.set_cons_zero, List.set_cons_succ]
    refine wpAnyN_take_at 8 52 (v := ?_) rfl rfl (by kernel_rfl) (by kernel_rfl) (by kernel_rfl) (by kernel_rfl) (by kernel_rfl) (fun _ _ _ h => h) (by rfl) ?_ HX6.out ?_
    rotate_left
    · intro W hSw; (try dsimp only at hSw); go_simp; (try with_reducible rfl)
    simp only [Act.put, List.setIfInBounds_toArray, List.set_cons_zero, List.set_cons_succ]
    refine wpAnyN_take_at 9 53 (v := ?_) rfl rfl (by kernel_rfl) (by kernel_rfl) (by kernel_rfl) (by kernel_rfl) (by kernel_rfl) (fun _ _ _ h => h) (by rfl) ?_ HX6.out ?_
    rotate_left
    · intro W hSw; (try dsimp only at hSw); go_simp; (try with_reducible rfl)
    simp only [Act.put, List.setIfInBounds_toArray, List.set_cons_zero, List.set_cons_succ]
    refine wpAnyN_rest 10 [_] rfl (by kernel_rfl) (by rfl) ?_
    go_wp2
    go_ret
    exact ⟨rfl, HE.out⟩
end Go.Proofs.YtioolcnoiaoflaaGreatDoor

namespace Go.Proofs.YtioolcnoiaoflaaGreatDoor
open Go.RowKit Go.Maps
set_option linter.unusedSimpArgs false
set_option linter.unusedVariables false
set_option maxRecDepth 100000

def fdL (D : List Dfn) (n : List UInt8) (b : Bool) : Dfn × Bool := match D.find? (fun x => decide (x.nm = n) && (x.nt == b)) with | some x => (x, true) | none => (noDfn, false)
def findL (D : List Dfn) (s : List UInt8) (b : Bool) : Dfn × Bool := if (dnL s).2 then fdL D (dnL s).1 b else (noDfn, false)
theorem fdL_no {D : List Dfn} {n : List UInt8} {b : Bool} (h : ∀ i (hi : i < D.length), ¬ (D[i].nm = n ∧ D[i].nt = b)) : fdL D n b = (noDfn, false) := by
  unfold fdL
  rw [List.find?_eq_none.2 (fun x hx => by
    obtain ⟨i, hi, rfl⟩ := List.mem_iff_getElem.1 hx
    have := h i hi
    simp
    exact fun e1 e2 => this ⟨e1, e2⟩)]
theorem fdL_at {D : List Dfn} {n : List UInt8} {b : Bool} {j : Nat} (hj : j < D.length) (e1 : D[j].nm = n) (e2 : D[j].nt = b) (h : ∀ i (hi : i < j), ¬ (D[i].nm = n ∧ D[i].nt = b)) : fdL D n b = (D[j], true) := by
  unfold fdL
  rw [show D.find? (fun x => decide (x.nm = n) && (x.nt == b)) = some D[j] from List.find?_eq_some_iff_getElem.2 ⟨by simp [e1, e2], j, hj, rfl, fun i hi => by
    have := h i hi
    simp
    by_cases e1 : D[i].nm = n
    · exact Or.inr fun e2 => this ⟨e1, e2⟩
    · exact Or.inl e1⟩]
theorem dfHas_no {D : List Dfn} {n : List UInt8} {b : Bool} (h : dfHas D n b = false) : ∀ i (hi : i < D.length), ¬ (D[i].nm = n ∧ D[i].nt = b) := by
  intro i hi ⟨e1, e2⟩
  unfold dfHas at h
  rw [List.any_eq_false] at h
  have := h D[i] (List.getElem_mem hi)
  rw [e1, e2] at this
  simp at this
theorem dnL_len (l : List UInt8) : (dnL l).1.length ≤ 60 := by
  unfold dnL
  split
  · exact Nat.zero_le _
  · rename_i h
    simp at h ⊢
    omega

theorem add_none (x : Dfn) (w : World) : Calls Tryz.prog 15 #[.pointer none, dfV' x] w fun e w' => e = .returned (.bool false) ∧ Below w.heap.size w w' := by
  unfold dfV'
  go_enter Tryz.func15, Tryz.ntmps15
  go_wp2
  go_ret
  exact ⟨rfl, (Below.refl _ _).alloc (Nat.le_refl _) _⟩

theorem find_none (s : ByteArray) (b : Bool) (w : World) (hs : s.size ≤ 1000) : Calls Tryz.prog 17 #[.pointer none, .string s, .bool b] w fun e w' => e = .returned (dfTib (noDfn, false)) ∧ Below w.heap.size w w' := by
  have cn := fun W => defName_any s W (by omega)
  have b0 : Below w.heap.size w (w.alloc (.cells #[.string ⟨#[]⟩, .string ⟨#[]⟩, .string ⟨#[]⟩, .string ⟨#[]⟩, .bool false] 26)) := (Below.refl _ w).alloc (Nat.le_refl _) _
  have HB0 := Lib.hid b0
  have HZ0 := Lib.hid (dfAt_zero w)
  have hs0 := alloc_size w (.cells #[.string ⟨#[]⟩, .string ⟨#[]⟩, .string ⟨#[]⟩, .string ⟨#[]⟩, .bool false] 26)
  clear b0
  go_enter Tryz.func17, Tryz.ntmps17
  go_wp2_with fail
  refine (cn _).mono ?_
  rintro e w1 ⟨rfl, b1⟩
  have HB1 := Lib.hid (HB0.out.then b1)
  have hz1 := HZ0.out.below b1
  obtain ⟨k0, k1, k2, k3, k4, kf⟩ := hz1.cells
  have HS := Lib.hid (hz1.set noDfn)
  have HW := Lib.hid (below_set5 HB1.out (Nat.le_refl _) (.string ⟨#[]⟩) (.string ⟨#[]⟩) (.string ⟨#[]⟩) (.string ⟨#[]⟩) (.bool false))
  clear hz1 b1 cn
  go_wp2
  (try simp only [Exit.inBlock, Exit.then])
  refine bodyPost_ret (v := dfTib (noDfn, false)) ?_ rfl ⟨rfl, HW.out⟩
  exact ret_df rfl (g := w.heap.size) HS.out rfl rfl

set_option maxHeartbeats 4000000 in
theorem find_any {w : World} {B b : Nat} {v m : Value} {D : List Dfn} (h : TableIs w B b v m D) (s : ByteArray) (nt : Bool) (hs : s.size ≤ 1000) (hl : D.length ≤ 1000) :
    Calls Tryz.prog 17 #[.pointer (some ⟨b, 0, none⟩), .string s, .bool nt] w fun e w' => e = .returned (dfTib (findL D s.data.toList nt)) ∧ Below w.heap.size w w' := by
  have cn := fun W => defName_any s W (by omega)
  unfold findL
  have hlen := dnL_len s.data.toList
  generalize dnL s.data.toList = y at *
  obtain ⟨n, ok⟩ := y
  simp only at cn hlen ⊢
  have hbl := (Array.getElem?_eq_some_iff.1 h.blk).1
  have HH := Lib.hid h
  clear h
  have b0 : Below w.heap.size w (w.alloc (.cells #[.string ⟨#[]⟩, .string ⟨#[]⟩, .string ⟨#[]⟩, .string ⟨#[]⟩, .bool false] 26)) := (Below.refl _ w).alloc (Nat.le_refl _) _
  have HB0 := Lib.hid b0
  have HZ0 := Lib.hid (dfAt_zero w)
  have hs0 := alloc_size w (.cells #[.string ⟨#[]⟩, .string ⟨#[]⟩, .string ⟨#[]⟩, .string ⟨#[]⟩, .bool false] 26)
  clear b0
  cases ok with
  | false =>
    rw [if_neg (by decide)]
    go_enter Tryz.func17, Tryz.ntmps17
    go_wp2_with fail
    refine (cn _).mono ?_
    rintro e w1 ⟨rfl, b1⟩
    have HB1 := Lib.hid (HB0.out.then b1)
    have hz1 := HZ0.out.below b1
    obtain ⟨k0, k1, k2, k3, k4, kf⟩ := hz1.cells
    have HS := Lib.hid (hz1.set noDfn)
    have HW := Lib.hid (below_set5 HB1.out (Nat.le_refl _) (.string ⟨#[]⟩) (.string ⟨#[]⟩) (.string ⟨#[]⟩) (.string ⟨#[]⟩) (.bool false))
    clear hz1 b1 cn
    go_wp2
    (try simp only [Exit.inBlock, Exit.then])
    refine bodyPost_ret (v := dfTib (noDfn, false)) ?_ rfl ⟨rfl, HW.out⟩
    exact ret_df rfl (g := w.heap.size) HS.out rfl rfl
  | true =>
    rw [if_pos rfl]
    by_cases hd : dfHas D n nt = true
    · obtain ⟨j, hj, e1, e2, hfst⟩ := dfHas_at hd
      rw [fdL_at hj e1 e2 hfst]
      obtain ⟨x, hx⟩ : ∃ x, x = D[j] := ⟨_, rfl⟩
      rw [← hx]
      have HX9 := Lib.hid hx
      clear hx
      have HE1 := Lib.hid e1
      have HE2 := Lib.hid e2
      have HJ := Lib.hid hj
      have HDD := Lib.hid hd
      clear e1 e2 hfst hd
      have hj2 : (j : Int) < D.length := by omega
      have hj3 : D.length ≤ 1000 := hl
      go_enter Tryz.func17, Tryz.ntmps17
      go_wp2_with fail
      refine (cn _).mono ?_
      rintro e w1 ⟨rfl, b1⟩
      have HB1 := Lib.hid (HB0.out.then b1)
      have hz1 := HZ0.out.below b1
      obtain ⟨k0, k1, k2, k3, k4, kf⟩ := hz1.cells
      have HS := Lib.hid (hz1.set x)
      have HW := Lib.hid (below_set5 HB1.out (Nat.le_refl _) (.string ⟨x.nm.toArray⟩) (.string ⟨x.url.toArray⟩) (.string ⟨x.ttl.toArray⟩) (.string ⟨x.txt.toArray⟩) (.bool x.nt))
      have HT := Lib.hid ((HH.out.below HB0.out).below b1)
      obtain ⟨A, cap, rfl, hrow⟩ := EltsAt.own dfC_length HT.out.row
      have hcap := hrow.le
      have hcm := hrow.cap
      unfold maxLen at hcm
      obtain ⟨c, hc, hcj⟩ := look_any HT.out (n := n) (t := nt) (by unfold maxLen; omega)
      have hce := hcj j HJ.out HE1.out HE2.out
      subst hce
      have hr1 := hc w1 (fun _ _ => rfl)
      rw [HDD.out] at hr1
      unfold keyV at hr1
      have c0 : w1.cell? ⟨b, 0, none⟩ = some (.slice A D.length cap) := (cell_of_row w1 b 0 _ _ (0, 0) HT.out.blk).trans rfl
      have c1 : w1.cell? ⟨b, 1, none⟩ = some m := (cell_of_row w1 b 1 _ _ (0, 0) HT.out.blk).trans rfl
      obtain ⟨gb, off, rfl, _, d0, d1, d2, d3, d4⟩ := DefsAt.cells5 hrow HJ.out
      clear hc hcj hrow b1 hz1 cn
      rw [← HX9.out] at d0 d1 d2 d3 d4
      go_wp2
      (try simp only [Exit.inBlock, Exit.then])
      refine bodyPost_ret (v := dfTib (x, true)) ?_ rfl ⟨rfl, HW.out⟩
      exact ret_df rfl (g := w.heap.size) HS.out rfl rfl
    · have hd : dfHas D n nt = false := by simpa using hd
      rw [fdL_no (dfHas_no hd)]
      have HDD := Lib.hid hd
      clear hd
      go_enter Tryz.func17, Tryz.ntmps17
      go_wp2_with fail
      refine (cn _).mono ?_
      rintro e w1 ⟨rfl, b1⟩
      have HB1 := Lib.hid (HB0.out.then b1)
      have hz1 := HZ0.out.below b1
      obtain ⟨k0, k1, k2, k3, k4, kf⟩ := hz1.cells
      have HS := Lib.hid (hz1.set noDfn)
      have HW := Lib.hid (below_set5 HB1.out (Nat.le_refl _) (.string ⟨#[]⟩) (.string ⟨#[]⟩) (.string ⟨#[]⟩) (.string ⟨#[]⟩) (.bool false))
      have HT := Lib.hid ((HH.out.below HB0.out).below b1)
      obtain ⟨c, hc, _⟩ := look_any HT.out (n := n) (t := nt) (by unfold maxLen; omega)
      have hr1 := hc w1 (fun _ _ => rfl)
      rw [HDD.out] at hr1
      unfold keyV at hr1
      have c1 : w1.cell? ⟨b, 1, none⟩ = some m := (cell_of_row w1 b 1 _ _ (0, 0) HT.out.blk).trans rfl
      clear hc b1 hz1 cn
      go_wp2
      (try simp only [Exit.inBlock, Exit.then])
      refine bodyPost_ret (v := dfTib (noDfn, false)) ?_ rfl ⟨rfl, HW.out⟩
      exact ret_df rfl (g := w.heap.size) HS.out rfl rfl

end Go.Proofs.YtioolcnoiaoflaaGreatDoor

namespace Go.Proofs.YtioolcnoiaoflaaGreatDoor
open Go.RowKit Go.Maps
set_option linter.unusedSimpArgs false
set_option linter.unusedVariables false
set_option maxRecDepth 100000

def RfRel (X : List Dfn) (n : List UInt8) (b : Bool) (i : Value) : Prop := ∃ k : Nat, i = .int .i64 k ∧ k ≤ X.length ∧ ∀ j (hj : j < k) (h : j < X.length), ¬ (X[j].nm = n ∧ X[j].nt = b)
def RfRel0 (i : Value) : Prop := i = .int .i64 0
set_option maxHeartbeats 4000000 in
theorem rfind_any {w : World} (hT : Tabs w) (A : Option Addr) (cap : Nat) (X : List Dfn) (hr : DefsAt w A cap X) (s : ByteArray) (nt : Bool) (hs : s.size ≤ 1000) (hl : X.length ≤ 1000) :
    Calls Tryz.prog 18 #[.slice A X.length cap, .string s, .bool nt] w fun e w' => e = .returned (dfTib (findL X s.data.toList nt)) ∧ Below w.heap.size w w' := by
  have b0 : Below w.heap.size w (w.alloc (.cells #[.string ⟨#[]⟩, .string ⟨#[]⟩, .string ⟨#[]⟩, .string ⟨#[]⟩, .bool false] 26)) := (Below.refl _ w).alloc (Nat.le_refl _) _
  have cn := rdnm_any s _ (hT.below b0) (by omega)
  unfold findL
  generalize dnL s.data.toList = y at *
  obtain ⟨n, ok⟩ := y
  simp only at cn ⊢
  have hcap := hr.le
  have hcm := hr.cap
  unfold maxLen at hcm
  have HR := Lib.hid hr
  have HB0 := Lib.hid b0
  have HZ0 := Lib.hid (dfAt_zero w)
  have hs0 := alloc_size w (.cells #[.string ⟨#[]⟩, .string ⟨#[]⟩, .string ⟨#[]⟩, .string ⟨#[]⟩, .bool false] 26)
  clear b0 hr hT
  cases ok with
  | false =>
    rw [if_neg (by decide)]
    go_enter Tryz.func18, Tryz.ntmps18
    go_wp2_with fail
    refine cn.mono ?_
    rintro e w1 ⟨rfl, b1⟩
    have HB1 := Lib.hid (HB0.out.then b1)
    have hz1 := HZ0.out.below b1
    obtain ⟨k0, k1, k2, k3, k4, kf⟩ := hz1.cells
    have HS := Lib.hid (hz1.set noDfn)
    have HW := Lib.hid (below_set5 HB1.out (Nat.le_refl _) (.string ⟨#[]⟩) (.string ⟨#[]⟩) (.string ⟨#[]⟩) (.string ⟨#[]⟩) (.bool false))
    clear hz1 b1 cn
    go_wp2_with fail
    go_loop [10] (fun i => RfRel0 i) (fun i => 0)
    case atStart => rfl
    case round =>
      obtain rfl := hrel
      go_wp2
      (try simp only [Exit.inBlock, Exit.then])
      refine bodyPost_ret (v := dfTib (noDfn, false)) ?_ rfl ⟨rfl, HW.out⟩
      exact ret_df rfl (g := w.heap.size) HS.out rfl rfl
  | true =>
    rw [if_pos rfl]
    go_enter Tryz.func18, Tryz.ntmps18
    go_wp2_with fail
    refine cn.mono ?_
    rintro e w1 ⟨rfl, b1⟩
    have HB1 := Lib.hid (HB0.out.then b1)
    have hz1 := HZ0.out.below b1
    have HR1 := Lib.hid ((HR.out.below HB0.out).below b1)
    obtain ⟨k0, k1, k2, k3, k4, kf⟩ := hz1.cells
    have HZ1 := Lib.hid hz1
    clear hz1 b1 cn
    go_wp2_with fail
    go_loop [10] (fun i => RfRel X n nt i) (fun i => X.length - (intOf i).toNat)
    case atStart => exact ⟨0, rfl, Nat.zero_le _, fun j hj => by omega⟩
    case round =>
      obtain ⟨k, rfl, hk, hno⟩ := hrel
      have HNO := Lib.hid hno
      clear hno
      by_cases hp : k < X.length
      · obtain ⟨gb, off, hA, _, d0, d1, d2, d3, d4⟩ := DefsAt.cells5 HR1.out hp
        obtain ⟨x, hx⟩ : ∃ x, x = X[k] := ⟨_, rfl⟩
        rw [← hx] at d0 d1 d2 d3 d4
        have HX := Lib.hid hx
        have HP := Lib.hid hp
        clear hx
        subst hA
        by_cases h1 : x.nm = n ∧ x.nt = nt
        · have hfd := fdL_at HP.out (by rw [← HX.out]; exact h1.1) (by rw [← HX.out]; exact h1.2) (fun i hi => HNO.out i hi (by omega))
          rw [← HX.out] at hfd
          have HFD := Lib.hid hfd
          have t1 : (x.nm == n) = true := by simp [h1.1]
          have t2 : (x.nt == nt) = true := by simp [h1.2]
          have HS := Lib.hid (HZ1.out.set x)
          have HW := Lib.hid (below_set5 HB1.out (Nat.le_refl _) (.string ⟨x.nm.toArray⟩) (.string ⟨x.url.toArray⟩) (.string ⟨x.ttl.toArray⟩) (.string ⟨x.txt.toArray⟩) (.bool x.nt))
          clear hfd h1
          go_wp2
          (try simp only [Exit.inBlock, Exit.then])
          refine bodyPost_ret (v := dfTib (x, true)) ?_ rfl ⟨by rw [HFD.out], HW.out⟩
          exact ret_df rfl (g := w.heap.size) HS.out rfl rfl
        · have HNO2 := Lib.hid (show ∀ j (hj : j < k + 1) (h : j < X.length), ¬ (X[j].nm = n ∧ X[j].nt = nt) from fun j hj h => by
            by_cases e : j < k
            · exact HNO.out j e h
            · obtain rfl : j = k := by omega
              rw [← HX.out]
              exact h1)
          have hcase : (x.nm == n) = false ∨ (x.nm == n) = true ∧ (x.nt == nt) = false := by
            by_cases e : x.nm = n
            · right
              refine ⟨by simp [e], ?_⟩
              cases h2 : x.nt == nt with
              | false => rfl
              | true => exact absurd ⟨e, by simpa using h2⟩ h1
            · left
              simp [e]
          clear h1
          rcases hcase with t1 | ⟨t1, t2⟩
          all_goals
            go_wp2
            go_round
            case rel => exact ⟨k + 1, by go_num, by omega, HNO2.out⟩
            case measure => simp [intOf]; omega
      · obtain rfl : k = X.length := by omega
        have HFD := Lib.hid (fdL_no (D := X) (n := n) (b := nt) (fun i hi => HNO.out i hi hi))
        have HS := Lib.hid (HZ1.out.set noDfn)
        have HW := Lib.hid (below_set5 HB1.out (Nat.le_refl _) (.string ⟨#[]⟩) (.string ⟨#[]⟩) (.string ⟨#[]⟩) (.string ⟨#[]⟩) (.bool false))
        go_wp2
        (try simp only [Exit.inBlock, Exit.then])
        refine bodyPost_ret (v := dfTib (noDfn, false)) ?_ rfl ⟨by rw [HFD.out], HW.out⟩
        exact ret_df rfl (g := w.heap.size) HS.out rfl rfl

end Go.Proofs.YtioolcnoiaoflaaGreatDoor

namespace Go.Proofs.YtioolcnoiaoflaaGreatDoor
open Go.RowKit Go.Maps
set_option linter.unusedSimpArgs false
set_option linter.unusedVariables false
set_option maxRecDepth 100000

/-- All but the book's own blocks stays. -/
def TbKept (w w' : World) : Prop := ∀ (g : Nat) (o : Obj), w.heap[g]? = some o → (∀ cs t fz, o = .cells cs t fz → t ≠ 39 ∧ t ≠ 40) → w'.heap[g]? = some o
theorem TbKept.trans {a b c : World} (h : TbKept a b) (k : TbKept b c) : TbKept a c := fun g o hg hn => k g o (h g o hg hn) hn
theorem TbKept.below {w w' : World} (h : Below w.heap.size w w') : TbKept w w' := fun g o hg _ => (h.block g (Array.getElem?_eq_some_iff.1 hg).1).trans hg
theorem TbKept.alloc (w : World) (o : Obj) : TbKept w (w.alloc o) := TbKept.below ((Below.refl _ w).alloc (Nat.le_refl _) o)
theorem TbKept.grown {w w' : World} {B : Nat} {size : Nat} {v : Value} {n : Nat} {xs : List Value} (h : w.ownsRow B 40 size v n xs) (hg : w.grownBy w' v.ownBlock) : TbKept w w' := by
  intro g o hgg hn
  refine (hg.block g (Array.getElem?_eq_some_iff.1 hgg).1 (fun e1 => ?_)).trans hgg
  rcases h.2 with ⟨e, _⟩ | ⟨g1, c1, cur, e, _, hb, _⟩
  · subst e; simp [Value.ownBlock] at e1
  · subst e
    simp [Value.ownBlock] at e1
    subst e1
    rw [hb] at hgg
    injection hgg with hgg
    exact (hn _ _ _ hgg.symm).2 rfl
theorem TbKept.setCell {w : World} {b : Nat} {cs : Array Value} {fz : Nat × Nat} (hb : w.heap[b]? = some (.cells cs 39 fz)) (i : Nat) (u : Value) : TbKept w (w.setCell ⟨b, i, none⟩ u) := by
  intro g o hg hn
  have hgb : g ≠ b := by
    rintro rfl
    rw [hb] at hg
    injection hg with hg
    exact (hn _ _ _ hg.symm).1 rfl
  rw [Below.heap_setCell w ⟨b, i, none⟩ u g hgb]
  exact hg
theorem dtexts_kept {w w1 w2 w3 w4 : World} {B b : Nat} {tv uv tv' uv' : Value} {n m : Nat} {xs ys : List Value} {cs cs' : Array Value} {fz fz' : Nat × Nat} {o1 o3 : Obj} (h1 : w.ownsRow B 40 1 tv n xs) (hg1 : (w.alloc o1).grownBy w1 tv.ownBlock)
    (blk1 : w1.heap[b]? = some (.cells cs 39 fz)) (hw2 : w2 = w1.setCell ⟨b, 10, none⟩ tv') (hb3 : Below w2.heap.size w2 w3) (h3 : w3.ownsRow B 40 1 uv m ys) (hg4 : (w3.alloc o3).grownBy w4 uv.ownBlock)
    (blk4 : w4.heap[b]? = some (.cells cs' 39 fz')) : TbKept w (w4.setCell ⟨b, 11, none⟩ uv') := by
  have k1 : TbKept w w2 := by
    rw [hw2]
    exact ((TbKept.alloc w o1).trans (TbKept.grown (h1.alloc o1) hg1)).trans (TbKept.setCell blk1 10 _)
  exact (k1.trans (TbKept.below hb3)).trans (((TbKept.alloc w3 o3).trans (TbKept.grown (h3.alloc o3) hg4)).trans (TbKept.setCell blk4 11 _))
theorem and_kept {a b c d : Prop} (h : a ∧ b ∧ c) (k : d) : a ∧ b ∧ c ∧ d := ⟨h.1, h.2.1, h.2.2, k⟩

set_option maxHeartbeats 1000000 in
set_option maxRecDepth 100000 in
theorem defs_kept (B b : Nat) (tv uv : Value) (vs us : List Value) (lss : List (List Dfn)) (A : Option Addr) (cap : Nat) (ls : List Dfn) (w : World) (hB : B ≤ w.heap.size)
    (h : DBookIs w B b tv uv vs us lss) (hown : w.ownsRow B 26 5 (.slice A ls.length cap) ls.length (flt dfC ls)) (hd : ∀ u ∈ vs ++ us, Apart (.slice A ls.length cap) u)
    (hm : vs.length < 250) (hl : ls.length ≤ 1000000) :
    Calls Tryz.prog 12 #[.pointer (some ⟨b, 0, none⟩), .slice A ls.length cap] w fun e w' => e = .returned (.tuple #[]) ∧
      (∃ tv' uv' u, DBookIs w' B b tv' uv' (vs ++ [.slice A ls.length cap]) (us ++ [u]) (lss ++ [ls]) ∧ ∀ g, u.ownBlock = some g → w.heap.size ≤ g) ∧ DStrKept w w' ∧ Below B w w' ∧ TbKept w w' := by
  obtain ⟨i0, hi, hz0, hz1, hz2⟩ := info_parts dinfoSlice
  obtain ⟨At, ct, rfl, hrowt, _⟩ := RowOf.own h.tvs
  have hc0 : w.cell? ⟨b, 10, none⟩ = some (.slice At vs.length ct) := (h.cell 10).trans rfl
  have hbl := h.lt
  have htv := h.tvs
  have H := Lib.hid h
  have HD := Lib.hid hd
  have HO := Lib.hid hown
  clear h hd hown
  go_enter Tryz.func12, Tryz.ntmps12
  go_wp2_with (at_builtin; refine wpList_append_lies _ rfl _ _ 35 rfl B 40 i0 (.slice none 0 0) 1 24 Tryz.underlying35 hi hz0 hz1 hz2 rfl (by decide) _ _ _ rfl (htv.alloc _) ⟨w.heap.size, 0, none⟩ 1 1 [.slice A ls.length cap] rfl rfl ?c1 ?c2 (by omega) ?c3 ?c4 ?c5 _ rfl ?_)
  case c1 =>
    intro j u hj
    match j, hj with
    | 0, hj => simp at hj; subst hj; simp [Addr.add]
  case c2 => intro u hu; simp at hu; subst hu; rfl
  case c3 => unfold maxLen; omega
  case c4 => omega
  case c5 => simp; omega
  · intro g1 cap1 w1 hown1 hgrow hat hlt
    have hblk1 := dgrow_book H.out.blk htv hgrow
    have hc1 : w1.cell? ⟨b, 10, none⟩ = some (.slice At vs.length ct) := (cell_of_row w1 b 10 _ _ (0, 0) hblk1).trans rfl
    have hf1 : w1.frozen? ⟨b, 10, none⟩ = false := by simp [World.frozen?, hblk1]
    have hblk2 := dbook_set0 hblk1 (Value.slice (some ⟨g1, 0, none⟩) (vs.length + 1) cap1)
    have hs1 := hgrow.size
    have hsw : (w.alloc (.cells #[.slice A ls.length cap] 40)).heap.size = w.heap.size + 1 := by show (w.heap.push _).size = _; simp
    have hB2 : B ≤ w1.heap.size := by omega
    have hsk : DStrKept w (w1.setCell ⟨b, 10, none⟩ (Value.slice (some ⟨g1, 0, none⟩) (vs.length + 1) cap1)) := ((DStrKept.alloc w _).trans (DStrKept.grown (htv.alloc _) hgrow (by decide))).trans (DStrKept.setCell hblk1 (by decide) 10 _)
    have huv2 : (w1.setCell ⟨b, 10, none⟩ (Value.slice (some ⟨g1, 0, none⟩) (vs.length + 1) cap1)).ownsRow B 40 1 uv us.length us :=
      own_set ((H.out.uvs.alloc _).kept hgrow H.out.ne.symm.ne) hblk1 (by decide) 10 _
    have HG := Lib.hid hgrow
    have HW := Lib.hid hown1
    have HA := Lib.hid hat
    have HL := Lib.hid hlt
    clear hblk1 hgrow hown1 hat hlt hs1 hsw
    go_wp2
    obtain ⟨w2, hw2⟩ : ∃ w2, w2 = w1.setCell ⟨b, 10, none⟩ (Value.slice (some ⟨g1, 0, none⟩) (vs.length + 1) cap1) := ⟨_, rfl⟩
    rw [← hw2] at hblk2 hsk huv2 ⊢
    have hB3 : B ≤ w2.heap.size := by rw [hw2]; simp [World.setCell]; omega
    have hc2 := (dbook_cell hblk2).1
    have hf2 : w2.frozen? ⟨b, 11, none⟩ = false := by simp [World.frozen?, hblk2]
    have hus : us.length < 250 := by have h1 := H.out.tl.1; have h2 := H.out.ul.1; omega
    obtain ⟨Ar, cr, hlr, hrow⟩ := EltsAt.own dfC_length (hsk.row HO.out)
    cases hlr
    have HC := Lib.hid (dcopy_at B b A cap ls _ uv us w2 hrow hl hblk2 huv2)
    have HW2 := Lib.hid hw2
    clear hblk2 hsk huv2 hrow hw2
    go_region_law (first | (go_simp; go_at_call 32; refine HC.out.mono ?_; rintro e w3 ⟨Au, cu, rfl, hc3, hc5, hp3⟩) | (refine step_append_lies _ rfl (.tmp 24) (.tmp 27) _ rfl B 40 i0 (.slice none 0 0) 1 24 Tryz.underlying35 hi hz0 hz1 hz2 rfl (by decide) uv us.length us rfl (hp3.own.alloc _) ⟨w3.heap.size, 0, none⟩ 1 1 [.slice Au ls.length cu] rfl rfl (cells_one w3 _ _) (one_slice _ _ _) (by omega) (by unfold maxLen; omega) (by omega) (by have hs3 := hp3.below.size; simp; omega) _ rfl ?_; intro g4 cap4 w4 hown4 hgrow4 hat4 hlt4; have hblk4 := dgrow_book hp3.blk hp3.own hgrow4; have hc4 := (dbook_cell hblk4).1; have hf4 : w4.frozen? ⟨b, 11, none⟩ = false := by simp [World.frozen?, hblk4]))
    all_goals
      go_wp2
      go_end0
      exact ⟨rfl, and_kept (dtexts_end B b _ uv vs us lss A cap ls w hB H.out HO.out HD.out _ w1 g1 cap1 HW.out HG.out HA.out HL.out w2 HW2.out w3 Au cu hp3 _ w4 g4 cap4 hown4 hgrow4 hat4) (dtexts_kept H.out.tvs HG.out (dgrow_book H.out.blk H.out.tvs HG.out) HW2.out hp3.below hp3.own hgrow4 hblk4)⟩

theorem TableIs.kept {w w' : World} {B b : Nat} {v m : Value} {D : List Dfn} (h : TableIs w B b v m D) (hk : TbKept w w') : TableIs w' B b v m D := by
  refine ⟨hk b _ h.blk (fun cs t fz e => by injection e with _ e; subst e; decide), h.base, ?_, ?_, h.nm, h.uq⟩
  · refine ⟨h.row.1, ?_⟩
    rcases h.row.2 with hn | ⟨g, cap, cur, rfl, hB, hg, rest⟩
    · exact .inl hn
    · exact .inr ⟨g, cap, cur, rfl, hB, hk g _ hg (fun cs t fz e => by injection e with _ e; subst e; decide), rest⟩
  · rcases h.map with h1 | ⟨g, e, hg, hm⟩
    · exact .inl h1
    · obtain ⟨es, cl, hb, r⟩ := hm
      exact .inr ⟨g, e, hg, ⟨es, cl, hk g _ hb (fun cs t fz e => by cases e), r⟩⟩

/-- Between the steps: the table holds D, the book k lists, and a row of its own holds H. -/
def PlaySt (w : World) (B bt bk : Nat) (h : Value) (H D : List Dfn) (k : Nat) : Prop :=
  ∃ v m tv uv vs us lss, TableIs w B bt v m D ∧ DBookIs w B bk tv uv vs us lss ∧ vs.length = k ∧ (∀ ls ∈ lss, ls.length ≤ 60) ∧ (∀ u ∈ vs ++ us, Apart v u) ∧ w.ownsRow B 26 5 h H.length (flt dfC H) ∧ (∀ g, h.ownBlock = some g → v.ownBlock ≠ some g)
theorem PlaySt.below {w w' : World} {B bt bk : Nat} {h : Value} {H D : List Dfn} {k : Nat} (hp : PlaySt w B bt bk h H D k) (hb : Below w.heap.size w w') : PlaySt w' B bt bk h H D k := by
  obtain ⟨v, m, tv, uv, vs, us, lss, h1, h2, h3, h4, h5, h6, h7⟩ := hp
  exact ⟨v, m, tv, uv, vs, us, lss, h1.below hb, h2.below hb, h3, h4, h5, ownsRow_below h6 hb, h7⟩
theorem PlaySt.row {w : World} {B bt bk : Nat} {h : Value} {H D : List Dfn} {k : Nat} (hp : PlaySt w B bt bk h H D k) : w.ownsRow B 26 5 h H.length (flt dfC H) := by
  obtain ⟨v, m, tv, uv, vs, us, lss, h1, h2, h3, h4, h5, h6, h7⟩ := hp
  exact h6
/-- Another row, a new one. -/
theorem PlaySt.have' {w w' : World} {B bt bk : Nat} {h h' : Value} {H H' D : List Dfn} {k : Nat} (hp : PlaySt w B bt bk h H D k) (hb : Below w.heap.size w w') (hB : B ≤ w.heap.size) (hr : w'.ownsRow w.heap.size 26 5 h' H'.length (flt dfC H')) : PlaySt w' B bt bk h' H' D k := by
  obtain ⟨v, m, tv, uv, vs, us, lss, h1, h2, h3, h4, h5, h6, h7⟩ := hp
  exact ⟨v, m, tv, uv, vs, us, lss, h1.below hb, h2.below hb, h3, h4, h5, own_low hr hB, fun g hg hv => by have q1 := (h1.row.lt g hv).2; have q2 := (hr.lt g hg).1; omega⟩

theorem add_play {w0 w : World} {B bt bk : Nat} {h : Value} {H D : List Dfn} {k : Nat} (hB0 : B ≤ w0.heap.size) (hp00 : PlaySt w0 B bt bk h H D k) (hbb : Below w0.heap.size w0 w) (x : Dfn) (hx : x.nm.length ≤ 100) (hl : D.length ≤ 1000) (b : Bool) (hb : dfHas D x.nm x.nt = b) :
    Calls Tryz.prog 15 #[.pointer (some ⟨bt, 0, none⟩), dfV' x] w fun e w' => e = .returned (.bool (!b)) ∧ PlaySt w' B bt bk h H (if b then D else D ++ [x]) k ∧ Below B w w' ∧ ∀ g y, w0.heap.size ≤ g → DfAt w g y → DfAt w' g y := by
  have hB : B ≤ w.heap.size := Nat.le_trans hB0 hbb.size
  have hp0 := hp00.below hbb
  obtain ⟨v, m, tv, uv, vs, us, lss, h1, h2, h3, h4, h5, h6, h7⟩ := hp00
  have hv0 : ∀ g, v.ownBlock = some g → g < w0.heap.size := fun g hg => (h1.row.lt g hg).2
  replace h1 := h1.below hbb
  replace h2 := h2.below hbb
  replace h6 := ownsRow_below h6 hbb
  cases b with
  | true =>
    refine (add_twice h1 x (by unfold maxLen; omega) hb).mono ?_
    rintro e w' ⟨rfl, b1⟩
    exact ⟨rfl, hp0.below b1, b1.mono hB, fun g y _ hy => hy.below b1⟩
  | false =>
    refine (add_new hB h1 x (by unfold maxLen; omega) hb hl).mono ?_
    rintro e w' ⟨rfl, ⟨v', m', t1, t2⟩, t3, t4⟩
    have hne : ∀ {u : Value} {e' : TypeId} {s' n' : Nat} {xs : List Value}, w.ownsRow B e' s' u n' xs → (∀ g, u.ownBlock = some g → v.ownBlock ≠ some g) → ∀ g, u.ownBlock = some g → v'.ownBlock ≠ some g := fun {u e' s' n' xs} hu ha g hg hvg => by
      rcases t2 with e1 | ⟨g1, e1, hg1⟩
      · rw [e1] at hvg; exact ha g hg hvg
      · rw [e1] at hvg
        injection hvg with hvg
        have := (hu.lt g hg).2
        omega
    have hel : ∀ {us' : List Value} {ls' : List (List Dfn)} {u : Value}, DRows1 w B us' ls' → u ∈ us' → ∃ n' xs, w.ownsRow B 26 5 u n' xs := fun {us' ls' u} hd hu => by
      obtain ⟨i, hi⟩ := List.mem_iff_getElem?.1 hu
      have hil := (List.getElem?_eq_some_iff.1 hi).1
      have e1 := hd.1
      exact ⟨_, _, hd.2 i u ls'[i] hi (List.getElem?_eq_getElem (by omega))⟩
    refine ⟨rfl, ⟨v', m', tv, uv, vs, us, lss, t1, t3.book h1.row h2 h5, h3, h4, fun u hu => ?_, t3.row h6 (by decide) h7, hne h6 h7⟩, t4, fun g y hg hy => t3 g _ _ _ hy (by decide) (fun e => by have := hv0 g e; omega)⟩
    have hur : ∃ n' xs, w.ownsRow B 26 5 u n' xs := by
      rcases List.mem_append.1 hu with h8 | h8
      · exact hel h2.tl h8
      · exact hel h2.ul h8
    obtain ⟨n', xs, hur⟩ := hur
    intro g hg hu2
    exact hne hur (fun g2 hg2 hv2 => h5 u hu g2 hv2 hg2) g hu2 hg

/-- All's answer is kept by the book. -/
def AllSt (w : World) (B bt bk : Nat) (h : Value) (H D : List Dfn) (k : Nat) (a : Value) (w0 : World) : Prop :=
  PlaySt w0 B bt bk h H D k ∧ Below w0.heap.size w0 w ∧ w.ownsRow w0.heap.size 26 5 a D.length (flt dfC D)
theorem all_play {w : World} {B bt bk : Nat} {h : Value} {H D : List Dfn} {k : Nat} (hB : B ≤ w.heap.size) (hp : PlaySt w B bt bk h H D k) (hl : D.length ≤ 60) :
    Calls Tryz.prog 16 #[.pointer (some ⟨bt, 0, none⟩)] w fun e w' => ∃ A c, e = .returned (.slice A D.length c) ∧ AllSt w' B bt bk h H D k (.slice A D.length c) w ∧ Below w.heap.size w w' := by
  have hp0 := hp
  obtain ⟨v, m, tv, uv, vs, us, lss, h1, h2, h3, h4, h5, h6, h7⟩ := hp
  refine (all_any h1 (by omega)).mono ?_
  rintro e w' ⟨v', rfl, hown, b1⟩
  obtain ⟨A, c, rfl, _⟩ := own_form hown
  exact ⟨A, c, rfl, ⟨hp0, b1, hown⟩, b1⟩
theorem defs_play {w w0 : World} {B bt bk : Nat} {h : Value} {H D : List Dfn} {k : Nat} {A : Option Addr} {c : Nat} (hB : B ≤ w0.heap.size) (hp : AllSt w B bt bk h H D k (.slice A D.length c) w0) (hl : D.length ≤ 60) (hk : k ≤ 60) :
    Calls Tryz.prog 12 #[.pointer (some ⟨bk, 0, none⟩), .slice A D.length c] w fun e w' => e = .returned (.tuple #[]) ∧ PlaySt w' B bt bk h H D (k + 1) ∧ DefsAt w' A c D ∧ Below B w w' ∧ ∀ g y, DfAt w g y → DfAt w' g y := by
  obtain ⟨⟨v, m, tv, uv, vs, us, lss, h1, h2, h3, h4, h5, h6, h7⟩, hb, hown⟩ := hp
  have hs := hb.size
  have hel : ∀ {us' : List Value} {ls' : List (List Dfn)} {u : Value}, DRows1 w0 B us' ls' → u ∈ us' → ∃ n' xs, w0.ownsRow B 26 5 u n' xs := fun {us' ls' u} hd hu => by
    obtain ⟨i, hi⟩ := List.mem_iff_getElem?.1 hu
    have hil := (List.getElem?_eq_some_iff.1 hi).1
    have e1 := hd.1
    exact ⟨_, _, hd.2 i u ls'[i] hi (List.getElem?_eq_getElem (by omega))⟩
  have hap : ∀ u ∈ vs ++ us, Apart (.slice A D.length c) u := fun u hu => by
    have hur : ∃ n' xs, w0.ownsRow B 26 5 u n' xs := by
      rcases List.mem_append.1 hu with h8 | h8
      · exact hel h2.tl h8
      · exact hel h2.ul h8
    obtain ⟨n', xs, hur⟩ := hur
    exact (own_new hur hown (Nat.le_refl _)).symm
  refine (defs_kept B bk tv uv vs us lss A c D w (by omega) (h2.below hb) (own_low hown hB) hap (by omega) (by omega)).mono ?_
  rintro e w' ⟨rfl, ⟨tv', uv', u', hbk, hu'⟩, hsk, bb, hkp⟩
  have h1w := h1.below hb
  refine ⟨rfl, ⟨v, m, tv', uv', vs ++ [.slice A D.length c], us ++ [u'], lss ++ [D], h1w.kept hkp, hbk, by simp [h3], ?_, ?_, hsk.row (ownsRow_below h6 hb), h7⟩, ?_, bb, fun g y hy => hsk g _ _ hy⟩
  · intro ls hls
    rcases List.mem_append.1 hls with h8 | h8
    · exact h4 ls h8
    · simp at h8; rw [h8]; exact hl
  · intro u hu
    simp only [List.mem_append, List.mem_singleton] at hu
    rcases hu with (hu | hu) | (hu | hu)
    · exact h5 u (by simp [hu])
    · rw [hu]; exact own_new h1.row hown (Nat.le_refl _)
    · exact h5 u (by simp [hu])
    · rw [hu]
      intro g hg hg2
      have q1 := (h1.row.lt g hg).2
      have q2 := hu' g hg2
      omega
  · obtain ⟨A2, c2, e2, hr⟩ := EltsAt.own dfC_length (hsk.row hown)
    cases e2
    exact hr

theorem find_play {w : World} {B bt bk : Nat} {h : Value} {H D : List Dfn} {k : Nat} (hp : PlaySt w B bt bk h H D k) (s : ByteArray) (nt : Bool) (hs : s.size ≤ 1000) (hl : D.length ≤ 1000) :
    Calls Tryz.prog 17 #[.pointer (some ⟨bt, 0, none⟩), .string s, .bool nt] w fun e w' => e = .returned (dfTib (findL D s.data.toList nt)) ∧ Below w.heap.size w w' := by
  obtain ⟨v, m, tv, uv, vs, us, lss, h1, h2, h3, h4, h5, h6, h7⟩ := hp
  exact find_any h1 s nt hs hl
theorem apart_play {w : World} {B bt bk : Nat} {h : Value} {H D : List Dfn} {k : Nat} (hB : B ≤ w.heap.size) (hp : PlaySt w B bt bk h H D k) (hk : k ≤ 60) :
    Calls Tryz.prog 14 #[.pointer (some ⟨bk, 0, none⟩)] w fun e w' => e = .returned (.bool true) ∧ Below B w w' := by
  obtain ⟨v, m, tv, uv, vs, us, lss, h1, h2, h3, h4, h5, h6, h7⟩ := hp
  refine (dapart_any B bk tv uv vs us lss w hB h2 (by omega) (fun ls hls => by have := h4 ls hls; omega)).mono ?_
  rintro e w' ⟨rfl, hb⟩
  exact ⟨rfl, hb⟩

end Go.Proofs.YtioolcnoiaoflaaGreatDoor
