/-
  Package slug: the anchors that were told, in memory; Has.
-/
import Derived.Test.YtpifhjdbcdcelaaDoorSlQ
import Derived.Test.YtpifhjdbcdcelaaDoorBase
import Derived.Maps.OwnSet
import Derived.Maps.OwnOps
import Derived.StringKeys
import Derived.BigQuiet
import Derived.BigRegion
import Derived.WalkSpells
namespace Go.Proofs.YtpifhjdbcdcelaaDoor
open Go.RowKit Go.Maps
set_option linter.unusedSimpArgs false
set_option linter.unusedVariables false
set_option maxRecDepth 100000

abbrev SlDU := DataW Unit
theorem slLaw : Keyed Tryd.prog 9 := string_keyed Tryd.underlying9
theorem slKey (id : List UInt8) (h : id.length ≤ maxLen) : keyOf Tryd.prog 9 (.string ⟨id.toArray⟩) = some (.string id) := by
  have := WideMaps.keyOf_string_mk (P := Tryd.prog) Tryd.underlying9 (s := ⟨id.toArray⟩) (by rw [str_size]; exact h)
  simpa using this
theorem slIsKey (id : List UInt8) (h : id.length ≤ maxLen) : WideAt.IsKeyLit (.string id) := slLaw.key (slKey id h)
def slZ : SlDU := .lit (.int .i64 0)
/-- What the map reads as: of each that was told a number below which all are taken. -/
structure FreeIs (D : SlDU) (had : List (List UInt8)) : Prop where
  map : IsMap D
  has : ∀ s : List UInt8, s.length ≤ maxLen → Maps.has D (.string s) = decide (s ∈ had)
  free : ∀ s ∈ had, ∃ n : Nat, D.atKey (.string s) slZ = .lit (.int .i64 n) ∧ 2 ≤ n ∧ n ≤ had.length + 2 ∧ ∀ j, 2 ≤ j → j < n → slNum s j ∈ had
  lens : ∀ s ∈ had, s.length ≤ 1000
theorem FreeIs.nil : FreeIs (.map []) [] := ⟨isMap_empty, (fun s _ => rfl), (fun s h => (by cases h)), (fun s h => (by cases h))⟩
theorem lit_ne {s t : List UInt8} (h : s ≠ t) : Lit.string s ≠ Lit.string t := fun e => h (by injection e)
theorem FreeIs.new {D : SlDU} {had : List (List UInt8)} (h : FreeIs D had) {id : List UInt8} (hid : id.length ≤ 1000) : FreeIs (D.put (.string id) (.lit (.int .i64 2))) (had ++ [id]) := by
  have hk := slIsKey id (by unfold maxLen; omega)
  refine ⟨h.map.put _ _, fun s hs => ?_, fun s hs => ?_, fun s hs => ?_⟩
  · by_cases e : s = id
    · subst e; rw [has_put_same h.map hk]; simp
    · rw [has_put_other (lit_ne e), h.has s hs]; simp [e]
  · by_cases e : s = id
    · subst e
      exact ⟨2, atKey_put_same h.map hk _ _, Nat.le_refl _, by simp, fun j h1 h2 => by omega⟩
    · have hs' : s ∈ had := by simpa [e] using hs
      obtain ⟨n, h1, h2, h3, h4⟩ := h.free s hs'
      exact ⟨n, by rw [atKey_put_other (lit_ne e), h1], h2, by simp; omega, fun j g1 g2 => List.mem_append_left _ (h4 j g1 g2)⟩
  · rcases List.mem_append.1 hs with hs | hs
    · exact h.lens s hs
    · simp at hs; subst hs; exact hid
/-- The least free number behind one that is taken is taken now. -/
theorem FreeIs.num {D : SlDU} {had : List (List UInt8)} (h : FreeIs D had) {id : List UInt8} (hin : id ∈ had) (hh : had.length ≤ 60) (hid : id.length ≤ 900) :
    FreeIs ((D.put (.string id) (.lit (.int .i64 ((slLeast had id + 1 : Nat) : Int)))).put (.string (slNum id (slLeast had id))) (.lit (.int .i64 2))) (had ++ [slNum id (slLeast had id)]) := by
  obtain ⟨l1, l2, l3, l4⟩ := slLeast_is had id hh
  have hd := decDigits_ok (n := slLeast had id) (by omega)
  have hk := slIsKey id (by unfold maxLen; omega)
  have hl : (slNum id (slLeast had id)).length ≤ 1000 := by unfold slNum; simp; omega
  have hne : id ≠ slNum id (slLeast had id) := fun e => slNum_ne _ _ e.symm
  have hk2 := slIsKey (slNum id (slLeast had id)) (by unfold maxLen; omega)
  generalize hn : slLeast had id = n at *
  have hm1 := h.map.put (.string id) (.lit (.int .i64 ((n + 1 : Nat) : Int)))
  refine ⟨hm1.put _ _, fun s hs => ?_, fun s hs => ?_, fun s hs => ?_⟩
  · by_cases e : s = slNum id n
    · subst e; rw [has_put_same hm1 hk2]; simp
    · rw [has_put_other (lit_ne e)]
      by_cases e2 : s = id
      · subst e2; rw [has_put_same h.map hk]; simp [hin]
      · rw [has_put_other (lit_ne e2), h.has s hs]; simp [e]
  · by_cases e : s = slNum id n
    · subst e
      exact ⟨2, atKey_put_same hm1 hk2 _ _, Nat.le_refl _, by simp, fun j h1 h2 => by omega⟩
    · have hs' : s ∈ had := by simpa [e] using hs
      by_cases e2 : s = id
      · subst e2
        refine ⟨n + 1, by rw [atKey_put_other (lit_ne e), atKey_put_same h.map hk], by omega, by simp; omega, fun j h1 h2 => ?_⟩
        by_cases e3 : j = n
        · subst e3; simp
        · exact List.mem_append_left _ (l4 j h1 (by omega))
      · obtain ⟨m, h1, h2, h3, h4⟩ := h.free s hs'
        exact ⟨m, by rw [atKey_put_other (lit_ne e), atKey_put_other (lit_ne e2), h1], h2, by simp; omega, fun j g1 g2 => List.mem_append_left _ (h4 j g1 g2)⟩
  · rcases List.mem_append.1 hs with hs | hs
    · exact h.lens s hs
    · simp at hs; subst hs; exact hl

/-! ### in memory -/
abbrev SlMap (w : World) (g n : Nat) (D : SlDU) : Prop := w.ownsMap Tryd.prog 9 (plainElem (H := Unit) Tryd.prog 3) g n D
structure AncIs (w : World) (B b : Nat) (m : Value) (had : List (List UInt8)) : Prop where
  blk : w.heap[b]? = some (.cells #[m] 45 (0, 0))
  base : B ≤ b
  map : (m = .map none ∧ had = []) ∨ ∃ g n D, m = .map (some g) ∧ B ≤ g ∧ SlMap w g n D ∧ n ≤ 2 * had.length ∧ FreeIs D had
theorem slMap_block {w w' : World} {g n : Nat} {D : SlDU} (h : SlMap w g n D) (e : w'.heap[g]? = w.heap[g]?) : SlMap w' g n D := by
  obtain ⟨es, cl, hb, r⟩ := h
  exact ⟨es, cl, e.trans hb, r⟩
theorem slMap_ne {w : World} {g n : Nat} {D : SlDU} (h : SlMap w g n D) {g' : Nat} {cs : Array Value} {t : TypeId} {fz : Nat × Nat} (hc : w.heap[g']? = some (.cells cs t fz)) : g' ≠ g := by
  rintro rfl
  obtain ⟨es, cl, hb, _⟩ := h
  rw [hb] at hc
  cases hc
theorem AncIs.below {w w' : World} {B b : Nat} {m : Value} {had : List (List UInt8)} (h : AncIs w B b m had) (hb : Below w.heap.size w w') : AncIs w' B b m had := by
  refine ⟨(hb.block b (Array.getElem?_eq_some_iff.1 h.blk).1).trans h.blk, h.base, ?_⟩
  rcases h.map with h1 | ⟨g, n, D, e, hg, hm, r⟩
  · exact .inl h1
  · exact .inr ⟨g, n, D, e, hg, slMap_block hm (hb.block g hm.lt), r⟩
theorem AncIs.new {w : World} {B b : Nat} (h : w.heap[b]? = some (.cells #[.map none] 45 (0, 0))) (hB : B ≤ b) : AncIs w B b (.map none) [] := ⟨h, hB, .inl ⟨rfl, rfl⟩⟩
theorem AncIs.cell {w : World} {B b : Nat} {m : Value} {had : List (List UInt8)} (h : AncIs w B b m had) : w.cell? ⟨b, 0, none⟩ = some m := (cell_of_row w b 0 _ _ (0, 0) h.blk).trans rfl
/-- What the anchors' own doings leave as it was: all blocks but its own and its map's. -/
structure AncTurn (w w' : World) (b : Nat) (m : Value) : Prop where
  size : w.heap.size ≤ w'.heap.size
  rest : ∀ g : Nat, g < w.heap.size → g ≠ b → m ≠ .map (some g) → w'.heap[g]? = w.heap[g]?
theorem AncTurn.of {w w' : World} (h : Below w.heap.size w w') (b : Nat) (m : Value) : AncTurn w w' b m := ⟨h.size, fun g hg _ _ => h.block g hg⟩
theorem slZero (w : World) : (zeroValue 3).run Tryd.prog w = .ok (.int .i64 0) w := by kernel_rfl
/-- What is asked of the map, wherever it stands. -/
theorem slLook_any {w : World} {B b : Nat} {m : Value} {had : List (List UInt8)} (h : AncIs w B b m had) (id : List UInt8) (hid : id.length ≤ maxLen) :
    ∃ c : Int, (∀ w' : World, (∀ g, m = .map (some g) → w'.heap[g]? = w.heap[g]?) → (Instr.lookup 43 m (.string ⟨id.toArray⟩) true).run Tryd.prog w' = .ok (.tuple #[.int .i64 c, .bool (decide (id ∈ had))]) w') ∧
      (∀ w' : World, (∀ g, m = .map (some g) → w'.heap[g]? = w.heap[g]?) → (Instr.lookup 43 m (.string ⟨id.toArray⟩) false).run Tryd.prog w' = .ok (.int .i64 c) w') ∧
      (id ∈ had → ∃ n : Nat, c = n ∧ 2 ≤ n ∧ n ≤ had.length + 2 ∧ ∀ j, 2 ≤ j → j < n → slNum id j ∈ had) := by
  have hkey := slKey id hid
  rcases h.map with ⟨rfl, rfl⟩ | ⟨g, n, D, rfl, hg, hm, hn, hf⟩
  · exact ⟨0, fun w' _ => (look_nil (w := w') true slLaw Tryd.underlying43 (slZero _) hkey).trans rfl, fun w' _ => (look_nil (w := w') false slLaw Tryd.underlying43 (slZero _) hkey).trans rfl, fun hi => by cases hi⟩
  · have one : ∀ w' : World, w'.heap[g]? = w.heap[g]? → ∃ c : Int, (Instr.lookup 43 (.map (some g)) (.string ⟨id.toArray⟩) true).run Tryd.prog w' = .ok (.tuple #[.int .i64 c, .bool (decide (id ∈ had))]) w' ∧ D.atKey (.string id) slZ = .lit (.int .i64 c) := by
      intro w' hh
      have hm' := slMap_block hm hh
      obtain ⟨u, ps, hrun, hu⟩ := hm'.look_ok slLaw Tryd.underlying43 (slZero _) (zd := slZ) (zp := []) (plainElem_int Tryd.underlying3 (by decide)) hkey
      obtain ⟨c, rfl, hc, hwc⟩ := plainElem_int_inv Tryd.underlying3 hu
      rw [hf.has id hid] at hrun
      exact ⟨c, hrun, congrArg Prod.fst hc⟩
    have two : ∀ w' : World, w'.heap[g]? = w.heap[g]? → ∃ c : Int, (Instr.lookup 43 (.map (some g)) (.string ⟨id.toArray⟩) false).run Tryd.prog w' = .ok (.int .i64 c) w' ∧ D.atKey (.string id) slZ = .lit (.int .i64 c) := by
      intro w' hh
      have hm' := slMap_block hm hh
      obtain ⟨c, hrun, hat, _⟩ := hm'.lookup_int slLaw Tryd.underlying43 Tryd.underlying3 (slZero _) hkey
      exact ⟨c, hrun, hat⟩
    obtain ⟨c, _, hc⟩ := one w rfl
    have inj : ∀ c' : Int, D.atKey (.string id) slZ = .lit (.int .i64 c') → c' = c := by
      intro c' h2
      rw [hc] at h2
      injection h2 with h2
      injection h2 with _ h2
      exact h2.symm
    refine ⟨c, fun w' hh => ?_, fun w' hh => ?_, fun hi => ?_⟩
    · obtain ⟨c', h1, h2⟩ := one w' (hh g rfl)
      rw [inj c' h2] at h1
      exact h1
    · obtain ⟨c', h1, h2⟩ := two w' (hh g rfl)
      rw [inj c' h2] at h1
      exact h1
    · obtain ⟨k, h1, h2⟩ := hf.free id hi
      exact ⟨k, (inj _ h1).symm, h2⟩

end Go.Proofs.YtpifhjdbcdcelaaDoor
