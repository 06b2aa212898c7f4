/-
  Package frame: addLine, addEnds: what they do to the lists that they are given.
-/
import Derived.Test.YtodnioihadpncaaDoorFrmB
import Derived.Test.YtodnioihadpncaaDoorFrmM
import Derived.Test.YtodnioihadpncaaDoorReg
import Derived.Deep.RegionLaw
namespace Go.Proofs.YtodnioihadpncaaDoor
open Go.RowKit
set_option linter.unusedSimpArgs false
set_option linter.unusedVariables false
set_option maxRecDepth 100000

/-- Lists of integers stay. -/
def IntsKept (w w' : World) : Prop := ∀ (g : Nat) (cs : Array Value) (fz : Nat × Nat), w.heap[g]? = some (Obj.cells cs 3 fz) → w'.heap[g]? = some (Obj.cells cs 3 fz)
theorem IntsKept.refl (w : World) : IntsKept w w := fun _ _ _ h => h
theorem IntsKept.trans {a b c : World} (h : IntsKept a b) (k : IntsKept b c) : IntsKept a c := fun g cs fz hg => k g cs fz (h g cs fz hg)
theorem IntsKept.own {w w' : World} (h : IntsKept w w') {B : Nat} {v : Value} {n : Nat} {xs : List Value} (ho : w.ownsRow B 3 1 v n xs) : w'.ownsRow B 3 1 v n xs := by
  refine ⟨ho.1, ?_⟩
  rcases ho.2 with hn | ⟨g, cap, cur, rfl, hB, hg, rest⟩
  · exact .inl hn
  · exact .inr ⟨g, cap, cur, rfl, hB, h g _ _ hg, rest⟩
theorem IntsKept.of_below {w w' : World} (h : Below w.heap.size w w') : IntsKept w w' := fun g cs fz hg => (h.block g (Array.getElem?_eq_some_iff.1 hg).1).trans hg
theorem IntsKept.of_grown {w w' : World} {B n size : Nat} {e : TypeId} {v : Value} {xs : List Value} (ho : w.ownsRow B e size v n xs) (hne : e ≠ 3) (hg : w.grownBy w' v.ownBlock) : IntsKept w w' := fun g cs fz hh =>
  (hg.block g (Array.getElem?_eq_some_iff.1 hh).1 (fun e1 => own_ne ho hh hne e1.symm)).trans hh
theorem IntsKept.of_set {w : World} {b : Nat} {cs : Array Value} {t : TypeId} {fz : Nat × Nat} (hb : w.heap[b]? = some (.cells cs t fz)) (hne : t ≠ 3) (i : Nat) (u : Value) : IntsKept w (w.setCell ⟨b, i, none⟩ u) := fun g cs' fz' hg => by
  have : g ≠ b := by rintro rfl; rw [hb] at hg; injection hg with hg; injection hg with _ ht; exact hne ht
  rw [Below.heap_setCell w ⟨b, i, none⟩ u g this]; exact hg

theorem part_cells (w : World) (x : Prt × Value) (t : TypeId) : ∀ (j : Nat) (u : Value), (ptC x)[j]? = some u → (w.alloc (.cells (ptC x).toArray t)).cell? ((⟨w.heap.size, 0, none⟩ : Addr).add j) = some u := by
  intro j u hj
  rw [addr_add, cell_of_row _ _ _ _ t (0, 0) (heap_alloc_new w _), Nat.zero_add]
  simpa using hj
theorem apart_new {w : World} {B n size : Nat} {e : TypeId} {v : Value} {xs : List Value} (h : w.ownsRow B e size v n xs) {g : Nat} (hg : w.heap.size ≤ g) (m c : Nat) : Apart v (.slice (some ⟨g, 0, none⟩) m c) := by
  intro k hk
  have := (h.lt k hk).2
  simp [Value.ownBlock]
  omega

def AddEnd (B : Nat) (w : World) (ps : List Prt) (e : Ending) (w' : World) : Prop :=
  ∃ v' X', e = .returned v' ∧ PartsOwn w' B v' X' ∧ X'.map Prod.fst = ps ∧ IntsKept w w' ∧ Below B w w'

/-- Behind the two blocks that are made for a new run, and an append. -/
theorem new_run {B : Nat} {v v' : Value} {X : List (Prt × Value)} {d : Int} {s : ByteArray} {w w2 : World} (hB : B ≤ w.heap.size) (h : PartsOwn w B v X)
    (hr : w2.ownsRow B 32 5 v' (X.length + 1) (psC X ++ ptC (⟨d, false, [], false, [s.data.toList]⟩, .slice (some ⟨w.heap.size, 0, none⟩) 1 1)))
    (hg : ((w.alloc (.cells #[.string s] 9)).alloc (.cells #[.int .i64 d, .bool false, .string ⟨#[]⟩, .bool false, .slice (some ⟨w.heap.size, 0, none⟩) 1 1] 32)).grownBy w2 v.ownBlock) :
    AddEnd B w (X.map Prod.fst ++ [⟨d, false, [], false, [s.data.toList]⟩]) (.returned v') w2 := by
  have b1 : Below w.heap.size w (w.alloc (.cells #[.string s] 9)) := (Below.refl _ w).alloc (Nat.le_refl _) _
  have hs1 := alloc_size w (.cells #[.string s] 9)
  have hrow : (w.alloc (.cells #[.string s] 9)).ownsRow B 9 1 (.slice (some ⟨w.heap.size, 0, none⟩) 1 1) 1 (strs [s.data.toList]) := by
    refine ⟨rfl, .inr ⟨w.heap.size, 1, #[.string s], rfl, hB, heap_alloc_new w _, Nat.le_refl _, by unfold maxLen; omega, rfl, ?_⟩⟩
    show [Value.string s] = [Value.string ⟨s.data.toList.toArray⟩]
    rw [show (⟨s.data.toList.toArray⟩ : ByteArray) = s from Lib.mk_data s]
  generalize hw1 : w.alloc (.cells #[.string s] 9) = w1 at *
  have b2 : Below w1.heap.size w1 (w1.alloc (.cells #[.int .i64 d, .bool false, .string ⟨#[]⟩, .bool false, .slice (some ⟨w.heap.size, 0, none⟩) 1 1] 32)) := (Below.refl _ w1).alloc (Nat.le_refl _) _
  have hs2 := alloc_size w1 (.cells #[.int .i64 d, .bool false, .string ⟨#[]⟩, .bool false, .slice (some ⟨w.heap.size, 0, none⟩) 1 1] 32)
  have h2 := (h.below b1).alloc (.cells #[.int .i64 d, .bool false, .string ⟨#[]⟩, .bool false, .slice (some ⟨w.heap.size, 0, none⟩) 1 1] 32)
  have hrow2 := ownsRow_below hrow b2
  refine ⟨v', X ++ [(⟨d, false, [], false, [s.data.toList]⟩, .slice (some ⟨w.heap.size, 0, none⟩) 1 1)], rfl, ?_, by simp, ?_, ?_⟩
  · exact h2.snoc hg hr hrow2 (fun k y hy => apart_new (h.ls k y hy) (Nat.le_refl _) _ _)
  · exact ((IntsKept.of_below b1).trans (IntsKept.of_below b2)).trans (IntsKept.of_grown h2.row (by decide) hg)
  · exact (b1.then b2).mono hB |>.trans (below_of_grown hg (fun g hg' => (h2.row.lt g hg').1) (by omega))

set_option maxHeartbeats 4000000 in
theorem addLine_new (B : Nat) (v : Value) (X : List (Prt × Value)) (d : Nat) (s : ByteArray) (w : World) (hB : B ≤ w.heap.size) (h : PartsOwn w B v X) (hm : X.length ≤ 1000000)
    (hnew : X = [] ∨ ∃ p, (X.map Prod.fst).getLast? = some p ∧ (p.dv = true ∨ p.depth ≠ d)) :
    Calls Tryd.prog 22 #[v, .int .i64 d, .string s] w (AddEnd B w (X.map Prod.fst ++ [⟨d, false, [], false, [s.data.toList]⟩])) := by
  obtain ⟨i0, hi, hz0, hz1, hz2⟩ := info_parts infoPart
  obtain ⟨A, cap, rfl, hat⟩ := h.at
  have h2 := (h.alloc (.cells #[.string s] 9)).alloc (.cells #[.int .i64 d, .bool false, .string ⟨#[]⟩, .bool false, .slice (some ⟨w.heap.size, 0, none⟩) 1 1] 32)
  have hn := part_cells (w.alloc (.cells #[.string s] 9)) (⟨d, false, [], false, [s.data.toList]⟩, .slice (some ⟨w.heap.size, 0, none⟩) 1 1) 32
  rw [alloc_size] at hn
  have hE := Lib.hid (fun v' w2 => new_run (v' := v') (w2 := w2) (d := d) (s := s) hB h)
  have HA := Lib.hid hat
  clear h hat
  have hmx : X.length + 1 ≤ maxLen := by unfold maxLen; omega
  rcases hnew with rfl | ⟨p, hp, hpn⟩
  · clear HA
    go_enter Tryd.func22, Tryd.ntmps22
    go_wp2_with (at_builtin; refine wpList_append_own _ rfl _ _ 25 rfl B 32 i0 (.agg #[.int .i64 0, .bool false, .string ByteArray.empty, .bool false, .slice none 0 0]) 5 64 Tryd.underlying25 hi hz0 hz1 hz2 rfl (by decide) _ _ _ rfl h2.row ⟨w.heap.size + 1, 0, none⟩ 1 1 (ptC (⟨d, false, [], false, [s.data.toList]⟩, .slice (some ⟨w.heap.size, 0, none⟩) 1 1)) rfl rfl hn (ptC_one _ rfl) hmx (by simp) (by simp; omega) ?_)
    intro v' w2 hown hgrow _
    have HR := Lib.hid (hE.out v' w2 hown hgrow)
    clear hown hgrow
    go_wp2
    go_ret
    exact HR.out
  · obtain ⟨m, hmm⟩ : ∃ m, X.length = m + 1 := ⟨X.length - 1, by
      rw [List.getLast?_eq_some_iff] at hp
      obtain ⟨ys, e⟩ := hp
      have := congrArg List.length e
      simp at this; omega⟩
    obtain ⟨b, off, rfl, hlt, hc0, hc1, _⟩ := HA.out.at (k := m) (by omega)
    have hX : (X[m]'(by omega)).1 = p := by
      rw [List.getLast?_eq_getElem?, List.length_map, hmm, Nat.add_sub_cancel, List.getElem?_map, List.getElem?_eq_getElem (by omega)] at hp
      simpa using hp
    rw [hX] at hc0 hc1
    have hcap := HA.out.le
    have hcm := HA.out.cap
    unfold maxLen at hcm
    rw [hmm] at hcap hmx hm h2 hE ⊢
    have hr2 := h2.row
    rw [hmm] at hr2
    clear HA hX hp h2
    generalize p.depth = pd at *
    generalize p.dv = pv at *
    cases hpv : pv with
    | true =>
      rw [hpv] at hc1
      clear hpn hpv
      go_enter Tryd.func22, Tryd.ntmps22
      go_wp2_with (at_builtin; refine wpList_append_own _ rfl _ _ 25 rfl B 32 i0 (.agg #[.int .i64 0, .bool false, .string ByteArray.empty, .bool false, .slice none 0 0]) 5 64 Tryd.underlying25 hi hz0 hz1 hz2 rfl (by decide) _ _ _ rfl hr2 ⟨w.heap.size + 1, 0, none⟩ 1 1 (ptC (⟨d, false, [], false, [s.data.toList]⟩, .slice (some ⟨w.heap.size, 0, none⟩) 1 1)) rfl rfl hn (ptC_one _ rfl) hmx (by omega) (by simp; omega) ?_)
      intro v' w2 hown hgrow _
      have HR := Lib.hid (hE.out v' w2 hown hgrow)
      clear hown hgrow
      go_wp2
      go_ret
      exact HR.out
    | false =>
      rw [hpv] at hc1 hpn
      have fpd : (pd != (d : Int)) = true := by
        rcases hpn with h | h
        · cases h
        · simpa using h
      clear hpn hpv
      go_enter Tryd.func22, Tryd.ntmps22
      go_wp2_with (at_builtin; refine wpList_append_own _ rfl _ _ 25 rfl B 32 i0 (.agg #[.int .i64 0, .bool false, .string ByteArray.empty, .bool false, .slice none 0 0]) 5 64 Tryd.underlying25 hi hz0 hz1 hz2 rfl (by decide) _ _ _ rfl hr2 ⟨w.heap.size + 1, 0, none⟩ 1 1 (ptC (⟨d, false, [], false, [s.data.toList]⟩, .slice (some ⟨w.heap.size, 0, none⟩) 1 1)) rfl rfl hn (ptC_one _ rfl) hmx (by omega) (by simp; omega) ?_)
      intro v' w2 hown hgrow _
      have HR := Lib.hid (hE.out v' w2 hown hgrow)
      clear hown hgrow
      go_wp2
      go_ret
      exact HR.out

end Go.Proofs.YtodnioihadpncaaDoor
