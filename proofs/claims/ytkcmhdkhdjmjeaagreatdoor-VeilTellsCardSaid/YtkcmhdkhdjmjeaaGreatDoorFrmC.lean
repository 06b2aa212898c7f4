/-
  Package frame: addLine, addEnds: what they do to the lists that they are given.
  Package frame: addLine where the last run grows; addLine whole; addEnds.
  Package frame: Parse: a list of its own, that holds the parts of the lines.
-/
import Derived.Test.YtkcmhdkhdjmjeaaGreatDoorFrmA
import Derived.Test.YtkcmhdkhdjmjeaaGreatDoorFrmM
import Derived.Test.YtkcmhdkhdjmjeaaGreatDoorReg
import Derived.Deep.RegionLaw
import Derived.Test.YtkcmhdkhdjmjeaaGreatDoorPla
namespace Go.Proofs.YtkcmhdkhdjmjeaaGreatDoor
open Go.RowKit
set_option linter.unusedSimpArgs false
set_option linter.unusedVariables false
set_option maxRecDepth 100000

/-- Lists of integers stay. -/
def IntsKept (w w' : World) : Prop := ∀ (g : Nat) (cs : Array Value) (fz : Nat × Nat), w.heap[g]? = some (Obj.cells cs 3 fz) → w'.heap[g]? = some (Obj.cells cs 3 fz)
theorem IntsKept.refl (w : World) : IntsKept w w := fun _ _ _ h => h
theorem IntsKept.trans {a b c : World} (h : IntsKept a b) (k : IntsKept b c) : IntsKept a c := fun g cs fz hg => k g cs fz (h g cs fz hg)
theorem IntsKept.own {w w' : World} (h : IntsKept w w') {B : Nat} {v : Value} {n : Nat} {xs : List Value} (ho : w.ownsRow B 3 1 v n xs) : w'.ownsRow B 3 1 v n xs := by
  refine ⟨ho.1, ?_⟩
  rcases ho.2 with hn | ⟨g, cap, cur, rfl, hB, hg, rest⟩
  · exact .inl hn
  · exact .inr ⟨g, cap, cur, rfl, hB, h g _ _ hg, rest⟩
theorem IntsKept.of_below {w w' : World} (h : Below w.heap.size w w') : IntsKept w w' := fun g cs fz hg => (h.block g (Array.getElem?_eq_some_iff.1 hg).1).trans hg
theorem IntsKept.of_grown {w w' : World} {B n size : Nat} {e : TypeId} {v : Value} {xs : List Value} (ho : w.ownsRow B e size v n xs) (hne : e ≠ 3) (hg : w.grownBy w' v.ownBlock) : IntsKept w w' := fun g cs fz hh =>
  (hg.block g (Array.getElem?_eq_some_iff.1 hh).1 (fun e1 => own_ne ho hh hne e1.symm)).trans hh
theorem IntsKept.of_set {w : World} {b : Nat} {cs : Array Value} {t : TypeId} {fz : Nat × Nat} (hb : w.heap[b]? = some (.cells cs t fz)) (hne : t ≠ 3) (i : Nat) (u : Value) : IntsKept w (w.setCell ⟨b, i, none⟩ u) := fun g cs' fz' hg => by
  have : g ≠ b := by rintro rfl; rw [hb] at hg; injection hg with hg; injection hg with _ ht; exact hne ht
  rw [Below.heap_setCell w ⟨b, i, none⟩ u g this]; exact hg

theorem part_cells (w : World) (x : Prt × Value) (t : TypeId) : ∀ (j : Nat) (u : Value), (ptC x)[j]? = some u → (w.alloc (.cells (ptC x).toArray t)).cell? ((⟨w.heap.size, 0, none⟩ : Addr).add j) = some u := by
  intro j u hj
  rw [addr_add, cell_of_row _ _ _ _ t (0, 0) (heap_alloc_new w _), Nat.zero_add]
  simpa using hj
theorem apart_new {w : World} {B n size : Nat} {e : TypeId} {v : Value} {xs : List Value} (h : w.ownsRow B e size v n xs) {g : Nat} (hg : w.heap.size ≤ g) (m c : Nat) : Apart v (.slice (some ⟨g, 0, none⟩) m c) := by
  intro k hk
  have := (h.lt k hk).2
  simp [Value.ownBlock]
  omega

def AddEnd (B : Nat) (w : World) (ps : List Prt) (e : Ending) (w' : World) : Prop :=
  ∃ v' X', e = .returned v' ∧ PartsOwn w' B v' X' ∧ X'.map Prod.fst = ps ∧ IntsKept w w' ∧ Below B w w'

/-- Behind the two blocks that are made for a new run, and an append. -/
theorem new_run {B : Nat} {v v' : Value} {X : List (Prt × Value)} {d : Int} {s : ByteArray} {w w2 : World} (hB : B ≤ w.heap.size) (h : PartsOwn w B v X)
    (hr : w2.ownsRow B 94 5 v' (X.length + 1) (psC X ++ ptC (⟨d, false, [], false, [s.data.toList]⟩, .slice (some ⟨w.heap.size, 0, none⟩) 1 1)))
    (hg : ((w.alloc (.cells #[.string s] 9)).alloc (.cells #[.int .i64 d, .bool false, .string ⟨#[]⟩, .bool false, .slice (some ⟨w.heap.size, 0, none⟩) 1 1] 94)).grownBy w2 v.ownBlock) :
    AddEnd B w (X.map Prod.fst ++ [⟨d, false, [], false, [s.data.toList]⟩]) (.returned v') w2 := by
  have b1 : Below w.heap.size w (w.alloc (.cells #[.string s] 9)) := (Below.refl _ w).alloc (Nat.le_refl _) _
  have hs1 := alloc_size w (.cells #[.string s] 9)
  have hrow : (w.alloc (.cells #[.string s] 9)).ownsRow B 9 1 (.slice (some ⟨w.heap.size, 0, none⟩) 1 1) 1 (strs [s.data.toList]) := by
    refine ⟨rfl, .inr ⟨w.heap.size, 1, #[.string s], rfl, hB, heap_alloc_new w _, Nat.le_refl _, by unfold maxLen; omega, rfl, ?_⟩⟩
    show [Value.string s] = [Value.string ⟨s.data.toList.toArray⟩]
    rw [show (⟨s.data.toList.toArray⟩ : ByteArray) = s from Lib.mk_data s]
  generalize hw1 : w.alloc (.cells #[.string s] 9) = w1 at *
  have b2 : Below w1.heap.size w1 (w1.alloc (.cells #[.int .i64 d, .bool false, .string ⟨#[]⟩, .bool false, .slice (some ⟨w.heap.size, 0, none⟩) 1 1] 94)) := (Below.refl _ w1).alloc (Nat.le_refl _) _
  have hs2 := alloc_size w1 (.cells #[.int .i64 d, .bool false, .string ⟨#[]⟩, .bool false, .slice (some ⟨w.heap.size, 0, none⟩) 1 1] 94)
  have h2 := (h.below b1).alloc (.cells #[.int .i64 d, .bool false, .string ⟨#[]⟩, .bool false, .slice (some ⟨w.heap.size, 0, none⟩) 1 1] 94)
  have hrow2 := ownsRow_below hrow b2
  refine ⟨v', X ++ [(⟨d, false, [], false, [s.data.toList]⟩, .slice (some ⟨w.heap.size, 0, none⟩) 1 1)], rfl, ?_, by simp, ?_, ?_⟩
  · exact h2.snoc hg hr hrow2 (fun k y hy => apart_new (h.ls k y hy) (Nat.le_refl _) _ _)
  · exact ((IntsKept.of_below b1).trans (IntsKept.of_below b2)).trans (IntsKept.of_grown h2.row (by decide) hg)
  · exact (b1.then b2).mono hB |>.trans (below_of_grown hg (fun g hg' => (h2.row.lt g hg').1) (by omega))

set_option maxHeartbeats 4000000 in
theorem addLine_new (B : Nat) (v : Value) (X : List (Prt × Value)) (d : Nat) (s : ByteArray) (w : World) (hB : B ≤ w.heap.size) (h : PartsOwn w B v X) (hm : X.length ≤ 1000000)
    (hnew : X = [] ∨ ∃ p, (X.map Prod.fst).getLast? = some p ∧ (p.dv = true ∨ p.depth ≠ d)) :
    Calls Tryz.prog 66 #[v, .int .i64 d, .string s] w (AddEnd B w (X.map Prod.fst ++ [⟨d, false, [], false, [s.data.toList]⟩])) := by
  obtain ⟨i0, hi, hz0, hz1, hz2⟩ := info_parts infoPart
  obtain ⟨A, cap, rfl, hat⟩ := h.at
  have h2 := (h.alloc (.cells #[.string s] 9)).alloc (.cells #[.int .i64 d, .bool false, .string ⟨#[]⟩, .bool false, .slice (some ⟨w.heap.size, 0, none⟩) 1 1] 94)
  have hn := part_cells (w.alloc (.cells #[.string s] 9)) (⟨d, false, [], false, [s.data.toList]⟩, .slice (some ⟨w.heap.size, 0, none⟩) 1 1) 94
  rw [alloc_size] at hn
  have hE := Lib.hid (fun v' w2 => new_run (v' := v') (w2 := w2) (d := d) (s := s) hB h)
  have HA := Lib.hid hat
  clear h hat
  have hmx : X.length + 1 ≤ maxLen := by unfold maxLen; omega
  rcases hnew with rfl | ⟨p, hp, hpn⟩
  · clear HA
    go_enter Tryz.func66, Tryz.ntmps66
    go_wp2_with (at_builtin; refine wpList_append_own _ rfl _ _ 63 rfl B 94 i0 (.agg #[.int .i64 0, .bool false, .string ByteArray.empty, .bool false, .slice none 0 0]) 5 64 Tryz.underlying63 hi hz0 hz1 hz2 rfl (by decide) _ _ _ rfl h2.row ⟨w.heap.size + 1, 0, none⟩ 1 1 (ptC (⟨d, false, [], false, [s.data.toList]⟩, .slice (some ⟨w.heap.size, 0, none⟩) 1 1)) rfl rfl hn (ptC_one _ rfl) hmx (by simp) (by simp; omega) ?_)
    intro v' w2 hown hgrow _
    have HR := Lib.hid (hE.out v' w2 hown hgrow)
    clear hown hgrow
    go_wp2
    go_ret
    exact HR.out
  · obtain ⟨m, hmm⟩ : ∃ m, X.length = m + 1 := ⟨X.length - 1, by
      rw [List.getLast?_eq_some_iff] at hp
      obtain ⟨ys, e⟩ := hp
      have := congrArg List.length e
      simp at this; omega⟩
    obtain ⟨b, off, rfl, hlt, hc0, hc1, _⟩ := HA.out.at (k := m) (by omega)
    have hX : (X[m]'(by omega)).1 = p := by
      rw [List.getLast?_eq_getElem?, List.length_map, hmm, Nat.add_sub_cancel, List.getElem?_map, List.getElem?_eq_getElem (by omega)] at hp
      simpa using hp
    rw [hX] at hc0 hc1
    have hcap := HA.out.le
    have hcm := HA.out.cap
    unfold maxLen at hcm
    rw [hmm] at hcap hmx hm h2 hE ⊢
    have hr2 := h2.row
    rw [hmm] at hr2
    clear HA hX hp h2
    generalize p.depth = pd at *
    generalize p.dv = pv at *
    cases hpv : pv with
    | true =>
      rw [hpv] at hc1
      clear hpn hpv
      go_enter Tryz.func66, Tryz.ntmps66
      go_wp2_with (at_builtin; refine wpList_append_own _ rfl _ _ 63 rfl B 94 i0 (.agg #[.int .i64 0, .bool false, .string ByteArray.empty, .bool false, .slice none 0 0]) 5 64 Tryz.underlying63 hi hz0 hz1 hz2 rfl (by decide) _ _ _ rfl hr2 ⟨w.heap.size + 1, 0, none⟩ 1 1 (ptC (⟨d, false, [], false, [s.data.toList]⟩, .slice (some ⟨w.heap.size, 0, none⟩) 1 1)) rfl rfl hn (ptC_one _ rfl) hmx (by omega) (by simp; omega) ?_)
      intro v' w2 hown hgrow _
      have HR := Lib.hid (hE.out v' w2 hown hgrow)
      clear hown hgrow
      go_wp2
      go_ret
      exact HR.out
    | false =>
      rw [hpv] at hc1 hpn
      have fpd : (pd != (d : Int)) = true := by
        rcases hpn with h | h
        · cases h
        · simpa using h
      clear hpn hpv
      go_enter Tryz.func66, Tryz.ntmps66
      go_wp2_with (at_builtin; refine wpList_append_own _ rfl _ _ 63 rfl B 94 i0 (.agg #[.int .i64 0, .bool false, .string ByteArray.empty, .bool false, .slice none 0 0]) 5 64 Tryz.underlying63 hi hz0 hz1 hz2 rfl (by decide) _ _ _ rfl hr2 ⟨w.heap.size + 1, 0, none⟩ 1 1 (ptC (⟨d, false, [], false, [s.data.toList]⟩, .slice (some ⟨w.heap.size, 0, none⟩) 1 1)) rfl rfl hn (ptC_one _ rfl) hmx (by omega) (by simp; omega) ?_)
      intro v' w2 hown hgrow _
      have HR := Lib.hid (hE.out v' w2 hown hgrow)
      clear hown hgrow
      go_wp2
      go_ret
      exact HR.out

end Go.Proofs.YtkcmhdkhdjmjeaaGreatDoor

namespace Go.Proofs.YtkcmhdkhdjmjeaaGreatDoor
open Go.RowKit
set_option linter.unusedSimpArgs false
set_option linter.unusedVariables false
set_option maxRecDepth 100000

/-- Behind the append to the last run's lines, and the store of what was answered. -/
theorem same_run {B g cap m cap4 g4 : Nat} {X : List (Prt × Value)} {x : Prt × Value} {s : ByteArray} {w w4 : World} (hB : B ≤ w.heap.size) (h : PartsOwn w B (.slice (some ⟨g, 0, none⟩) (m + 1) cap) X) (hX : X.length = m + 1) (hx : X[m]? = some x)
    (hr : w4.ownsRow B 9 1 (.slice (some ⟨g4, 0, none⟩) (x.1.ls.length + 1) cap4) (x.1.ls.length + 1) (strs x.1.ls ++ [.string s])) (hg : (w.alloc (.cells #[.string s] 9)).grownBy w4 x.2.ownBlock) (hat : x.2.ownBlock = some g4 ∨ g4 = w.heap.size + 1) :
    AddEnd B w ((X.map Prod.fst).set m { x.1 with ls := x.1.ls ++ [s.data.toList] }) (.returned (.slice (some ⟨g, 0, none⟩) (m + 1) cap)) (w4.setCell ⟨g, m * 5 + 4, none⟩ (.slice (some ⟨g4, 0, none⟩) (x.1.ls.length + 1) cap4)) := by
  have b1 : Below w.heap.size w (w.alloc (.cells #[.string s] 9)) := (Below.refl _ w).alloc (Nat.le_refl _) _
  have hs1 := alloc_size w (.cells #[.string s] 9)
  have h1 := h.below b1
  generalize w.alloc (.cells #[.string s] 9) = w1 at *
  obtain ⟨hml, hxe⟩ := List.getElem?_eq_some_iff.1 hx
  have hrow4 := h1.row.kept hg (own_apart h1.row (h1.ls m x hx) (by decide)).ne
  rw [← hX] at hrow4
  have hS := PartsOwn.setCell hrow4 hml (fun i z hz hne => (h1.ls i z hz).kept hg (h1.apart i m z x hz hx hne).ne) h1.apart (j := 4) (by omega) (.slice (some ⟨g4, 0, none⟩) (x.1.ls.length + 1) cap4)
    ({ x.1 with ls := x.1.ls ++ [s.data.toList] }, .slice (some ⟨g4, 0, none⟩) (x.1.ls.length + 1) cap4) (by rw [hxe]; rfl) (by
      rw [List.length_append, strs_append, strs_one, show (⟨s.data.toList.toArray⟩ : ByteArray) = s from Lib.mk_data s]; exact hr) (fun i z hz hne => by
      rcases hat with hat | hat
      · intro k hk
        have := h1.apart i m z x hz hx hne k hk
        rw [hat] at this
        exact this
      · exact apart_new (h1.ls i z hz) (by omega) _ _)
  obtain ⟨g', cap', cur, e, hbg, _, _, _, hblk, _⟩ := own_block hrow4 (by omega)
  cases e
  have bg := below_of_grown (B := B) hg (fun k hk => ((h1.ls m x hx).lt k hk).1) (by omega)
  rw [hX] at hS
  refine ⟨_, _, rfl, hS, ?_, ?_, ?_⟩
  · rw [List.map_set]
  · exact ((IntsKept.of_below b1).trans (IntsKept.of_grown (h1.ls m x hx) (by decide) hg)).trans (IntsKept.of_set hblk (by decide) _ _)
  · exact ((b1.mono hB).trans bg).trans ((Below.refl B w4).setCell (p := ⟨g, m * 5 + 4, none⟩) hbg _)

theorem own_keep {B g cap m N : Nat} {X : List (Prt × Value)} {x : Prt × Value} {w w4 : World} {o : Obj} {A : Option Addr} {L ca : Nat} (h : PartsOwn w B (.slice (some ⟨g, 0, none⟩) N cap) X) (hx : X[m]? = some x) (e2 : x.2 = .slice A L ca)
    (hg : (w.alloc o).grownBy w4 (Value.slice A L ca).ownBlock) : (∀ j u, w.cell? ⟨g, j, none⟩ = some u → w4.cell? ⟨g, j, none⟩ = some u) ∧ ∀ j, w4.frozen? ⟨g, j, none⟩ = false := by
  have hb : ∃ cur, w.heap[g]? = some (.cells cur 94 (0, 0)) := by
    rcases h.row.2 with ⟨e, _⟩ | ⟨g', cap', cur, e, _, hg, _⟩
    · cases e
    · cases e; exact ⟨cur, hg⟩
  obtain ⟨cur, hb⟩ := hb
  have hlt := (Array.getElem?_eq_some_iff.1 hb).1
  have hh : w4.heap[g]? = w.heap[g]? := by
    rw [← e2] at hg
    rw [hg.block g (by rw [alloc_size]; omega) (fun e => own_ne (h.ls m x hx) hb (by decide) e.symm), Below.heap_alloc w _ g hlt]
  exact ⟨fun j u hu => by simpa [World.cell?, hh] using hu, fun j => by simp [World.frozen?, hh, hb]⟩

set_option maxHeartbeats 4000000 in
theorem addLine_same (B : Nat) (v : Value) (X : List (Prt × Value)) (d : Nat) (s : ByteArray) (w : World) (hB : B ≤ w.heap.size) (h : PartsOwn w B v X) (hm : X.length ≤ 1000000) (m : Nat) (hX : X.length = m + 1) (x : Prt × Value) (hx : X[m]? = some x)
    (hdv : x.1.dv = false) (hdp : x.1.depth = d) (hls : x.1.ls.length ≤ 1000000) :
    Calls Tryz.prog 66 #[v, .int .i64 d, .string s] w (AddEnd B w ((X.map Prod.fst).set m { x.1 with ls := x.1.ls ++ [s.data.toList] })) := by
  obtain ⟨i0, hi, hz0, hz1, hz2⟩ := info_parts infoString
  obtain ⟨hml, hxe⟩ := List.getElem?_eq_some_iff.1 hx
  obtain ⟨g, cap, cur, rfl, hbg, hlt, hcap, hcm, hblk, hc⟩ := own_block h.row (by omega)
  have hc0 := hc _ _ (psC_get X m (by omega) 0 (.int .i64 x.1.depth) (by rw [hxe]; rfl))
  have hc1 := hc _ _ (psC_get X m (by omega) 1 (.bool x.1.dv) (by rw [hxe]; rfl))
  have hc4 := hc _ _ (psC_get X m (by omega) 4 x.2 (by rw [hxe]; rfl))
  have hfz := own_frozen hblk (m * 5 + 4)
  have hrow := h.ls m _ hx
  rw [hdv] at hc1
  rw [hdp, Nat.add_zero] at hc0
  obtain ⟨A, ca, e2, hra, _⟩ := RowOf.own hrow
  rw [e2] at hc4 hrow
  unfold maxLen at hcm
  have HH := Lib.hid h
  have hnw := cells_one w (.string s) 9
  have hrow2 := hrow.alloc (.cells #[.string s] 9)
  clear h hc hra hdv hdp hxe hml
  generalize hN : X.length = N at *
  subst hX
  have HX := Lib.hid hN
  clear hN
  go_enter Tryz.func66, Tryz.ntmps66
  go_wp2_with (at_builtin; refine wpList_append_lies _ rfl _ _ 22 rfl B 9 i0 (.string ByteArray.empty) 1 16 Tryz.underlying22 hi hz0 hz1 hz2 rfl (by decide) _ _ _ rfl hrow2 ⟨w.heap.size, 0, none⟩ 1 1 [.string s] rfl rfl hnw (by simp [Value.oneCell']) (by omega) (by unfold maxLen; omega) (by omega) (by simp; omega) (w.heap.size + 1) (by simp) ?_)
  intro g4 cap4 w4 hown4 hgrow4 hat4 hlt4
  have hk := (own_keep HH.out hx e2 hgrow4)
  have hc44 := hk.1 (m * 5 + 4) _ hc4
  have hf44 := hk.2 (m * 5 + 4)
  have HR := Lib.hid (same_run hB HH.out HX.out hx hown4 (by rw [e2]; exact hgrow4) (by rw [e2]; exact hat4))
  clear hown4 hgrow4 hat4 hlt4 hk
  go_wp2
  go_ret
  exact HR.out

theorem set_last {ys : List Prt} {p q : Prt} {m : Nat} (h : ys.length = m) : (ys ++ [p]).set m q = ys ++ [q] := by
  subst h
  rw [List.set_append_right _ _ (Nat.le_refl _), Nat.sub_self]
  rfl
theorem addLine_any (B : Nat) (v : Value) (X : List (Prt × Value)) (d : Nat) (s : ByteArray) (w : World) (hB : B ≤ w.heap.size) (h : PartsOwn w B v X) (hm : X.length ≤ 1000000) (hls : ∀ x ∈ X, x.1.ls.length ≤ 1000000) :
    Calls Tryz.prog 66 #[v, .int .i64 d, .string s] w (AddEnd B w (addLn (X.map Prod.fst) d s.data.toList)) := by
  cases hg : (X.map Prod.fst).getLast? with
  | none =>
    rw [addLn_none _ _ hg]
    rw [List.getLast?_eq_none_iff, List.map_eq_nil_iff] at hg
    exact addLine_new B v X d s w hB h hm (Or.inl hg)
  | some p =>
    by_cases hp : p.dv = true ∨ p.depth ≠ d
    · rw [addLn_new _ _ hg hp]
      exact addLine_new B v X d s w hB h hm (Or.inr ⟨p, hg, hp⟩)
    · obtain ⟨ys, e⟩ := List.getLast?_eq_some_iff.1 hg
      have hl : X.length = ys.length + 1 := by have := congrArg List.length e; simpa using this
      have hx : X[ys.length]? = some X[ys.length] := List.getElem?_eq_getElem (by omega)
      have hxp : X[ys.length].1 = p := by
        have h1 : (X.map Prod.fst)[ys.length]? = some p := by rw [e]; simp
        rw [List.getElem?_map, hx] at h1
        simpa using h1
      have hp1 : p.dv = false := by cases h : p.dv <;> simp [h] at hp ⊢
      have hp2 : p.depth = d := by
        by_cases e : p.depth = d
        · exact e
        · exact absurd (Or.inr e) hp
      have := addLine_same B v X d s w hB h hm ys.length hl X[ys.length] hx (by rw [hxp]; exact hp1) (by rw [hxp]; exact hp2) (hls _ (List.getElem_mem _))
      rw [hxp, e, set_last rfl] at this
      rw [e, addLn_same _ _ hp1 hp2]
      exact this

/-! ### How long all this is -/
structure PBound (n : Nat) (st : List Prt × List Nat) : Prop where
  a : st.1.length ≤ n
  b : st.2.length ≤ n
  c : ∀ j ∈ st.2, j < st.1.length
  d : ∀ p ∈ st.1, p.ls.length ≤ n
theorem addLn_len (ps : List Prt) (d : Nat) (s : Txt) : ps.length ≤ (addLn ps d s).length ∧ (addLn ps d s).length ≤ ps.length + 1 := by
  cases hg : ps.getLast? with
  | none => rw [addLn_none _ _ hg]; simp
  | some p =>
    by_cases hp : p.dv = true ∨ p.depth ≠ d
    · rw [addLn_new _ _ hg hp]; simp
    · obtain ⟨ys, rfl⟩ := List.getLast?_eq_some_iff.1 hg
      have hp1 : p.dv = false := by cases h : p.dv <;> simp [h] at hp ⊢
      have hp2 : p.depth = d := by
        by_cases e : p.depth = d
        · exact e
        · exact absurd (Or.inr e) hp
      rw [addLn_same _ _ hp1 hp2]; simp
theorem addLn_ls (ps : List Prt) (d n : Nat) (s : Txt) (h : ∀ p ∈ ps, p.ls.length ≤ n) : ∀ p ∈ addLn ps d s, p.ls.length ≤ n + 1 := by
  intro q hq
  cases hg : ps.getLast? with
  | none =>
    rw [addLn_none _ _ hg, List.mem_append, List.mem_singleton] at hq
    rcases hq with hq | rfl
    · have := h q hq; omega
    · simp
  | some p =>
    by_cases hp : p.dv = true ∨ p.depth ≠ d
    · rw [addLn_new _ _ hg hp, List.mem_append, List.mem_singleton] at hq
      rcases hq with hq | rfl
      · have := h q hq; omega
      · simp
    · obtain ⟨ys, rfl⟩ := List.getLast?_eq_some_iff.1 hg
      have hp1 : p.dv = false := by cases h : p.dv <;> simp [h] at hp ⊢
      have hp2 : p.depth = d := by
        by_cases e : p.depth = d
        · exact e
        · exact absurd (Or.inr e) hp
      rw [addLn_same _ _ hp1 hp2, List.mem_append, List.mem_singleton] at hq
      rcases hq with hq | rfl
      · have := h q (by simp [hq]); omega
      · have := h p (by simp); simp; omega
theorem shut_len (ps : List Prt) (i : Nat) : (shut ps i).length = ps.length := by unfold shut; simp
theorem shut_ls (ps : List Prt) (i n : Nat) (h : ∀ p ∈ ps, p.ls.length ≤ n) : ∀ p ∈ shut ps i, p.ls.length ≤ n := by
  intro q hq
  obtain ⟨j, hj, rfl⟩ := List.mem_iff_getElem.1 hq
  have hj2 := hj
  rw [shut_len] at hj2
  have e : (shut ps i)[j] = if i = j then { ps[j] with opn := false } else ps[j] := by
    have h1 : (shut ps i)[j]? = some (if i = j then { ps[j] with opn := false } else ps[j]) := by
      unfold shut
      rw [List.getElem?_modify, List.getElem?_eq_getElem hj2]
      split <;> simp_all
    exact (List.getElem?_eq_some_iff.1 h1).2
  rw [e]
  have h2 := h _ (List.getElem_mem hj2)
  split <;> exact h2
theorem step_bound {n : Nat} {st : List Prt × List Nat} (h : PBound n st) (s : Txt) : PBound (n + 1) (stepP st s) := by
  obtain ⟨a, b, c, d⟩ := h
  unfold stepP
  cases opensL s with
  | some lab =>
    refine ⟨by simp; omega, by simp; omega, fun j hj => ?_, fun p hp => ?_⟩
    · simp at hj ⊢
      rcases hj with hj | hj
      · have := c j hj; omega
      · omega
    · simp at hp
      rcases hp with hp | rfl
      · have := d p hp; omega
      · simp
  | none =>
    dsimp only
    split
    · refine ⟨by rw [shut_len]; omega, by simp; omega, fun j hj => ?_, fun p hp => ?_⟩
      · rw [shut_len]; exact c j (List.dropLast_subset _ hj)
      · have := shut_ls _ _ n d p hp; omega
    · have h1 := addLn_len st.1 st.2.length s
      refine ⟨by show (addLn _ _ _).length ≤ _; omega, by show st.2.length ≤ _; omega, fun j hj => ?_, fun p hp => addLn_ls _ _ n s d p hp⟩
      have := c j hj
      show j < (addLn _ _ _).length
      omega
theorem parseF_take (ls : List Txt) (k : Nat) (hk : k < ls.length) : parseF ([], []) (ls.take (k + 1)) = stepP (parseF ([], []) (ls.take k)) ls[k] := by
  rw [List.take_succ_eq_append_getElem hk, parseF_append]; rfl
theorem parse_bound (ls : List Txt) : ∀ k, k ≤ ls.length → PBound k (parseF ([], []) (ls.take k))
  | 0, _ => ⟨by simp [parseF], by simp [parseF], by simp [parseF], by simp [parseF]⟩
  | k + 1, h => by rw [parseF_take ls k (by omega)]; exact step_bound (parse_bound ls k (by omega)) _

/-! ### Ends -/
def EndRel (B : Nat) (ls : List Txt) (n : Nat) (w : World) (v i : Value) (wr : World) : Prop :=
  ∃ k : Nat, i = .int .i64 k ∧ k ≤ n ∧ B ≤ wr.heap.size ∧ wr.ownsRow B 9 1 v (ls ++ ends k).length (strs (ls ++ ends k)) ∧ Below B w wr
theorem strs_ends (ls : List Txt) (k : Nat) : strs (ls ++ ends k) ++ [Value.string ⟨#[58, 58, 58]⟩] = strs (ls ++ ends (k + 1)) := by
  rw [ends_succ, ← List.append_assoc, strs_append (ls ++ ends k)]; rfl

set_option maxHeartbeats 4000000 in
theorem addEnds_any (B : Nat) (v : Value) (ls : List Txt) (n : Int) (w : World) (hB : B ≤ w.heap.size) (h : w.ownsRow B 9 1 v ls.length (strs ls)) (hm : ls.length ≤ 1000000) (hn : n ≤ 1000000) :
    Calls Tryz.prog 72 #[v, .int .i64 n] w fun e w' => ∃ v', e = .returned v' ∧ w'.ownsRow B 9 1 v' (ls ++ ends n.toNat).length (strs (ls ++ ends n.toNat)) ∧ Below B w w' := by
  obtain ⟨i0, hi, hz0, hz1, hz2⟩ := info_parts infoString
  by_cases hn0 : n ≤ 0
  · have e0 : n.toNat = 0 := by omega
    rw [e0, ends_zero, List.append_nil]
    clear e0
    go_enter Tryz.func72, Tryz.ntmps72
    go_wp2_with fail
    go_loopw [0, 6] (fun u i wr => u = v ∧ i = .int .i64 0 ∧ wr = w) (fun _ _ _ => 0)
    case atStart => exact ⟨rfl, rfl, rfl⟩
    case round =>
      obtain ⟨rfl, rfl, rfl⟩ := hrel
      go_wp2
      go_ret
      exact ⟨_, rfl, h, Below.refl _ _⟩
  · obtain ⟨m, rfl⟩ : ∃ m : Nat, n = m := ⟨n.toNat, by omega⟩
    rw [Int.toNat_natCast]
    go_enter Tryz.func72, Tryz.ntmps72
    go_wp2_with fail
    go_loopw [0, 6] (fun u i wr => EndRel B ls m w u i wr) (fun _ i _ => m - (intOf i).toNat)
    case atStart => exact ⟨0, rfl, Nat.zero_le _, hB, by rw [ends_zero, List.append_nil]; exact h, Below.refl _ _⟩
    case round =>
      obtain ⟨k, rfl, hk, hBr, hown, hbw⟩ := hrel
      by_cases hp : k < m
      · have hnw := cells_one wr (.string ⟨#[58, 58, 58]⟩) 9
        have hl : (ls ++ ends k).length = ls.length + k := by simp [ends]
        have hrow2 := hown.alloc (.cells #[.string ⟨#[58, 58, 58]⟩] 9)
        have HS := Lib.hid (strs_ends ls k)
        have HL := Lib.hid (show (ls ++ ends (k + 1)).length = ls.length + k + 1 from by simp [ends]; omega)
        go_wp2_with (at_builtin; refine wpList_append_own _ rfl _ _ 22 rfl B 9 i0 (.string ByteArray.empty) 1 16 Tryz.underlying22 hi hz0 hz1 hz2 rfl (by decide) _ _ _ rfl hrow2 ⟨wr.heap.size, 0, none⟩ 1 1 [.string ⟨#[58, 58, 58]⟩] rfl rfl hnw (by simp [Value.oneCell']) (by unfold maxLen; omega) (by omega) (by simp; omega) ?_)
        intro v' w2 hown' hgrow _
        rw [HS.out, ← HL.out] at hown'
        have hb2 := (hbw.trans (((Below.refl _ wr).alloc (Nat.le_refl _) _).mono hBr)).trans (below_of_grown hgrow (fun g hg => (hrow2.lt g hg).1) (by simp; omega))
        have hs2 := hgrow.size
        have hs3 := alloc_size wr (.cells #[.string ⟨#[58, 58, 58]⟩] 9)
        have HO := Lib.hid hown'
        have HB := Lib.hid hb2
        clear hown' hgrow hb2 hbw hrow2 hown hl
        go_wp2
        go_roundw
        case rel => exact ⟨k + 1, by go_num, by omega, by omega, HO.out, HB.out⟩
        case measure => simp [intOf]; omega
      · obtain rfl : k = m := by omega
        go_wp2
        go_ret
        exact ⟨_, rfl, hown, hbw⟩

end Go.Proofs.YtkcmhdkhdjmjeaaGreatDoor

namespace Go.Proofs.YtkcmhdkhdjmjeaaGreatDoor
open Go.RowKit
set_option linter.unusedSimpArgs false
set_option linter.unusedVariables false
set_option maxRecDepth 100000

def ints (os : List Nat) : List Value := os.map fun j : Nat => Value.int .i64 j
theorem ints_len (os : List Nat) : (ints os).length = os.length := by simp [ints]
theorem infoInt : (Tryz.prog.info? 3).map (fun i => (i.zero, i.size, i.bytes)) = some (some (.int .i64 0), 1, 8) := by kernel_rfl

/-- One reads on: the parts in X, the open ones in os. -/
structure PMem (w0 : World) (ls : List Txt) (k : Nat) (v ov : Value) (X : List (Prt × Value)) (os : List Nat) (w : World) : Prop where
  parts : PartsOwn w w0.heap.size v X
  row : w.ownsRow w0.heap.size 3 1 ov os.length (ints os)
  st : (X.map Prod.fst, os) = parseF ([], []) (ls.take k)
  bel : Below w0.heap.size w0 w
theorem PMem.bound {w0 w : World} {ls : List Txt} {k : Nat} {v ov : Value} {X : List (Prt × Value)} {os : List Nat} (h : PMem w0 ls k v ov X os w) (hk : k ≤ ls.length) :
    X.length ≤ k ∧ os.length ≤ k ∧ (∀ j ∈ os, j < X.length) ∧ ∀ x ∈ X, x.1.ls.length ≤ k := by
  obtain ⟨a, b, c, d⟩ := parse_bound ls k hk
  rw [← h.st] at a b c d
  rw [List.length_map] at a c
  exact ⟨a, b, c, fun x hx => d x.1 (List.mem_map.2 ⟨x, hx, rfl⟩)⟩
theorem PMem.below {w0 w w' : World} {ls : List Txt} {k : Nat} {v ov : Value} {X : List (Prt × Value)} {os : List Nat} (h : PMem w0 ls k v ov X os w) (hb : Below w.heap.size w w') : PMem w0 ls k v ov X os w' :=
  ⟨h.parts.below hb, ownsRow_below h.row hb, h.st, h.bel.then hb⟩
/-- A division more. -/
theorem PMem.open {w0 w w2 w3 : World} {ls : List Txt} {k : Nat} {v ov v' ov' : Value} {X : List (Prt × Value)} {os : List Nat} {lab : Txt} (h : PMem w0 ls k v ov X os w) (hk : k < ls.length) (ho : opensL ls[k] = some lab)
    (h2 : w2.ownsRow w0.heap.size 3 1 ov' (os.length + 1) (ints os ++ [.int .i64 X.length])) (g2 : (w.alloc (.cells #[.int .i64 X.length] 3)).grownBy w2 ov.ownBlock)
    (h3 : w3.ownsRow w0.heap.size 94 5 v' (X.length + 1) (psC X ++ ptC (⟨os.length, true, lab, true, []⟩, .slice none 0 0)))
    (g3 : (w2.alloc (.cells #[.int .i64 os.length, .bool true, .string ⟨lab.toArray⟩, .bool true, .slice none 0 0] 94)).grownBy w3 v.ownBlock) :
    PMem w0 ls (k + 1) v' ov' (X ++ [(⟨os.length, true, lab, true, []⟩, .slice none 0 0)]) (os ++ [X.length]) w3 := by
  have hB := h.bel.size
  have b1 : Below w.heap.size w (w.alloc (.cells #[.int .i64 X.length] 3)) := (Below.refl _ w).alloc (Nat.le_refl _) _
  have hs1 := alloc_size w (.cells #[.int .i64 X.length] 3)
  have p1 := h.parts.below b1
  have r1 := ownsRow_below h.row b1
  generalize w.alloc (.cells #[.int .i64 X.length] 3) = w1 at *
  have p2 := p1.keptInt r1 g2
  have hs2 := g2.size
  have b3 : Below w2.heap.size w2 (w2.alloc (.cells #[.int .i64 os.length, .bool true, .string ⟨lab.toArray⟩, .bool true, .slice none 0 0] 94)) := (Below.refl _ w2).alloc (Nat.le_refl _) _
  have hs3 := alloc_size w2 (.cells #[.int .i64 os.length, .bool true, .string ⟨lab.toArray⟩, .bool true, .slice none 0 0] 94)
  have p3 := p2.below b3
  have r3 := ownsRow_below h2 b3
  generalize w2.alloc (.cells #[.int .i64 os.length, .bool true, .string ⟨lab.toArray⟩, .bool true, .slice none 0 0] 94) = w4 at *
  refine ⟨p3.snoc g3 h3 (World.ownsRow_nil _ _ _ _) (fun k y hy g hg => by simp [Value.ownBlock]), ?_, ?_, ?_⟩
  · have r5 := r3.kept g3 (own_apart r3 p3.row (by decide)).ne
    rw [List.length_append, show ints (os ++ [X.length]) = ints os ++ [.int .i64 X.length] from by simp [ints]]
    exact r5
  · rw [parseF_take ls k hk, ← h.st]
    unfold stepP
    rw [ho]
    simp
  · exact (((h.bel.then b1).trans (below_of_grown g2 (fun g hg => (r1.lt g hg).1) (by omega))).trans (b3.mono (by omega))).trans (below_of_grown g3 (fun g hg => (p3.row.lt g hg).1) (by omega))
/-- The last one is closed. -/
theorem PMem.close {w0 w : World} {ls : List Txt} {k g g' cap cap' d : Nat} {X : List (Prt × Value)} {os : List Nat} (h : PMem w0 ls k (.slice (some ⟨g, 0, none⟩) X.length cap) (.slice (some ⟨g', 0, none⟩) os.length cap') X os w) (hk : k < ls.length)
    (ho : opensL ls[k] = none) (hc : closesL ls[k] = true) (hd : os.length = d + 1) {j : Nat} (hj : os[d]? = some j) (hjl : j < X.length) :
    PMem w0 ls (k + 1) (.slice (some ⟨g, 0, none⟩) X.length cap) (.slice (some ⟨g', 0, none⟩) d cap') (X.set j ({ X[j].1 with opn := false }, X[j].2)) os.dropLast (w.setCell ⟨g, j * 5 + 3, none⟩ (.bool false)) := by
  have hb : ∃ cur, w.heap[g]? = some (.cells cur 94 (0, 0)) ∧ w0.heap.size ≤ g := by
    obtain ⟨g', cap', cur, e, hB, _, _, _, hg, _⟩ := own_block h.parts.row (by omega)
    cases e
    exact ⟨cur, hg, hB⟩
  obtain ⟨cur, hg, hB⟩ := hb
  refine ⟨h.parts.setOpn hjl false, ?_, ?_, h.bel.setCell (p := ⟨g, j * 5 + 3, none⟩) hB _⟩
  · have h1 := own_take h.row (m := d) (by omega)
    have e1 : os.dropLast.length = d := by rw [List.length_dropLast]; omega
    have e2 : ints os.dropLast = (ints os).take d := by unfold ints; rw [List.dropLast_eq_take, List.map_take, hd]; rfl
    rw [e1, e2]
    exact own_set h1 hg (by decide) _ _
  · rw [parseF_take ls k hk, ← h.st]
    unfold stepP
    rw [ho]
    dsimp only
    have hne : os ≠ [] := by intro e; rw [e] at hd; simp at hd
    rw [if_pos ⟨hne, hc⟩]
    have hl : os.getLast?.getD 0 = j := by rw [List.getLast?_eq_getElem?, hd, Nat.add_sub_cancel, hj]; rfl
    rw [hl]
    have e3 : (X.set j ({ X[j].1 with opn := false }, X[j].2)).map Prod.fst = shut (X.map Prod.fst) j := by
      apply List.ext_getElem?
      intro i
      unfold shut
      rw [List.getElem?_map, List.getElem?_set, List.getElem?_modify, List.getElem?_map]
      split
      · rename_i e
        subst e
        rw [List.getElem?_eq_getElem hjl]; rfl
      · cases X[i]? <;> rfl
    rw [e3]
/-- A line more. -/
theorem PMem.line {w0 w w' : World} {ls : List Txt} {k : Nat} {v ov v' : Value} {X X' : List (Prt × Value)} {os : List Nat} (h : PMem w0 ls k v ov X os w) (hk : k < ls.length) (ho : opensL ls[k] = none) (hc : ¬ (os ≠ [] ∧ closesL ls[k] = true))
    (hp : PartsOwn w' w0.heap.size v' X') (hX : X'.map Prod.fst = addLn (X.map Prod.fst) os.length ls[k]) (hi : IntsKept w w') (hb : Below w0.heap.size w w') : PMem w0 ls (k + 1) v' ov X' os w' := by
  refine ⟨hp, hi.own h.row, ?_, h.bel.trans hb⟩
  rw [parseF_take ls k hk, ← h.st, hX]
  unfold stepP
  rw [ho]
  dsimp only
  rw [if_neg hc]

def ParseRel (w0 : World) (ls : List Txt) (v ov i : Value) (wr : World) : Prop := ∃ (k : Nat) (X : List (Prt × Value)) (os : List Nat), i = .int .i64 k ∧ k ≤ ls.length ∧ PMem w0 ls k v ov X os wr

set_option maxHeartbeats 8000000 in
theorem parse_any (A : Option Addr) (c : Nat) (ls : List Txt) (w : World) (hrow : RowOf w A c (strs ls)) (hm : ls.length ≤ 100000) (hz : ∀ y ∈ ls, y.length ≤ 140737488355328) :
    Calls Tryz.prog 30 #[.slice A ls.length c] w fun e w' => ∃ v X, e = .returned v ∧ PartsOwn w' w.heap.size v X ∧ X.map Prod.fst = parseL ls ∧ Below w.heap.size w w' := by
  obtain ⟨i0, hi, hz0, hz1, hz2⟩ := info_parts infoInt
  obtain ⟨i1, hi1, hw0, hw1, hw2⟩ := info_parts infoPart
  have hcl := hrow.1
  have hcm := hrow.2.1
  rw [strs_length] at hcl
  unfold maxLen at hcm
  have HZ := Lib.hid hz
  clear hz
  go_enter Tryz.func30, Tryz.ntmps30
  go_wp2_with fail
  go_loopw [3, 4, 12] (fun v ov i wr => ParseRel w ls v ov i wr) (fun _ _ i _ => ls.length - (intOf i).toNat)
  case atStart => exact ⟨0, [], [], rfl, Nat.zero_le _, PartsOwn.nil _ _, World.ownsRow_nil _ _ _ _, rfl, Below.refl _ _⟩
  case round =>
    obtain ⟨k, X, os, rfl, hk, hM⟩ := hrel
    obtain ⟨bX, bO, bI, bL⟩ := hM.bound hk
    by_cases hp : k < ls.length
    · have hrow2 := hrow.below hM.bel
      obtain ⟨b, off, rfl, hb, hc⟩ := hrow2.cellAt hp
      have hsz := HZ.out ls[k] (List.getElem_mem hp)
      rw [← str_size] at hsz
      have co := fun w1 => opens_any ⟨ls[k].toArray⟩ w1 hsz
      rw [show (⟨ls[k].toArray⟩ : ByteArray).data.toList = ls[k] from rfl] at co
      obtain ⟨A3, c3, rfl, hat⟩ := hM.parts.at
      obtain ⟨A4, c4, rfl, hr4, _⟩ := RowOf.own hM.row
      cases ho : opensL ls[k] with
      | some lab =>
        rw [ho] at co
        unfold optV at co
        dsimp only at co
        have HO := Lib.hid ho
        have HM := Lib.hid hM
        clear hat hr4 hrow2 hM bI bL
        go_wp2_with fail
        refine (co _).mono ?_
        rintro e w1 ⟨rfl, b1⟩
        have hM1 := HM.out.below b1
        have r1 := hM1.row.alloc (.cells #[.int .i64 X.length] 3)
        have hs0 := hM1.bel.size
        have hn1 := cells_one w1 (.int .i64 X.length) 3
        have H1 := Lib.hid hM1
        clear hM1
        go_wp2_with (at_builtin; refine wpList_append_own _ rfl _ _ 79 rfl w.heap.size 3 i0 (.int .i64 0) 1 8 Tryz.underlying79 hi hz0 hz1 hz2 rfl (by decide) _ _ _ rfl r1 ⟨w1.heap.size, 0, none⟩ 1 1 [.int .i64 X.length] rfl rfl hn1 (by simp [Value.oneCell']) (by unfold maxLen; omega) (by omega) (by simp; omega) ?_)
        intro ov' w2 hown2 hgrow2 _
        have hs1 := hgrow2.size
        have hs2 := alloc_size w1 (.cells #[.int .i64 X.length] 3)
        have p2 := ((H1.out.parts.alloc (.cells #[.int .i64 X.length] 3)).keptInt r1 hgrow2).alloc (.cells #[.int .i64 os.length, .bool true, .string ⟨lab.toArray⟩, .bool true, .slice none 0 0] 94)
        have hn2 := part_cells w2 (⟨os.length, true, lab, true, []⟩, .slice none 0 0) 94
        have HO2 := Lib.hid hown2
        have HG2 := Lib.hid hgrow2
        clear hown2 hgrow2
        go_wp2_with (at_builtin; refine wpList_append_own _ rfl _ _ 63 rfl w.heap.size 94 i1 (.agg #[.int .i64 0, .bool false, .string ByteArray.empty, .bool false, .slice none 0 0]) 5 64 Tryz.underlying63 hi1 hw0 hw1 hw2 rfl (by decide) _ _ _ rfl p2.row ⟨w2.heap.size, 0, none⟩ 1 1 (ptC (⟨os.length, true, lab, true, []⟩, .slice none 0 0)) rfl rfl hn2 (ptC_one _ rfl) (by unfold maxLen; omega) (by omega) (by simp; omega) ?_)
        intro v' w3 hown3 hgrow3 _
        have HF := Lib.hid (H1.out.open hp HO.out HO2.out HG2.out hown3 hgrow3)
        clear hown3 hgrow3 p2 r1
        go_wp2
        go_roundw
        case rel => exact ⟨k + 1, _, _, by go_num, by omega, HF.out⟩
        case measure => simp [intOf]; omega
      | none =>
        rw [ho] at co
        unfold optV at co
        dsimp only at co
        have HO := Lib.hid ho
        have HM := Lib.hid hM
        have HI := Lib.hid bI
        have HL := Lib.hid bL
        have cc := fun w1 => closes_any ⟨ls[k].toArray⟩ w1 hsz
        rw [show (⟨ls[k].toArray⟩ : ByteArray).data.toList = ls[k] from rfl] at cc
        have ca := fun w1 hB h => addLine_any w.heap.size (.slice A3 X.length c3) X os.length ⟨ls[k].toArray⟩ w1 hB h (by omega) (fun x hx => by have := HL.out x hx; omega)
        rw [show (⟨ls[k].toArray⟩ : ByteArray).data.toList = ls[k] from rfl] at ca
        clear hat hr4 hrow2 hM bI bL ho
        by_cases h0 : os.length = 0
        · obtain rfl : os = [] := List.eq_nil_of_length_eq_zero h0
          have HN := Lib.hid (show ¬ (([] : List Nat) ≠ [] ∧ closesL ls[k] = true) from fun h => h.1 rfl)
          rw [show ((([] : List Nat).length : Nat) : Int) = 0 from rfl] at ca
          clear h0
          go_wp2_with fail
          refine (co _).mono ?_
          rintro e w1 ⟨rfl, b1⟩
          have hM1 := HM.out.below b1
          have H1 := Lib.hid hM1
          clear hM1
          go_wp2_with fail
          refine (ca _ H1.out.bel.size H1.out.parts).mono ?_
          rintro e w2 ⟨v', X', rfl, hP, hXe, hIk, hB2⟩
          have HF := Lib.hid (H1.out.line hp HO.out HN.out hP hXe hIk hB2)
          clear hP hXe hIk hB2
          go_wp2
          go_roundw
          case rel => exact ⟨k + 1, _, _, by go_num, by omega, HF.out⟩
          case measure => simp [intOf]; omega
        · have f0 : decide ((0 : Int) < os.length) = true := by simp; omega
          cases hcl' : closesL ls[k] with
          | false =>
            have HN := Lib.hid (show ¬ (os ≠ [] ∧ closesL ls[k] = true) from fun h => by rw [hcl'] at h; cases h.2)
            rw [hcl'] at cc
            clear hcl'
            go_wp2_with fail
            refine (co _).mono ?_
            rintro e w1 ⟨rfl, b1⟩
            have hM1 := HM.out.below b1
            have H1 := Lib.hid hM1
            clear hM1
            go_wp2_with fail
            refine (cc _).mono ?_
            rintro e w9 ⟨rfl, rfl⟩
            go_wp2_with fail
            refine (ca _ H1.out.bel.size H1.out.parts).mono ?_
            rintro e w2 ⟨v', X', rfl, hP, hXe, hIk, hB2⟩
            have HF := Lib.hid (H1.out.line hp HO.out HN.out hP hXe hIk hB2)
            clear hP hXe hIk hB2
            go_wp2
            go_roundw
            case rel => exact ⟨k + 1, _, _, by go_num, by omega, HF.out⟩
            case measure => simp [intOf]; omega
          | true =>
            have HC := Lib.hid hcl'
            rw [hcl'] at cc
            clear hcl'
            obtain ⟨d, hd⟩ : ∃ d, os.length = d + 1 := ⟨os.length - 1, by omega⟩
            have hj : os[d]? = some (os[d]'(by omega)) := List.getElem?_eq_getElem (by omega)
            have hjl := HI.out _ (List.getElem_mem (l := os) (n := d) (by omega))
            generalize os[d]'(by omega) = j at *
            go_wp2_with fail
            refine (co _).mono ?_
            rintro e w1 ⟨rfl, b1⟩
            have hM1 := HM.out.below b1
            obtain ⟨g3, c3', cur3, e3, _, hlt3, hnc3, hcm3, hblk3, hcell3⟩ := own_block hM1.parts.row (by omega)
            cases e3
            obtain ⟨g4, c4', cur4, e4, _, hlt4, hnc4, hcm4, hblk4, hcell4⟩ := own_block hM1.row (by omega)
            cases e4
            have hc3 := hcell3 _ _ (psC_get X j hjl 3 (.bool (X[j]).1.opn) rfl)
            have hf3 := own_frozen hblk3 (j * 5 + 3)
            have hc4 := hcell4 d (.int .i64 j) (by unfold ints; rw [List.getElem?_map, hj]; rfl)
            have HF := Lib.hid (hM1.close hp HO.out HC.out hd hj hjl)
            have H1 := Lib.hid hM1
            clear hM1 hcell3 hcell4
            unfold maxLen at hcm3 hcm4
            rw [hd] at hnc4 f0 h0 bO ⊢
            go_wp2_with fail
            refine (cc _).mono ?_
            rintro e w9 ⟨rfl, rfl⟩
            go_wp2
            go_roundw
            case rel => exact ⟨k + 1, _, _, by go_num, by omega, HF.out⟩
            case measure => simp [intOf]; omega
    · obtain rfl : k = ls.length := by omega
      have HF := Lib.hid (show X.map Prod.fst = parseL ls from by
        have := hM.st
        rw [List.take_length] at this
        unfold parseL
        rw [← this])
      go_wp2
      go_ret
      exact ⟨_, X, rfl, hM.parts, HF.out, hM.bel⟩

end Go.Proofs.YtkcmhdkhdjmjeaaGreatDoor
