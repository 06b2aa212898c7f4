/-
  Package frame: pieces in memory; Unspan, addText: what they answer.
-/
import Derived.Test.YtodnioihadpncaaDoorSpnB
import Derived.Test.YtodnioihadpncaaDoorFrmM
import Derived.Deep.AppendLies
namespace Go.Proofs.YtodnioihadpncaaDoor
open Go.RowKit
set_option linter.unusedSimpArgs false
set_option linter.unusedVariables false
set_option maxRecDepth 100000

def pcC (p : Pc) : List Value := [.bool p.sp, .string ⟨p.lab.toArray⟩, .string ⟨p.txt.toArray⟩]
def pcsC (P : List Pc) : List Value := P.flatMap pcC
theorem pcsC_length (P : List Pc) : (pcsC P).length = P.length * 3 := by
  induction P with
  | nil => rfl
  | cons p P ih =>
    have e : pcsC (p :: P) = pcC p ++ pcsC P := rfl
    rw [e, List.length_append, ih, List.length_cons]
    simp [pcC]; omega
theorem pcsC_append (a b : List Pc) : pcsC (a ++ b) = pcsC a ++ pcsC b := by simp [pcsC]
theorem pcsC_one (p : Pc) : pcsC [p] = pcC p := by simp [pcsC]
theorem pcsC_get : ∀ (P : List Pc) (k : Nat) (h : k < P.length) (j : Nat) (u : Value), (pcC P[k])[j]? = some u → (pcsC P)[k * 3 + j]? = some u
  | x :: X, 0, h, j, u, hu => by
    have e : pcsC (x :: X) = pcC x ++ pcsC X := rfl
    have hu' : (pcC x)[j]? = some u := hu
    have hj := (List.getElem?_eq_some_iff.1 hu').1
    rw [e, List.getElem?_append_left (by omega), Nat.zero_mul, Nat.zero_add]
    exact hu'
  | x :: X, k + 1, h, j, u, hu => by
    have e : pcsC (x :: X) = pcC x ++ pcsC X := rfl
    have hl : (pcC x).length = 3 := rfl
    have ih := pcsC_get X k (by simpa using h) j u (by simpa using hu)
    rw [e, List.getElem?_append_right (by omega), hl, show (k + 1) * 3 + j - 3 = k * 3 + j from by omega]
    exact ih
theorem pcC_one (p : Pc) : ∀ u ∈ pcC p, u.oneCell' = true := by
  intro u hu
  simp [pcC] at hu
  rcases hu with rfl | rfl | rfl <;> rfl
theorem infoPiece : (Tryd.prog.info? 38).map (fun i => (i.zero, i.size, i.bytes)) = some (some (.agg #[.bool false, .string ByteArray.empty, .string ByteArray.empty]), 3, 40) := by kernel_rfl

/-- Pieces that may be read. -/
structure PcAt (w : World) (A : Option Addr) (cap : Nat) (P : List Pc) : Prop where
  le : P.length ≤ cap
  cap : cap ≤ maxLen
  cells : P = [] ∨ ∃ b off, A = some ⟨b, off, none⟩ ∧ b < w.heap.size ∧ ∀ k (h : k < P.length) j u, (pcC P[k])[j]? = some u → w.cell? ⟨b, off + k * 3 + j, none⟩ = some u
theorem PcAt.below {w w' : World} {A : Option Addr} {cap : Nat} {P : List Pc} (h : PcAt w A cap P) (hb : Below w.heap.size w w') : PcAt w' A cap P := by
  refine ⟨h.le, h.cap, ?_⟩
  rcases h.cells with h1 | ⟨b, off, e, hlt, hc⟩
  · exact Or.inl h1
  · refine Or.inr ⟨b, off, e, Nat.lt_of_lt_of_le hlt hb.size, fun k hk j u hu => ?_⟩
    rw [hb.cell (p := ⟨b, off + k * 3 + j, none⟩) hlt]
    exact hc k hk j u hu
theorem PcAt.at {w : World} {A : Option Addr} {cap : Nat} {P : List Pc} (h : PcAt w A cap P) {k : Nat} (hk : k < P.length) :
    ∃ b off, A = some ⟨b, off, none⟩ ∧ b < w.heap.size ∧ w.cell? ⟨b, off + k * 3, none⟩ = some (.bool P[k].sp) ∧ w.cell? ⟨b, off + k * 3 + 1, none⟩ = some (.string ⟨P[k].lab.toArray⟩) ∧ w.cell? ⟨b, off + k * 3 + 2, none⟩ = some (.string ⟨P[k].txt.toArray⟩) := by
  rcases h.cells with h3 | ⟨b, off, e, hlt, hc⟩
  · rw [h3] at hk; simp at hk
  · exact ⟨b, off, e, hlt, hc k hk 0 _ rfl, hc k hk 1 _ rfl, hc k hk 2 _ rfl⟩
theorem PcAt.own {w : World} {B : Nat} {v : Value} {P : List Pc} (h : w.ownsRow B 38 3 v P.length (pcsC P)) : ∃ A cap, v = .slice A P.length cap ∧ PcAt w A cap P := by
  by_cases h0 : P.length = 0
  · obtain ⟨hl, hr⟩ := h
    have hx := List.eq_nil_of_length_eq_zero h0
    rcases hr with ⟨e1, _⟩ | ⟨g, cap, cur, e1, hb, hg, hnc, hcm, _⟩
    · exact ⟨none, 0, by rw [e1, h0], by omega, Nat.zero_le _, Or.inl hx⟩
    · exact ⟨_, cap, e1, hnc, hcm, Or.inl hx⟩
  · obtain ⟨g, cap, cur, e, hb, hlt, hnc, hcm, hg, hc⟩ := own_block h (by omega)
    exact ⟨_, cap, e, hnc, hcm, Or.inr ⟨g, 0, rfl, hlt, fun k hk j u hu => by rw [Nat.zero_add]; exact hc _ _ (pcsC_get P k hk j u hu)⟩⟩
theorem piece_cells (w : World) (p : Pc) (t : TypeId) : ∀ (j : Nat) (u : Value), (pcC p)[j]? = some u → (w.alloc (.cells (pcC p).toArray t)).cell? ((⟨w.heap.size, 0, none⟩ : Addr).add j) = some u := by
  intro j u hj
  rw [addr_add, cell_of_row _ _ _ _ t (0, 0) (heap_alloc_new w _), Nat.zero_add]
  simpa using hj

theorem one_piece (w : World) (p : Pc) : PcAt (w.alloc (.cells (pcC p).toArray 38)) (some ⟨w.heap.size, 0, none⟩) 1 [p] := by
  refine ⟨Nat.le_refl _, by unfold maxLen; omega, Or.inr ⟨w.heap.size, 0, rfl, by rw [alloc_size]; omega, fun k hk j u hu => ?_⟩⟩
  have hk0 : k = 0 := by simp at hk; exact hk
  subst hk0
  have := piece_cells w p 38 j u hu
  rw [addr_add] at this
  simpa using this
/-- A row of the call's own is no iterator. -/
theorem own_notIter {w : World} {B : Nat} {e : TypeId} {size n : Nat} {v : Value} {xs : List Value} (h : w.ownsRow B e size v n xs) {k : Nat} {s : ByteArray} {pos : Nat} (hk : w.heap[k]? = some (.stringIter s pos)) : v.ownBlock ≠ some k := by
  rcases h.2 with ⟨rfl, _⟩ | ⟨g, cap, cur, rfl, _, hg, _⟩
  · simp [Value.ownBlock]
  · intro e1
    simp [Value.ownBlock] at e1
    subst e1
    rw [hg] at hk; cases hk

/-! ### addText -/
theorem grown_behind {w w1 w2 : World} {row : Option Nat} (h : Below w.heap.size w w1) (k : w1.grownBy w2 row) : w.grownBy w2 row :=
  ⟨k.os.trans h.os, k.tape.trans h.tape, k.output.trans h.output, Nat.le_trans h.size k.size, fun i hi hne => (k.block i (Nat.lt_of_lt_of_le hi h.size) hne).trans (h.block i hi)⟩
set_option maxHeartbeats 4000000 in
theorem addText_any (B : Nat) (v : Value) (P : List Pc) (s : ByteArray) (w : World) (hB : B ≤ w.heap.size) (h : w.ownsRow B 38 3 v P.length (pcsC P)) (hm : P.length ≤ 1000000) :
    Calls Tryd.prog 29 #[v, .string s] w fun e w' => ∃ v', e = .returned v' ∧ w'.ownsRow B 38 3 v' (addT P s.data.toList).length (pcsC (addT P s.data.toList)) ∧ w.grownBy w' v.ownBlock ∧ Below B w w' ∧ (∀ g, v'.ownBlock = some g → v.ownBlock = some g ∨ w.heap.size ≤ g) := by
  obtain ⟨i0, hi, hz0, hz1, hz2⟩ := info_parts infoPiece
  by_cases hs : s.size = 0
  · have he : s.data.toList = [] := List.eq_nil_of_length_eq_zero (by simpa using hs)
    have fe : (@BEq.beq (List UInt8) (@List.instBEq UInt8 (@instBEqOfDecidableEq UInt8 instDecidableEqUInt8)) s.toList []) = true := by rw [ByteArray.toList_eq, he]; rfl
    rw [show addT P s.data.toList = P from by unfold addT; rw [if_pos he]]
    clear he hs
    go_enter Tryd.func29, Tryd.ntmps29
    go_wp2
    go_ret
    exact ⟨_, rfl, h, ⟨rfl, rfl, rfl, Nat.le_refl _, fun _ _ _ => rfl⟩, Below.refl _ _, fun g hg => Or.inl hg⟩
  · have hne : s.data.toList ≠ [] := by
      intro e
      have h2 := congrArg List.length e
      have h3 : s.data.toList.length = s.size := by simp
      rw [h3, List.length_nil] at h2
      exact hs h2
    have fe : (@BEq.beq (List UInt8) (@List.instBEq UInt8 (@instBEqOfDecidableEq UInt8 instDecidableEqUInt8)) s.toList []) = false := by rw [ByteArray.toList_eq]; simpa using hne
    have hA : addT P s.data.toList = P ++ [⟨false, [], s.data.toList⟩] := by unfold addT; rw [if_neg hne]
    rw [hA]
    have h2 := h.alloc (.cells #[.bool false, .string ⟨#[]⟩, .string s] 38)
    have hn := piece_cells w ⟨false, [], s.data.toList⟩ 38
    have hmk : pcC ⟨false, [], s.data.toList⟩ = [.bool false, .string ⟨#[]⟩, .string s] := by
      unfold pcC; rw [show (⟨s.data.toList.toArray⟩ : ByteArray) = s from Lib.mk_data s]
    have HP := Lib.hid (show pcsC P ++ [.bool false, .string ⟨#[]⟩, .string s] = pcsC (P ++ [⟨false, [], s.data.toList⟩]) from by rw [pcsC_append, pcsC_one, hmk])
    rw [hmk] at hn
    have hone : ∀ u ∈ [Value.bool false, Value.string ⟨#[]⟩, Value.string s], u.oneCell' = true := by rw [← hmk]; exact pcC_one _
    clear hmk hA hne hs
    go_enter Tryd.func29, Tryd.ntmps29
    go_wp2_with (at_builtin; refine wpList_append_lies _ rfl _ _ 35 rfl B 38 i0 (.agg #[.bool false, .string ByteArray.empty, .string ByteArray.empty]) 3 40 Tryd.underlying35 hi hz0 hz1 hz2 rfl (by decide) _ _ _ rfl h2 ⟨w.heap.size, 0, none⟩ 1 1 [.bool false, .string ⟨#[]⟩, .string s] rfl rfl hn hone (by omega) (by unfold maxLen; omega) (by omega) (by simp; omega) (w.heap.size + 1) (by simp) ?_)
    intro g4 cap4 w2 hown hgrow hat _
    have HA := Lib.hid hat
    rw [HP.out] at hown
    have hs1 := alloc_size w (.cells #[.bool false, .string ⟨#[]⟩, .string s] 38)
    have b1 : Below w.heap.size w (w.alloc (.cells #[.bool false, .string ⟨#[]⟩, .string s] 38)) := (Below.refl _ w).alloc (Nat.le_refl _) _
    have HB := Lib.hid ((b1.mono hB).trans (below_of_grown (B := B) hgrow (fun g hg => (h2.lt g hg).1) (by omega)))
    have HG := Lib.hid (grown_behind b1 hgrow)
    have HO := Lib.hid hown
    clear hown hgrow b1 hat
    go_wp2
    go_ret
    exact ⟨_, rfl, by rw [List.length_append]; exact HO.out, HG.out, HB.out, fun g hg => by
      simp [Value.ownBlock] at hg
      subst hg
      rcases HA.out with h1 | h1
      · exact Or.inl h1
      · right; omega⟩

/-! ### Unspan -/
theorem unspan_take (P : List Pc) (k : Nat) (h : k < P.length) : unspanL (P.take (k + 1)) = unspanL (P.take k) ++ pcTxt P[k] := by
  unfold unspanL
  rw [List.take_succ_eq_append_getElem h, List.flatMap_append, List.flatMap_singleton]
theorem unspan_le (P : List Pc) (k : Nat) : (unspanL (P.take k)).length ≤ (unspanL P).length := by
  have := congrArg List.length (show unspanL P = unspanL (P.take k) ++ unspanL (P.drop k) from by unfold unspanL; rw [← List.flatMap_append, List.take_append_drop])
  rw [List.length_append] at this
  omega
def UnspRel (P : List Pc) (w : World) (i : Value) (wr : World) : Prop :=
  ∃ k : Nat, i = .int .i64 k ∧ k ≤ P.length ∧ Lib.IsBuilderF 62 5 w.heap.size w.heap.size (Lib.byteCells (unspanL (P.take k))) wr ∧ Below w.heap.size w wr ∧ w.heap.size < wr.heap.size
theorem cellsStr (l acc : Txt) : Lib.byteCells acc ++ Lib.strCells ⟨l.toArray⟩ = Lib.byteCells (acc ++ l) := by
  rw [Lib.byteCells_append]; rfl
theorem span_sum (lab txt : Txt) : (((((⟨#[123, 124]⟩ : ByteArray) ++ ⟨lab.toArray⟩) ++ ⟨#[58]⟩) ++ ⟨txt.toArray⟩) ++ ⟨#[124, 125]⟩ : ByteArray) = ⟨(spanTxt lab txt).toArray⟩ := by
  apply ByteArray.ext
  apply Array.ext'
  simp [spanTxt, spB, spE]

set_option maxHeartbeats 4000000 in
theorem unspan_any (A : Option Addr) (cap : Nat) (P : List Pc) (w : World) (hrow : PcAt w A cap P) (hlen : (unspanL P).length ≤ 70368744177664) :
    Calls Tryd.prog 19 #[.slice A P.length cap] w fun e w' => e = .returned (.string ⟨(unspanL P).toArray⟩) ∧ Below w.heap.size w w' := by
  have hl1 := hrow.le
  have hl2 := hrow.cap
  unfold maxLen at hl2
  go_enter Tryd.func19, Tryd.ntmps19
  go_wp2_with fail
  go_loopw [8] (fun i wr => UnspRel P w i wr) (fun i wr => P.length - (intOf i).toNat)
  case atStart =>
    refine ⟨0, rfl, Nat.zero_le _, Lib.IsBuilderF.of (Lib.fresh_isBuilder 62 5 w), (Below.refl _ w).alloc (Nat.le_refl _) _, (by show _ < (w.heap.push _).size; simp)⟩
  case round =>
    obtain ⟨k, rfl, hk, hI, hbw, hsz⟩ := hrel
    by_cases hp : k < P.length
    · have hrow2 := hrow.below hbw
      obtain ⟨b, off, rfl, hb, hc0, hc1, hc2⟩ := hrow2.at hp
      have HJ := Lib.hid (unspan_take P k hp)
      have h1 := unspan_le P k
      have h2 := unspan_le P (k + 1)
      rw [HJ.out, List.length_append] at h2
      have hI2 := hI.alloc (.cells (pcC P[k]).toArray 38)
      have hb2 := hbw.alloc (by omega) (.cells (pcC P[k]).toArray 38)
      have hs2 := alloc_size wr (.cells (pcC P[k]).toArray 38)
      have hws := Tryd.Builder_WriteString_k w.heap.size w.heap.size _ ⟨(pcTxt P[k]).toArray⟩ _ hI2 (by rw [str_size, Lib.byteCells_length]; omega) (by omega)
      rw [cellsStr] at hws
      have hpt : pcTxt P[k] = if P[k].sp then spanTxt P[k].lab P[k].txt else P[k].txt := rfl
      have hsl := spanTxt_len P[k].lab P[k].txt
      unfold pcC at hws hb2 hs2
      generalize P[k] = p at *
      obtain ⟨sp, lab, txt⟩ := p
      simp only at *
      have HW := Lib.hid hws
      have HB := Lib.hid hb2
      clear hI hI2 hws hb2
      cases sp with
      | false =>
        rw [if_neg (by simp)] at hpt
        rw [hpt] at HW h2
        clear hsl
        go_wp2_with fail
        refine HW.out.mono ?_
        rintro e w1 ⟨rfl, g1, b1, k1⟩
        have hsz1 := b1.size
        have HG := Lib.hid g1
        clear g1
        go_wp2
        go_roundw
        case rel => exact ⟨k + 1, by go_num, by omega, by rw [HJ.out, hpt]; exact Or.inr HG.out, HB.out.trans b1, by omega⟩
        case measure => simp [intOf]; omega
      | true =>
        rw [if_pos rfl] at hpt
        rw [hpt, ← span_sum] at HW
        rw [hpt, hsl] at h2
        have z1 := str_size lab
        have z2 := str_size txt
        clear hsl
        go_wp2_with fail
        refine HW.out.mono ?_
        rintro e w1 ⟨rfl, g1, b1, k1⟩
        have hsz1 := b1.size
        have HG := Lib.hid g1
        clear g1
        go_wp2
        go_roundw
        case rel => exact ⟨k + 1, by go_num, by omega, by rw [HJ.out, hpt]; exact Or.inr HG.out, HB.out.trans b1, by omega⟩
        case measure => simp [intOf]; omega
    · obtain rfl : k = P.length := by omega
      rw [List.take_length] at hI
      go_wp2_with fail
      refine (Tryd.Builder_String_any_k w.heap.size w.heap.size _ _ hI (by omega)).mono ?_
      rintro e w1 ⟨rfl, _, b1, _⟩
      go_wp2
      go_ret
      exact ⟨rfl, hbw.trans b1⟩

end Go.Proofs.YtodnioihadpncaaDoor
