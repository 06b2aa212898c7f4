/-
  Package frame: pieces in memory; Unspan, addText: what they answer.
  Package frame: Spans: a list of its own, that holds the pieces of the line.
-/
import Derived.Test.YtkcmhdkhdjmjeaaGreatDoorSpnA
import Derived.Test.YtkcmhdkhdjmjeaaGreatDoorFrmM
import Derived.Deep.AppendLies
import Derived.Test.YtkcmhdkhdjmjeaaGreatDoorReg
namespace Go.Proofs.YtkcmhdkhdjmjeaaGreatDoor
open Go.RowKit
set_option linter.unusedSimpArgs false
set_option linter.unusedVariables false
set_option maxRecDepth 100000

def pcC (p : Pc) : List Value := [.bool p.sp, .string ⟨p.lab.toArray⟩, .string ⟨p.txt.toArray⟩]
def pcsC (P : List Pc) : List Value := P.flatMap pcC
theorem pcsC_length (P : List Pc) : (pcsC P).length = P.length * 3 := by
  induction P with
  | nil => rfl
  | cons p P ih =>
    have e : pcsC (p :: P) = pcC p ++ pcsC P := rfl
    rw [e, List.length_append, ih, List.length_cons]
    simp [pcC]; omega
theorem pcsC_append (a b : List Pc) : pcsC (a ++ b) = pcsC a ++ pcsC b := by simp [pcsC]
theorem pcsC_one (p : Pc) : pcsC [p] = pcC p := by simp [pcsC]
theorem pcsC_get : ∀ (P : List Pc) (k : Nat) (h : k < P.length) (j : Nat) (u : Value), (pcC P[k])[j]? = some u → (pcsC P)[k * 3 + j]? = some u
  | x :: X, 0, h, j, u, hu => by
    have e : pcsC (x :: X) = pcC x ++ pcsC X := rfl
    have hu' : (pcC x)[j]? = some u := hu
    have hj := (List.getElem?_eq_some_iff.1 hu').1
    rw [e, List.getElem?_append_left (by omega), Nat.zero_mul, Nat.zero_add]
    exact hu'
  | x :: X, k + 1, h, j, u, hu => by
    have e : pcsC (x :: X) = pcC x ++ pcsC X := rfl
    have hl : (pcC x).length = 3 := rfl
    have ih := pcsC_get X k (by simpa using h) j u (by simpa using hu)
    rw [e, List.getElem?_append_right (by omega), hl, show (k + 1) * 3 + j - 3 = k * 3 + j from by omega]
    exact ih
theorem pcC_one (p : Pc) : ∀ u ∈ pcC p, u.oneCell' = true := by
  intro u hu
  simp [pcC] at hu
  rcases hu with rfl | rfl | rfl <;> rfl
theorem infoPiece : (Tryz.prog.info? 76).map (fun i => (i.zero, i.size, i.bytes)) = some (some (.agg #[.bool false, .string ByteArray.empty, .string ByteArray.empty]), 3, 40) := by kernel_rfl

/-- Pieces that may be read. -/
structure PcAt (w : World) (A : Option Addr) (cap : Nat) (P : List Pc) : Prop where
  le : P.length ≤ cap
  cap : cap ≤ maxLen
  cells : P = [] ∨ ∃ b off, A = some ⟨b, off, none⟩ ∧ b < w.heap.size ∧ ∀ k (h : k < P.length) j u, (pcC P[k])[j]? = some u → w.cell? ⟨b, off + k * 3 + j, none⟩ = some u
theorem PcAt.below {w w' : World} {A : Option Addr} {cap : Nat} {P : List Pc} (h : PcAt w A cap P) (hb : Below w.heap.size w w') : PcAt w' A cap P := by
  refine ⟨h.le, h.cap, ?_⟩
  rcases h.cells with h1 | ⟨b, off, e, hlt, hc⟩
  · exact Or.inl h1
  · refine Or.inr ⟨b, off, e, Nat.lt_of_lt_of_le hlt hb.size, fun k hk j u hu => ?_⟩
    rw [hb.cell (p := ⟨b, off + k * 3 + j, none⟩) hlt]
    exact hc k hk j u hu
theorem PcAt.at {w : World} {A : Option Addr} {cap : Nat} {P : List Pc} (h : PcAt w A cap P) {k : Nat} (hk : k < P.length) :
    ∃ b off, A = some ⟨b, off, none⟩ ∧ b < w.heap.size ∧ w.cell? ⟨b, off + k * 3, none⟩ = some (.bool P[k].sp) ∧ w.cell? ⟨b, off + k * 3 + 1, none⟩ = some (.string ⟨P[k].lab.toArray⟩) ∧ w.cell? ⟨b, off + k * 3 + 2, none⟩ = some (.string ⟨P[k].txt.toArray⟩) := by
  rcases h.cells with h3 | ⟨b, off, e, hlt, hc⟩
  · rw [h3] at hk; simp at hk
  · exact ⟨b, off, e, hlt, hc k hk 0 _ rfl, hc k hk 1 _ rfl, hc k hk 2 _ rfl⟩
theorem PcAt.own {w : World} {B : Nat} {v : Value} {P : List Pc} (h : w.ownsRow B 76 3 v P.length (pcsC P)) : ∃ A cap, v = .slice A P.length cap ∧ PcAt w A cap P := by
  by_cases h0 : P.length = 0
  · obtain ⟨hl, hr⟩ := h
    have hx := List.eq_nil_of_length_eq_zero h0
    rcases hr with ⟨e1, _⟩ | ⟨g, cap, cur, e1, hb, hg, hnc, hcm, _⟩
    · exact ⟨none, 0, by rw [e1, h0], by omega, Nat.zero_le _, Or.inl hx⟩
    · exact ⟨_, cap, e1, hnc, hcm, Or.inl hx⟩
  · obtain ⟨g, cap, cur, e, hb, hlt, hnc, hcm, hg, hc⟩ := own_block h (by omega)
    exact ⟨_, cap, e, hnc, hcm, Or.inr ⟨g, 0, rfl, hlt, fun k hk j u hu => by rw [Nat.zero_add]; exact hc _ _ (pcsC_get P k hk j u hu)⟩⟩
theorem piece_cells (w : World) (p : Pc) (t : TypeId) : ∀ (j : Nat) (u : Value), (pcC p)[j]? = some u → (w.alloc (.cells (pcC p).toArray t)).cell? ((⟨w.heap.size, 0, none⟩ : Addr).add j) = some u := by
  intro j u hj
  rw [addr_add, cell_of_row _ _ _ _ t (0, 0) (heap_alloc_new w _), Nat.zero_add]
  simpa using hj

theorem one_piece (w : World) (p : Pc) : PcAt (w.alloc (.cells (pcC p).toArray 76)) (some ⟨w.heap.size, 0, none⟩) 1 [p] := by
  refine ⟨Nat.le_refl _, by unfold maxLen; omega, Or.inr ⟨w.heap.size, 0, rfl, by rw [alloc_size]; omega, fun k hk j u hu => ?_⟩⟩
  have hk0 : k = 0 := by simp at hk; exact hk
  subst hk0
  have := piece_cells w p 76 j u hu
  rw [addr_add] at this
  simpa using this
/-- A row of the call's own is no iterator. -/
theorem own_notIter {w : World} {B : Nat} {e : TypeId} {size n : Nat} {v : Value} {xs : List Value} (h : w.ownsRow B e size v n xs) {k : Nat} {s : ByteArray} {pos : Nat} (hk : w.heap[k]? = some (.stringIter s pos)) : v.ownBlock ≠ some k := by
  rcases h.2 with ⟨rfl, _⟩ | ⟨g, cap, cur, rfl, _, hg, _⟩
  · simp [Value.ownBlock]
  · intro e1
    simp [Value.ownBlock] at e1
    subst e1
    rw [hg] at hk; cases hk

/-! ### addText -/
theorem grown_behind {w w1 w2 : World} {row : Option Nat} (h : Below w.heap.size w w1) (k : w1.grownBy w2 row) : w.grownBy w2 row :=
  ⟨k.os.trans h.os, k.tape.trans h.tape, k.output.trans h.output, Nat.le_trans h.size k.size, fun i hi hne => (k.block i (Nat.lt_of_lt_of_le hi h.size) hne).trans (h.block i hi)⟩
set_option maxHeartbeats 4000000 in
theorem addText_any (B : Nat) (v : Value) (P : List Pc) (s : ByteArray) (w : World) (hB : B ≤ w.heap.size) (h : w.ownsRow B 76 3 v P.length (pcsC P)) (hm : P.length ≤ 1000000) :
    Calls Tryz.prog 83 #[v, .string s] w fun e w' => ∃ v', e = .returned v' ∧ w'.ownsRow B 76 3 v' (addT P s.data.toList).length (pcsC (addT P s.data.toList)) ∧ w.grownBy w' v.ownBlock ∧ Below B w w' ∧ (∀ g, v'.ownBlock = some g → v.ownBlock = some g ∨ w.heap.size ≤ g) := by
  obtain ⟨i0, hi, hz0, hz1, hz2⟩ := info_parts infoPiece
  by_cases hs : s.size = 0
  · have he : s.data.toList = [] := List.eq_nil_of_length_eq_zero (by simpa using hs)
    have fe : (@BEq.beq (List UInt8) (@List.instBEq UInt8 (@instBEqOfDecidableEq UInt8 instDecidableEqUInt8)) s.toList []) = true := by rw [ByteArray.toList_eq, he]; rfl
    rw [show addT P s.data.toList = P from by unfold addT; rw [if_pos he]]
    clear he hs
    go_enter Tryz.func83, Tryz.ntmps83
    go_wp2
    go_ret
    exact ⟨_, rfl, h, ⟨rfl, rfl, rfl, Nat.le_refl _, fun _ _ _ => rfl⟩, Below.refl _ _, fun g hg => Or.inl hg⟩
  · have hne : s.data.toList ≠ [] := by
      intro e
      have h2 := congrArg List.length e
      have h3 : s.data.toList.length = s.size := by simp
      rw [h3, List.length_nil] at h2
      exact hs h2
    have fe : (@BEq.beq (List UInt8) (@List.instBEq UInt8 (@instBEqOfDecidableEq UInt8 instDecidableEqUInt8)) s.toList []) = false := by rw [ByteArray.toList_eq]; simpa using hne
    have hA : addT P s.data.toList = P ++ [⟨false, [], s.data.toList⟩] := by unfold addT; rw [if_neg hne]
    rw [hA]
    have h2 := h.alloc (.cells #[.bool false, .string ⟨#[]⟩, .string s] 76)
    have hn := piece_cells w ⟨false, [], s.data.toList⟩ 76
    have hmk : pcC ⟨false, [], s.data.toList⟩ = [.bool false, .string ⟨#[]⟩, .string s] := by
      unfold pcC; rw [show (⟨s.data.toList.toArray⟩ : ByteArray) = s from Lib.mk_data s]
    have HP := Lib.hid (show pcsC P ++ [.bool false, .string ⟨#[]⟩, .string s] = pcsC (P ++ [⟨false, [], s.data.toList⟩]) from by rw [pcsC_append, pcsC_one, hmk])
    rw [hmk] at hn
    have hone : ∀ u ∈ [Value.bool false, Value.string ⟨#[]⟩, Value.string s], u.oneCell' = true := by rw [← hmk]; exact pcC_one _
    clear hmk hA hne hs
    go_enter Tryz.func83, Tryz.ntmps83
    go_wp2_with (at_builtin; refine wpList_append_lies _ rfl _ _ 73 rfl B 76 i0 (.agg #[.bool false, .string ByteArray.empty, .string ByteArray.empty]) 3 40 Tryz.underlying73 hi hz0 hz1 hz2 rfl (by decide) _ _ _ rfl h2 ⟨w.heap.size, 0, none⟩ 1 1 [.bool false, .string ⟨#[]⟩, .string s] rfl rfl hn hone (by omega) (by unfold maxLen; omega) (by omega) (by simp; omega) (w.heap.size + 1) (by simp) ?_)
    intro g4 cap4 w2 hown hgrow hat _
    have HA := Lib.hid hat
    rw [HP.out] at hown
    have hs1 := alloc_size w (.cells #[.bool false, .string ⟨#[]⟩, .string s] 76)
    have b1 : Below w.heap.size w (w.alloc (.cells #[.bool false, .string ⟨#[]⟩, .string s] 76)) := (Below.refl _ w).alloc (Nat.le_refl _) _
    have HB := Lib.hid ((b1.mono hB).trans (below_of_grown (B := B) hgrow (fun g hg => (h2.lt g hg).1) (by omega)))
    have HG := Lib.hid (grown_behind b1 hgrow)
    have HO := Lib.hid hown
    clear hown hgrow b1 hat
    go_wp2
    go_ret
    exact ⟨_, rfl, by rw [List.length_append]; exact HO.out, HG.out, HB.out, fun g hg => by
      simp [Value.ownBlock] at hg
      subst hg
      rcases HA.out with h1 | h1
      · exact Or.inl h1
      · right; omega⟩

/-! ### Unspan -/
theorem unspan_take (P : List Pc) (k : Nat) (h : k < P.length) : unspanL (P.take (k + 1)) = unspanL (P.take k) ++ pcTxt P[k] := by
  unfold unspanL
  rw [List.take_succ_eq_append_getElem h, List.flatMap_append, List.flatMap_singleton]
theorem unspan_le (P : List Pc) (k : Nat) : (unspanL (P.take k)).length ≤ (unspanL P).length := by
  have := congrArg List.length (show unspanL P = unspanL (P.take k) ++ unspanL (P.drop k) from by unfold unspanL; rw [← List.flatMap_append, List.take_append_drop])
  rw [List.length_append] at this
  omega
def UnspRel (P : List Pc) (w : World) (i : Value) (wr : World) : Prop :=
  ∃ k : Nat, i = .int .i64 k ∧ k ≤ P.length ∧ Lib.IsBuilderF 115 5 w.heap.size w.heap.size (Lib.byteCells (unspanL (P.take k))) wr ∧ Below w.heap.size w wr ∧ w.heap.size < wr.heap.size
theorem cellsStr (l acc : Txt) : Lib.byteCells acc ++ Lib.strCells ⟨l.toArray⟩ = Lib.byteCells (acc ++ l) := by
  rw [Lib.byteCells_append]; rfl
theorem span_sum (lab txt : Txt) : (((((⟨#[123, 124]⟩ : ByteArray) ++ ⟨lab.toArray⟩) ++ ⟨#[58]⟩) ++ ⟨txt.toArray⟩) ++ ⟨#[124, 125]⟩ : ByteArray) = ⟨(spanTxt lab txt).toArray⟩ := by
  apply ByteArray.ext
  apply Array.ext'
  simp [spanTxt, spB, spE]

set_option maxHeartbeats 4000000 in
theorem unspan_any (A : Option Addr) (cap : Nat) (P : List Pc) (w : World) (hrow : PcAt w A cap P) (hlen : (unspanL P).length ≤ 70368744177664) :
    Calls Tryz.prog 40 #[.slice A P.length cap] w fun e w' => e = .returned (.string ⟨(unspanL P).toArray⟩) ∧ Below w.heap.size w w' := by
  have hl1 := hrow.le
  have hl2 := hrow.cap
  unfold maxLen at hl2
  go_enter Tryz.func40, Tryz.ntmps40
  go_wp2_with fail
  go_loopw [8] (fun i wr => UnspRel P w i wr) (fun i wr => P.length - (intOf i).toNat)
  case atStart =>
    refine ⟨0, rfl, Nat.zero_le _, Lib.IsBuilderF.of (Lib.fresh_isBuilder 115 5 w), (Below.refl _ w).alloc (Nat.le_refl _) _, (by show _ < (w.heap.push _).size; simp)⟩
  case round =>
    obtain ⟨k, rfl, hk, hI, hbw, hsz⟩ := hrel
    by_cases hp : k < P.length
    · have hrow2 := hrow.below hbw
      obtain ⟨b, off, rfl, hb, hc0, hc1, hc2⟩ := hrow2.at hp
      have HJ := Lib.hid (unspan_take P k hp)
      have h1 := unspan_le P k
      have h2 := unspan_le P (k + 1)
      rw [HJ.out, List.length_append] at h2
      have hI2 := hI.alloc (.cells (pcC P[k]).toArray 76)
      have hb2 := hbw.alloc (by omega) (.cells (pcC P[k]).toArray 76)
      have hs2 := alloc_size wr (.cells (pcC P[k]).toArray 76)
      have hws := Tryz.Builder_WriteString_k w.heap.size w.heap.size _ ⟨(pcTxt P[k]).toArray⟩ _ hI2 (by rw [str_size, Lib.byteCells_length]; omega) (by omega)
      rw [cellsStr] at hws
      have hpt : pcTxt P[k] = if P[k].sp then spanTxt P[k].lab P[k].txt else P[k].txt := rfl
      have hsl := spanTxt_len P[k].lab P[k].txt
      unfold pcC at hws hb2 hs2
      generalize P[k] = p at *
      obtain ⟨sp, lab, txt⟩ := p
      simp only at *
      have HW := Lib.hid hws
      have HB := Lib.hid hb2
      clear hI hI2 hws hb2
      cases sp with
      | false =>
        rw [if_neg (by simp)] at hpt
        rw [hpt] at HW h2
        clear hsl
        go_wp2_with fail
        refine HW.out.mono ?_
        rintro e w1 ⟨rfl, g1, b1, k1⟩
        have hsz1 := b1.size
        have HG := Lib.hid g1
        clear g1
        go_wp2
        go_roundw
        case rel => exact ⟨k + 1, by go_num, by omega, by rw [HJ.out, hpt]; exact Or.inr HG.out, HB.out.trans b1, by omega⟩
        case measure => simp [intOf]; omega
      | true =>
        rw [if_pos rfl] at hpt
        rw [hpt, ← span_sum] at HW
        rw [hpt, hsl] at h2
        have z1 := str_size lab
        have z2 := str_size txt
        clear hsl
        go_wp2_with fail
        refine HW.out.mono ?_
        rintro e w1 ⟨rfl, g1, b1, k1⟩
        have hsz1 := b1.size
        have HG := Lib.hid g1
        clear g1
        go_wp2
        go_roundw
        case rel => exact ⟨k + 1, by go_num, by omega, by rw [HJ.out, hpt]; exact Or.inr HG.out, HB.out.trans b1, by omega⟩
        case measure => simp [intOf]; omega
    · obtain rfl : k = P.length := by omega
      rw [List.take_length] at hI
      go_wp2_with fail
      refine (Tryz.Builder_String_any_k w.heap.size w.heap.size _ _ hI (by omega)).mono ?_
      rintro e w1 ⟨rfl, _, b1, _⟩
      go_wp2
      go_ret
      exact ⟨rfl, hbw.trans b1⟩

end Go.Proofs.YtkcmhdkhdjmjeaaGreatDoor

namespace Go.Proofs.YtkcmhdkhdjmjeaaGreatDoor
open Go.RowKit
set_option linter.unusedSimpArgs false
set_option linter.unusedVariables false
set_option maxRecDepth 100000

/-- One reads on at k; the pieces up to g are in P. -/
structure SpOk (s : ByteArray) (k g : Nat) (P : List Pc) : Prop where
  gs : g ≤ s.size
  pl : P.length ≤ g
  lo : g = 0 ∨ ∃ b : UInt8, s.data.toList[g - 1]? = some b ∧ b.toNat < 128
  eq : P ++ spansG ((s.data.toList.drop g).take (k - g)) (s.data.toList.drop (max g k)) = spansL s.data.toList
/-- The beginning of the line, up to its last sign of an end. -/
structure PreOk (s T : ByteArray) : Prop where
  le : T.size ≤ s.size
  get : ∀ j, j < T.size → T.data.toList[j]? = s.data.toList[j]?
  none : ∀ j, T.size ≤ j → Lib.occAt s.data.toList spE j = false
theorem pre_ok (s : ByteArray) : ∃ n : Nat, Lib.lastIndex s.data.toList spE + 1 = n ∧ n ≤ s.size ∧ PreOk s (s.extract 0 n) := by
  have hl : s.data.toList.length = s.size := by simp
  have past : ∀ j, s.size < j + 2 → Lib.occAt s.data.toList spE j = false := by
    intro j hj
    cases ho : Lib.occAt s.data.toList spE j with
    | false => rfl
    | true =>
      rcases Lib.occAt_room ho with h | h
      · rw [hl] at h; simp [spE] at h; omega
      · simp [spE] at h
  have mk : ∀ n : Nat, n ≤ s.size → (∀ j, n ≤ j → Lib.occAt s.data.toList spE j = false) → PreOk s (s.extract 0 n) := by
    intro n hn h
    have hz : (s.extract 0 n).size = n := by rw [ext_bytes, str_size]; simp; omega
    refine ⟨by rw [hz]; exact hn, fun j hj => ?_, fun j hj => h j (by rw [hz] at hj; exact hj)⟩
    rw [hz] at hj
    rw [ext_head s n hn, List.getElem?_take, if_pos hj]
  rcases lastIndex_cases s.data.toList spE with ⟨h1, h2⟩ | ⟨i, h1, h2, h3, h4⟩
  · refine ⟨0, by omega, Nat.zero_le _, mk 0 (Nat.zero_le _) fun j _ => ?_⟩
    by_cases hj : j + 2 ≤ s.size
    · exact h2 j (by rw [hl]; exact hj)
    · exact past j (by omega)
  · rw [hl] at h2
    have e2 : spE.length = 2 := rfl
    rw [e2] at h2
    refine ⟨i + 1, by omega, by omega, mk (i + 1) (by omega) fun j hj => ?_⟩
    by_cases hj2 : j + 2 ≤ s.size
    · exact h4 j (by omega) (by rw [hl, e2]; exact hj2)
    · exact past j (by omega)
theorem PreOk.byte {s T : ByteArray} (h : PreOk s T) (k : Nat) (hk : k < T.size) : ∃ hs : k < s.size, T[k] = s[k] := by
  have hs : k < s.size := Nat.lt_of_lt_of_le hk h.le
  refine ⟨hs, ?_⟩
  have := h.get k hk
  rw [List.getElem?_eq_getElem (by simpa using hk), List.getElem?_eq_getElem (by simpa using hs)] at this
  exact Option.some.inj this

/-- A rune ahead of g does not go beyond it. -/
theorem SpOk.skip {s T : ByteArray} {k g : Nat} {P : List Pc} (h : SpOk s k g P) (hT : PreOk s T) (hk : k < T.size) (hg : k < g) : SpOk s (k + (Utf8.decode T k).2) g P := by
  have hd := decode_tail T k hk
  have hle : k + (Utf8.decode T k).2 ≤ g := by
    by_cases hx : k + (Utf8.decode T k).2 ≤ g
    · exact hx
    · exfalso
      rcases h.lo with h0 | ⟨b, hb, hb2⟩
      · omega
      · have hg1 : g - 1 < T.size := by omega
        rw [← hT.get (g - 1) hg1, List.getElem?_eq_getElem (by simpa using hg1)] at hb
        have hb3 := Option.some.inj hb
        by_cases e : g - 1 = k
        · have ha : T[k].toNat < 128 := by
            have : T[k] = b := by
              rw [← hb3]; simp only [e]; rfl
            rw [this]; exact hb2
          rw [decode_ascii T k hk ha] at hx
          simp at hx; omega
        · have := hd.2 (g - 1 - k) (by omega) (by omega)
          rw [show k + (g - 1 - k) = g - 1 from by omega, get!_list T (g - 1) hg1, hb3] at this
          omega
  refine ⟨h.gs, h.pl, h.lo, ?_⟩
  have he := h.eq
  rw [show k - g = 0 from by omega, show max g k = g from by omega] at he
  rw [show k + (Utf8.decode T k).2 - g = 0 from by omega, show max g (k + (Utf8.decode T k).2) = g from by omega]
  exact he
theorem take_grow (l : Txt) (g k d : Nat) (hg : g ≤ k) : (l.drop g).take (k - g) ++ (l.drop k).take d = (l.drop g).take (k + d - g) := by
  have e : l.drop k = (l.drop g).drop (k - g) := by rw [List.drop_drop]; congr 1; omega
  rw [e, show k + d - g = (k - g) + d from by omega, List.take_add]
/-- A rune that begins no span. -/
theorem SpOk.text {s T : ByteArray} {k g : Nat} {P : List Pc} (h : SpOk s k g P) (hT : PreOk s T) (hk : k < T.size) (hg : g ≤ k) (hr : (Utf8.decode T k).1 ≠ 123) : SpOk s (k + (Utf8.decode T k).2) g P := by
  have hd := decode_tail T k hk
  refine ⟨h.gs, h.pl, h.lo, ?_⟩
  have he := h.eq
  rw [show max g k = k from by omega] at he
  rw [show max g (k + (Utf8.decode T k).2) = k + (Utf8.decode T k).2 from by omega, ← he]
  have hno : ∀ b ∈ (s.data.toList.drop k).take (Utf8.decode T k).2, b ≠ 123 := by
    intro b hb
    obtain ⟨j, hj, rfl⟩ := List.mem_iff_getElem.1 hb
    rw [List.length_take, List.length_drop] at hj
    rw [List.getElem_take, List.getElem_drop]
    have hjT : k + j < T.size := by omega
    have e1 : s.data.toList[k + j]'(by omega) = T[k + j] := by
      obtain ⟨_, e⟩ := hT.byte (k + j) hjT
      rw [e]; rfl
    rw [e1]
    by_cases hj0 : j = 0
    · subst hj0
      simp only [Nat.add_zero]
      by_cases ha : T[k].toNat < 128
      · rw [decode_ascii T k hk ha] at hr
        intro e
        try simp only [Nat.add_zero] at e
        rw [e] at hr
        exact hr rfl
      · intro e
        try simp only [Nat.add_zero] at e
        rw [e] at ha
        exact ha (by decide)
    · have := hd.2 j (by omega) (by omega)
      rw [get!_list T (k + j) hjT] at this
      intro e
      have e2 : T.data.toList[k + j]'(by simpa using hjT) = T[k + j] := rfl
      rw [e2, e] at this
      exact absurd this (by decide)
  have e2 : s.data.toList.drop k = (s.data.toList.drop k).take (Utf8.decode T k).2 ++ s.data.toList.drop (k + (Utf8.decode T k).2) := by rw [← List.drop_drop, List.take_append_drop]
  rw [e2, spansG_text _ _ _ hno, take_grow _ g k _ hg]
/-- A sign that begins no span. -/
theorem SpOk.none {s : ByteArray} {k g : Nat} {P : List Pc} (h : SpOk s k g P) (hk : k < s.size) (hg : g ≤ k) (hs : spanAtL (s.data.toList.drop k) = .none) : SpOk s (k + 1) g P := by
  refine ⟨h.gs, h.pl, h.lo, ?_⟩
  have he := h.eq
  rw [show max g k = k from by omega] at he
  rw [show max g (k + 1) = k + 1 from by omega, ← he]
  rw [get_list s k hk] at hs ⊢
  rw [spansG_none hs]
  congr 2
  have e := take_grow s.data.toList g k 1 hg
  rw [get_list s k hk] at e
  exact e.symm
/-- A span. -/
theorem SpOk.some {s : ByteArray} {k g : Nat} {P : List Pc} {lab txt : Txt} (h : SpOk s k g P) (hk : k < s.size) (hg : g ≤ k) (hs : spanAtL (s.data.toList.drop k) = .some (lab, txt)) :
    SpOk s (k + 1) (k + (lab.length + txt.length + 5)) (addT P ((s.data.toList.drop g).take (k - g)) ++ [⟨true, lab, txt⟩]) := by
  have hl : s.data.toList.length = s.size := by simp
  obtain ⟨rest, e⟩ := spanAt_some hs
  have hlen := congrArg List.length e
  rw [List.length_append, spanTxt_len, List.length_drop, hl] at hlen
  refine ⟨by omega, ?_, Or.inr ⟨125, ?_, by decide⟩, ?_⟩
  · have := h.pl
    rw [List.length_append]
    have h2 : (addT P ((s.data.toList.drop g).take (k - g))).length ≤ P.length + 1 := by unfold addT; split <;> simp
    simp; omega
  · have h3 : (s.data.toList.drop k)[lab.length + txt.length + 4]? = Option.some 125 := by
      rw [e, List.getElem?_append_left (by rw [spanTxt_len]; omega)]
      unfold spanTxt
      rw [List.getElem?_append_right (by simp [spB]; omega)]
      have : lab.length + txt.length + 4 - (spB ++ lab ++ [58] ++ txt).length = 1 := by simp [spB]; omega
      rw [this]; rfl
    rw [List.getElem?_drop] at h3
    rw [show k + (lab.length + txt.length + 5) - 1 = k + (lab.length + txt.length + 4) from by omega]
    exact h3
  · have he := h.eq
    rw [show max g k = k from by omega, spansG_some hs] at he
    rw [show k + 1 - (k + (lab.length + txt.length + 5)) = 0 from by omega, show max (k + (lab.length + txt.length + 5)) (k + 1) = k + (lab.length + txt.length + 5) from by omega, List.take_zero, ← List.drop_drop, ← he]
    have e2 := addT_app P [] ((s.data.toList.drop g).take (k - g))
    rw [List.append_nil] at e2
    rw [e2]
    simp
/-- Behind the last end. -/
theorem SpOk.done {s T : ByteArray} {k g : Nat} {P : List Pc} (h : SpOk s k g P) (hT : PreOk s T) (hk : ¬ k < T.size) : addT P (s.data.toList.drop g) = spansL s.data.toList := by
  rw [← h.eq, spansG_noEnd]
  · have e2 := addT_app P [] (s.data.toList.drop g)
    rw [List.append_nil] at e2
    rw [e2]
    congr 2
    by_cases hg : g ≤ k
    · rw [show max g k = k from by omega]
      have := List.take_append_drop (k - g) (s.data.toList.drop g)
      rw [List.drop_drop, show g + (k - g) = k from by omega] at this
      exact this.symm
    · rw [show max g k = g from by omega, show k - g = 0 from by omega]; simp
  · intro j
    have := hT.none (max g k + j) (by omega)
    unfold Lib.occAt at this ⊢
    rw [List.drop_drop]
    exact this

def SpRel (s T : ByteArray) (w : World) (I : Nat) (v b : Value) (wr : World) : Prop :=
  ∃ (k g : Nat) (P : List Pc), b = .int .i64 g ∧ k ≤ T.size ∧ wr.heap[I]? = some (.stringIter T k) ∧ Below w.heap.size w wr ∧ w.heap.size < wr.heap.size ∧ wr.ownsRow w.heap.size 76 3 v P.length (pcsC P) ∧ SpOk s k g P

set_option maxHeartbeats 8000000 in
theorem spans_any (s : ByteArray) (w : World) (hs : s.size ≤ 100000) (hml : MaxL w) :
    Calls Tryz.prog 39 #[.string s] w fun e w' => ∃ v, e = .returned v ∧ w'.ownsRow w.heap.size 76 3 v (spansL s.data.toList).length (pcsC (spansL s.data.toList)) ∧ Below w.heap.size w w' := by
  obtain ⟨i0, hi, hz0, hz1, hz2⟩ := info_parts infoPiece
  obtain ⟨n, hn, hns, hT⟩ := pre_ok s
  have cl := Tryz.strings_LastIndex s ⟨#[124, 125]⟩ (by omega) w
  rw [show (⟨#[124, 125]⟩ : ByteArray).data.toList = spE from rfl] at cl
  have hli : Lib.lastIndex s.data.toList spE = (n : Int) - 1 := by omega
  rw [hli] at cl
  have hTs := hT.le
  generalize hTT : s.extract 0 n = T at *
  have HT := Lib.hid hT
  have HTT := Lib.hid hTT
  clear hn hli hT hTT
  go_enter Tryz.func39, Tryz.ntmps39
  go_wp2_with fail
  refine cl.mono ?_
  rintro e w1 ⟨rfl, rfl⟩
  go_wp2_with fail
  rw [HTT.out]
  have hW := Lib.hid (rfl : w1 = w1)
  go_loopw [3, 4] (fun v b wr => SpRel s T w1 w1.heap.size v b wr) (fun _ _ wr => T.size - wr.iterPos w1.heap.size)
  case atStart =>
    exact ⟨0, 0, [], rfl, Nat.zero_le _, World.iter_heap w1 T 0, (Below.refl _ w1).alloc (Nat.le_refl _) _, (by show _ < (w1.heap.push _).size; simp), World.ownsRow_nil _ _ _ _, ⟨Nat.zero_le _, Nat.le_refl _, Or.inl rfl, by simp [spansL]⟩⟩
  case round =>
    obtain ⟨k, g, P, rfl, hk, hit, hbw, hsz, hown, hS⟩ := hrel
    have hgs := hS.gs
    have hpl := hS.pl
    have HS := Lib.hid hS
    clear hS
    by_cases hp : k < T.size
    · have hnx : ∀ ty, (Instr.next (.pointer (some ⟨w1.heap.size, 0, none⟩)) true ty).run Tryz.prog wr = _ := fun ty => Lib.run_next_any_at wr w1.heap.size T k ty hit hp
      have hit2 := Lib.iterAt_heap wr w1.heap.size T k (k + (Utf8.decode T k).2) hit
      have hbw2 := Lib.below_iterAt hbw (k := w1.heap.size) (by omega) T (k + (Utf8.decode T k).2)
      have hown2 := ownsRow_iterAt hown hit (k + (Utf8.decode T k).2)
      have hsz2 : w1.heap.size < (wr.iterAt w1.heap.size T (k + (Utf8.decode T k).2)).heap.size := by rw [Lib.iterAt_size]; exact hsz
      have hwd := (decode_tail T k hp).1
      have hd0 := decode_pos T k hp
      have Hit := Lib.hid hit
      clear hit hbw hown
      by_cases hr : (Utf8.decode T k).1 = 123
      · by_cases hg : k < g
        · have f1 : (((Utf8.decode T k).1 : Int) != 123) = false := by rw [hr]; rfl
          have f2 : decide ((k : Int) < g) = true := by simp; omega
          have HF := Lib.hid (HS.out.skip HT.out hp hg)
          clear hr
          go_wp2
          go_roundw
          case rel => exact ⟨k + (Utf8.decode T k).2, g, P, rfl, hwd, hit2, hbw2, hsz2, hown2, HF.out⟩
          case measure => simp only [World.iterPos, hit2, Hit.out]; omega
        · have f1 : (((Utf8.decode T k).1 : Int) != 123) = false := by rw [hr]; rfl
          have f2 : decide ((k : Int) < g) = false := by simp; omega
          obtain ⟨hks, hTk⟩ := HT.out.byte k hp
          have hdd : Utf8.decode T k = (T[k].toNat, 1) := by
            by_cases ha : T[k].toNat < 128
            · exact decode_ascii T k hp ha
            · have := (decode_high T k hp (by omega)).1; omega
          have hm2 := hml.below hbw2
          have cs := fun w2 hm => spanAt_any (s.extract k s.size) w2 (by have := ext_size_le s k s.size; omega) hm
          rw [ext_tail] at cs
          rw [hdd] at f1 hnx hit2 hbw2 hown2 hsz2 hm2
          simp only at f1 hnx hit2 hbw2 hown2 hsz2 hm2
          generalize hwv : wr.iterAt w1.heap.size T (k + 1) = wi at *
          have HWV := Lib.hid hwv
          clear hdd hr hwv hwd hd0 hTk
          cases hx : spanAtL (s.data.toList.drop k) with
          | none =>
            rw [hx] at cs
            unfold spanV at cs
            dsimp only at cs
            have HF := Lib.hid (HS.out.none hks (by omega) hx)
            clear hx
            go_wp2_with fail
            refine (cs _ hm2).mono ?_
            rintro e w2 ⟨rfl, b2⟩
            have hit3 := (b2.block w1.heap.size (by omega)).trans hit2
            have hbw3 := hbw2.then b2
            have hown3 := ownsRow_below hown2 b2
            have hs2 := b2.size
            go_wp2
            go_roundw
            case rel => exact ⟨k + 1, g, P, rfl, by omega, iter_alloc hit3 _, hbw3.alloc (by omega) _, (by rw [alloc_size]; omega), hown3.alloc _, HF.out⟩
            case measure => simp only [World.iterPos, iter_alloc hit3, Hit.out]; omega
          | some q =>
            obtain ⟨lab, txt⟩ := q
            rw [hx] at cs
            unfold spanV at cs
            dsimp only at cs
            have hlenq := (HS.out.some hks (by omega) hx)
            have hl5 := hlenq.gs
            have HF := Lib.hid hlenq
            have hU1 := str_size (spanTxt lab txt)
            rw [spanTxt_len] at hU1
            have HU1 := Lib.hid (show unspanL [⟨true, lab, txt⟩] = spanTxt lab txt from by simp [unspanL, pcTxt])
            have hP' := pcsC_append (addT P ((s.data.toList.drop g).take (k - g))) [⟨true, lab, txt⟩]
            rw [pcsC_one] at hP'
            have HP := Lib.hid (show pcsC (addT P ((s.data.toList.drop g).take (k - g))) ++ [Value.bool true, Value.string ⟨lab.toArray⟩, Value.string ⟨txt.toArray⟩] = pcsC (addT P ((s.data.toList.drop g).take (k - g)) ++ [⟨true, lab, txt⟩]) from hP'.symm)
            have hal : (addT P ((s.data.toList.drop g).take (k - g))).length ≤ P.length + 1 := by unfold addT; split <;> simp
            have ca := fun w9 hB h => addText_any w1.heap.size u3 P (s.extract g k) w9 hB h (by omega)
            rw [show (s.extract g k).data.toList = (s.data.toList.drop g).take (k - g) from by rw [ext_bytes]] at ca
            have HPL := Lib.hid (show (addT P ((s.data.toList.drop g).take (k - g)) ++ [(⟨true, lab, txt⟩ : Pc)]).length = (addT P ((s.data.toList.drop g).take (k - g))).length + 1 from by simp)
            generalize hQ : addT P ((s.data.toList.drop g).take (k - g)) = Q at *
            have CA := Lib.hid ca
            clear hx hlenq hP' ca hQ
            go_wp2_with fail
            refine (cs _ hm2).mono ?_
            rintro e w2 ⟨rfl, b2⟩
            have hit3 := (b2.block w1.heap.size (by omega)).trans hit2
            have hbw3 := hbw2.then b2
            have hown3 := ownsRow_below hown2 b2
            have hs2 := b2.size
            go_wp2_with fail
            refine wp_region_N (fun W => W.cell? ⟨w2.heap.size, 0, none⟩ = some (.bool true) ∧ W.cell? ⟨w2.heap.size, 1, none⟩ = some (.string ⟨lab.toArray⟩) ∧ W.cell? ⟨w2.heap.size, 2, none⟩ = some (.string ⟨txt.toArray⟩)) (fun j => decide (j < 8)) (by kernel_rfl) ?_
            have hbx : (w2.alloc (.cells #[.bool true, .string ⟨lab.toArray⟩, .string ⟨txt.toArray⟩] 76)).drew.heap[w2.heap.size]? = _ := heap_alloc_new w2 (.cells #[.bool true, .string ⟨lab.toArray⟩, .string ⟨txt.toArray⟩] 76)
            have hitb : (w2.alloc (.cells #[.bool true, .string ⟨lab.toArray⟩, .string ⟨txt.toArray⟩] 76)).drew.heap[w1.heap.size]? = _ := iter_alloc hit3 (.cells #[.bool true, .string ⟨lab.toArray⟩, .string ⟨txt.toArray⟩] 76)
            have hob : (w2.alloc (.cells #[.bool true, .string ⟨lab.toArray⟩, .string ⟨txt.toArray⟩] 76)).drew.ownsRow w1.heap.size 76 3 u3 P.length (pcsC P) := own_heap (w := w2.alloc (.cells #[.bool true, .string ⟨lab.toArray⟩, .string ⟨txt.toArray⟩] 76)) rfl (hown3.alloc (.cells #[.bool true, .string ⟨lab.toArray⟩, .string ⟨txt.toArray⟩] 76))
            have hbwb := (hbw3.alloc (by omega) (.cells #[.bool true, .string ⟨lab.toArray⟩, .string ⟨txt.toArray⟩] 76)).drew
            have hsb : (w2.alloc (.cells #[.bool true, .string ⟨lab.toArray⟩, .string ⟨txt.toArray⟩] 76)).drew.heap.size = w2.heap.size + 1 := alloc_size w2 (.cells #[.bool true, .string ⟨lab.toArray⟩, .string ⟨txt.toArray⟩] 76)
            generalize (w2.alloc (.cells #[.bool true, .string ⟨lab.toArray⟩, .string ⟨txt.toArray⟩] 76)).drew = wd at *
            have hS0 := box3_cells hbx
            have HNB := Lib.hid (show u3.ownBlock ≠ some w2.heap.size from fun e => by have := (hown3.lt _ e).2; omega)
            have HNI := Lib.hid (own_notIter hob hitb)
            have hsl : ∀ W, (Instr.slice 9 (.string s) (some (.int .i64 g)) (some (.int .i64 k)) none).run Tryz.prog W = .ok (.string (s.extract g k)) W := by
              intro W
              have := run_slice_string (P := Tryz.prog) W 9 s .i64 .i64 (g : Int) (k : Int) Tryz.underlying9 (by omega) (by omega) (by omega)
              simpa using this
            refine wpAnyN_take_at 0 34 (v := ?_) rfl rfl (by kernel_rfl) (by kernel_rfl) (by kernel_rfl) (by kernel_rfl) (by kernel_rfl) (fun _ _ _ h => h) (by rfl) ?_ hS0 ?_
            rotate_left
            · intro w hSw; (try dsimp only at hSw); go_simp; (try with_reducible rfl)
            simp only [Act.put, List.setIfInBounds_toArray, List.set_cons_zero, List.set_cons_succ]
            refine wpAnyN_take_at 1 35 (v := ?_) rfl rfl (by kernel_rfl) (by kernel_rfl) (by kernel_rfl) (by kernel_rfl) (by kernel_rfl) (fun _ _ _ h => h) (by rfl) ?_ hS0 ?_
            rotate_left
            · intro w hSw; (try dsimp only at hSw); go_simp; (try with_reducible rfl)
            simp only [Act.put, List.setIfInBounds_toArray, List.set_cons_zero, List.set_cons_succ]
            refine wpAnyN_take_at 2 36 (v := ?_) rfl rfl (by kernel_rfl) (by kernel_rfl) (by kernel_rfl) (by kernel_rfl) (by kernel_rfl) (fun _ _ _ h => h) (by rfl) ?_ hS0 ?_
            rotate_left
            · intro w hSw; (try dsimp only at hSw); go_simp; (try with_reducible rfl)
            simp only [Act.put, List.setIfInBounds_toArray, List.set_cons_zero, List.set_cons_succ]
            refine wpAnyN_take_at 3 37 (v := ?_) rfl rfl (by kernel_rfl) (by kernel_rfl) (by kernel_rfl) (by kernel_rfl) (by kernel_rfl) (fun _ _ _ h => h) (by rfl) ?_ hS0 ?_
            rotate_left
            · intro w hSw; (try dsimp only at hSw); go_simp; (try with_reducible rfl)
            simp only [Act.put, List.setIfInBounds_toArray, List.set_cons_zero, List.set_cons_succ]
            refine wpAnyN_take_at 4 38 (v := ?_) rfl rfl (by kernel_rfl) (by kernel_rfl) (by kernel_rfl) (by kernel_rfl) (by kernel_rfl) (fun _ _ _ h => h) (by rfl) ?_ hS0 ?_
            rotate_left
            · intro w hSw; (try dsimp only at hSw); go_simp; (try with_reducible rfl)
            simp only [Act.put, List.setIfInBounds_toArray, List.set_cons_zero, List.set_cons_succ]
            clear hsl
            refine wpAnyN_take_at 6 40 (v := ?_) rfl rfl (by kernel_rfl) (by kernel_rfl) (by kernel_rfl) (by kernel_rfl) (by kernel_rfl) (fun _ _ _ h => h) (by rfl) ?_ hS0 ?_
            rotate_left
            · intro w hSw; (try dsimp only at hSw); go_simp; (try with_reducible rfl)
            simp only [Act.put, List.setIfInBounds_toArray, List.set_cons_zero, List.set_cons_succ]
            refine wpAnyN_two (i := 5) (j := 7) rfl rfl (by kernel_rfl) (fun K hK => ?_) (fun K hK => ?_)
            · go_simp
              refine (CA.out wd (by omega) hob).mono ?_
              rintro e w4 ⟨v4, rfl, ho4, hg4, hb4, hat4⟩
              have hs4 := hg4.size
              have hbx4 := (hg4.block w2.heap.size (by omega) (fun e => HNB.out e.symm)).trans hbx
              have hit4 := (hg4.block w1.heap.size (by omega) (fun e => HNI.out e.symm)).trans hitb
              have hc4 := box3_cells hbx4
              have hbw4 := hbwb.trans hb4
              have HN4 := Lib.hid (own_notIter ho4 hit4)
              have HB4 := Lib.hid (show v4.ownBlock ≠ some w2.heap.size from fun e => by
                rcases hat4 _ e with h | h
                · exact HNB.out h
                · omega)
              refine hK _ _ (fun _ => hc4) ?_
              clear hK hg4 hb4 hat4
              refine wpAnyN_one (i := 7) rfl (by kernel_rfl) (fun K hK => ?_)
              go_simp
              have hbx5 : (w4.alloc (.cells #[.bool true, .string ⟨lab.toArray⟩, .string ⟨txt.toArray⟩] 76)).heap[w2.heap.size]? = _ := (Below.heap_alloc w4 _ _ (by omega)).trans hbx4
              refine hK _ _ (fun _ => box3_cells hbx5) ?_
              clear hK
              refine wpAnyN_rest 8 [_, _] rfl (by kernel_rfl) (by kernel_rfl) ?_
              have ho4' := ho4.alloc (.cells #[.bool true, .string ⟨lab.toArray⟩, .string ⟨txt.toArray⟩] 76)
              have hn4 := piece_cells w4 ⟨true, lab, txt⟩ 76
              have hs5 := alloc_size w4 (.cells #[.bool true, .string ⟨lab.toArray⟩, .string ⟨txt.toArray⟩] 76)
              clear hS0 hc4
              go_wp2_with (at_builtin; refine wpList_append_own _ rfl _ _ 73 rfl w1.heap.size 76 i0 (.agg #[.bool false, .string ByteArray.empty, .string ByteArray.empty]) 3 40 Tryz.underlying73 hi hz0 hz1 hz2 rfl (by decide) _ _ _ rfl ho4' ⟨w4.heap.size, 0, none⟩ 1 1 [.bool true, .string ⟨lab.toArray⟩, .string ⟨txt.toArray⟩] rfl rfl hn4 (pcC_one ⟨true, lab, txt⟩) (by unfold maxLen; omega) (by omega) (by simp; omega) ?_)
              intro v7 w7 hown' hgrow _
              rw [HP.out] at hown'
              have hs7 := hgrow.size
              have hit6 := (hgrow.block w1.heap.size (by omega) (fun e => HN4.out e.symm)).trans (iter_alloc hit4 _)
              have hbox := box3_cells ((hgrow.block w2.heap.size (by omega) (fun e => HB4.out e.symm)).trans hbx5)
              have hbw7 := (hbw4.alloc (by omega) (.cells #[.bool true, .string ⟨lab.toArray⟩, .string ⟨txt.toArray⟩] 76)).trans (below_of_grown (B := w1.heap.size) hgrow (fun g hg => (ho4'.lt g hg).1) (by omega))
              clear ho4' hn4 ho4 hbx5 hbx4
              have HR := Lib.hid hown'
              have HBW := Lib.hid hbw7
              obtain ⟨hb7c0, hb7c1, hb7c2⟩ := hbox
              clear hown' hgrow hbw7
              have cu := unspan_any (some ⟨w7.heap.size, 0, none⟩) 1 [⟨true, lab, txt⟩] (w7.alloc (.cells #[.bool true, .string ⟨lab.toArray⟩, .string ⟨txt.toArray⟩] 76)) (one_piece w7 ⟨true, lab, txt⟩) (by rw [HU1.out, spanTxt_len]; omega)
              rw [HU1.out] at cu
              have CU := Lib.hid cu
              clear cu
              go_wp2_with fail
              refine CU.out.mono ?_
              rintro e w8 ⟨rfl, b8⟩
              have hs9 := alloc_size w7 (.cells #[.bool true, .string ⟨lab.toArray⟩, .string ⟨txt.toArray⟩] 76)
              have hit8 := (b8.block w1.heap.size (by omega)).trans (iter_alloc hit6 _)
              have ho8 := ownsRow_below (HR.out.alloc (.cells #[.bool true, .string ⟨lab.toArray⟩, .string ⟨txt.toArray⟩] 76)) b8
              have hbw8 := (HBW.out.alloc (by omega) (.cells #[.bool true, .string ⟨lab.toArray⟩, .string ⟨txt.toArray⟩] 76)).trans (b8.mono (by omega))
              have hs8 := b8.size
              have HO8 := Lib.hid ho8
              clear ho8 b8
              go_wp2
              go_roundw
              case rel => exact ⟨k + 1, k + (lab.length + txt.length + 5), _, by go_num, by omega, hit8, hbw8, by omega, by rw [HPL.out]; exact HO8.out, HF.out⟩
              case measure => simp only [World.iterPos, hit8, Hit.out]; omega
            · go_simp
              have hbx5 : (wd.alloc (.cells #[.bool true, .string ⟨lab.toArray⟩, .string ⟨txt.toArray⟩] 76)).heap[w2.heap.size]? = _ := (Below.heap_alloc wd _ _ (by omega)).trans hbx
              have hit5 := iter_alloc hitb (.cells #[.bool true, .string ⟨lab.toArray⟩, .string ⟨txt.toArray⟩] 76)
              have hob5 := hob.alloc (.cells #[.bool true, .string ⟨lab.toArray⟩, .string ⟨txt.toArray⟩] 76)
              have hnew5 := heap_alloc_new wd (.cells #[.bool true, .string ⟨lab.toArray⟩, .string ⟨txt.toArray⟩] 76)
              have hs5 := alloc_size wd (.cells #[.bool true, .string ⟨lab.toArray⟩, .string ⟨txt.toArray⟩] 76)
              have hbw5 := hbwb.alloc (by omega) (.cells #[.bool true, .string ⟨lab.toArray⟩, .string ⟨txt.toArray⟩] 76)
              refine hK _ _ (fun _ => box3_cells hbx5) ?_
              clear hK
              have HX5 := Lib.hid (show u3.ownBlock ≠ some wd.heap.size from fun e => by have := (hob.lt _ e).2; omega)
              generalize wd.alloc (.cells #[.bool true, .string ⟨lab.toArray⟩, .string ⟨txt.toArray⟩] 76) = w5 at *
              refine wpAnyN_one (i := 5) rfl (by kernel_rfl) (fun K hK => ?_)
              go_simp
              refine (CA.out w5 (by omega) hob5).mono ?_
              rintro e w4 ⟨v4, rfl, ho4, hg4, hb4, hat4⟩
              have hs4 := hg4.size
              have hbx4 := (hg4.block w2.heap.size (by omega) (fun e => HNB.out e.symm)).trans hbx5
              have hit4 := (hg4.block w1.heap.size (by omega) (fun e => HNI.out e.symm)).trans hit5
              have hnew4 := (hg4.block wd.heap.size (by omega) (fun e => HX5.out e.symm)).trans hnew5
              have hc4 := box3_cells hbx4
              have hbw4 := hbw5.trans hb4
              have HN4 := Lib.hid (own_notIter ho4 hit4)
              have HB4 := Lib.hid (show v4.ownBlock ≠ some w2.heap.size from fun e => by
                rcases hat4 _ e with h | h
                · exact HNB.out h
                · omega)
              refine hK _ _ (fun _ => hc4) ?_
              clear hK hg4 hb4 hat4
              refine wpAnyN_rest 8 [_, _] rfl (by kernel_rfl) (by kernel_rfl) ?_
              have hn4 := World.news_of_block hnew4
              rw [hsb] at hn4
              clear hS0 hc4
              go_wp2_with (at_builtin; refine wpList_append_own _ rfl _ _ 73 rfl w1.heap.size 76 i0 (.agg #[.bool false, .string ByteArray.empty, .string ByteArray.empty]) 3 40 Tryz.underlying73 hi hz0 hz1 hz2 rfl (by decide) _ _ _ rfl ho4 ⟨w2.heap.size + 1, 0, none⟩ 1 1 [.bool true, .string ⟨lab.toArray⟩, .string ⟨txt.toArray⟩] rfl rfl hn4 (pcC_one ⟨true, lab, txt⟩) (by unfold maxLen; omega) (by omega) (by omega) ?_)
              intro v7 w7 hown' hgrow _
              rw [HP.out] at hown'
              have hs7 := hgrow.size
              have hit6 := (hgrow.block w1.heap.size (by omega) (fun e => HN4.out e.symm)).trans hit4
              have hbox := box3_cells ((hgrow.block w2.heap.size (by omega) (fun e => HB4.out e.symm)).trans hbx4)
              have hbw7 := hbw4.trans (below_of_grown (B := w1.heap.size) hgrow (fun g hg => (ho4.lt g hg).1) (by omega))
              clear hn4 ho4 hbx5 hbx4
              have HR := Lib.hid hown'
              have HBW := Lib.hid hbw7
              obtain ⟨hb7c0, hb7c1, hb7c2⟩ := hbox
              clear hown' hgrow hbw7
              have cu := unspan_any (some ⟨w7.heap.size, 0, none⟩) 1 [⟨true, lab, txt⟩] (w7.alloc (.cells #[.bool true, .string ⟨lab.toArray⟩, .string ⟨txt.toArray⟩] 76)) (one_piece w7 ⟨true, lab, txt⟩) (by rw [HU1.out, spanTxt_len]; omega)
              rw [HU1.out] at cu
              have CU := Lib.hid cu
              clear cu
              go_wp2_with fail
              refine CU.out.mono ?_
              rintro e w8 ⟨rfl, b8⟩
              have hs9 := alloc_size w7 (.cells #[.bool true, .string ⟨lab.toArray⟩, .string ⟨txt.toArray⟩] 76)
              have hit8 := (b8.block w1.heap.size (by omega)).trans (iter_alloc hit6 _)
              have ho8 := ownsRow_below (HR.out.alloc (.cells #[.bool true, .string ⟨lab.toArray⟩, .string ⟨txt.toArray⟩] 76)) b8
              have hbw8 := (HBW.out.alloc (by omega) (.cells #[.bool true, .string ⟨lab.toArray⟩, .string ⟨txt.toArray⟩] 76)).trans (b8.mono (by omega))
              have hs8 := b8.size
              have HO8 := Lib.hid ho8
              clear ho8 b8
              go_wp2
              go_roundw
              case rel => exact ⟨k + 1, k + (lab.length + txt.length + 5), _, by go_num, by omega, hit8, hbw8, by omega, by rw [HPL.out]; exact HO8.out, HF.out⟩
              case measure => simp only [World.iterPos, hit8, Hit.out]; omega
      · have f1 : (((Utf8.decode T k).1 : Int) != 123) = true := by simp; omega
        have HF := Lib.hid (show SpOk s (k + (Utf8.decode T k).2) g P from by
          by_cases hg : k < g
          · exact HS.out.skip HT.out hp hg
          · exact HS.out.text HT.out hp (by omega) hr)
        clear hr
        go_wp2
        go_roundw
        case rel => exact ⟨k + (Utf8.decode T k).2, g, P, rfl, hwd, hit2, hbw2, hsz2, hown2, HF.out⟩
        case measure => simp only [World.iterPos, hit2, Hit.out]; omega
    · have hnx : ∀ ty, (Instr.next (.pointer (some ⟨w1.heap.size, 0, none⟩)) true ty).run Tryz.prog wr = _ := fun ty => Lib.run_next_end_at wr w1.heap.size T k ty hit hp
      have ca := addText_any w1.heap.size _ P (s.extract g s.size) wr (by omega) hown (by omega)
      rw [ext_tail, HS.out.done HT.out hp] at ca
      have CA := Lib.hid ca
      clear ca hown
      go_wp2_with fail
      refine CA.out.mono ?_
      rintro e w2 ⟨v', rfl, ho2, _, b2, _⟩
      go_wp2
      go_ret
      exact ⟨v', rfl, ho2, hbw.trans b2⟩

end Go.Proofs.YtkcmhdkhdjmjeaaGreatDoor
