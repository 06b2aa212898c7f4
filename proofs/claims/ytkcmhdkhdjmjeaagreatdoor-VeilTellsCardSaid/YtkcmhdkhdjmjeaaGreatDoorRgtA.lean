/-
  Package frame: rightPart: which parts may be, wherever they stand: the closure that tells a wrong line, the library's search by it.
  Package frame: rightDepth, Right: which parts may be.
  Package frame: Write: the lines of parts that may be; nothing of parts that may not.
-/
import Derived.Test.YtkcmhdkhdjmjeaaGreatDoorFrmC
import Derived.Test.YtkcmhdkhdjmjeaaGreatDoorPla
import Derived.Deep.RegionHeld3
import Derived.Laws.AppendOwnNone
namespace Go.Proofs.YtkcmhdkhdjmjeaaGreatDoor
open Go.RowKit
set_option linter.unusedSimpArgs false
set_option linter.unusedVariables false
set_option maxRecDepth 100000

theorem wrong_any (s : ByteArray) (b : Nat) (d : Int) (w : World) (hs : s.size ≤ 140737488355328) (hb : b < w.heap.size) (hd : w.cell? ⟨b, 0, none⟩ = some (.int .i64 d)) :
    Calls Tryz.prog 115 #[.string s, .pointer (some ⟨b, 0, none⟩)] w fun e w' => e = .returned (.bool (!lineOk d s.data.toList)) ∧ Below w.heap.size w w' := by
  have co := opens_any s w hs
  have cc := fun w1 => closes_any s w1 hs
  have ch := fun w1 => hasEnd_any s w1
  unfold lineOk
  cases h1 : opensL s.data.toList with
  | some lab =>
    rw [h1] at co
    unfold optV at co
    dsimp only at co
    clear h1
    go_enter Tryz.func115, Tryz.ntmps115
    go_wp2_with fail
    refine co.mono ?_
    rintro e w1 ⟨rfl, b1⟩
    go_wp2
    go_ret
    exact ⟨ret_bool (by simp), b1⟩
  | none =>
    rw [h1] at co
    unfold optV at co
    dsimp only at co
    clear h1
    by_cases h0 : 0 < d
    · cases h2 : closesL s.data.toList with
      | true =>
        rw [h2] at cc
        clear h2
        go_enter Tryz.func115, Tryz.ntmps115
        go_wp2_with fail
        refine co.mono ?_
        rintro e w1 ⟨rfl, b1⟩
        have hd1 := (b1.cell (p := ⟨b, 0, none⟩) hb).trans hd
        go_wp2_with fail
        refine (cc _).mono ?_
        rintro e w2 ⟨rfl, rfl⟩
        go_wp2
        go_ret
        exact ⟨ret_bool (by simp [h0]), b1⟩
      | false =>
        rw [h2] at cc
        clear h2
        generalize lfFree s.data.toList = lf at *
        go_enter Tryz.func115, Tryz.ntmps115
        go_wp2_with fail
        refine co.mono ?_
        rintro e w1 ⟨rfl, b1⟩
        have hd1 := (b1.cell (p := ⟨b, 0, none⟩) hb).trans hd
        go_wp2_with fail
        refine (cc _).mono ?_
        rintro e w2 ⟨rfl, rfl⟩
        go_wp2_with fail
        refine (ch _).mono ?_
        rintro e w3 ⟨rfl, rfl⟩
        go_wp2
        go_ret
        exact ⟨ret_bool (by simp), b1⟩
    · have h9 : decide (0 < d) = false := decide_eq_false h0
      rw [h9]
      clear h9
      generalize lfFree s.data.toList = lf at *
      go_enter Tryz.func115, Tryz.ntmps115
      go_wp2_with fail
      refine co.mono ?_
      rintro e w1 ⟨rfl, b1⟩
      have hd1 := (b1.cell (p := ⟨b, 0, none⟩) hb).trans hd
      go_wp2_with fail
      refine (ch _).mono ?_
      rintro e w3 ⟨rfl, rfl⟩
      go_wp2
      go_ret
      exact ⟨ret_bool (by simp), b1⟩

/-- The search goes on: no line so far is wrong. -/
def IfRel (ls : List Txt) (d : Int) (w : World) (i : Value) (wr : World) : Prop := ∃ k : Nat, i = .int .i64 k ∧ k ≤ ls.length ∧ (ls.take k).all (lineOk d) = true ∧ Below w.heap.size w wr
def SearchEnd (w : World) (ok : Bool) (e : Ending) (w' : World) : Prop := ∃ i : Int, e = .returned (.int .i64 i) ∧ decide (0 ≤ i) = !ok ∧ Below w.heap.size w w'

set_option maxHeartbeats 2000000 in
theorem indexFunc_any (A : Option Addr) (c : Nat) (ls : List Txt) (b : Nat) (d : Int) (w : World) (hrow : RowOf w A c (strs ls)) (hz : ∀ y ∈ ls, y.length ≤ 140737488355328) (hb : b < w.heap.size) (hd : w.cell? ⟨b, 0, none⟩ = some (.int .i64 d)) :
    Calls Tryz.prog 125 #[.slice A ls.length c, .func (.func 115) #[] #[.pointer (some ⟨b, 0, none⟩)]] w (SearchEnd w (ls.all (lineOk d))) := by
  have hcl := hrow.1
  have hcm := hrow.2.1
  rw [strs_length] at hcl
  unfold maxLen at hcm
  have HZ := Lib.hid hz
  clear hz
  go_enter Tryz.func125, Tryz.ntmps125
  go_wp2_with fail
  go_loopw [8] (fun i wr => IfRel ls d w i wr) (fun i _ => ls.length - (intOf i).toNat)
  case atStart => exact ⟨0, rfl, Nat.zero_le _, by simp, Below.refl _ _⟩
  case round =>
    obtain ⟨k, rfl, hk, hall, hbw⟩ := hrel
    have HA := Lib.hid hall
    clear hall
    by_cases hp : k < ls.length
    · have hrow2 := hrow.below hbw
      obtain ⟨b0, off, rfl, hb0, hc⟩ := hrow2.cellAt hp
      have hsz := HZ.out ls[k] (List.getElem_mem hp)
      rw [← str_size] at hsz
      have cw := fun w1 h1 h2 => wrong_any ⟨ls[k].toArray⟩ b d w1 hsz h1 h2
      rw [show (⟨ls[k].toArray⟩ : ByteArray).data.toList = ls[k] from rfl] at cw
      have HT := Lib.hid (List.take_succ_eq_append_getElem hp)
      cases hl : lineOk d ls[k] with
      | false =>
        have HF := Lib.hid (show ls.all (lineOk d) = false from by
          rw [List.all_eq_false]
          exact ⟨ls[k], List.getElem_mem hp, by rw [hl]; simp⟩)
        rw [hl] at cw
        clear hl
        go_wp2_with fail
        refine (cw _ (Nat.lt_of_lt_of_le hb hbw.size) ((hbw.cell (p := ⟨b, 0, none⟩) hb).trans hd)).mono ?_
        rintro e w1 ⟨rfl, b1⟩
        go_wp2
        go_ret
        exact ⟨(k : Int), rfl, by rw [HF.out]; simp, hbw.then b1⟩
      | true =>
        have HF := Lib.hid hl
        rw [hl] at cw
        clear hl
        go_wp2_with fail
        refine (cw _ (Nat.lt_of_lt_of_le hb hbw.size) ((hbw.cell (p := ⟨b, 0, none⟩) hb).trans hd)).mono ?_
        rintro e w1 ⟨rfl, b1⟩
        go_wp2
        go_roundw
        case rel => exact ⟨k + 1, by go_num, by omega, by rw [HT.out, List.all_append, HA.out]; simp [HF.out], hbw.then b1⟩
        case measure => simp [intOf]; omega
    · obtain rfl : k = ls.length := by omega
      have HF := Lib.hid (show ls.all (lineOk d) = true from by have := HA.out; rwa [List.take_length] at this)
      go_wp2
      go_ret
      exact ⟨-1, rfl, by rw [HF.out]; rfl, hbw⟩

theorem containsFunc_any (A : Option Addr) (c : Nat) (ls : List Txt) (b : Nat) (d : Int) (w : World) (hrow : RowOf w A c (strs ls)) (hz : ∀ y ∈ ls, y.length ≤ 140737488355328) (hb : b < w.heap.size) (hd : w.cell? ⟨b, 0, none⟩ = some (.int .i64 d)) :
    Calls Tryz.prog 116 #[.slice A ls.length c, .func (.func 115) #[] #[.pointer (some ⟨b, 0, none⟩)]] w fun e w' => e = .returned (.bool (!ls.all (lineOk d))) ∧ Below w.heap.size w w' := by
  have c1 := indexFunc_any A c ls b d w hrow hz hb hd
  generalize ls.all (lineOk d) = ok at *
  go_enter Tryz.func116, Tryz.ntmps116
  go_wp2_with fail
  refine c1.mono ?_
  rintro e w1 ⟨i, rfl, hi, b1⟩
  go_wp2
  go_ret
  exact ⟨ret_bool (by rw [← hi]), b1⟩

/-- A part's block. -/
theorem box_cells (w : World) (x : Prt × Value) (t : TypeId) : (w.alloc (.cells (ptC x).toArray t)).cell? ⟨w.heap.size, 0, none⟩ = some (.int .i64 x.1.depth) ∧ (w.alloc (.cells (ptC x).toArray t)).cell? ⟨w.heap.size, 1, none⟩ = some (.bool x.1.dv) ∧
    (w.alloc (.cells (ptC x).toArray t)).cell? ⟨w.heap.size, 2, none⟩ = some (.string ⟨x.1.lab.toArray⟩) ∧ (w.alloc (.cells (ptC x).toArray t)).cell? ⟨w.heap.size, 3, none⟩ = some (.bool x.1.opn) ∧ (w.alloc (.cells (ptC x).toArray t)).cell? ⟨w.heap.size, 4, none⟩ = some x.2 := by
  have h := part_cells w x t
  simp only [addr_add, Nat.zero_add] at h
  exact ⟨h 0 _ rfl, h 1 _ rfl, h 2 _ rfl, h 3 _ rfl, h 4 _ rfl⟩

set_option maxHeartbeats 4000000 in
theorem rightPart_any (p : Prt) (A : Option Addr) (c : Nat) (w : World) (hrow : RowOf w A c (strs p.ls)) (hz : ∀ y ∈ p.ls, y.length ≤ 140737488355328) (hlab : p.lab.length ≤ 140737488355328) :
    Calls Tryz.prog 96 #[.agg #[.int .i64 p.depth, .bool p.dv, .string ⟨p.lab.toArray⟩, .bool p.opn, .slice A p.ls.length c]] w fun e w' => e = .returned (.bool (rightPart p)) ∧ Below w.heap.size w w' := by
  have hmf : ∀ (fn : Fn) (first cap : Array Value) (w : World), (Instr.makeFunc fn first cap).run Tryz.prog w = .ok (.func fn first cap) w := fun _ _ _ _ => rfl
  obtain ⟨d, dv, lab, opn, ls⟩ := p
  simp only at hrow hz hlab ⊢
  have b0 : Below w.heap.size w (w.alloc (.cells #[.int .i64 d, .bool dv, .string ⟨lab.toArray⟩, .bool opn, .slice A ls.length c] 94)) := (Below.refl _ w).alloc (Nat.le_refl _) _
  have hs0 := alloc_size w (.cells #[.int .i64 d, .bool dv, .string ⟨lab.toArray⟩, .bool opn, .slice A ls.length c] 94)
  obtain ⟨x0, x1, x2, x3, x4⟩ := box_cells w (⟨d, dv, lab, opn, ls⟩, .slice A ls.length c) 94
  simp only [show (ptC (⟨d, dv, lab, opn, ls⟩, .slice A ls.length c)).toArray = #[.int .i64 d, .bool dv, .string ⟨lab.toArray⟩, .bool opn, .slice A ls.length c] from rfl] at x0 x1 x2 x3 x4
  have hsz : (⟨lab.toArray⟩ : ByteArray).size ≤ 140737488355328 := by rw [str_size]; exact hlab
  have cl := fun w1 => isLabel_any ⟨lab.toArray⟩ w1 hsz
  have ch := fun w1 => hasEnd_any ⟨lab.toArray⟩ w1
  rw [show (⟨lab.toArray⟩ : ByteArray).data.toList = lab from rfl] at cl ch
  have cf := containsFunc_any A c ls w.heap.size d _ (hrow.alloc (.cells #[.int .i64 d, .bool dv, .string ⟨lab.toArray⟩, .bool opn, .slice A ls.length c] 94)) hz (by omega) x0
  unfold rightPart
  simp only
  have hE : ls.isEmpty = decide (ls.length = 0) := by cases ls <;> rfl
  rw [hE]
  clear hE hrow
  generalize ls.length = n at *
  cases dv with
  | true =>
    rw [if_pos rfl]
    by_cases hl : n = 0
    · have hl2 : decide (n = 0) = true := decide_eq_true hl
      have f0 : ((n : Int) == 0) = true := by rw [beq_iff_eq]; omega
      rw [hl2]
      clear hl2 hl
      cases h2 : isLab lab with
      | true =>
        rw [h2] at cl
        clear h2
        generalize lfFree lab = lf at *
        go_enter Tryz.func96, Tryz.ntmps96
        go_wp2_with fail
        refine (cl _).mono ?_
        rintro e w1 ⟨rfl, b1⟩
        have y2 := (b1.cell (p := ⟨w.heap.size, 2, none⟩) (by show w.heap.size < _; omega)).trans x2
        go_wp2_with fail
        refine (ch _).mono ?_
        rintro e w3 ⟨rfl, rfl⟩
        go_wp2
        go_ret
        exact ⟨ret_bool (by simp), b0.then b1⟩
      | false =>
        rw [h2] at cl
        clear h2
        go_enter Tryz.func96, Tryz.ntmps96
        go_wp2_with fail
        refine (cl _).mono ?_
        rintro e w1 ⟨rfl, b1⟩
        go_wp2
        go_ret
        exact ⟨ret_bool (by simp), b0.then b1⟩
    · have hl2 : decide (n = 0) = false := decide_eq_false hl
      have f0 : ((n : Int) == 0) = false := by rw [beq_eq_false_iff_ne]; omega
      rw [hl2]
      clear hl2 hl
      go_enter Tryz.func96, Tryz.ntmps96
      go_wp2
      go_ret
      exact ⟨ret_bool (by simp), b0⟩
  | false =>
    rw [if_neg (by simp)]
    by_cases hl : n = 0
    · subst hl
      go_enter Tryz.func96, Tryz.ntmps96
      go_wp2
      go_ret
      exact ⟨ret_bool (by simp), b0⟩
    · have hl2 : decide (n = 0) = false := decide_eq_false hl
      have f0 : decide ((0 : Int) < n) = true := decide_eq_true (by omega)
      rw [hl2]
      clear hl2
      by_cases hla : lab = []
      · subst hla
        rw [show (([] : Txt).isEmpty) = true from rfl]
        cases opn with
        | true =>
          go_enter Tryz.func96, Tryz.ntmps96
          go_wp2
          go_ret
          exact ⟨ret_bool (by simp), b0⟩
        | false =>
          generalize ls.all (lineOk d) = ok at *
          go_enter Tryz.func96, Tryz.ntmps96
          go_wp2_with fail
          refine cf.mono ?_
          rintro e w1 ⟨rfl, b1⟩
          go_wp2
          go_ret
          exact ⟨ret_bool (by simp), b0.then b1⟩
      · have fe : (@BEq.beq (List UInt8) (@List.instBEq UInt8 (@instBEqOfDecidableEq UInt8 instDecidableEqUInt8)) lab []) = false := by simpa using hla
        have hl3 : lab.isEmpty = false := by rw [List.isEmpty_eq_false_iff]; exact hla
        rw [hl3]
        clear hl3 hla
        go_enter Tryz.func96, Tryz.ntmps96
        go_wp2
        go_ret
        exact ⟨ret_bool (by simp), b0⟩

end Go.Proofs.YtkcmhdkhdjmjeaaGreatDoor

namespace Go.Proofs.YtkcmhdkhdjmjeaaGreatDoor
open Go.RowKit
set_option linter.unusedSimpArgs false
set_option linter.unusedVariables false
set_option maxRecDepth 100000

set_option maxHeartbeats 4000000 in
theorem rightDepth_any (p : Prt) (A0 : Option Addr) (n0 c0 : Nat) (A : Option Addr) (cap : Nat) (X : List (Prt × Value)) (w : World) (hX : PartsAt w A cap X) (hq : ∀ q, X.getLast? = some q → 0 ≤ q.1.depth ∧ q.1.depth ≤ 1000000) :
    Calls Tryz.prog 97 #[.agg #[.int .i64 p.depth, .bool p.dv, .string ⟨p.lab.toArray⟩, .bool p.opn, .slice A0 n0 c0], .slice A X.length cap] w fun e w' => e = .returned (.bool (rightDepth p ((X.map Prod.fst).getLast?))) ∧ Below w.heap.size w w' := by
  have hle := hX.le
  have hcm := hX.cap
  unfold maxLen at hcm
  obtain ⟨d, dv, lab, opn, ls⟩ := p
  simp only
  have b0 : Below w.heap.size w (w.alloc (.cells #[.int .i64 d, .bool dv, .string ⟨lab.toArray⟩, .bool opn, .slice A0 n0 c0] 94)) := (Below.refl _ w).alloc (Nat.le_refl _) _
  have hX1 := hX.alloc (.cells #[.int .i64 d, .bool dv, .string ⟨lab.toArray⟩, .bool opn, .slice A0 n0 c0] 94)
  have hs0 := alloc_size w (.cells #[.int .i64 d, .bool dv, .string ⟨lab.toArray⟩, .bool opn, .slice A0 n0 c0] 94)
  cases hl : X.length with
  | zero =>
    obtain rfl := List.eq_nil_of_length_eq_zero hl
    have hr : rightDepth ⟨d, dv, lab, opn, ls⟩ ((([] : List (Prt × Value)).map Prod.fst).getLast?) = decide (d = 0) := rfl
    rw [hr]
    clear hr hX hX1 hq hl
    go_enter Tryz.func97, Tryz.ntmps97
    go_wp2
    go_ret
    exact ⟨ret_bool (by rw [Bool.eq_iff_iff]; simp), b0⟩
  | succ n =>
    have hn : n < X.length := by omega
    obtain ⟨b, off, rfl, hb, y0, y1, y2, y3, y4⟩ := hX1.at hn
    have hg : X.getLast? = some X[n] := by rw [List.getLast?_eq_getElem?, hl, Nat.add_sub_cancel, List.getElem?_eq_getElem hn]
    have hbd := hq _ hg
    obtain ⟨A9, c9, e9, _⟩ := hX1.ls X[n] (List.getElem_mem hn)
    rw [List.getLast?_map, hg]
    simp only [Option.map_some, rightDepth, most]
    clear hX hX1 hq hg
    generalize X[n] = q at *
    obtain ⟨⟨qd, qdv, qlab, qopn, qls⟩, qv⟩ := q
    simp only at *
    subst e9
    have b1 := b0.alloc (by omega) (.cells #[.int .i64 qd, .bool qdv, .string ⟨qlab.toArray⟩, .bool qopn, .slice A9 qls.length c9] 94)
    generalize qls.length = n9 at *
    have HB := Lib.hid b1
    have hcap : n < cap := by omega
    clear b0 b1 hn hl
    by_cases h0 : 0 ≤ d
    · have f0 : decide (0 ≤ d) = true := decide_eq_true h0
      rw [f0, Bool.true_and]
      cases qdv with
      | true =>
        rw [if_pos rfl]
        go_enter Tryz.func97, Tryz.ntmps97
        go_wp2
        go_ret
        exact ⟨rfl, HB.out⟩
      | false =>
        rw [if_neg (by simp)]
        cases dv with
        | true =>
          rw [if_pos rfl]
          go_enter Tryz.func97, Tryz.ntmps97
          go_wp2
          go_ret
          exact ⟨rfl, HB.out⟩
        | false =>
          rw [if_neg (by simp)]
          go_enter Tryz.func97, Tryz.ntmps97
          go_wp2
          go_ret
          exact ⟨rfl, HB.out⟩
    · have f0 : decide (0 ≤ d) = false := decide_eq_false h0
      rw [f0, Bool.false_and]
      cases qdv with
      | true =>
        go_enter Tryz.func97, Tryz.ntmps97
        go_wp2
        go_ret
        exact ⟨rfl, HB.out⟩
      | false =>
        cases dv with
        | true =>
          go_enter Tryz.func97, Tryz.ntmps97
          go_wp2
          go_ret
          exact ⟨rfl, HB.out⟩
        | false =>
          go_enter Tryz.func97, Tryz.ntmps97
          go_wp2
          go_ret
          exact ⟨rfl, HB.out⟩

/-! ### Right, part by part -/
theorem right_take (ps : List Prt) (k : Nat) (hk : k < ps.length) : rightP (ps.take (k + 1)) =
    (rightP (ps.take k) && (rightPart ps[k] && rightDepth ps[k] (ps.take k).getLast? && !(decide (ps[k].depth < cnt (ps.take k)) || ps[k].opn && decide ((cnt (ps.take k) : Int) < ps[k].depth)))) := by
  rw [List.take_succ_eq_append_getElem hk]
  unfold rightP
  rw [rightF_append, lastOr_none, Nat.zero_add]
  simp only [rightF, Bool.and_true]
theorem right_no (ps : List Prt) (k : Nat) (h : rightP (ps.take k) = false) : rightP ps = false := by
  have e := List.take_append_drop k ps
  rw [← e]
  unfold rightP at *
  rw [rightF_append, h, Bool.false_and]
theorem cnt_take (ps : List Prt) (k : Nat) (hk : k < ps.length) : cnt (ps.take (k + 1)) = cnt (ps.take k) + if ps[k].opn then 1 else 0 := by
  rw [List.take_succ_eq_append_getElem hk, cnt_append, cnt_cons]
  rfl
theorem cnt_le (ps : List Prt) : cnt ps ≤ ps.length := by
  induction ps with
  | nil => simp [cnt]
  | cons p ps ih =>
    rw [cnt_cons, List.length_cons]
    split <;> omega

def RiRel (ps : List Prt) (w : World) (o i : Value) (wr : World) : Prop := ∃ k : Nat, i = .int .i64 k ∧ k ≤ ps.length ∧ o = .int .i64 (cnt (ps.take k)) ∧ rightP (ps.take k) = true ∧ Below w.heap.size w wr
/-- What stays in the region: the copy's cells. -/
abbrev RiS (w1 : World) (B : Nat) (p : Prt) (v : Value) (W : World) : Prop :=
  W.cell? ⟨B, 0, none⟩ = some (.int .i64 p.depth) ∧ W.cell? ⟨B, 1, none⟩ = some (.bool p.dv) ∧ W.cell? ⟨B, 2, none⟩ = some (.string ⟨p.lab.toArray⟩) ∧ W.cell? ⟨B, 3, none⟩ = some (.bool p.opn) ∧ W.cell? ⟨B, 4, none⟩ = some v ∧ Below w1.heap.size w1 W
theorem RiS.below {w1 W W' : World} {B : Nat} {p : Prt} {v : Value} (h : RiS w1 B p v W) (hB : B < w1.heap.size) (hb : Below W.heap.size W W') : RiS w1 B p v W' := by
  obtain ⟨a, b, c, d, e, f⟩ := h
  have hB2 : B < W.heap.size := Nat.lt_of_lt_of_le hB f.size
  exact ⟨(hb.cell (p := ⟨B, 0, none⟩) hB2).trans a, (hb.cell (p := ⟨B, 1, none⟩) hB2).trans b, (hb.cell (p := ⟨B, 2, none⟩) hB2).trans c, (hb.cell (p := ⟨B, 3, none⟩) hB2).trans d, (hb.cell (p := ⟨B, 4, none⟩) hB2).trans e, f.then hb⟩

/-- The parts may be held up to the texts that the calls bear. -/
def PartsSmall (X : List (Prt × Value)) : Prop := ∀ x ∈ X, x.1.lab.length ≤ 140737488355328 ∧ ∀ y ∈ x.1.ls, y.length ≤ 140737488355328

set_option maxHeartbeats 8000000 in
theorem right_any (A : Option Addr) (cap : Nat) (X : List (Prt × Value)) (w : World) (hX : PartsAt w A cap X) (hm : X.length ≤ 1000000) (hsm : PartsSmall X) :
    Calls Tryz.prog 71 #[.slice A X.length cap] w fun e w' => e = .returned (.bool (rightP (X.map Prod.fst))) ∧ Below w.heap.size w w' := by
  have hle := hX.le
  have hcm := hX.cap
  unfold maxLen at hcm
  have hXl : (X.map Prod.fst).length = X.length := by simp
  generalize hps : X.map Prod.fst = ps at *
  have HPS := Lib.hid hps
  have HSM := Lib.hid hsm
  clear hps hsm
  go_enter Tryz.func71, Tryz.ntmps71
  go_wp2_with fail
  go_loopw [3, 8] (fun o i wr => RiRel ps w o i wr) (fun _ i _ => ps.length - (intOf i).toNat)
  case atStart => exact ⟨0, rfl, Nat.zero_le _, rfl, rfl, Below.refl _ _⟩
  case round =>
    obtain ⟨k, rfl, hk, rfl, hrt, hbw⟩ := hrel
    have HR := Lib.hid hrt
    clear hrt
    by_cases hp : k < ps.length
    · have hpx : k < X.length := by omega
      have hX2 := hX.below hbw
      obtain ⟨b, off, rfl, hb, y0, y1, y2, y3, y4⟩ := hX2.at hpx
      obtain ⟨A9, c9, e9, hr9⟩ := hX2.ls X[k] (List.getElem_mem hpx)
      have hpk : X[k].1 = ps[k] := by
        have h1 : ps[k]? = some X[k].1 := by rw [← HPS.out, List.getElem?_map, List.getElem?_eq_getElem hpx]; rfl
        rw [List.getElem?_eq_getElem hp] at h1
        exact (Option.some.inj h1).symm
      have hs9 := HSM.out X[k] (List.getElem_mem hpx)
      have hRT := right_take ps k hp
      have hCT := cnt_take ps k hp
      have hNO := Lib.hid (right_no ps (k + 1))
      have hct := cnt_le (ps.take k)
      rw [List.length_take] at hct
      have hlk : (X.take k).length = k := by rw [List.length_take]; omega
      have hdl : ∀ q, (X.take k).getLast? = some q → 0 ≤ q.1.depth ∧ q.1.depth ≤ 1000000 := by
        intro q hq
        have h0 : (X.take k)[k - 1]? = some q := by rw [List.getLast?_eq_getElem?, hlk] at hq; exact hq
        have h1 : (ps.take k)[k - 1]? = some q.1 := by rw [← HPS.out, ← List.map_take, List.getElem?_map, h0]; rfl
        have := depth_le HR.out (k - 1) q.1 h1
        omega
      have hmt : (X.take k).map Prod.fst = ps.take k := by rw [List.map_take, HPS.out]
      have hs2 := alloc_size wr (.cells #[.int .i64 X[k].1.depth, .bool X[k].1.dv, .string ⟨X[k].1.lab.toArray⟩, .bool X[k].1.opn, .slice A9 X[k].1.ls.length c9] 94)
      have hbx := hbw.alloc (o := .cells #[.int .i64 X[k].1.depth, .bool X[k].1.dv, .string ⟨X[k].1.lab.toArray⟩, .bool X[k].1.opn, .slice A9 X[k].1.ls.length c9] 94) hbw.size
      have hX3 := hX2.alloc (.cells #[.int .i64 X[k].1.depth, .bool X[k].1.dv, .string ⟨X[k].1.lab.toArray⟩, .bool X[k].1.opn, .slice A9 X[k].1.ls.length c9] 94)
      have hr3 := hr9.alloc (.cells #[.int .i64 X[k].1.depth, .bool X[k].1.dv, .string ⟨X[k].1.lab.toArray⟩, .bool X[k].1.opn, .slice A9 X[k].1.ls.length c9] 94)
      have hbc := box_cells wr (X[k].1, .slice A9 X[k].1.ls.length c9) 94
      rw [show (ptC (X[k].1, .slice A9 X[k].1.ls.length c9)).toArray = #[.int .i64 X[k].1.depth, .bool X[k].1.dv, .string ⟨X[k].1.lab.toArray⟩, .bool X[k].1.opn, .slice A9 X[k].1.ls.length c9] from rfl] at hbc
      rw [e9] at y4
      rw [← hpk] at hRT hCT
      clear hpk
      generalize X[k] = x at *
      obtain ⟨p, xv⟩ := x
      simp only at e9 hr9 hs9 hs2 hbx hX3 hr3 hbc y0 y1 y2 y3 y4 hRT hCT
      obtain ⟨d, dv, lab, opn, ls⟩ := p
      simp only at e9 hr9 hs9 hs2 hbx hX3 hr3 hbc y0 y1 y2 y3 y4 hRT hCT
      have hS0 : RiS (wr.alloc (.cells #[.int .i64 d, .bool dv, .string ⟨lab.toArray⟩, .bool opn, .slice A9 ls.length c9] 94)) wr.heap.size ⟨d, dv, lab, opn, ls⟩ (.slice A9 ls.length c9) (wr.alloc (.cells #[.int .i64 d, .bool dv, .string ⟨lab.toArray⟩, .bool opn, .slice A9 ls.length c9] 94)).drew :=
        ⟨hbc.1, hbc.2.1, hbc.2.2.1, hbc.2.2.2.1, hbc.2.2.2.2, (Below.refl _ _).drew⟩
      obtain ⟨hlab9, hz9⟩ := hs9
      generalize hw1 : (wr.alloc (.cells #[.int .i64 d, .bool dv, .string ⟨lab.toArray⟩, .bool opn, .slice A9 ls.length c9] 94)) = w1 at *
      have HW1 := Lib.hid hw1
      have cp : ∀ W, RiS w1 wr.heap.size ⟨d, dv, lab, opn, ls⟩ (.slice A9 ls.length c9) W → Calls Tryz.prog 96 #[.agg #[.int .i64 d, .bool dv, .string ⟨lab.toArray⟩, .bool opn, .slice A9 ls.length c9]] W fun e W' => e = .returned (.bool (rightPart ⟨d, dv, lab, opn, ls⟩)) ∧ RiS w1 wr.heap.size ⟨d, dv, lab, opn, ls⟩ (.slice A9 ls.length c9) W' :=
        fun W h => (rightPart_any ⟨d, dv, lab, opn, ls⟩ A9 c9 W (hr3.below h.2.2.2.2.2) hz9 hlab9).mono (fun e W' hh => ⟨hh.1, h.below (by omega) hh.2⟩)
      have cd : ∀ W, RiS w1 wr.heap.size ⟨d, dv, lab, opn, ls⟩ (.slice A9 ls.length c9) W → Calls Tryz.prog 97 #[.agg #[.int .i64 d, .bool dv, .string ⟨lab.toArray⟩, .bool opn, .slice A9 ls.length c9], .slice (some ⟨b, off, none⟩) k cap] W fun e W' => e = .returned (.bool (rightDepth ⟨d, dv, lab, opn, ls⟩ (ps.take k).getLast?)) ∧ RiS w1 wr.heap.size ⟨d, dv, lab, opn, ls⟩ (.slice A9 ls.length c9) W' := by
        intro W h
        have := rightDepth_any ⟨d, dv, lab, opn, ls⟩ A9 ls.length c9 (some ⟨b, off, none⟩) cap (X.take k) W ((hX3.take k).below h.2.2.2.2.2) hdl
        rw [hlk, hmt] at this
        exact this.mono (fun e W' hh => ⟨hh.1, h.below (by omega) hh.2⟩)
      have HBX := Lib.hid hbx
      subst hw1
      clear hbx hX3 hr3 hX2 hr9 hs2 hdl hlk hmt e9 hlab9 hz9
      rw [HR.out, Bool.true_and] at hRT
      have HBS := Lib.hid (show w.heap.size ≤ (wr.alloc (.cells #[.int .i64 d, .bool dv, .string ⟨lab.toArray⟩, .bool opn, .slice A9 ls.length c9] 94)).heap.size from HBX.out.size)
      have hkc : (k : Int) ≤ cap := by omega
      generalize (ps.take k).getLast? = lst at *
      generalize hq1 : rightPart ⟨d, dv, lab, opn, ls⟩ = rp at *
      generalize hq2 : rightDepth ⟨d, dv, lab, opn, ls⟩ lst = rd at *
      clear hq1 hq2
      generalize hcn : cnt (ps.take k) = o at *
      have HCN := Lib.hid hcn
      clear hcn
      have HRT := Lib.hid hRT
      have HCT := Lib.hid hCT
      clear hRT hCT
      cases rp with
      | false =>
        have HF := Lib.hid (hNO.out (by rw [HRT.out]; rfl))
        clear hNO
        go_wp2_with fail
        refine wp_region_N (fun W => W.cell? ⟨wr.heap.size, 0, none⟩ = some (.int .i64 d) ∧ W.cell? ⟨wr.heap.size, 1, none⟩ = some (.bool dv) ∧ W.cell? ⟨wr.heap.size, 2, none⟩ = some (.string ⟨lab.toArray⟩) ∧ W.cell? ⟨wr.heap.size, 3, none⟩ = some (.bool opn) ∧ W.cell? ⟨wr.heap.size, 4, none⟩ = some (.slice A9 ls.length c9) ∧ Below (wr.alloc (.cells #[.int .i64 d, .bool dv, .string ⟨lab.toArray⟩, .bool opn, .slice A9 ls.length c9] 94)).heap.size (wr.alloc (.cells #[.int .i64 d, .bool dv, .string ⟨lab.toArray⟩, .bool opn, .slice A9 ls.length c9] 94)) W) (fun _ => true) (by kernel_rfl) ?_
        have hS := hS0
        refine wpAnyN_take_at 0 13 (v := ?_) rfl rfl (by kernel_rfl) (by kernel_rfl) (by kernel_rfl) (by kernel_rfl) (by kernel_rfl) (fun _ _ _ h => h) (by rfl) ?_ hS ?_
        rotate_left
        · intro w hSw; (try dsimp only at hSw); obtain ⟨s0, s1, s2, s3, s4, sB⟩ := hSw; go_simp; (try with_reducible rfl)
        simp only [Act.put, List.setIfInBounds_toArray, List.set_cons_zero, List.set_cons_succ]
        refine wpAnyN_one (i := 1) rfl (by kernel_rfl) (fun K hK => ?_)
        go_simp
        refine (cp _ hS).mono ?_
        rintro e w5 ⟨rfl, hS5⟩
        refine hK _ _ (fun _ => hS5) ?_
        clear hK hS
        have hS := hS5
        refine wpAnyN_take_at 2 15 (v := ?_) rfl rfl (by kernel_rfl) (by kernel_rfl) (by kernel_rfl) (by kernel_rfl) (by kernel_rfl) (fun _ _ _ h => h) (by rfl) ?_ hS ?_
        rotate_left
        · intro w hSw; (try dsimp only at hSw); obtain ⟨s0, s1, s2, s3, s4, sB⟩ := hSw; go_simp; (try with_reducible rfl)
        simp only [Act.put, List.setIfInBounds_toArray, List.set_cons_zero, List.set_cons_succ]
        refine wpAnyN_take_at 3 16 (v := ?_) rfl rfl (by kernel_rfl) (by kernel_rfl) (by kernel_rfl) (by kernel_rfl) (by kernel_rfl) (fun _ _ _ h => h) (by rfl) ?_ hS ?_
        rotate_left
        · intro w hSw; (try dsimp only at hSw); obtain ⟨s0, s1, s2, s3, s4, sB⟩ := hSw; go_simp; (try with_reducible rfl)
        simp only [Act.put, List.setIfInBounds_toArray, List.set_cons_zero, List.set_cons_succ]
        refine wpAnyN_take_no 4 17 rfl rfl (by kernel_rfl) (by kernel_rfl) (by kernel_rfl) (by kernel_rfl) (by kernel_rfl) (fun _ _ _ h => h) (by rfl) hS ?_
        simp only [Act.put, List.setIfInBounds_toArray, List.set_cons_zero, List.set_cons_succ]
        refine wpAnyN_take_no 5 18 rfl rfl (by kernel_rfl) (by kernel_rfl) (by kernel_rfl) (by kernel_rfl) (by kernel_rfl) (fun _ _ _ h => h) (by rfl) hS ?_
        simp only [Act.put, List.setIfInBounds_toArray, List.set_cons_zero, List.set_cons_succ]
        refine wpAnyN_take_no 6 19 rfl rfl (by kernel_rfl) (by kernel_rfl) (by kernel_rfl) (by kernel_rfl) (by kernel_rfl) (fun _ _ _ h => h) (by rfl) hS ?_
        simp only [Act.put, List.setIfInBounds_toArray, List.set_cons_zero, List.set_cons_succ]
        refine wpAnyN_take_no 7 20 rfl rfl (by kernel_rfl) (by kernel_rfl) (by kernel_rfl) (by kernel_rfl) (by kernel_rfl) (fun _ _ _ h => h) (by rfl) hS ?_
        simp only [Act.put, List.setIfInBounds_toArray, List.set_cons_zero, List.set_cons_succ]
        refine wpAnyN_take_no 8 21 rfl rfl (by kernel_rfl) (by kernel_rfl) (by kernel_rfl) (by kernel_rfl) (by kernel_rfl) (fun _ _ _ h => h) (by rfl) hS ?_
        simp only [Act.put, List.setIfInBounds_toArray, List.set_cons_zero, List.set_cons_succ]
        refine wpAnyN_take_no 9 22 rfl rfl (by kernel_rfl) (by kernel_rfl) (by kernel_rfl) (by kernel_rfl) (by kernel_rfl) (fun _ _ _ h => h) (by rfl) hS ?_
        simp only [Act.put, List.setIfInBounds_toArray, List.set_cons_zero, List.set_cons_succ]
        refine wpAnyN_take_at 10 23 (v := ?_) rfl rfl (by kernel_rfl) (by kernel_rfl) (by kernel_rfl) (by kernel_rfl) (by kernel_rfl) (fun _ _ _ h => h) (by rfl) ?_ hS ?_
        rotate_left
        · intro w hSw; (try dsimp only at hSw); obtain ⟨s0, s1, s2, s3, s4, sB⟩ := hSw; go_simp; (try with_reducible rfl)
        simp only [Act.put, List.setIfInBounds_toArray, List.set_cons_zero, List.set_cons_succ]
        refine wpAnyN_rest 11 [] rfl (by kernel_rfl) (by kernel_rfl) ?_
        go_wp2
        go_ret
        exact ⟨ret_bool HF.out.symm, HBX.out.trans (hS5.2.2.2.2.2.mono HBS.out)⟩
      | true =>
        cases rd with
        | false =>
          have HF := Lib.hid (hNO.out (by rw [HRT.out]; rfl))
          clear hNO
          go_wp2_with fail
          go_region_held3 (fun W => W.cell? ⟨wr.heap.size, 0, none⟩ = some (.int .i64 d) ∧ W.cell? ⟨wr.heap.size, 1, none⟩ = some (.bool dv) ∧ W.cell? ⟨wr.heap.size, 2, none⟩ = some (.string ⟨lab.toArray⟩) ∧ W.cell? ⟨wr.heap.size, 3, none⟩ = some (.bool opn) ∧ W.cell? ⟨wr.heap.size, 4, none⟩ = some (.slice A9 ls.length c9) ∧ Below (wr.alloc (.cells #[.int .i64 d, .bool dv, .string ⟨lab.toArray⟩, .bool opn, .slice A9 ls.length c9] 94)).heap.size (wr.alloc (.cells #[.int .i64 d, .bool dv, .string ⟨lab.toArray⟩, .bool opn, .slice A9 ls.length c9] 94)) W) (assumption) (first | (go_at_call 96; (with_reducible refine (cp _ (by assumption)).mono ?_); rintro e w5 ⟨rfl, hS5⟩) | (go_at_call 97; (with_reducible refine (cd _ (by assumption)).mono ?_); rintro e w6 ⟨rfl, hS6⟩))
          go_wp2
          go_ret
          exact ⟨ret_bool HF.out.symm, HBX.out.trans (hS6.2.2.2.2.2.mono HBS.out)⟩
        | true =>
          by_cases hlt : d < o
          · have HF := Lib.hid (hNO.out (by rw [HRT.out, decide_eq_true hlt]; rfl))
            clear hNO
            go_wp2_with fail
            go_region_held3 (fun W => W.cell? ⟨wr.heap.size, 0, none⟩ = some (.int .i64 d) ∧ W.cell? ⟨wr.heap.size, 1, none⟩ = some (.bool dv) ∧ W.cell? ⟨wr.heap.size, 2, none⟩ = some (.string ⟨lab.toArray⟩) ∧ W.cell? ⟨wr.heap.size, 3, none⟩ = some (.bool opn) ∧ W.cell? ⟨wr.heap.size, 4, none⟩ = some (.slice A9 ls.length c9) ∧ Below (wr.alloc (.cells #[.int .i64 d, .bool dv, .string ⟨lab.toArray⟩, .bool opn, .slice A9 ls.length c9] 94)).heap.size (wr.alloc (.cells #[.int .i64 d, .bool dv, .string ⟨lab.toArray⟩, .bool opn, .slice A9 ls.length c9] 94)) W) (assumption) (first | (go_at_call 96; (with_reducible refine (cp _ (by assumption)).mono ?_); rintro e w5 ⟨rfl, hS5⟩) | (go_at_call 97; (with_reducible refine (cd _ (by assumption)).mono ?_); rintro e w6 ⟨rfl, hS6⟩))
            obtain ⟨z0, z1, z2, z3, z4, zB⟩ := hS6
            have ZB := Lib.hid zB
            clear zB hS5
            go_wp2
            go_ret
            exact ⟨ret_bool HF.out.symm, HBX.out.trans (ZB.out.mono HBS.out)⟩
          · cases opn with
            | false =>
              have HF := Lib.hid (show rightP (ps.take (k + 1)) = true from by rw [HRT.out, decide_eq_false hlt]; rfl)
              clear hNO
              go_wp2_with fail
              go_region_held3 (fun W => W.cell? ⟨wr.heap.size, 0, none⟩ = some (.int .i64 d) ∧ W.cell? ⟨wr.heap.size, 1, none⟩ = some (.bool dv) ∧ W.cell? ⟨wr.heap.size, 2, none⟩ = some (.string ⟨lab.toArray⟩) ∧ W.cell? ⟨wr.heap.size, 3, none⟩ = some (.bool false) ∧ W.cell? ⟨wr.heap.size, 4, none⟩ = some (.slice A9 ls.length c9) ∧ Below (wr.alloc (.cells #[.int .i64 d, .bool dv, .string ⟨lab.toArray⟩, .bool false, .slice A9 ls.length c9] 94)).heap.size (wr.alloc (.cells #[.int .i64 d, .bool dv, .string ⟨lab.toArray⟩, .bool false, .slice A9 ls.length c9] 94)) W) (assumption) (first | (go_at_call 96; (with_reducible refine (cp _ (by assumption)).mono ?_); rintro e w5 ⟨rfl, hS5⟩) | (go_at_call 97; (with_reducible refine (cd _ (by assumption)).mono ?_); rintro e w6 ⟨rfl, hS6⟩))
              obtain ⟨z0, z1, z2, z3, z4, zB⟩ := hS6
              have ZB := Lib.hid zB
              clear zB hS5
              go_wp2
              go_roundw
              case rel => exact ⟨k + 1, by go_num, by omega, by rw [HCT.out]; rfl, HF.out, HBX.out.trans (ZB.out.mono HBS.out)⟩
              case measure => simp [intOf]; omega
            | true =>
              by_cases hgt : (o : Int) < d
              · have HF := Lib.hid (hNO.out (by rw [HRT.out, decide_eq_false hlt, decide_eq_true hgt]; rfl))
                clear hNO
                go_wp2_with fail
                go_region_held3 (fun W => W.cell? ⟨wr.heap.size, 0, none⟩ = some (.int .i64 d) ∧ W.cell? ⟨wr.heap.size, 1, none⟩ = some (.bool dv) ∧ W.cell? ⟨wr.heap.size, 2, none⟩ = some (.string ⟨lab.toArray⟩) ∧ W.cell? ⟨wr.heap.size, 3, none⟩ = some (.bool true) ∧ W.cell? ⟨wr.heap.size, 4, none⟩ = some (.slice A9 ls.length c9) ∧ Below (wr.alloc (.cells #[.int .i64 d, .bool dv, .string ⟨lab.toArray⟩, .bool true, .slice A9 ls.length c9] 94)).heap.size (wr.alloc (.cells #[.int .i64 d, .bool dv, .string ⟨lab.toArray⟩, .bool true, .slice A9 ls.length c9] 94)) W) (assumption) (first | (go_at_call 96; (with_reducible refine (cp _ (by assumption)).mono ?_); rintro e w5 ⟨rfl, hS5⟩) | (go_at_call 97; (with_reducible refine (cd _ (by assumption)).mono ?_); rintro e w6 ⟨rfl, hS6⟩))
                obtain ⟨z0, z1, z2, z3, z4, zB⟩ := hS6
                have ZB := Lib.hid zB
                clear zB hS5
                go_wp2
                go_ret
                exact ⟨ret_bool HF.out.symm, HBX.out.trans (ZB.out.mono HBS.out)⟩
              · have HF := Lib.hid (show rightP (ps.take (k + 1)) = true from by rw [HRT.out, decide_eq_false hlt, decide_eq_false hgt]; rfl)
                clear hNO
                go_wp2_with fail
                go_region_held3 (fun W => W.cell? ⟨wr.heap.size, 0, none⟩ = some (.int .i64 d) ∧ W.cell? ⟨wr.heap.size, 1, none⟩ = some (.bool dv) ∧ W.cell? ⟨wr.heap.size, 2, none⟩ = some (.string ⟨lab.toArray⟩) ∧ W.cell? ⟨wr.heap.size, 3, none⟩ = some (.bool true) ∧ W.cell? ⟨wr.heap.size, 4, none⟩ = some (.slice A9 ls.length c9) ∧ Below (wr.alloc (.cells #[.int .i64 d, .bool dv, .string ⟨lab.toArray⟩, .bool true, .slice A9 ls.length c9] 94)).heap.size (wr.alloc (.cells #[.int .i64 d, .bool dv, .string ⟨lab.toArray⟩, .bool true, .slice A9 ls.length c9] 94)) W) (assumption) (first | (go_at_call 96; (with_reducible refine (cp _ (by assumption)).mono ?_); rintro e w5 ⟨rfl, hS5⟩) | (go_at_call 97; (with_reducible refine (cd _ (by assumption)).mono ?_); rintro e w6 ⟨rfl, hS6⟩))
                obtain ⟨z0, z1, z2, z3, z4, zB⟩ := hS6
                have ZB := Lib.hid zB
                clear zB hS5
                go_wp2
                go_roundw
                case rel => exact ⟨k + 1, by go_num, by omega, by rw [HCT.out]; go_num, HF.out, HBX.out.trans (ZB.out.mono HBS.out)⟩
                case measure => simp [intOf]; omega
    · obtain rfl : k = ps.length := by omega
      have HF := Lib.hid (show rightP ps = true from by have := HR.out; rwa [List.take_length] at this)
      go_wp2
      go_ret
      exact ⟨ret_bool HF.out.symm, hbw⟩

end Go.Proofs.YtkcmhdkhdjmjeaaGreatDoor

namespace Go.Proofs.YtkcmhdkhdjmjeaaGreatDoor
open Go.RowKit
set_option linter.unusedSimpArgs false
set_option linter.unusedVariables false
set_option maxRecDepth 100000

/-- Lists of parts, and parts, stay. -/
def PartsKept (w w' : World) : Prop := ∀ (g : Nat) (cs : Array Value) (fz : Nat × Nat), w.heap[g]? = some (Obj.cells cs 94 fz) → w'.heap[g]? = some (Obj.cells cs 94 fz)
theorem PartsKept.refl (w : World) : PartsKept w w := fun _ _ _ h => h
theorem PartsKept.trans {a b c : World} (h : PartsKept a b) (k : PartsKept b c) : PartsKept a c := fun g cs fz hg => k g cs fz (h g cs fz hg)
theorem PartsKept.of_below {w w' : World} (h : Below w.heap.size w w') : PartsKept w w' := fun g cs fz hg => (h.block g (Array.getElem?_eq_some_iff.1 hg).1).trans hg
theorem PartsKept.of_grown {w w' : World} {B n size : Nat} {e : TypeId} {v : Value} {xs : List Value} (ho : w.ownsRow B e size v n xs) (hne : e ≠ 94) (hg : w.grownBy w' v.ownBlock) : PartsKept w w' := fun g cs fz hh =>
  (hg.block g (Array.getElem?_eq_some_iff.1 hh).1 (fun e1 => own_ne ho hh hne e1.symm)).trans hh

theorem block_cells {w : World} {g : Nat} {u0 u1 u2 u3 u4 : Value} {t : TypeId} {fz : Nat × Nat} (h : w.heap[g]? = some (.cells #[u0, u1, u2, u3, u4] t fz)) :
    w.cell? ⟨g, 0, none⟩ = some u0 ∧ w.cell? ⟨g, 1, none⟩ = some u1 ∧ w.cell? ⟨g, 2, none⟩ = some u2 ∧ w.cell? ⟨g, 3, none⟩ = some u3 ∧ w.cell? ⟨g, 4, none⟩ = some u4 := by
  refine ⟨?_, ?_, ?_, ?_, ?_⟩ <;> rw [cell_of_row w g _ _ t fz h] <;> rfl

/-! ### addEnds, and what it leaves -/
def EndRel2 (B : Nat) (ls : List Txt) (n : Nat) (w : World) (v i : Value) (wr : World) : Prop :=
  ∃ k : Nat, i = .int .i64 k ∧ k ≤ n ∧ B ≤ wr.heap.size ∧ wr.ownsRow B 9 1 v (ls ++ ends k).length (strs (ls ++ ends k)) ∧ Below B w wr ∧ PartsKept w wr

set_option maxHeartbeats 4000000 in
theorem addEnds_kept (B : Nat) (v : Value) (ls : List Txt) (n : Int) (w : World) (hB : B ≤ w.heap.size) (h : w.ownsRow B 9 1 v ls.length (strs ls)) (hm : ls.length ≤ 100000000000) (hn : n ≤ 1000000) :
    Calls Tryz.prog 72 #[v, .int .i64 n] w fun e w' => ∃ v', e = .returned v' ∧ w'.ownsRow B 9 1 v' (ls ++ ends n.toNat).length (strs (ls ++ ends n.toNat)) ∧ Below B w w' ∧ PartsKept w w' := by
  obtain ⟨i0, hi, hz0, hz1, hz2⟩ := info_parts infoString
  by_cases hn0 : n ≤ 0
  · have e0 : n.toNat = 0 := by omega
    rw [e0, ends_zero, List.append_nil]
    clear e0
    go_enter Tryz.func72, Tryz.ntmps72
    go_wp2_with fail
    go_loopw [0, 6] (fun u i wr => u = v ∧ i = .int .i64 0 ∧ wr = w) (fun _ _ _ => 0)
    case atStart => exact ⟨rfl, rfl, rfl⟩
    case round =>
      obtain ⟨rfl, rfl, rfl⟩ := hrel
      go_wp2
      go_ret
      exact ⟨_, rfl, h, Below.refl _ _, PartsKept.refl _⟩
  · obtain ⟨m, rfl⟩ : ∃ m : Nat, n = m := ⟨n.toNat, by omega⟩
    rw [Int.toNat_natCast]
    go_enter Tryz.func72, Tryz.ntmps72
    go_wp2_with fail
    go_loopw [0, 6] (fun u i wr => EndRel2 B ls m w u i wr) (fun _ i _ => m - (intOf i).toNat)
    case atStart => exact ⟨0, rfl, Nat.zero_le _, hB, by rw [ends_zero, List.append_nil]; exact h, Below.refl _ _, PartsKept.refl _⟩
    case round =>
      obtain ⟨k, rfl, hk, hBr, hown, hbw, hkp⟩ := hrel
      by_cases hp : k < m
      · have hnw := cells_one wr (.string ⟨#[58, 58, 58]⟩) 9
        have hl : (ls ++ ends k).length = ls.length + k := by simp [ends]
        have hrow2 := hown.alloc (.cells #[.string ⟨#[58, 58, 58]⟩] 9)
        have HS := Lib.hid (strs_ends ls k)
        have HL := Lib.hid (show (ls ++ ends (k + 1)).length = ls.length + k + 1 from by simp [ends]; omega)
        go_wp2_with (at_builtin; refine wpList_append_own _ rfl _ _ 22 rfl B 9 i0 (.string ByteArray.empty) 1 16 Tryz.underlying22 hi hz0 hz1 hz2 rfl (by decide) _ _ _ rfl hrow2 ⟨wr.heap.size, 0, none⟩ 1 1 [.string ⟨#[58, 58, 58]⟩] rfl rfl hnw (by simp [Value.oneCell']) (by unfold maxLen; omega) (by omega) (by simp; omega) ?_)
        intro v' w2 hown' hgrow _
        rw [HS.out, ← HL.out] at hown'
        have b1 : Below wr.heap.size wr (wr.alloc (.cells #[.string ⟨#[58, 58, 58]⟩] 9)) := (Below.refl _ wr).alloc (Nat.le_refl _) _
        have hb2 := (hbw.trans (b1.mono hBr)).trans (below_of_grown hgrow (fun g hg => (hrow2.lt g hg).1) (by simp; omega))
        have hk2 := (hkp.trans (PartsKept.of_below b1)).trans (PartsKept.of_grown hrow2 (by decide) hgrow)
        have hs2 := hgrow.size
        have hs3 := alloc_size wr (.cells #[.string ⟨#[58, 58, 58]⟩] 9)
        have HO := Lib.hid hown'
        have HB := Lib.hid hb2
        have HK := Lib.hid hk2
        clear hown' hgrow hb2 hbw hrow2 hown hl b1 hk2 hkp
        go_wp2
        go_roundw
        case rel => exact ⟨k + 1, by go_num, by omega, by omega, HO.out, HB.out, HK.out⟩
        case measure => simp [intOf]; omega
      · obtain rfl : k = m := by omega
        go_wp2
        go_ret
        exact ⟨_, rfl, hown, hbw, hkp⟩

/-! ### Write -/
theorem write_no (A : Option Addr) (cap : Nat) (X : List (Prt × Value)) (w : World) (hX : PartsAt w A cap X) (hm : X.length ≤ 1000000) (hsm : PartsSmall X) (hr : rightP (X.map Prod.fst) = false) :
    Calls Tryz.prog 33 #[.slice A X.length cap] w fun e w' => e = .returned (.tuple #[.slice none 0 0, .bool false]) ∧ Below w.heap.size w w' := by
  have cr := right_any A cap X w hX hm hsm
  rw [hr] at cr
  go_enter Tryz.func33, Tryz.ntmps33
  go_wp2_with fail
  refine cr.mono ?_
  rintro e w1 ⟨rfl, b1⟩
  go_wp2
  go_ret2
  exact ⟨rfl, b1⟩

theorem bodyF_take (ps : List Prt) (k : Nat) (hk : k < ps.length) : bodyF 0 (ps.take (k + 1)) = ((bodyF 0 (ps.take k) ++ ends (insOf (ps.take k).getLast? - ps[k].depth).toNat) ++ (if ps[k].dv then [divLine ps[k].lab] else [])) ++ ps[k].ls := by
  rw [List.take_succ_eq_append_getElem hk, show (0 : Int) = insOf none from rfl, bodyF_append, lastOr_none]
  simp [bodyF]
theorem insOf_take (ps : List Prt) (k : Nat) (hk : k < ps.length) : insOf (ps.take (k + 1)).getLast? = if ps[k].dv then ps[k].depth + 1 else ps[k].depth := by
  rw [List.take_succ_eq_append_getElem hk, List.getLast?_concat]; rfl
theorem divLine_sum (lab : Txt) : ((⟨#[58, 58, 58, 123]⟩ : ByteArray) ++ ⟨lab.toArray⟩) ++ ⟨#[125]⟩ = ⟨(divLine lab).toArray⟩ := by
  apply ByteArray.ext
  apply Array.ext'
  simp [divLine, divB]

/-- The parts' lists are short; one that is nil has no room. -/
def PartsLent (X : List (Prt × Value)) : Prop := ∀ x ∈ X, x.1.ls.length ≤ 100000 ∧ ∀ n c, x.2 = .slice none n c → n = 0 ∧ c = 0
def WrRel (ps : List Prt) (w : World) (v ins o i : Value) (wr : World) : Prop :=
  ∃ (k : Nat) (L : List Txt), i = .int .i64 k ∧ k ≤ ps.length ∧ ins = .int .i64 (insOf (ps.take k).getLast?) ∧ o = .int .i64 (cnt (ps.take k)) ∧ L = bodyF 0 (ps.take k) ∧ L.length ≤ 300000 * k ∧ 0 ≤ insOf (ps.take k).getLast? ∧ insOf (ps.take k).getLast? ≤ k ∧
    wr.ownsRow w.heap.size 9 1 v L.length (strs L) ∧ Below w.heap.size w wr

set_option maxHeartbeats 8000000 in
theorem write_yes (A : Option Addr) (cap : Nat) (X : List (Prt × Value)) (w : World) (hX : PartsAt w A cap X) (hm : X.length ≤ 100000) (hsm : PartsSmall X) (hln : PartsLent X) (hr : rightP (X.map Prod.fst) = true) :
    Calls Tryz.prog 33 #[.slice A X.length cap] w fun e w' => ∃ v, e = .returned (.tuple #[v, .bool true]) ∧ w'.ownsRow w.heap.size 9 1 v (writeP (X.map Prod.fst)).length (strs (writeP (X.map Prod.fst))) ∧ Below w.heap.size w w' := by
  have hle := hX.le
  have hcm := hX.cap
  unfold maxLen at hcm
  have cr := right_any A cap X w hX (by omega) hsm
  rw [hr] at cr
  have hXl : (X.map Prod.fst).length = X.length := by simp
  generalize hps : X.map Prod.fst = ps at *
  have HPS := Lib.hid hps
  have HSM := Lib.hid hsm
  have HLN := Lib.hid hln
  have HR := Lib.hid hr
  have HWR := Lib.hid (writeP_eq ps)
  clear hps hsm hln hr
  go_enter Tryz.func33, Tryz.ntmps33
  go_wp2_with fail
  refine cr.mono ?_
  rintro e w1 ⟨rfl, b1⟩
  clear cr
  go_wp2_with fail
  go_loopw [4, 5, 6, 14] (fun v ins o i wr => WrRel ps w v ins o i wr) (fun _ _ _ i _ => ps.length - (intOf i).toNat)
  case atStart => exact ⟨0, [], rfl, Nat.zero_le _, rfl, rfl, rfl, Nat.le_refl _, Int.le_refl _, Int.le_refl _, World.ownsRow_nil _ _ _ _, b1⟩
  case round =>
    obtain ⟨k, L, rfl, hk, rfl, rfl, hL, hLl, hi0, hik, hown, hbw⟩ := hrel
    by_cases hp : k < ps.length
    · have hpx : k < X.length := by omega
      have hX2 := hX.below hbw
      obtain ⟨b, off, rfl, hb, y0, y1, y2, y3, y4⟩ := hX2.at hpx
      obtain ⟨A9, c9, e9, hr9⟩ := hX.ls X[k] (List.getElem_mem hpx)
      have hpk : X[k].1 = ps[k] := by
        have h1 : ps[k]? = some X[k].1 := by rw [← HPS.out, List.getElem?_map, List.getElem?_eq_getElem hpx]; rfl
        rw [List.getElem?_eq_getElem hp] at h1
        exact (Option.some.inj h1).symm
      have hs9 := (HSM.out X[k] (List.getElem_mem hpx)).1
      have hl9 := HLN.out X[k] (List.getElem_mem hpx)
      have hRP := (rightF_at ps none 0 HR.out k ps[k] (List.getElem?_eq_getElem hp)).1
      have hdl := depth_le HR.out k ps[k] (List.getElem?_eq_getElem hp)
      have hBT := bodyF_take ps k hp
      have hIT := insOf_take ps k hp
      have hCT := cnt_take ps k hp
      have hct := cnt_le (ps.take k)
      rw [List.length_take] at hct
      rw [← hpk] at hRP hdl hBT hIT hCT
      rw [e9] at y4
      clear hpk hX2
      generalize X[k] = x at *
      obtain ⟨⟨d, dv, lab, opn, ls⟩, xv⟩ := x
      simp only at e9 hr9 hs9 hl9 hRP hdl hBT hIT hCT y0 y1 y2 y3 y4
      subst e9
      have hNl : A9 = none → ls = [] ∧ c9 = 0 := by
        rintro rfl
        have := hl9.2 _ _ rfl
        exact ⟨List.eq_nil_of_length_eq_zero this.1, this.2⟩
      have HNl := Lib.hid hNl
      have HR9 := Lib.hid hr9
      have hl9 := hl9.1
      rw [← hL] at hBT
      have HCT := Lib.hid hCT
      have HIT := Lib.hid hIT
      have HBT := Lib.hid hBT
      have HL := Lib.hid hL
      have HB := Lib.hid hbw
      have hBs := hbw.size
      have hsz : (⟨lab.toArray⟩ : ByteArray).size ≤ 140737488355328 := by rw [str_size]; exact hs9
      clear hNl hr9 hCT hIT hBT hL
      have hgb := heap_alloc_new wr (.cells #[.int .i64 d, .bool dv, .string ⟨lab.toArray⟩, .bool opn, .slice A9 ls.length c9] 94)
      have ce := addEnds_kept w.heap.size _ L (insOf (ps.take k).getLast? - d) (wr.alloc (.cells #[.int .i64 d, .bool dv, .string ⟨lab.toArray⟩, .bool opn, .slice A9 ls.length c9] 94)) (by have := alloc_size wr (.cells #[.int .i64 d, .bool dv, .string ⟨lab.toArray⟩, .bool opn, .slice A9 ls.length c9] 94); omega) (hown.alloc _) (by omega) (by omega)
      have hb0 := (HB.out.alloc hBs (.cells #[.int .i64 d, .bool dv, .string ⟨lab.toArray⟩, .bool opn, .slice A9 ls.length c9] 94))
      have HGb := Lib.hid hgb
      have HBB := Lib.hid hb0
      clear hgb hb0 hbw hown
      unfold rightPart at hRP
      cases dv with
      | true =>
        simp only [if_true, Bool.and_eq_true, List.isEmpty_iff] at hRP
        obtain ⟨⟨hls, hlab⟩, hlf⟩ := hRP
        clear hls hlab hlf
        cases opn with
        | true =>
          go_wp2_with fail
          refine ce.mono ?_
          rintro e w2 ⟨v2, rfl, hown2, b2, k2⟩
          have hg2 := k2 _ _ _ HGb.out
          obtain ⟨z0, z1, z2, z3, z4⟩ := block_cells hg2
          have HG2 := Lib.hid hg2
          have hl1 : (L ++ ends (insOf (ps.take k).getLast? - d).toNat).length = L.length + (insOf (ps.take k).getLast? - d).toNat := by simp [ends]
          generalize hM1 : L ++ ends (insOf (ps.take k).getLast? - d).toNat = M1 at hown2 hl1
          have HM1 := Lib.hid hM1
          have hl1b := Nat.le_of_eq hl1
          clear hl1
          have HO2 := Lib.hid hown2
          have HB2 := Lib.hid (HBB.out.trans b2)
          have hsB := HB2.out.size
          clear hg2 hown2 b2 k2 hM1
          have hrow3 : RowOf (w2.alloc (.cells #[.string (((⟨#[58, 58, 58, 123]⟩ : ByteArray) ++ ⟨lab.toArray⟩) ++ ⟨#[125]⟩)] 9)) (some ⟨w2.heap.size, 0, none⟩) 1 (strs [divLine lab]) := by
            rw [divLine_sum]; exact rowOf_lit w2 9 (strs [divLine lab]) (by rw [strs_length]; show 1 ≤ maxLen; decide)
          have hown3 := HO2.out.alloc (.cells #[.string (((⟨#[58, 58, 58, 123]⟩ : ByteArray) ++ ⟨lab.toArray⟩) ++ ⟨#[125]⟩)] 9)
          go_wp2_with (at_builtin; refine append_strs rfl _ _ rfl w.heap.size v2 _ rfl hown3 (some ⟨w2.heap.size, 0, none⟩) 1 [divLine lab] rfl hrow3 (by simp) (by simp; omega) (by simp; omega) ?_)
          intro v4 w4 hown4 hgr4
          have hs3 := alloc_size w2 (.cells #[.string (((⟨#[58, 58, 58, 123]⟩ : ByteArray) ++ ⟨lab.toArray⟩) ++ ⟨#[125]⟩)] 9)
          have hs4 := hgr4.size
          have b3 : Below w2.heap.size w2 (w2.alloc (.cells #[.string (((⟨#[58, 58, 58, 123]⟩ : ByteArray) ++ ⟨lab.toArray⟩) ++ ⟨#[125]⟩)] 9)) := (Below.refl _ w2).alloc (Nat.le_refl _) _
          have k4 := (PartsKept.of_below b3).trans (PartsKept.of_grown hown3 (by decide) hgr4)
          have b4 := (HB2.out.trans (b3.mono (by omega))).trans (below_of_grown hgr4 (fun g hg => (hown3.lt g hg).1) (by omega))
          have hg4 := k4 _ _ _ HG2.out
          obtain ⟨z0, z1, z2, z3, z4⟩ := block_cells hg4
          have hr4 := HR9.out.below b4
          have HB4 := Lib.hid b4
          have hown4' : w4.ownsRow w.heap.size 9 1 v4 (M1 ++ [divLine lab]).length (strs (M1 ++ [divLine lab])) := by first | exact hown4 | (rw [List.length_append]; exact hown4)
          have hl4 : (M1 ++ [divLine lab]).length = M1.length + 1 := by simp
          generalize hM2 : M1 ++ [divLine lab] = M2 at hown4' hl4
          have HM2 := Lib.hid hM2
          have hl4b := Nat.le_of_eq hl4
          clear hl4
          have HO4 := Lib.hid hown4'
          clear hown3 hrow3 hgr4 b3 k4 b4 hg4 hown4 hown4' hM2
          go_wp2_with (at_builtin; refine append_strs rfl _ _ rfl w.heap.size v4 _ rfl HO4.out A9 c9 ls rfl hr4 HNl.out (by omega) (by omega) ?_)
          intro v5 w5 hown5 hgr5
          have b5 := HB4.out.trans (below_of_grown hgr5 (fun g hg => (HO4.out.lt g hg).1) (by omega))
          have HF := Lib.hid (show w5.ownsRow w.heap.size 9 1 v5 (M2 ++ ls).length (strs (M2 ++ ls)) from by first | exact hown5 | (rw [List.length_append]; exact hown5))
          have HB5 := Lib.hid b5
          clear hown5 b5 hgr5 hr4
          go_wp2
          go_roundw
          case rel =>
            refine ⟨k + 1, M2 ++ ls, by go_num, by omega, ?_, ?_, (by rw [HBT.out, ← HM2.out, ← HM1.out]; simp), ?_, ?_, ?_, HF.out, HB5.out⟩
            · rw [HIT.out]; go_num
            · rw [HCT.out]; go_num
            · rw [List.length_append]; omega
            · rw [HIT.out]; simp; omega
            · rw [HIT.out]; simp; omega
          case measure => simp [intOf]; omega

        | false =>
          go_wp2_with fail
          refine ce.mono ?_
          rintro e w2 ⟨v2, rfl, hown2, b2, k2⟩
          have hg2 := k2 _ _ _ HGb.out
          obtain ⟨z0, z1, z2, z3, z4⟩ := block_cells hg2
          have HG2 := Lib.hid hg2
          have hl1 : (L ++ ends (insOf (ps.take k).getLast? - d).toNat).length = L.length + (insOf (ps.take k).getLast? - d).toNat := by simp [ends]
          generalize hM1 : L ++ ends (insOf (ps.take k).getLast? - d).toNat = M1 at hown2 hl1
          have HM1 := Lib.hid hM1
          have hl1b := Nat.le_of_eq hl1
          clear hl1
          have HO2 := Lib.hid hown2
          have HB2 := Lib.hid (HBB.out.trans b2)
          have hsB := HB2.out.size
          clear hg2 hown2 b2 k2 hM1
          have hrow3 : RowOf (w2.alloc (.cells #[.string (((⟨#[58, 58, 58, 123]⟩ : ByteArray) ++ ⟨lab.toArray⟩) ++ ⟨#[125]⟩)] 9)) (some ⟨w2.heap.size, 0, none⟩) 1 (strs [divLine lab]) := by
            rw [divLine_sum]; exact rowOf_lit w2 9 (strs [divLine lab]) (by rw [strs_length]; show 1 ≤ maxLen; decide)
          have hown3 := HO2.out.alloc (.cells #[.string (((⟨#[58, 58, 58, 123]⟩ : ByteArray) ++ ⟨lab.toArray⟩) ++ ⟨#[125]⟩)] 9)
          go_wp2_with (at_builtin; refine append_strs rfl _ _ rfl w.heap.size v2 _ rfl hown3 (some ⟨w2.heap.size, 0, none⟩) 1 [divLine lab] rfl hrow3 (by simp) (by simp; omega) (by simp; omega) ?_)
          intro v4 w4 hown4 hgr4
          have hs3 := alloc_size w2 (.cells #[.string (((⟨#[58, 58, 58, 123]⟩ : ByteArray) ++ ⟨lab.toArray⟩) ++ ⟨#[125]⟩)] 9)
          have hs4 := hgr4.size
          have b3 : Below w2.heap.size w2 (w2.alloc (.cells #[.string (((⟨#[58, 58, 58, 123]⟩ : ByteArray) ++ ⟨lab.toArray⟩) ++ ⟨#[125]⟩)] 9)) := (Below.refl _ w2).alloc (Nat.le_refl _) _
          have k4 := (PartsKept.of_below b3).trans (PartsKept.of_grown hown3 (by decide) hgr4)
          have b4 := (HB2.out.trans (b3.mono (by omega))).trans (below_of_grown hgr4 (fun g hg => (hown3.lt g hg).1) (by omega))
          have hg4 := k4 _ _ _ HG2.out
          obtain ⟨z0, z1, z2, z3, z4⟩ := block_cells hg4
          have hr4 := HR9.out.below b4
          have HB4 := Lib.hid b4
          have hown4' : w4.ownsRow w.heap.size 9 1 v4 (M1 ++ [divLine lab]).length (strs (M1 ++ [divLine lab])) := by first | exact hown4 | (rw [List.length_append]; exact hown4)
          have hl4 : (M1 ++ [divLine lab]).length = M1.length + 1 := by simp
          generalize hM2 : M1 ++ [divLine lab] = M2 at hown4' hl4
          have HM2 := Lib.hid hM2
          have hl4b := Nat.le_of_eq hl4
          clear hl4
          have HO4 := Lib.hid hown4'
          clear hown3 hrow3 hgr4 b3 k4 b4 hg4 hown4 hown4' hM2
          go_wp2_with (at_builtin; refine append_strs rfl _ _ rfl w.heap.size v4 _ rfl HO4.out A9 c9 ls rfl hr4 HNl.out (by omega) (by omega) ?_)
          intro v5 w5 hown5 hgr5
          have b5 := HB4.out.trans (below_of_grown hgr5 (fun g hg => (HO4.out.lt g hg).1) (by omega))
          have HF := Lib.hid (show w5.ownsRow w.heap.size 9 1 v5 (M2 ++ ls).length (strs (M2 ++ ls)) from by first | exact hown5 | (rw [List.length_append]; exact hown5))
          have HB5 := Lib.hid b5
          clear hown5 b5 hgr5 hr4
          go_wp2
          go_roundw
          case rel =>
            refine ⟨k + 1, M2 ++ ls, by go_num, by omega, ?_, ?_, (by rw [HBT.out, ← HM2.out, ← HM1.out]; simp), ?_, ?_, ?_, HF.out, HB5.out⟩
            · rw [HIT.out]; go_num
            · rw [HCT.out]; go_num
            · rw [List.length_append]; omega
            · rw [HIT.out]; simp; omega
            · rw [HIT.out]; simp; omega
          case measure => simp [intOf]; omega

      | false =>
        simp only [Bool.false_eq_true, if_false, Bool.and_eq_true, Bool.not_eq_true'] at hRP
        obtain ⟨⟨⟨_, _⟩, rfl⟩, _⟩ := hRP
        go_wp2_with fail
        refine ce.mono ?_
        rintro e w2 ⟨v2, rfl, hown2, b2, k2⟩
        have hg2 := k2 _ _ _ HGb.out
        obtain ⟨z0, z1, z2, z3, z4⟩ := block_cells hg2
        have hl1 : (L ++ ends (insOf (ps.take k).getLast? - d).toNat).length = L.length + (insOf (ps.take k).getLast? - d).toNat := by simp [ends]
        generalize hM1 : L ++ ends (insOf (ps.take k).getLast? - d).toNat = M1 at hown2 hl1
        have HM1 := Lib.hid hM1
        have hl1b := Nat.le_of_eq hl1
        clear hl1
        have HO2 := Lib.hid hown2
        have HB2 := Lib.hid (HBB.out.trans b2)
        have hsB := HB2.out.size
        have hr4 := HR9.out.below HB2.out
        clear hg2 hown2 b2 k2 hM1
        go_wp2_with (at_builtin; refine append_strs rfl _ _ rfl w.heap.size v2 _ rfl HO2.out A9 c9 ls rfl hr4 HNl.out (by omega) (by omega) ?_)
        intro v5 w5 hown5 hgr5
        have b5 := HB2.out.trans (below_of_grown hgr5 (fun g hg => (HO2.out.lt g hg).1) (by omega))
        have HF := Lib.hid (show w5.ownsRow w.heap.size 9 1 v5 (M1 ++ ls).length (strs (M1 ++ ls)) from by first | exact hown5 | (rw [List.length_append]; exact hown5))
        have HB5 := Lib.hid b5
        clear hown5 b5 hgr5 hr4
        go_wp2
        go_roundw
        case rel =>
          refine ⟨k + 1, M1 ++ ls, by go_num, by omega, ?_, ?_, (by rw [HBT.out, ← HM1.out]; simp), ?_, ?_, ?_, HF.out, HB5.out⟩
          · rw [HIT.out]; go_num
          · rw [HCT.out]; go_num
          · rw [List.length_append]; omega
          · rw [HIT.out]; simp; omega
          · rw [HIT.out]; simp; omega
        case measure => simp [intOf]; omega
    · obtain rfl : k = ps.length := by omega
      have HL := Lib.hid (show writeP ps = L ++ ends (insOf ps.getLast? - cnt ps).toNat from by rw [HWR.out, hL, List.take_length])
      rw [List.take_length] at hi0 hik ⊢
      have hct := cnt_le ps
      generalize hin : insOf ps.getLast? = ins at hi0 hik HL ⊢
      generalize hcn : cnt ps = o at hct HL ⊢
      clear hin hcn
      have ce := addEnds_kept w.heap.size _ L (ins - o) wr hbw.size hown (by omega) (by omega)
      have HB := Lib.hid hbw
      clear hL hbw hown
      go_wp2_with fail
      refine ce.mono ?_
      rintro e w2 ⟨v2, rfl, hown2, b2, k2⟩
      have HO2 := Lib.hid hown2
      have HB2 := Lib.hid (HB.out.trans b2)
      clear hown2 b2 k2
      go_wp2
      go_ret2
      exact ⟨v2, rfl, by rw [HL.out]; exact HO2.out, HB2.out⟩

end Go.Proofs.YtkcmhdkhdjmjeaaGreatDoor
