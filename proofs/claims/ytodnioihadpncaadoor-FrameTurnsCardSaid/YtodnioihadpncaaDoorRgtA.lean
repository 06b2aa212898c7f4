/-
  Package frame: rightPart: which parts may be, wherever they stand: the closure that tells a wrong line, the library's search by it.
-/
import Derived.Test.YtodnioihadpncaaDoorFrmD
namespace Go.Proofs.YtodnioihadpncaaDoor
open Go.RowKit
set_option linter.unusedSimpArgs false
set_option linter.unusedVariables false
set_option maxRecDepth 100000

theorem wrong_any (s : ByteArray) (b : Nat) (d : Int) (w : World) (hs : s.size ≤ 140737488355328) (hb : b < w.heap.size) (hd : w.cell? ⟨b, 0, none⟩ = some (.int .i64 d)) :
    Calls Tryd.prog 38 #[.string s, .pointer (some ⟨b, 0, none⟩)] w fun e w' => e = .returned (.bool (!lineOk d s.data.toList)) ∧ Below w.heap.size w w' := by
  have co := opens_any s w hs
  have cc := fun w1 => closes_any s w1 hs
  have ch := fun w1 => hasEnd_any s w1
  unfold lineOk
  cases h1 : opensL s.data.toList with
  | some lab =>
    rw [h1] at co
    unfold optV at co
    dsimp only at co
    clear h1
    go_enter Tryd.func38, Tryd.ntmps38
    go_wp2_with fail
    refine co.mono ?_
    rintro e w1 ⟨rfl, b1⟩
    go_wp2
    go_ret
    exact ⟨ret_bool (by simp), b1⟩
  | none =>
    rw [h1] at co
    unfold optV at co
    dsimp only at co
    clear h1
    by_cases h0 : 0 < d
    · cases h2 : closesL s.data.toList with
      | true =>
        rw [h2] at cc
        clear h2
        go_enter Tryd.func38, Tryd.ntmps38
        go_wp2_with fail
        refine co.mono ?_
        rintro e w1 ⟨rfl, b1⟩
        have hd1 := (b1.cell (p := ⟨b, 0, none⟩) hb).trans hd
        go_wp2_with fail
        refine (cc _).mono ?_
        rintro e w2 ⟨rfl, rfl⟩
        go_wp2
        go_ret
        exact ⟨ret_bool (by simp [h0]), b1⟩
      | false =>
        rw [h2] at cc
        clear h2
        generalize lfFree s.data.toList = lf at *
        go_enter Tryd.func38, Tryd.ntmps38
        go_wp2_with fail
        refine co.mono ?_
        rintro e w1 ⟨rfl, b1⟩
        have hd1 := (b1.cell (p := ⟨b, 0, none⟩) hb).trans hd
        go_wp2_with fail
        refine (cc _).mono ?_
        rintro e w2 ⟨rfl, rfl⟩
        go_wp2_with fail
        refine (ch _).mono ?_
        rintro e w3 ⟨rfl, rfl⟩
        go_wp2
        go_ret
        exact ⟨ret_bool (by simp), b1⟩
    · have h9 : decide (0 < d) = false := decide_eq_false h0
      rw [h9]
      clear h9
      generalize lfFree s.data.toList = lf at *
      go_enter Tryd.func38, Tryd.ntmps38
      go_wp2_with fail
      refine co.mono ?_
      rintro e w1 ⟨rfl, b1⟩
      have hd1 := (b1.cell (p := ⟨b, 0, none⟩) hb).trans hd
      go_wp2_with fail
      refine (ch _).mono ?_
      rintro e w3 ⟨rfl, rfl⟩
      go_wp2
      go_ret
      exact ⟨ret_bool (by simp), b1⟩

/-- The search goes on: no line so far is wrong. -/
def IfRel (ls : List Txt) (d : Int) (w : World) (i : Value) (wr : World) : Prop := ∃ k : Nat, i = .int .i64 k ∧ k ≤ ls.length ∧ (ls.take k).all (lineOk d) = true ∧ Below w.heap.size w wr
def SearchEnd (w : World) (ok : Bool) (e : Ending) (w' : World) : Prop := ∃ i : Int, e = .returned (.int .i64 i) ∧ decide (0 ≤ i) = !ok ∧ Below w.heap.size w w'

set_option maxHeartbeats 2000000 in
theorem indexFunc_any (A : Option Addr) (c : Nat) (ls : List Txt) (b : Nat) (d : Int) (w : World) (hrow : RowOf w A c (strs ls)) (hz : ∀ y ∈ ls, y.length ≤ 140737488355328) (hb : b < w.heap.size) (hd : w.cell? ⟨b, 0, none⟩ = some (.int .i64 d)) :
    Calls Tryd.prog 54 #[.slice A ls.length c, .func (.func 38) #[] #[.pointer (some ⟨b, 0, none⟩)]] w (SearchEnd w (ls.all (lineOk d))) := by
  have hcl := hrow.1
  have hcm := hrow.2.1
  rw [strs_length] at hcl
  unfold maxLen at hcm
  have HZ := Lib.hid hz
  clear hz
  go_enter Tryd.func54, Tryd.ntmps54
  go_wp2_with fail
  go_loopw [8] (fun i wr => IfRel ls d w i wr) (fun i _ => ls.length - (intOf i).toNat)
  case atStart => exact ⟨0, rfl, Nat.zero_le _, by simp, Below.refl _ _⟩
  case round =>
    obtain ⟨k, rfl, hk, hall, hbw⟩ := hrel
    have HA := Lib.hid hall
    clear hall
    by_cases hp : k < ls.length
    · have hrow2 := hrow.below hbw
      obtain ⟨b0, off, rfl, hb0, hc⟩ := hrow2.cellAt hp
      have hsz := HZ.out ls[k] (List.getElem_mem hp)
      rw [← str_size] at hsz
      have cw := fun w1 h1 h2 => wrong_any ⟨ls[k].toArray⟩ b d w1 hsz h1 h2
      rw [show (⟨ls[k].toArray⟩ : ByteArray).data.toList = ls[k] from rfl] at cw
      have HT := Lib.hid (List.take_succ_eq_append_getElem hp)
      cases hl : lineOk d ls[k] with
      | false =>
        have HF := Lib.hid (show ls.all (lineOk d) = false from by
          rw [List.all_eq_false]
          exact ⟨ls[k], List.getElem_mem hp, by rw [hl]; simp⟩)
        rw [hl] at cw
        clear hl
        go_wp2_with fail
        refine (cw _ (Nat.lt_of_lt_of_le hb hbw.size) ((hbw.cell (p := ⟨b, 0, none⟩) hb).trans hd)).mono ?_
        rintro e w1 ⟨rfl, b1⟩
        go_wp2
        go_ret
        exact ⟨(k : Int), rfl, by rw [HF.out]; simp, hbw.then b1⟩
      | true =>
        have HF := Lib.hid hl
        rw [hl] at cw
        clear hl
        go_wp2_with fail
        refine (cw _ (Nat.lt_of_lt_of_le hb hbw.size) ((hbw.cell (p := ⟨b, 0, none⟩) hb).trans hd)).mono ?_
        rintro e w1 ⟨rfl, b1⟩
        go_wp2
        go_roundw
        case rel => exact ⟨k + 1, by go_num, by omega, by rw [HT.out, List.all_append, HA.out]; simp [HF.out], hbw.then b1⟩
        case measure => simp [intOf]; omega
    · obtain rfl : k = ls.length := by omega
      have HF := Lib.hid (show ls.all (lineOk d) = true from by have := HA.out; rwa [List.take_length] at this)
      go_wp2
      go_ret
      exact ⟨-1, rfl, by rw [HF.out]; rfl, hbw⟩

theorem containsFunc_any (A : Option Addr) (c : Nat) (ls : List Txt) (b : Nat) (d : Int) (w : World) (hrow : RowOf w A c (strs ls)) (hz : ∀ y ∈ ls, y.length ≤ 140737488355328) (hb : b < w.heap.size) (hd : w.cell? ⟨b, 0, none⟩ = some (.int .i64 d)) :
    Calls Tryd.prog 39 #[.slice A ls.length c, .func (.func 38) #[] #[.pointer (some ⟨b, 0, none⟩)]] w fun e w' => e = .returned (.bool (!ls.all (lineOk d))) ∧ Below w.heap.size w w' := by
  have c1 := indexFunc_any A c ls b d w hrow hz hb hd
  generalize ls.all (lineOk d) = ok at *
  go_enter Tryd.func39, Tryd.ntmps39
  go_wp2_with fail
  refine c1.mono ?_
  rintro e w1 ⟨i, rfl, hi, b1⟩
  go_wp2
  go_ret
  exact ⟨ret_bool (by rw [← hi]), b1⟩

/-- A part's block. -/
theorem box_cells (w : World) (x : Prt × Value) (t : TypeId) : (w.alloc (.cells (ptC x).toArray t)).cell? ⟨w.heap.size, 0, none⟩ = some (.int .i64 x.1.depth) ∧ (w.alloc (.cells (ptC x).toArray t)).cell? ⟨w.heap.size, 1, none⟩ = some (.bool x.1.dv) ∧
    (w.alloc (.cells (ptC x).toArray t)).cell? ⟨w.heap.size, 2, none⟩ = some (.string ⟨x.1.lab.toArray⟩) ∧ (w.alloc (.cells (ptC x).toArray t)).cell? ⟨w.heap.size, 3, none⟩ = some (.bool x.1.opn) ∧ (w.alloc (.cells (ptC x).toArray t)).cell? ⟨w.heap.size, 4, none⟩ = some x.2 := by
  have h := part_cells w x t
  simp only [addr_add, Nat.zero_add] at h
  exact ⟨h 0 _ rfl, h 1 _ rfl, h 2 _ rfl, h 3 _ rfl, h 4 _ rfl⟩

set_option maxHeartbeats 4000000 in
theorem rightPart_any (p : Prt) (A : Option Addr) (c : Nat) (w : World) (hrow : RowOf w A c (strs p.ls)) (hz : ∀ y ∈ p.ls, y.length ≤ 140737488355328) (hlab : p.lab.length ≤ 140737488355328) :
    Calls Tryd.prog 24 #[.agg #[.int .i64 p.depth, .bool p.dv, .string ⟨p.lab.toArray⟩, .bool p.opn, .slice A p.ls.length c]] w fun e w' => e = .returned (.bool (rightPart p)) ∧ Below w.heap.size w w' := by
  have hmf : ∀ (fn : Fn) (first cap : Array Value) (w : World), (Instr.makeFunc fn first cap).run Tryd.prog w = .ok (.func fn first cap) w := fun _ _ _ _ => rfl
  obtain ⟨d, dv, lab, opn, ls⟩ := p
  simp only at hrow hz hlab ⊢
  have b0 : Below w.heap.size w (w.alloc (.cells #[.int .i64 d, .bool dv, .string ⟨lab.toArray⟩, .bool opn, .slice A ls.length c] 32)) := (Below.refl _ w).alloc (Nat.le_refl _) _
  have hs0 := alloc_size w (.cells #[.int .i64 d, .bool dv, .string ⟨lab.toArray⟩, .bool opn, .slice A ls.length c] 32)
  obtain ⟨x0, x1, x2, x3, x4⟩ := box_cells w (⟨d, dv, lab, opn, ls⟩, .slice A ls.length c) 32
  simp only [show (ptC (⟨d, dv, lab, opn, ls⟩, .slice A ls.length c)).toArray = #[.int .i64 d, .bool dv, .string ⟨lab.toArray⟩, .bool opn, .slice A ls.length c] from rfl] at x0 x1 x2 x3 x4
  have hsz : (⟨lab.toArray⟩ : ByteArray).size ≤ 140737488355328 := by rw [str_size]; exact hlab
  have cl := fun w1 => isLabel_any ⟨lab.toArray⟩ w1 hsz
  have ch := fun w1 => hasEnd_any ⟨lab.toArray⟩ w1
  rw [show (⟨lab.toArray⟩ : ByteArray).data.toList = lab from rfl] at cl ch
  have cf := containsFunc_any A c ls w.heap.size d _ (hrow.alloc (.cells #[.int .i64 d, .bool dv, .string ⟨lab.toArray⟩, .bool opn, .slice A ls.length c] 32)) hz (by omega) x0
  unfold rightPart
  simp only
  have hE : ls.isEmpty = decide (ls.length = 0) := by cases ls <;> rfl
  rw [hE]
  clear hE hrow
  generalize ls.length = n at *
  cases dv with
  | true =>
    rw [if_pos rfl]
    by_cases hl : n = 0
    · have hl2 : decide (n = 0) = true := decide_eq_true hl
      have f0 : ((n : Int) == 0) = true := by rw [beq_iff_eq]; omega
      rw [hl2]
      clear hl2 hl
      cases h2 : isLab lab with
      | true =>
        rw [h2] at cl
        clear h2
        generalize lfFree lab = lf at *
        go_enter Tryd.func24, Tryd.ntmps24
        go_wp2_with fail
        refine (cl _).mono ?_
        rintro e w1 ⟨rfl, b1⟩
        have y2 := (b1.cell (p := ⟨w.heap.size, 2, none⟩) (by show w.heap.size < _; omega)).trans x2
        go_wp2_with fail
        refine (ch _).mono ?_
        rintro e w3 ⟨rfl, rfl⟩
        go_wp2
        go_ret
        exact ⟨ret_bool (by simp), b0.then b1⟩
      | false =>
        rw [h2] at cl
        clear h2
        go_enter Tryd.func24, Tryd.ntmps24
        go_wp2_with fail
        refine (cl _).mono ?_
        rintro e w1 ⟨rfl, b1⟩
        go_wp2
        go_ret
        exact ⟨ret_bool (by simp), b0.then b1⟩
    · have hl2 : decide (n = 0) = false := decide_eq_false hl
      have f0 : ((n : Int) == 0) = false := by rw [beq_eq_false_iff_ne]; omega
      rw [hl2]
      clear hl2 hl
      go_enter Tryd.func24, Tryd.ntmps24
      go_wp2
      go_ret
      exact ⟨ret_bool (by simp), b0⟩
  | false =>
    rw [if_neg (by simp)]
    by_cases hl : n = 0
    · subst hl
      go_enter Tryd.func24, Tryd.ntmps24
      go_wp2
      go_ret
      exact ⟨ret_bool (by simp), b0⟩
    · have hl2 : decide (n = 0) = false := decide_eq_false hl
      have f0 : decide ((0 : Int) < n) = true := decide_eq_true (by omega)
      rw [hl2]
      clear hl2
      by_cases hla : lab = []
      · subst hla
        rw [show (([] : Txt).isEmpty) = true from rfl]
        cases opn with
        | true =>
          go_enter Tryd.func24, Tryd.ntmps24
          go_wp2
          go_ret
          exact ⟨ret_bool (by simp), b0⟩
        | false =>
          generalize ls.all (lineOk d) = ok at *
          go_enter Tryd.func24, Tryd.ntmps24
          go_wp2_with fail
          refine cf.mono ?_
          rintro e w1 ⟨rfl, b1⟩
          go_wp2
          go_ret
          exact ⟨ret_bool (by simp), b0.then b1⟩
      · have fe : (@BEq.beq (List UInt8) (@List.instBEq UInt8 (@instBEqOfDecidableEq UInt8 instDecidableEqUInt8)) lab []) = false := by simpa using hla
        have hl3 : lab.isEmpty = false := by rw [List.isEmpty_eq_false_iff]; exact hla
        rw [hl3]
        clear hl3 hla
        go_enter Tryd.func24, Tryd.ntmps24
        go_wp2
        go_ret
        exact ⟨ret_bool (by simp), b0⟩

end Go.Proofs.YtodnioihadpncaaDoor
