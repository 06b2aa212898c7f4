/-
  The laws of package block: their first call; lines that may be; two lists of blocks held against each other.
-/
import Derived.Test.YtoleoigpijgboaaDoorBlkK
namespace Go.Proofs.YtoleoigpijgboaaDoor
open Go.RowKit
set_option linter.unusedSimpArgs false
set_option linter.unusedVariables false
set_option maxRecDepth 100000
variable {α : Type}

theorem alive9_blocks : parseB [[45, 32, 97], [], [45, 32, 98]] = [⟨4, 0, -1, false, [], [45]⟩, ⟨5, 1, 0, false, [], []⟩, ⟨1, 2, 0, false, [97], []⟩, ⟨5, 1, 0, false, [], []⟩, ⟨1, 2, 0, false, [98], []⟩] := by decide +kernel
theorem alive9_few : Few [[45, 32, 97], [], [45, 32, 98]] := ⟨by decide, by decide⟩

set_option maxHeartbeats 8000000 in
theorem alive9_any (w : World) : Calls Tryd.prog 16 #[] w fun e w' => e = .returned (.bool true) ∧ Below w.heap.size w w' := by
  have hb := parseB_right [[45, 32, 97], [], [45, 32, 98]]
  rw [alive9_blocks] at hb
  have b0 : Below w.heap.size w (w.alloc (.cells #[.string ⟨#[45, 32, 97]⟩, .string ⟨#[]⟩, .string ⟨#[45, 32, 98]⟩] 9)) := (Below.refl _ w).alloc (Nat.le_refl _) _
  have cp := bparse_any (some ⟨w.heap.size, 0, none⟩) 3 [[45, 32, 97], [], [45, 32, 98]] _ (rowOf_lit w 9 (strs [[45, 32, 97], [], [45, 32, 98]]) (by unfold maxLen; simp [strs])) alive9_few
  rw [alive9_blocks] at cp
  have hs0 := alloc_size w (.cells #[.string ⟨#[45, 32, 97]⟩, .string ⟨#[]⟩, .string ⟨#[45, 32, 98]⟩] 9)
  have HB0 := Lib.hid b0
  have HRB := Lib.hid hb
  clear b0 hb
  go_enter Tryd.func16, Tryd.ntmps16
  go_wp2_with fail
  refine cp.mono ?_
  rintro e w1 ⟨v1, rfl, hown, b1⟩
  obtain ⟨A1, c1, rfl, hat⟩ := BlksAt.own hown
  have HB1 := Lib.hid (HB0.out.then b1)
  obtain ⟨b9, off, hA, hb9, h00, h01, h02, h03, h04, h05⟩ := hat.at (k := 0) (by simp)
  obtain ⟨_, _, hA1, _, h10, _⟩ := hat.at (k := 1) (by simp)
  obtain ⟨_, _, hA2, _, h20, h21, h22, h23, h24, h25⟩ := hat.at (k := 2) (by simp)
  obtain ⟨_, _, hA4, _, h40, _, _, _, h44, _⟩ := hat.at (k := 4) (by simp)
  rw [hA] at hA1 hA2 hA4
  cases hA1
  cases hA2
  cases hA4
  have hle := hat.le
  have cr := bright_any A1 c1 _ w1 hat (by simp)
  rw [HRB.out] at cr
  simp only [List.length_cons, List.length_nil] at cr hle
  subst hA
  simp at h00 h01 h02 h03 h04 h05 h10 h20 h21 h22 h23 h24 h25 h40 h44
  clear hown b1 cp hat
  go_wp2_with fail
  refine cr.mono ?_
  rintro e w2 ⟨rfl, b2⟩
  have HB2 := Lib.hid (HB1.out.then b2)
  clear b2 cr
  go_wp2
  go_ret
  exact ⟨rfl, HB2.out⟩

/-- A line that may be. -/
def okLine (x : List UInt8) : Bool := decide (x.length ≤ 100) && x.all fun b => b != 10
def plainL (ls : List (List UInt8)) : Bool := ls.all okLine && decide (ls.length ≤ 40)
def PlRel (ls : List (List UInt8)) (w : World) (i : Value) (wr : World) : Prop := ∃ k : Nat, i = .int .i64 k ∧ k ≤ ls.length ∧ (ls.take k).all okLine = true ∧ wr = w
def LfRel (X : ByteArray) (w : World) (i : Value) (wr : World) : Prop := ∃ j : Nat, i = .int .i64 j ∧ j ≤ X.size ∧ (X.data.toList.take j).all (fun b => b != 10) = true ∧ wr = w
theorem all_step {p : α → Bool} {l : List α} {k : Nat} (h : k < l.length) (ha : (l.take k).all p = true) (hp : p l[k] = true) : (l.take (k + 1)).all p = true := by
  rw [List.take_succ_eq_append_getElem h, List.all_append, ha]
  simp [hp]
theorem all_not {p : α → Bool} {l : List α} {k : Nat} (h : k < l.length) (hp : p l[k] = false) : l.all p = false := by
  rw [List.all_eq_false]
  exact ⟨l[k], List.getElem_mem h, by rw [hp]; simp⟩

set_option maxHeartbeats 8000000 in
theorem plain9_any (A : Option Addr) (cap : Nat) (ls : List (List UInt8)) (w : World) (hrow : RowOf w A cap (strs ls)) (hz : ∀ x ∈ ls, x.length ≤ 9223372036854775807) :
    Calls Tryd.prog 15 #[.slice A ls.length cap] w fun e w' => e = .returned (.bool (plainL ls)) ∧ w' = w := by
  have hcl := hrow.strs_le
  have HZ := Lib.hid hz
  have HR := Lib.hid hrow
  clear hz hrow
  go_enter Tryd.func15, Tryd.ntmps15
  go_wp2_with fail
  go_loopw [8] (fun i wr => PlRel ls w i wr) (fun i _ => ls.length - (intOf i).toNat)
  case atStart => exact ⟨0, rfl, Nat.zero_le _, by simp, rfl⟩
  case round =>
    obtain ⟨k, rfl, hk, hall, hwe⟩ := hrel
    have hwe := hwe.symm
    subst hwe
    by_cases hp : k < ls.length
    · obtain ⟨b9, off, hA, hb9, hcell⟩ := HR.out.cellAt hp
      have hsz := HZ.out _ (List.getElem_mem hp)
      have HAll := Lib.hid (fun h => all_step (p := okLine) hp hall h)
      have HNot := Lib.hid (fun h => all_not (p := okLine) hp h)
      generalize ls[k] = x at *
      obtain ⟨X, hX1, hX⟩ := text_of' x
      rw [hX1] at hcell
      have hXs : X.size = x.length := by rw [← hX]; simp
      have hXm : X.size ≤ 9223372036854775807 := by omega
      have HXL := Lib.hid hX
      have HXS := Lib.hid hXs
      subst hA
      clear hX1 hX hXs hall hsz
      by_cases h1 : 100 < X.size
      · have f1 : decide ((100 : Int) < (X.size : Int)) = true := by simp; omega
        have HF := Lib.hid (show plainL ls = false from by
          unfold plainL
          rw [HNot.out (by unfold okLine; rw [decide_eq_false (by have := HXS.out; omega)]; rfl)]
          rfl)
        clear h1
        go_wp2
        go_ret
        exact ⟨ret_bool (by rw [HF.out]), rfl⟩
      · have f1 : decide ((100 : Int) < (X.size : Int)) = false := by simp; omega
        have H1 := Lib.hid h1
        clear h1
        rename World => wB
        go_wp2_with fail
        go_loopw [5] (fun i wr => LfRel X wB i wr) (fun i _ => X.size - (intOf i).toNat)
        case atStart => exact ⟨0, rfl, Nat.zero_le _, by simp, rfl⟩
        case round =>
          obtain ⟨j, rfl, hj, hall, hwe⟩ := hrel
          have hwe := hwe.symm
          subst hwe
          by_cases hp2 : j < X.size
          · have hlt : j < X.data.toList.length := by simpa using hp2
            have HAll2 := Lib.hid (fun h => all_step (p := fun b : UInt8 => b != 10) hlt hall h)
            have HNot2 := Lib.hid (fun h => all_not (p := fun b : UInt8 => b != 10) hlt h)
            have hge : X.data.toList[j] = X[j] := rfl
            rw [hge] at HAll2 HNot2
            clear hall hge
            by_cases h10 : X[j] = 10
            · have f2 : ((X[j].toNat : Int) == 10) = true := by rw [h10]; rfl
              have HF := Lib.hid (show plainL ls = false from by
                unfold plainL
                rw [HNot.out (by unfold okLine; rw [← HXL.out, HNot2.out (by rw [h10]; rfl), Bool.and_false])]
                rfl)
              clear h10
              go_wp2
              go_ret
              exact ⟨ret_bool (by rw [HF.out]), rfl⟩
            · have f2 : ((X[j].toNat : Int) == 10) = false := by
                rw [beq_eq_false_iff_ne]
                intro e
                exact h10 (UInt8.toNat_inj.1 (by show X[j].toNat = 10; omega))
              have HN := Lib.hid (HAll2.out (by simpa using h10))
              clear h10
              go_wp2
              first
                | (go_roundw
                   case rel => exact ⟨j + 1, by go_num, by omega, HN.out, rfl⟩
                   case measure => simp [intOf]; omega)
                | exact ⟨⟨j + 1, by go_num, by omega, HN.out, rfl⟩, by simp [intOf]; omega⟩
          · obtain rfl : j = X.size := by omega
            have HOk := Lib.hid (HAll.out (by
              unfold okLine
              rw [← HXL.out]
              rw [List.take_of_length_le (by simp)] at hall
              rw [hall, decide_eq_true (by have := H1.out; have := HXS.out; simp; omega)]
              rfl))
            clear hall
            go_wp2
            first
              | (go_roundw
                 case rel => exact ⟨k + 1, by go_num, by omega, HOk.out, rfl⟩
                 case measure => simp [intOf]; omega)
              | exact ⟨⟨k + 1, by go_num, by omega, HOk.out, rfl⟩, by simp [intOf]; omega⟩
    · obtain rfl : k = ls.length := by omega
      rw [List.take_length] at hall
      have HF := Lib.hid (show plainL ls = decide (ls.length ≤ 40) from by unfold plainL; rw [hall]; rfl)
      clear hall
      go_wp2
      go_ret
      exact ⟨ret_bool (by rw [HF.out, Bool.eq_iff_iff]; simp; try omega), rfl⟩

theorem plain_few {ls : List (List UInt8)} (h : plainL ls = true) : Few ls ∧ ls.length ≤ 40 ∧ ∀ x ∈ ls, x.length ≤ 100 ∧ ∀ b ∈ x, b ≠ 10 := by
  unfold plainL at h
  simp only [Bool.and_eq_true, decide_eq_true_eq, List.all_eq_true] at h
  have h2 : ∀ x ∈ ls, x.length ≤ 100 ∧ ∀ b ∈ x, b ≠ 10 := by
    intro x hx
    have := h.1 x hx
    unfold okLine at this
    simp only [Bool.and_eq_true, decide_eq_true_eq, List.all_eq_true, bne_iff_ne] at this
    exact this
  exact ⟨⟨by omega, fun x hx => by have h3 := wt_le x; have := (h2 x hx).1; omega⟩, h.2, h2⟩

end Go.Proofs.YtoleoigpijgboaaDoor
