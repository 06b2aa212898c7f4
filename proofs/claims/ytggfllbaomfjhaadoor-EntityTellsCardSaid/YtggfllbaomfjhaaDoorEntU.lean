/-
  The document's own answers for chapter 3: digit, Names, At: what each answers, in plain words.
-/
import Derived.Test.YtggfllbaomfjhaaDoorEntT
namespace Go.Proofs.YtggfllbaomfjhaaDoor
open Go.RowKit
set_option linter.unusedSimpArgs false
set_option linter.unusedVariables false

def bse (hex : Bool) : Int := if hex then 16 else 10
def rdig (hex : Bool) (c : Int) : Int := if digOk (bse hex) c then digV (bse hex) c else -1
theorem rdigit_any (c : Int) (hex : Bool) (w : World) (h0 : 0 ≤ c) (h1 : c ≤ 255) :
    Calls Tryd.prog 21 #[.int .u8 c, .bool hex] w fun e w' => e = .returned (.int .i64 (rdig hex c)) ∧ w = w' := by
  by_cases d1 : 48 ≤ c ∧ c ≤ 57
  · have HV := Lib.hid (show rdig hex c = c - 48 from by cases hex <;> simp [rdig, bse, digV, digOk, (inR_iff _ _ _).2 d1])
    obtain ⟨d1, d2⟩ := d1
    go_enter Tryd.func21, Tryd.ntmps21
    go_wp2
    go_ret
    exact ⟨ret_int HV.out.symm, rfl⟩
  · have n1 := (inR_f _ _ _).2 d1
    cases hex with
    | false =>
      have HV := Lib.hid (show rdig false c = -1 from by simp [rdig, bse, digV, digOk, n1])
      clear n1
      go_enter Tryd.func21, Tryd.ntmps21
      go_wp2
      all_goals first | omega | (go_ret; exact ⟨ret_int HV.out.symm, rfl⟩)
    | true =>
      by_cases d2 : 97 ≤ c ∧ c ≤ 102
      · have HV := Lib.hid (show rdig true c = c - 97 + 10 from by simp [rdig, bse, digV, digOk, n1, (inR_iff _ _ _).2 d2]; omega)
        obtain ⟨d3, d4⟩ := d2
        clear n1 d1
        go_enter Tryd.func21, Tryd.ntmps21
        go_wp2
        go_ret
        exact ⟨ret_int HV.out.symm, rfl⟩
      · have n2 := (inR_f _ _ _).2 d2
        by_cases d3 : 65 ≤ c ∧ c ≤ 70
        · have HV := Lib.hid (show rdig true c = c - 65 + 10 from by simp [rdig, bse, digV, digOk, n1, n2, (inR_iff _ _ _).2 d3]; omega)
          obtain ⟨d4, d5⟩ := d3
          clear n1 n2 d1 d2
          go_enter Tryd.func21, Tryd.ntmps21
          go_wp2
          go_ret
          exact ⟨ret_int HV.out.symm, rfl⟩
        · have HV := Lib.hid (show rdig true c = -1 from by simp [rdig, bse, digV, digOk, n1, n2, (inR_f _ _ _).2 d3])
          clear n1 n2
          go_enter Tryd.func21, Tryd.ntmps21
          go_wp2
          all_goals first | omega | (go_ret; exact ⟨ret_int HV.out.symm, rfl⟩)

def runeVals : List Value := runesL.map (Value.int .i32)
theorem rnames_any (w : World) :
    Calls Tryd.prog 11 #[] w fun e w' => ∃ A B ca cb, e = .returned (.tuple #[.slice A 23 ca, .slice B 23 cb]) ∧ RowOf w' A ca (strs namesL) ∧ RowOf w' B cb runeVals ∧ Below w.heap.size w w' := by
  have h1 := rowOf_lit w 9 (strs namesL) (by decide)
  have h2 := rowOf_lit (w.alloc (.cells (strs namesL).toArray 9)) 21 runeVals (by decide)
  rw [alloc_size] at h2
  have H1 := Lib.hid (h1.alloc (.cells runeVals.toArray 21))
  have H2 := Lib.hid h2
  have HB := Lib.hid (show Below w.heap.size w ((w.alloc (.cells (strs namesL).toArray 9)).alloc (.cells runeVals.toArray 21)) from ((Below.refl _ w).alloc (Nat.le_refl _) _).alloc (by rw [alloc_size]; omega) _)
  clear h1 h2
  go_enter Tryd.func11, Tryd.ntmps11
  go_wp2
  go_ret2
  exact ⟨_, _, _, _, rfl, H1.out, H2.out, HB.out⟩

theorem nm_cell (k : Nat) (h : k < 23) : (strs namesL)[k]'(by rw [strs_length, namesL_length]; exact h) = .string (nmB k) := by
  have hl := namedL_length
  simp [strs, namesL, nmB, hl, h]
def AtRel (l : List UInt8) (i : Value) : Prop :=
  ∃ k : Nat, i = .int .i64 k ∧ k ≤ 23 ∧ idxI l = (match (namesL.drop k).findIdx? (· == l) with | some j => ((k + j : Nat) : Int) | none => -1)
theorem nm_drop (k : Nat) (h : k < 23) : namesL.drop k = (nmB k).data.toList :: namesL.drop (k + 1) := by
  have hl := namesL_length
  have hl2 := namedL_length
  rw [List.drop_eq_getElem_cons (by omega)]
  simp [namesL, nmB, hl2, h]

set_option maxHeartbeats 1000000 in
theorem rat_any (A : Option Addr) (ca : Nat) (s : ByteArray) (w : World) (hr : RowOf w A ca (strs namesL)) :
    Calls Tryd.prog 12 #[.slice A 23 ca, .string s] w fun e w' => e = .returned (.int .i64 (idxI s.data.toList)) ∧ w = w' := by
  have hc1 := hr.1
  have hc2 := hr.2.1
  rw [strs_length, namesL_length] at hc1
  unfold maxLen at hc2
  go_enter Tryd.func12, Tryd.ntmps12
  go_wp2
  go_loop [5] (fun i => AtRel s.data.toList i) (fun i => 23 - (intOf i).toNat)
  case atStart =>
    refine ⟨0, rfl, Nat.zero_le _, ?_⟩
    unfold idxI
    rw [List.drop_zero]
    cases namesL.findIdx? (· == s.data.toList) with
    | none => rfl
    | some j => simp
  case round =>
    obtain ⟨k, rfl, hk, hi⟩ := hrel
    by_cases hp : k < 23
    · obtain ⟨b, off, rfl, hb, hcell⟩ := names_cell hr k hp
      rw [nm_drop k hp] at hi
      by_cases he : (nmB k).data.toList = s.data.toList
      · have fe : ((nmB k).toList == s.toList) = true := by rw [beq_iff_eq, ByteArray.toList_eq, ByteArray.toList_eq]; exact he
        have HI := Lib.hid (show idxI s.data.toList = k from by rw [hi, List.findIdx?_cons]; simp [he])
        clear hi he hb
        generalize nmB k = N at *
        go_wp2
        go_ret
        exact ⟨ret_int HI.out.symm, rfl⟩
      · have fe : ((nmB k).toList == s.toList) = false := by rw [beq_eq_false_iff_ne, ByteArray.toList_eq, ByteArray.toList_eq]; exact he
        have HI := Lib.hid (show idxI s.data.toList = (match (namesL.drop (k + 1)).findIdx? (· == s.data.toList) with | some j => ((k + 1 + j : Nat) : Int) | none => -1) from by
          rw [hi, List.findIdx?_cons]
          simp only [beq_eq_false_iff_ne.2 he, Bool.false_eq_true, if_false]
          cases (namesL.drop (k + 1)).findIdx? (· == s.data.toList) with
          | none => rfl
          | some j =>
            show ((k + (j + 1) : Nat) : Int) = ((k + 1 + j : Nat) : Int)
            omega)
        clear hi he hb
        generalize nmB k = N at *
        go_wp2
        go_round
        case rel => exact ⟨k + 1, by go_num, by omega, HI.out⟩
        case measure => simp [intOf]; omega
    · obtain rfl : k = 23 := by omega
      have HI := Lib.hid (show idxI s.data.toList = -1 from by
        rw [List.drop_of_length_le (by rw [namesL_length]; omega)] at hi
        exact hi)
      clear hi
      go_wp2
      go_ret
      exact ⟨ret_int HI.out.symm, rfl⟩

end Go.Proofs.YtggfllbaomfjhaaDoor
