/-
  The document's own answers for chapter 11: row2, Trim, DefName: what each answers, in plain words.
  The document's own answers for chapter 10: Unescape: what it answers, in plain words.
  The document's own answers for chapter 10: Dest: what it answers, in plain words.
  The document's own answers for chapter 10: Title: what it answers, in plain words.
  The document's own answers for chapter 11: DefLine: what it answers, in plain words.
  The document's own answers for chapter 11: Take: what it answers, in plain words.
-/
import Derived.Test.YtioolcnoiaoflaaGreatDoorRefC
import Derived.Test.YtioolcnoiaoflaaGreatDoorRefN
import Derived.Test.YtioolcnoiaoflaaGreatDoorDefP
import Derived.Test.YtioolcnoiaoflaaGreatDoorTgtA
import Derived.Test.YtioolcnoiaoflaaGreatDoorDnA
import Derived.Test.YtioolcnoiaoflaaGreatDoorRtgP
import Derived.Test.YtioolcnoiaoflaaGreatDoorEntU
import Derived.Test.YtioolcnoiaoflaaGreatDoorRefAs
import Derived.Test.YtioolcnoiaoflaaGreatDoorDefR
import Derived.Lib.MinMax
namespace Go.Proofs.YtioolcnoiaoflaaGreatDoor
open Go.RowKit
set_option linter.unusedSimpArgs false
set_option linter.unusedVariables false
set_option maxRecDepth 100000

def R2Rel (s : ByteArray) (c : UInt8) (w : World) (i : Value) (wr : World) : Prop := ∃ k : Nat, i = .int .i64 k ∧ k ≤ s.size ∧ s.data.toList.any (· == c) = (s.data.toList.drop k).any (· == c) ∧ wr = w
set_option maxHeartbeats 1000000 in
theorem row2_any (s : ByteArray) (c : UInt8) (w : World) (hs : s.size ≤ 4398046511104) :
    Calls Tryz.prog 21 #[.string s, .int .u8 c.toNat] w fun e w' => e = .returned (.bool (s.data.toList.any (· == c))) ∧ w = w' := by
  go_enter Tryz.func21, Tryz.ntmps21
  go_wp2_with fail
  go_loopw [5] (fun i wr => R2Rel s c w i wr) (fun i _ => s.size - (intOf i).toNat)
  case atStart => exact ⟨0, rfl, Nat.zero_le _, by simp, rfl⟩
  case round =>
    obtain ⟨k, rfl, hk, hall, rfl⟩ := hrel
    by_cases hp : k < s.size
    · rw [get_list s k hp, List.any_cons] at hall
      have hix := index_str s k k rfl hp
      cases hg : (s[k] == c) with
      | true =>
        rw [hg, Bool.true_or] at hall
        have f1 : ((s[k].toNat : Int) == (c.toNat : Int)) = true := by
          rw [beq_iff_eq] at hg
          rw [hg]
          simp
        have HA := Lib.hid hall
        clear hall hg
        generalize s[k] = b at *
        go_wp2
        go_ret
        exact ⟨ret_bool (by rw [HA.out]), rfl⟩
      | false =>
        rw [hg, Bool.false_or] at hall
        have f1 : ((s[k].toNat : Int) == (c.toNat : Int)) = false := by
          rw [beq_eq_false_iff_ne] at hg ⊢
          intro e
          exact hg (UInt8.toNat_inj.1 (by omega))
        have HA := Lib.hid hall
        clear hall hg
        generalize s[k] = b at *
        go_wp2
        exact ⟨⟨k + 1, by go_num, by omega, HA.out, rfl⟩, by simp [intOf]; omega⟩
    · have HA := Lib.hid (show s.data.toList.any (· == c) = false from by rw [hall, List.drop_eq_nil_of_le (by simp; omega)]; rfl)
      clear hall
      go_wp2
      go_ret
      exact ⟨ret_bool (by rw [HA.out]), rfl⟩
theorem badN_rows (l : List UInt8) : badN l = (l.any (· == 91) || l.any (· == 93) || l.any (· == 10) || l.any (· == 0)) := by
  induction l with
  | nil => rfl
  | cons b l ih =>
    rw [badN_cons, ih]
    simp only [List.any_cons]
    cases b == 91 <;> cases b == 93 <;> cases b == 10 <;> cases b == 0 <;> cases l.any (· == 91) <;> cases l.any (· == 93) <;> cases l.any (· == 10) <;> cases l.any (· == 0) <;> rfl

/-! ### Trim -/
def strOf : Value → List UInt8
  | .string s => s.data.toList
  | _ => []
def Tr1Rel (s : ByteArray) (w : World) (z : Value) (wr : World) : Prop := ∃ Z : ByteArray, z = .string Z ∧ Z.data.toList.dropWhile isGap = s.data.toList.dropWhile isGap ∧ Z.size ≤ s.size ∧ wr = w
def Tr2Rel (s : ByteArray) (w : World) (z : Value) (wr : World) : Prop := ∃ Z : ByteArray, z = .string Z ∧ trimGR Z.data.toList = trimG s.data.toList ∧ Z.size ≤ s.size ∧ wr = w
theorem last_of (s : ByteArray) (h : 0 < s.size) : s.data.toList = s.data.toList.take (s.size - 1) ++ [s[s.size - 1]'(by omega)] := by
  have hl : s.data.toList.length = s.size := by simp
  have h2 := List.take_succ_eq_append_getElem (l := s.data.toList) (i := s.size - 1) (by omega)
  rw [show s.size - 1 + 1 = s.data.toList.length from by omega, List.take_length] at h2
  exact h2
set_option maxHeartbeats 4000000 in
theorem rtrim_any (s : ByteArray) (w : World) (hs : s.size ≤ 4398046511104) :
    Calls Tryz.prog 28 #[.string s] w fun e w' => e = .returned (.string ⟨(trimG s.data.toList).toArray⟩) ∧ w = w' := by
  go_enter Tryz.func28, Tryz.ntmps28
  go_wp2_with fail
  go_loopw [0] (fun z wr => Tr1Rel s w z wr) (fun z _ => (strOf z).length)
  case atStart => exact ⟨s, rfl, rfl, Nat.le_refl _, rfl⟩
  case round =>
    obtain ⟨Z, rfl, hZ, hZs, rfl⟩ := hrel
    have hlen : Z.data.toList.length = Z.size := by simp
    by_cases hp : 0 < Z.size
    · have hne : ¬ Z.data.toList = [] := by intro e; rw [e] at hlen; simp at hlen; omega
      obtain ⟨e1, e2⟩ := emp_no hne
      have e3 : (Z.toList != []) = true := by simp [bne, e2]
      have hix := index_str Z 0 0 rfl hp
      have cg := gap_any Z[0] wr
      have hd := get_list Z 0 hp
      rw [List.drop_zero] at hd
      cases hg : isGap Z[0] with
      | true =>
        rw [hg] at cg
        have hsl := slice_lo Z 1 1 rfl (by omega)
        have HZ := Lib.hid (show (Z.extract 1 Z.size).data.toList.dropWhile isGap = s.data.toList.dropWhile isGap from by
          rw [part_str, List.take_of_length_le (by rw [hlen]; exact Nat.le_refl _), ← hZ]
          rw (occs := .pos [2]) [hd]
          rw [List.dropWhile_cons, if_pos hg])
        have HS2 := Lib.hid (show (Z.extract 1 Z.size).size = Z.size - 1 from by rw [ByteArray.size_extract]; omega)
        have HC := Lib.hid cg
        clear cg hg hd hZ hne hlen
        generalize Z.extract 1 Z.size = Y at *
        generalize Z[0] = b at *
        go_wp2_with (go_at_call 27; refine HC.out.mono ?_; rintro e w' ⟨rfl, rfl⟩)
        go_roundw
        case rel => exact ⟨Y, rfl, HZ.out, by rw [HS2.out]; omega, rfl⟩
        case measure => have := HS2.out; simp [strOf]; omega
      | false =>
        rw [hg] at cg
        have HT := Lib.hid (show trimGR Z.data.toList = trimG s.data.toList from by
          rw [← trim_first s.data.toList, ← hZ]
          congr 1
          rw [hd, List.dropWhile_cons, if_neg (by rw [hg]; simp)])
        have HC := Lib.hid cg
        clear cg hg hd hZ hne hlen
        generalize Z[0] = b at *
        go_wp2_with (go_at_call 27; refine HC.out.mono ?_; rintro e w' ⟨rfl, rfl⟩)
        clear hix e1 e2 e3
        go_loopw [0] (fun z wr2 => Tr2Rel s wr z wr2) (fun z _ => (strOf z).length)
        case atStart => exact ⟨Z, rfl, HT.out, hZs, rfl⟩
        case round =>
          obtain ⟨Y, rfl, hY, hYs, rfl⟩ := hrel
          have hlen2 : Y.data.toList.length = Y.size := by simp
          by_cases hp2 : 0 < Y.size
          · have hne : ¬ Y.data.toList = [] := by intro e; rw [e] at hlen2; simp at hlen2; omega
            obtain ⟨e1, e2⟩ := emp_no hne
            have e3 : (Y.toList != []) = true := by simp [bne, e2]
            have hq : Y.size - 1 < Y.size := Nat.sub_lt hp2 Nat.one_pos
            have hix := index_str Y ((Y.size : Int) - 1) (Y.size - 1) (by omega) hq
            have cg := fun W => gap_any (Y[Y.size - 1]'hq) W
            have hd := last_of Y hp2
            have hls := trimGR_last hd
            cases hg : isGap (Y[Y.size - 1]'hq) with
            | true =>
              rw [hg, if_pos rfl] at hls
              rw [hg] at cg
              have hsl := slice_hi Y ((Y.size : Int) - 1) (Y.size - 1) (by omega) (by omega)
              have HZ := Lib.hid (show trimGR (Y.extract 0 (Y.size - 1)).data.toList = trimG s.data.toList from by
                rw [part_str, List.drop_zero, ← hls, hY])
              have HS2 := Lib.hid (show (Y.extract 0 (Y.size - 1)).size = Y.size - 1 from by rw [ByteArray.size_extract]; omega)
              have HC := Lib.hid cg
              clear cg hg hd hY hne hlen2 hls
              generalize Y.extract 0 (Y.size - 1) = X at *
              generalize (Y[Y.size - 1]'hq) = b at *
              go_wp2_with (go_at_call 27; refine (HC.out _).mono ?_; rintro e w' ⟨rfl, rfl⟩)
              go_roundw
              case rel => exact ⟨X, rfl, HZ.out, by rw [HS2.out]; omega, rfl⟩
              case measure => have := HS2.out; simp [strOf]; omega
            | false =>
              rw [hg, if_neg (by simp)] at hls
              rw [hg] at cg
              have HR := Lib.hid (show (⟨(trimG s.data.toList).toArray⟩ : ByteArray) = Y from by rw [← hY, hls])
              have HC := Lib.hid cg
              clear cg hg hd hY hne hlen2 hls
              generalize (Y[Y.size - 1]'hq) = b at *
              go_wp2_with (go_at_call 27; refine (HC.out _).mono ?_; rintro e w' ⟨rfl, rfl⟩)
              go_ret
              exact ⟨by rw [HR.out]; rfl, rfl⟩
          · have hne : Y.data.toList = [] := List.eq_nil_of_length_eq_zero (by omega)
            obtain ⟨e1, e2⟩ := emp_yes hne
            have e3 : (Y.toList != []) = false := by simp [bne, e2]
            have HR := Lib.hid (show (⟨(trimG s.data.toList).toArray⟩ : ByteArray) = Y from by
              rw [← hY, hne]
              have h9 := Lib.mk_data Y
              rw [hne] at h9
              exact h9)
            clear hne hY hlen2
            go_wp2
            go_ret
            exact ⟨by rw [HR.out]; rfl, rfl⟩
    · have hne : Z.data.toList = [] := List.eq_nil_of_length_eq_zero (by omega)
      obtain ⟨e1, e2⟩ := emp_yes hne
      have e3 : (Z.toList != []) = false := by simp [bne, e2]
      have HT := Lib.hid (show trimGR Z.data.toList = trimG s.data.toList from by
        rw [← trim_first s.data.toList, ← hZ, hne]; rfl)
      clear hne hZ hlen
      go_wp2_with fail
      clear e1 e2 e3
      go_loopw [0] (fun z wr2 => Tr2Rel s wr z wr2) (fun z _ => (strOf z).length)
      case atStart => exact ⟨Z, rfl, HT.out, hZs, rfl⟩
      case round =>
        obtain ⟨Y, rfl, hY, hYs, rfl⟩ := hrel
        have hlen2 : Y.data.toList.length = Y.size := by simp
        by_cases hp2 : 0 < Y.size
        · have hne : ¬ Y.data.toList = [] := by intro e; rw [e] at hlen2; simp at hlen2; omega
          obtain ⟨e1, e2⟩ := emp_no hne
          have e3 : (Y.toList != []) = true := by simp [bne, e2]
          have hq : Y.size - 1 < Y.size := Nat.sub_lt hp2 Nat.one_pos
          have hix := index_str Y ((Y.size : Int) - 1) (Y.size - 1) (by omega) hq
          have cg := fun W => gap_any (Y[Y.size - 1]'hq) W
          have hd := last_of Y hp2
          have hls := trimGR_last hd
          cases hg : isGap (Y[Y.size - 1]'hq) with
          | true =>
            rw [hg, if_pos rfl] at hls
            rw [hg] at cg
            have hsl := slice_hi Y ((Y.size : Int) - 1) (Y.size - 1) (by omega) (by omega)
            have HZ := Lib.hid (show trimGR (Y.extract 0 (Y.size - 1)).data.toList = trimG s.data.toList from by
              rw [part_str, List.drop_zero, ← hls, hY])
            have HS2 := Lib.hid (show (Y.extract 0 (Y.size - 1)).size = Y.size - 1 from by rw [ByteArray.size_extract]; omega)
            have HC := Lib.hid cg
            clear cg hg hd hY hne hlen2 hls
            generalize Y.extract 0 (Y.size - 1) = X at *
            generalize (Y[Y.size - 1]'hq) = b at *
            go_wp2_with (go_at_call 27; refine (HC.out _).mono ?_; rintro e w' ⟨rfl, rfl⟩)
            go_roundw
            case rel => exact ⟨X, rfl, HZ.out, by rw [HS2.out]; omega, rfl⟩
            case measure => have := HS2.out; simp [strOf]; omega
          | false =>
            rw [hg, if_neg (by simp)] at hls
            rw [hg] at cg
            have HR := Lib.hid (show (⟨(trimG s.data.toList).toArray⟩ : ByteArray) = Y from by rw [← hY, hls])
            have HC := Lib.hid cg
            clear cg hg hd hY hne hlen2 hls
            generalize (Y[Y.size - 1]'hq) = b at *
            go_wp2_with (go_at_call 27; refine (HC.out _).mono ?_; rintro e w' ⟨rfl, rfl⟩)
            go_ret
            exact ⟨by rw [HR.out]; rfl, rfl⟩
        · have hne : Y.data.toList = [] := List.eq_nil_of_length_eq_zero (by omega)
          obtain ⟨e1, e2⟩ := emp_yes hne
          have e3 : (Y.toList != []) = false := by simp [bne, e2]
          have HR := Lib.hid (show (⟨(trimG s.data.toList).toArray⟩ : ByteArray) = Y from by
            rw [← hY, hne]
            have h9 := Lib.mk_data Y
            rw [hne] at h9
            exact h9)
          clear hne hY hlen2
          go_wp2
          go_ret
          exact ⟨by rw [HR.out]; rfl, rfl⟩

/-! ### DefName -/
set_option maxHeartbeats 8000000 in
theorem rdnm_any (s : ByteArray) (w : World) (hT : Tabs w) (hs : s.size ≤ 4398046511104) :
    Calls Tryz.prog 7 #[.string s] w fun e w' => e = .returned (.tuple #[.string ⟨(dnL s.data.toList).1.toArray⟩, .bool (dnL s.data.toList).2]) ∧ Below w.heap.size w w' := by
  have cf := refFold_any s w (by omega) hT
  have r1 := fun W => row2_any s 91 W hs
  have r2 := fun W => row2_any s 93 W hs
  have r3 := fun W => row2_any s 10 W hs
  have r4 := fun W => row2_any s 0 W hs
  rw [show (((91 : UInt8).toNat : Nat) : Int) = 91 from rfl] at r1
  rw [show (((93 : UInt8).toNat : Nat) : Int) = 93 from rfl] at r2
  rw [show (((10 : UInt8).toNat : Nat) : Int) = 10 from rfl] at r3
  rw [show (((0 : UInt8).toNat : Nat) : Int) = 0 from rfl] at r4
  have hb := badN_rows s.data.toList
  have HD := Lib.hid (show dnL s.data.toList = if (foldL s.data.toList).isEmpty || decide (60 < (foldL s.data.toList).length) || (s.data.toList.any (· == 91) || s.data.toList.any (· == 93) || s.data.toList.any (· == 10) || s.data.toList.any (· == 0)) then ([], false) else (foldL s.data.toList, true) from by unfold dnL; rw [hb])
  unfold foldOf at cf
  clear hb
  generalize s.data.toList.any (· == 91) = p1 at *
  generalize s.data.toList.any (· == 93) = p2 at *
  generalize s.data.toList.any (· == 10) = p3 at *
  generalize s.data.toList.any (· == 0) = p4 at *
  generalize foldL s.data.toList = F at *
  obtain ⟨X, hX, rfl⟩ := text_of' F
  rw [hX] at cf
  have hlen : X.data.toList.length = X.size := by simp
  have HC := Lib.hid cf
  have R1 := Lib.hid r1
  have R2 := Lib.hid r2
  have R3 := Lib.hid r3
  have R4 := Lib.hid r4
  clear cf r1 r2 r3 r4
  by_cases h0 : X.data.toList = []
  · obtain ⟨e1, e2⟩ := emp_yes h0
    have HR := Lib.hid (show dnL s.data.toList = ([], false) from by rw [HD.out, h0]; rfl)
    clear HD h0 hlen hX
    go_enter Tryz.func7, Tryz.ntmps7
    go_wp2_with fail
    refine HC.out.mono ?_
    rintro e w1 ⟨rfl, b1⟩
    go_wp2
    go_ret2
    exact ⟨by rw [HR.out]; rfl, b1⟩
  · obtain ⟨e1, e2⟩ := emp_no h0
    by_cases h6 : 60 < X.size
    · have n1 : decide ((X.size : Int) > 60) = true := by simp; omega
      have n2 : (60 : Int) < (X.size : Int) := by omega
      have HR := Lib.hid (show dnL s.data.toList = ([], false) from by rw [HD.out, if_pos (by rw [hlen]; simp [h6])])
      clear HD h6 h0 hlen hX
      go_enter Tryz.func7, Tryz.ntmps7
      go_wp2_with fail
      refine HC.out.mono ?_
      rintro e w1 ⟨rfl, b1⟩
      go_wp2
      go_ret2
      exact ⟨by rw [HR.out]; rfl, b1⟩
    · have n1 : decide ((X.size : Int) > 60) = false := by simp; omega
      have n2 : ¬ (60 : Int) < (X.size : Int) := by omega
      have HQ := Lib.hid (show dnL s.data.toList = if (p1 || p2 || p3 || p4) then ([], false) else (X.data.toList, true) from by
        rw [HD.out]
        have : X.data.toList.isEmpty = false := by cases h : X.data.toList with | nil => exact absurd h h0 | cons b l => rfl
        rw [this, hlen, decide_eq_false h6]
        simp)
      clear HD h6 h0 hlen hX
      cases p1
      · cases p2
        · cases p3
          · cases p4
            all_goals
              go_enter Tryz.func7, Tryz.ntmps7
              go_wp2_with fail
              refine HC.out.mono ?_
              rintro e w1 ⟨rfl, b1⟩
              go_wp2_with fail
              refine (R1.out _).mono ?_
              rintro e w2 ⟨rfl, rfl⟩
              go_wp2_with fail
              refine (R2.out _).mono ?_
              rintro e w3 ⟨rfl, rfl⟩
              go_wp2_with fail
              refine (R3.out _).mono ?_
              rintro e w4 ⟨rfl, rfl⟩
              go_wp2_with fail
              refine (R4.out _).mono ?_
              rintro e w5 ⟨rfl, rfl⟩
              go_wp2
              go_ret2
              exact ⟨by rw [HQ.out]; first | rfl | (show _ = Ending.returned (.tuple #[.string ⟨X.data.toList.toArray⟩, .bool true]); rw [Lib.mk_data]; rfl), b1⟩
          · go_enter Tryz.func7, Tryz.ntmps7
            go_wp2_with fail
            refine HC.out.mono ?_
            rintro e w1 ⟨rfl, b1⟩
            go_wp2_with fail
            refine (R1.out _).mono ?_
            rintro e w2 ⟨rfl, rfl⟩
            go_wp2_with fail
            refine (R2.out _).mono ?_
            rintro e w3 ⟨rfl, rfl⟩
            go_wp2_with fail
            refine (R3.out _).mono ?_
            rintro e w4 ⟨rfl, rfl⟩
            go_wp2
            go_ret2
            exact ⟨by rw [HQ.out]; rfl, b1⟩
        · go_enter Tryz.func7, Tryz.ntmps7
          go_wp2_with fail
          refine HC.out.mono ?_
          rintro e w1 ⟨rfl, b1⟩
          go_wp2_with fail
          refine (R1.out _).mono ?_
          rintro e w2 ⟨rfl, rfl⟩
          go_wp2_with fail
          refine (R2.out _).mono ?_
          rintro e w3 ⟨rfl, rfl⟩
          go_wp2
          go_ret2
          exact ⟨by rw [HQ.out]; rfl, b1⟩
      · go_enter Tryz.func7, Tryz.ntmps7
        go_wp2_with fail
        refine HC.out.mono ?_
        rintro e w1 ⟨rfl, b1⟩
        go_wp2_with fail
        refine (R1.out _).mono ?_
        rintro e w2 ⟨rfl, rfl⟩
        go_wp2
        go_ret2
        exact ⟨by rw [HQ.out]; rfl, b1⟩

end Go.Proofs.YtioolcnoiaoflaaGreatDoor

namespace Go.Proofs.YtioolcnoiaoflaaGreatDoor
open Go.RowKit
set_option linter.unusedSimpArgs false
set_option linter.unusedVariables false
set_option maxRecDepth 100000

def RunsRel (s : ByteArray) (w : World) (o i : Value) (wr : World) : Prop :=
  ∃ (k : Nat) (O : ByteArray), i = .int .i64 k ∧ o = .string O ∧ k ≤ s.size ∧ O.size ≤ 4 * k ∧ O.data.toList ++ unL (s.data.toList.drop k) = unL s.data.toList ∧ Below w.heap.size w wr
theorem extract_one (s : ByteArray) (k : Nat) (h : k < s.size) : s.extract k (k + 1) = (⟨#[s[k]]⟩ : ByteArray) := by
  apply ByteArray.ext
  apply Array.ext'
  have := part_str s k (k + 1)
  rw [this, List.take_succ_eq_append_getElem (by simp; exact h), List.drop_append_of_le_length (by simp; omega), List.drop_of_length_le (by simp; omega)]
  rfl
theorem get_drop0 (s : ByteArray) (k : Nat) (h : k < s.size) : (s.data.toList.drop k).getD 0 0 = s[k] := by
  rw [get_list s k h]; rfl
theorem get_drop1 (s : ByteArray) (k : Nat) (h : k + 1 < s.size) : (s.data.toList.drop k).getD 1 0 = s[k + 1] := by
  rw [get_list s k (by omega), get_list s (k + 1) h]; rfl
set_option maxHeartbeats 8000000 in
theorem runesc_any (s : ByteArray) (w : World) (hs : s.size ≤ 1000) :
    Calls Tryz.prog 81 #[.string s] w fun e w' => e = .returned (.string ⟨(unL s.data.toList).toArray⟩) ∧ Below w.heap.size w w' := by
  go_enter Tryz.func81, Tryz.ntmps81
  go_wp2_with fail
  go_loopw [3, 4] (fun o i wr => RunsRel s w o i wr) (fun _ i _ => s.size - (intOf i).toNat)
  case atStart => exact ⟨0, ByteArray.empty, rfl, rfl, Nat.zero_le _, Nat.zero_le _, rfl, Below.refl _ _⟩
  case round =>
    obtain ⟨k, O, rfl, rfl, hk, hOs, hO, hbw⟩ := hrel
    have hll : s.data.toList.length = s.size := by simp
    by_cases hp : k < s.size
    · have hix := index_str s k k rfl hp
      have hg0 := get_drop0 s k hp
      have HKL := Lib.hid (show k < s.data.toList.length from by omega)
      have hsl := slice_lo s k k rfl (by omega)
      have hs1 := slice_lohi s k (k + 1) k (k + 1) rfl (by omega) (by omega) (by omega)
      rw [extract_one s k hp] at hs1
      have hgk : s.data.toList[k]'HKL.out = s[k] := rfl
      have ce := fun W => rentity_any (s.extract k s.size) W (by rw [ByteArray.size_extract]; omega)
      rw [part_str, List.take_of_length_le (by rw [hll]; exact Nat.le_refl _)] at ce
      unfold atRet at ce
      generalize s.extract k s.size = E at *
      by_cases hA : s[k].toNat = 92 ∧ k + 1 < s.size ∧ asciiB ((s.data.toList.drop k).getD 1 0).toNat = true
      · obtain ⟨h92, hk1, hasc⟩ := hA
        have he := escL_slash (l := s.data.toList.drop k) (by rw [List.length_drop]; omega) (by rw [hg0]; exact h92) hasc
        have hg1 := get_drop1 s k hk1
        rw [hg1] at he hasc
        obtain ⟨hstep, hle⟩ := unL_step (out := O.data.toList) HKL.out he (by decide) hO
        have hix2 := index_str s ((k : Int) + 1) (k + 1) (by omega) hk1
        have ra := fun W => refAscii_any (s[k + 1].toNat : Int) W
        rw [show asciiB ((s[k + 1].toNat : Nat) : Int) = true from hasc] at ra
        have hs2 := slice_lohi s ((k : Int) + 1) ((k : Int) + 2) (k + 1) (k + 1 + 1) (by omega) (by omega) (by omega) (by omega)
        rw [extract_one s (k + 1) hk1] at hs2
        have HST := Lib.hid (show (O ++ (⟨#[s[k + 1]]⟩ : ByteArray)).data.toList ++ unL (s.data.toList.drop (k + 2)) = unL s.data.toList from by rw [← hstep]; simp)
        have hsum := fun W => run_string_add_sum (P := Tryz.prog) W O (⟨#[s[k + 1]]⟩ : ByteArray) (by show O.size + 1 ≤ _; omega)
        have HSZ := Lib.hid (show (O ++ (⟨#[s[k + 1]]⟩ : ByteArray)).size = O.size + 1 from by rw [ByteArray.size_append]; rfl)
        have HC := Lib.hid ra
        clear ra he hstep hg1 hg0 hasc hgk ce hO hsl hs1 hll
        generalize s[k + 1] = c at *
        generalize s[k] = b at *
        generalize (⟨#[c]⟩ : ByteArray) = Cb at *
        go_wp2_with (go_at_call 108; refine (HC.out _).mono ?_; rintro e w' ⟨rfl, rfl⟩)
        go_roundw
        case rel => exact ⟨k + 2, O ++ Cb, by go_num, rfl, by omega, by rw [HSZ.out]; omega, HST.out, hbw⟩
        case measure => simp [intOf]; omega
      · have he := escL_else (l := s.data.toList.drop k) (by
          intro h
          rw [List.length_drop, hg0] at h
          exact hA ⟨h.2.1, by omega, h.2.2⟩)
        have hesc := escL_ok (s.data.toList.drop k)
        rw [he] at hesc
        have hone := fun h => unL_one (l := s.data.toList) (out := O.data.toList) HKL.out (by rw [he]; exact h) hO
        have hmore := fun h => unL_step (l := s.data.toList) (out := O.data.toList) HKL.out he h hO
        generalize atL (s.data.toList.drop k) = a at *
        obtain ⟨T, z⟩ := a
        simp only at ce hesc hone hmore
        have hTs : T.size ≤ 4 := by have := hesc.1; simpa using this
        have HCE := Lib.hid ce
        have HA := Lib.hid hA
        have HHONE := Lib.hid hone
        have HMORE := Lib.hid hmore
        clear hesc he hg0 hO ce hone hmore
        have hcase : ¬ s[k].toNat = 92 ∨ s[k].toNat = 92 ∧ ¬ k + 1 < s.size ∨ s[k].toNat = 92 ∧ k + 1 < s.size ∧ asciiB ((s.data.toList.drop k).getD 1 0).toNat = false := by
          by_cases h1 : s[k].toNat = 92
          · by_cases h2 : k + 1 < s.size
            · refine Or.inr (Or.inr ⟨h1, h2, ?_⟩)
              cases h3 : asciiB ((s.data.toList.drop k).getD 1 0).toNat with
              | false => rfl
              | true => exact absurd ⟨h1, h2, h3⟩ hA
            · exact Or.inr (Or.inl ⟨h1, h2⟩)
          · exact Or.inl h1
        clear HA hA
        rcases hcase with h1 | ⟨h1, h2⟩ | ⟨h1, h2, h3⟩
        · by_cases hz0 : 0 < z
          · obtain ⟨hstep, hle⟩ := HMORE.out hz0
            rw [hll] at hle
            have HST := Lib.hid (show (O ++ T).data.toList ++ unL (s.data.toList.drop (k + z)) = unL s.data.toList from by rw [← hstep]; simp)
            have hsum := fun W => run_string_add_sum (P := Tryz.prog) W O T (by omega)
            have HSZ := Lib.hid (show (O ++ T).size = O.size + T.size from by rw [ByteArray.size_append])
            clear hstep hgk hll HHONE HMORE
            generalize s[k] = b at *
            have hzi : (0 : Int) < (z : Int) := by omega
            go_wp2_with fail
            refine (HCE.out _).mono ?_
            rintro e w2 ⟨rfl, b2⟩
            have hbw2 := hbw.trans (b2.mono hbw.size)
            clear hix hsl hs1
            go_wp2
            go_roundw
            case rel => exact ⟨k + z, O ++ T, by go_num, rfl, hle, by rw [HSZ.out]; omega, HST.out, hbw2⟩
            case measure => simp [intOf]; omega
          · obtain rfl : z = 0 := by omega
            have hstep := HHONE.out rfl
            rw [hgk] at hstep
            have HST := Lib.hid (show (O ++ (⟨#[s[k]]⟩ : ByteArray)).data.toList ++ unL (s.data.toList.drop (k + 1)) = unL s.data.toList from by rw [← hstep]; simp)
            have hsum := fun W => run_string_add_sum (P := Tryz.prog) W O (⟨#[s[k]]⟩ : ByteArray) (by show O.size + 1 ≤ _; omega)
            have HSZ := Lib.hid (show (O ++ (⟨#[s[k]]⟩ : ByteArray)).size = O.size + 1 from by rw [ByteArray.size_append]; rfl)
            clear hstep hgk hll HHONE HMORE
            generalize s[k] = b at *
            generalize (⟨#[b]⟩ : ByteArray) = Cb at *
            go_wp2_with fail
            refine (HCE.out _).mono ?_
            rintro e w2 ⟨rfl, b2⟩
            have hbw2 := hbw.trans (b2.mono hbw.size)
            clear hix hsl
            go_wp2
            go_roundw
            case rel => exact ⟨k + 1, O ++ Cb, by go_num, rfl, by omega, by rw [HSZ.out]; omega, HST.out, hbw2⟩
            case measure => simp [intOf]; omega
        · by_cases hz0 : 0 < z
          · obtain ⟨hstep, hle⟩ := HMORE.out hz0
            rw [hll] at hle
            have HST := Lib.hid (show (O ++ T).data.toList ++ unL (s.data.toList.drop (k + z)) = unL s.data.toList from by rw [← hstep]; simp)
            have hsum := fun W => run_string_add_sum (P := Tryz.prog) W O T (by omega)
            have HSZ := Lib.hid (show (O ++ T).size = O.size + T.size from by rw [ByteArray.size_append])
            clear hstep hgk hll HHONE HMORE
            generalize s[k] = b at *
            have hzi : (0 : Int) < (z : Int) := by omega
            go_wp2_with fail
            refine (HCE.out _).mono ?_
            rintro e w2 ⟨rfl, b2⟩
            have hbw2 := hbw.trans (b2.mono hbw.size)
            clear hix hsl hs1
            go_wp2
            go_roundw
            case rel => exact ⟨k + z, O ++ T, by go_num, rfl, hle, by rw [HSZ.out]; omega, HST.out, hbw2⟩
            case measure => simp [intOf]; omega
          · obtain rfl : z = 0 := by omega
            have hstep := HHONE.out rfl
            rw [hgk] at hstep
            have HST := Lib.hid (show (O ++ (⟨#[s[k]]⟩ : ByteArray)).data.toList ++ unL (s.data.toList.drop (k + 1)) = unL s.data.toList from by rw [← hstep]; simp)
            have hsum := fun W => run_string_add_sum (P := Tryz.prog) W O (⟨#[s[k]]⟩ : ByteArray) (by show O.size + 1 ≤ _; omega)
            have HSZ := Lib.hid (show (O ++ (⟨#[s[k]]⟩ : ByteArray)).size = O.size + 1 from by rw [ByteArray.size_append]; rfl)
            clear hstep hgk hll HHONE HMORE
            generalize s[k] = b at *
            generalize (⟨#[b]⟩ : ByteArray) = Cb at *
            go_wp2_with fail
            refine (HCE.out _).mono ?_
            rintro e w2 ⟨rfl, b2⟩
            have hbw2 := hbw.trans (b2.mono hbw.size)
            clear hix hsl
            go_wp2
            go_roundw
            case rel => exact ⟨k + 1, O ++ Cb, by go_num, rfl, by omega, by rw [HSZ.out]; omega, HST.out, hbw2⟩
            case measure => simp [intOf]; omega
        · have hg1 := get_drop1 s k h2
          rw [hg1] at h3
          have hix2 := index_str s ((k : Int) + 1) (k + 1) (by omega) h2
          have ra := fun W => refAscii_any (s[k + 1].toNat : Int) W
          rw [show asciiB ((s[k + 1].toNat : Nat) : Int) = false from h3] at ra
          have HC := Lib.hid ra
          clear ra hg1 h3
          generalize s[k + 1] = c at *
          by_cases hz0 : 0 < z
          · obtain ⟨hstep, hle⟩ := HMORE.out hz0
            rw [hll] at hle
            have HST := Lib.hid (show (O ++ T).data.toList ++ unL (s.data.toList.drop (k + z)) = unL s.data.toList from by rw [← hstep]; simp)
            have hsum := fun W => run_string_add_sum (P := Tryz.prog) W O T (by omega)
            have HSZ := Lib.hid (show (O ++ T).size = O.size + T.size from by rw [ByteArray.size_append])
            clear hstep hgk hll HHONE HMORE
            generalize s[k] = b at *
            have hzi : (0 : Int) < (z : Int) := by omega
            go_wp2_with (go_at_call 108; refine (HC.out _).mono ?_; rintro e w' ⟨rfl, rfl⟩)
            refine (HCE.out _).mono ?_
            rintro e w2 ⟨rfl, b2⟩
            have hbw2 := hbw.trans (b2.mono hbw.size)
            clear hix hsl hs1
            go_wp2
            go_roundw
            case rel => exact ⟨k + z, O ++ T, by go_num, rfl, hle, by rw [HSZ.out]; omega, HST.out, hbw2⟩
            case measure => simp [intOf]; omega
          · obtain rfl : z = 0 := by omega
            have hstep := HHONE.out rfl
            rw [hgk] at hstep
            have HST := Lib.hid (show (O ++ (⟨#[s[k]]⟩ : ByteArray)).data.toList ++ unL (s.data.toList.drop (k + 1)) = unL s.data.toList from by rw [← hstep]; simp)
            have hsum := fun W => run_string_add_sum (P := Tryz.prog) W O (⟨#[s[k]]⟩ : ByteArray) (by show O.size + 1 ≤ _; omega)
            have HSZ := Lib.hid (show (O ++ (⟨#[s[k]]⟩ : ByteArray)).size = O.size + 1 from by rw [ByteArray.size_append]; rfl)
            clear hstep hgk hll HHONE HMORE
            generalize s[k] = b at *
            generalize (⟨#[b]⟩ : ByteArray) = Cb at *
            go_wp2_with (go_at_call 108; refine (HC.out _).mono ?_; rintro e w' ⟨rfl, rfl⟩)
            refine (HCE.out _).mono ?_
            rintro e w2 ⟨rfl, b2⟩
            have hbw2 := hbw.trans (b2.mono hbw.size)
            clear hix hsl
            go_wp2
            go_roundw
            case rel => exact ⟨k + 1, O ++ Cb, by go_num, rfl, by omega, by rw [HSZ.out]; omega, HST.out, hbw2⟩
            case measure => simp [intOf]; omega
    · have HT := Lib.hid (show (⟨(unL s.data.toList).toArray⟩ : ByteArray) = O from by
        rw [List.drop_eq_nil_of_le (by omega)] at hO
        rw [← hO]
        show (⟨(O.data.toList ++ unL []).toArray⟩ : ByteArray) = O
        rw [show unL [] = [] from rfl, List.append_nil])
      clear hO hll
      go_wp2
      go_ret
      exact ⟨by rw [HT.out]; rfl, hbw⟩

end Go.Proofs.YtioolcnoiaoflaaGreatDoor

namespace Go.Proofs.YtioolcnoiaoflaaGreatDoor
open Go.RowKit
set_option linter.unusedSimpArgs false
set_option linter.unusedVariables false
set_option maxRecDepth 100000

def Rd1Rel (s : ByteArray) (w : World) (i : Value) (wr : World) : Prop :=
  ∃ k : Nat, i = .int .i64 k ∧ 1 ≤ k ∧ k ≤ s.size + 1 ∧ btwGo 62 [60, 10] (s.data.toList.drop k) false k = btwGo 62 [60, 10] (s.data.toList.drop 1) false 1 ∧ Below w.heap.size w wr
def Rd2Rel (s : ByteArray) (w : World) (o i : Value) (wr : World) : Prop :=
  ∃ k q : Nat, i = .int .i64 k ∧ o = .int .i64 q ∧ k ≤ s.size ∧ q ≤ k ∧ bareGo (s.data.toList.drop k) q false k = bareGo s.data.toList 0 false 0 ∧ Below w.heap.size w wr
theorem u8_is {b c : UInt8} (h : b.toNat = c.toNat) : b = c := UInt8.toNat_inj.1 h
theorem destL_angle {l : List UInt8} (h : Lib.hasPrefix l [60] = true) : destL l = match btwGo 62 [60, 10] (l.drop 1) false 1 with | none => ([], 0, false) | some i => (unL ((l.take i).drop 1), i + 1, true) := by
  unfold destL
  rw [if_pos h]
  rfl
theorem destL_bare {l : List UInt8} (h : Lib.hasPrefix l [60] = false) {k q : Nat} (hb : bareGo l 0 false 0 = (k, q)) : destL l = if k = 0 ∨ 0 < q then ([], 0, false) else (unL (l.take k), k, true) := by
  unfold destL bareL
  rw [if_neg (by rw [h]; simp), hb]
  simp only
  by_cases h1 : 0 < q
  · rw [if_pos h1, if_pos (Or.inr h1)]; rfl
  · rw [if_neg h1]
    by_cases h2 : k = 0
    · rw [if_pos (Or.inl h2), h2]; rfl
    · rw [if_neg (by omega), decide_eq_true (by omega)]
theorem first_is {s : ByteArray} (h : 0 < s.size) (b : UInt8) : Lib.hasPrefix s.data.toList [b] = (b == s[0]) := by
  have hd := get_list s 0 h
  rw [List.drop_zero] at hd
  rw [hd]
  simp [Lib.hasPrefix, List.isPrefixOf]

set_option maxHeartbeats 8000000 in
theorem rdest_any (s : ByteArray) (w : World) (hs : s.size ≤ 1000) :
    Calls Tryz.prog 29 #[.string s] w fun e w' => e = .returned (tib (destL s.data.toList)) ∧ Below w.heap.size w w' := by
  have hll := str_len s
  by_cases h0 : s.data.toList = []
  · obtain ⟨e1, e2⟩ := emp_yes h0
    have HR := Lib.hid (show destL s.data.toList = ([], 0, false) from by rw [h0]; rfl)
    clear h0 hll
    go_enter Tryz.func29, Tryz.ntmps29
    go_wp2
    go_ret3
    exact ⟨by rw [HR.out]; rfl, Below.refl _ _⟩
  · obtain ⟨e1, e2⟩ := emp_no h0
    have h1 : 0 < s.size := by
      rw [← hll]
      exact List.length_pos_iff.2 h0
    have hix0 := index_str s 0 0 rfl h1
    have hfi := first_is h1 60
    clear h0
    by_cases h60 : s[0].toNat = 60
    · have hq : Lib.hasPrefix s.data.toList [60] = true := by
        rw [hfi, u8_is (c := 60) h60]; rfl
      have hD := destL_angle hq
      have HD := Lib.hid hD
      have hb60 : ((s[0].toNat : Int) == 60) = true := by simp; omega
      clear hD hq hfi h60
      generalize s[0] = b0 at *
      go_enter Tryz.func29, Tryz.ntmps29
      go_wp2_with fail
      clear hix0
      go_loopw [5] (fun i wr => Rd1Rel s w i wr) (fun i _ => s.size + 1 - (intOf i).toNat)
      case atStart => exact ⟨1, rfl, Nat.le_refl _, by omega, rfl, Below.refl _ _⟩
      case round =>
        obtain ⟨k, rfl, hk1, hk, hgo, hbw⟩ := hrel
        by_cases hp : k < s.size
        · have hix := index_str s k k rfl hp
          have hd := get_list s k hp
          rw [hd] at hgo
          by_cases h92 : s[k].toNat = 92
          · rw [u8_is (c := 92) h92] at hgo
            by_cases hp2 : k + 1 < s.size
            · have hix2 := index_str s ((k : Int) + 1) (k + 1) (by omega) hp2
              rw [get_list s (k + 1) hp2] at hgo
              by_cases hz : s[k + 1].toNat = 0
              · rw [btw_pair0 hz] at hgo
                have HR := Lib.hid (show destL s.data.toList = ([], 0, false) from by rw [HD.out, ← hgo])
                clear hgo hd HD
                generalize s[k + 1] = c at *
                generalize s[k] = b at *
                go_wp2
                go_ret3
                exact ⟨by rw [HR.out]; rfl, hbw⟩
              · rw [btw_pair hz] at hgo
                have HG := Lib.hid hgo
                clear hgo hd HD
                generalize s[k + 1] = c at *
                generalize s[k] = b at *
                go_wp2
                go_roundw
                case rel => exact ⟨k + 2, by go_num, by omega, by omega, HG.out, hbw⟩
                case measure => simp [intOf]; omega
            · rw [List.drop_eq_nil_of_le (by omega : s.data.toList.length ≤ k + 1), btw_last] at hgo
              have HG := Lib.hid (show btwGo 62 [60, 10] (s.data.toList.drop (k + 2)) false (k + 2) = btwGo 62 [60, 10] (s.data.toList.drop 1) false 1 from by
                rw [List.drop_eq_nil_of_le (by omega), ← hgo]; rfl)
              clear hgo hd HD
              generalize s[k] = b at *
              go_wp2
              go_roundw
              case rel => exact ⟨k + 2, by go_num, by omega, by omega, HG.out, hbw⟩
              case measure => simp [intOf]; omega
          · by_cases hz : s[k].toNat = 0
            · rw [btwGo_zero hz] at hgo
              have HR := Lib.hid (show destL s.data.toList = ([], 0, false) from by rw [HD.out, ← hgo])
              clear hgo hd HD
              generalize s[k] = b at *
              go_wp2
              go_ret3
              exact ⟨by rw [HR.out]; rfl, hbw⟩
            · by_cases h62 : s[k].toNat = 62
              · rw [btwGo_shut hz h92 (u8_is (c := 62) h62)] at hgo
                have HR := Lib.hid (show destL s.data.toList = (unL ((s.data.toList.take k).drop 1), k + 1, true) from by rw [HD.out, ← hgo])
                have hsl := slice_lohi s 1 k 1 k rfl rfl hk1 (by omega)
                have cu := fun W => runesc_any (s.extract 1 k) W (by rw [ByteArray.size_extract]; omega)
                rw [part_str] at cu
                have CU := Lib.hid cu
                clear hgo hd HD cu
                generalize unL ((s.data.toList.take k).drop 1) = U at *
                generalize s.extract 1 k = E at *
                generalize s[k] = b at *
                go_wp2_with fail
                refine (CU.out _).mono ?_
                rintro e w2 ⟨rfl, b2⟩
                go_wp2
                go_ret3
                exact ⟨by rw [HR.out]; unfold tib; first | rfl | simp, hbw.trans (b2.mono hbw.size)⟩
              · by_cases h60b : s[k].toNat = 60
                · rw [btwGo_never hz h92 (by intro e; rw [e] at h62; exact h62 rfl) (by rw [u8_is (c := 60) h60b]; decide)] at hgo
                  have HR := Lib.hid (show destL s.data.toList = ([], 0, false) from by rw [HD.out, ← hgo])
                  clear hgo hd HD
                  generalize s[k] = b at *
                  go_wp2
                  go_ret3
                  exact ⟨by rw [HR.out]; rfl, hbw⟩
                · by_cases h10 : s[k].toNat = 10
                  · rw [btwGo_never hz h92 (by intro e; rw [e] at h62; exact h62 rfl) (by rw [u8_is (c := 10) h10]; decide)] at hgo
                    have HR := Lib.hid (show destL s.data.toList = ([], 0, false) from by rw [HD.out, ← hgo])
                    clear hgo hd HD
                    generalize s[k] = b at *
                    go_wp2
                    go_ret3
                    exact ⟨by rw [HR.out]; rfl, hbw⟩
                  · rw [btwGo_on hz h92 (by intro e; rw [e] at h62; exact h62 rfl) (by
                      intro e
                      simp only [List.mem_cons, List.not_mem_nil, or_false] at e
                      rcases e with e | e
                      · rw [e] at h60b; exact h60b rfl
                      · rw [e] at h10; exact h10 rfl)] at hgo
                    have HG := Lib.hid hgo
                    clear hgo hd HD
                    generalize s[k] = b at *
                    go_wp2
                    go_roundw
                    case rel => exact ⟨k + 1, by go_num, by omega, by omega, HG.out, hbw⟩
                    case measure => simp [intOf]; omega
        · rw [List.drop_eq_nil_of_le (by omega)] at hgo
          have HR := Lib.hid (show destL s.data.toList = ([], 0, false) from by rw [HD.out, ← hgo]; rfl)
          clear hgo HD
          go_wp2
          go_ret3
          exact ⟨by rw [HR.out]; rfl, hbw⟩
    · have hq : Lib.hasPrefix s.data.toList [60] = false := by
        rw [hfi, beq_eq_false_iff_ne]
        intro e
        rw [← e] at h60
        exact h60 rfl
      have HD := Lib.hid (fun k q hb => destL_bare hq (k := k) (q := q) hb)
      have hb60 : ((s[0].toNat : Int) == 60) = false := by simp; omega
      clear hq hfi h60
      generalize s[0] = b0 at *
      go_enter Tryz.func29, Tryz.ntmps29
      go_wp2_with fail
      clear hix0
      go_loopw [6, 7] (fun o i wr => Rd2Rel s w o i wr) (fun _ i _ => s.size - (intOf i).toNat)
      case atStart => exact ⟨0, 0, rfl, rfl, Nat.zero_le _, Nat.le_refl _, rfl, Below.refl _ _⟩
      case round =>
        obtain ⟨k, q, rfl, rfl, hk, hqk, hgo, hbw⟩ := hrel
        by_cases hp : k < s.size
        · have hix := index_str s k k rfl hp
          have hd := get_list s k hp
          rw [hd] at hgo
          have hcase : s[k].toNat ≤ 32 ∨ ¬ s[k].toNat ≤ 32 ∧ s[k].toNat = 127 ∨ ¬ s[k].toNat ≤ 32 ∧ ¬ s[k].toNat = 127 ∧ s[k].toNat = 41 ∧ q = 0 ∨ ¬ s[k].toNat ≤ 32 ∧ ¬ s[k].toNat = 127 ∧ (s[k].toNat = 41 ∧ 0 < q ∨ ¬ s[k].toNat = 41) := by omega
          rcases hcase with h | ⟨h, h2⟩ | ⟨h, h2, h3, h4⟩ | ⟨h, h2, h3⟩
          · rw [bareGo_stop (Or.inl (by unfold tgHid; simp; omega))] at hgo
            have HE := Lib.hid (HD.out k q hgo.symm)
            clear hgo hd HD
            generalize s[k] = b at *
            by_cases hk0 : k = 0
            · have HR := Lib.hid (show destL s.data.toList = ([], 0, false) from by rw [HE.out, if_pos (Or.inl hk0)])
              have hki : ((k : Int) == 0) = true := by simp; omega
              clear HE hk0
              go_wp2
              go_ret3
              exact ⟨by rw [HR.out]; rfl, hbw⟩
            · have hki : ((k : Int) == 0) = false := by simp; omega
              by_cases hq0 : 0 < q
              · have HR := Lib.hid (show destL s.data.toList = ([], 0, false) from by rw [HE.out, if_pos (Or.inr hq0)])
                have hqi : (0 : Int) < (q : Int) := by omega
                clear HE hk0
                go_wp2
                go_ret3
                exact ⟨by rw [HR.out]; rfl, hbw⟩
              · have hqi : ¬ (0 : Int) < (q : Int) := by omega
                have HR := Lib.hid (show destL s.data.toList = (unL (s.data.toList.take k), k, true) from by rw [HE.out, if_neg (by omega)])
                have hsl := slice_hi s k k rfl (by omega)
                have cu := fun W => runesc_any (s.extract 0 k) W (by rw [ByteArray.size_extract]; omega)
                rw [part_str, List.drop_zero] at cu
                have CU := Lib.hid cu
                clear HE cu hk0
                generalize unL (s.data.toList.take k) = U at *
                generalize s.extract 0 k = E at *
                go_wp2_with fail
                refine (CU.out _).mono ?_
                rintro e w2 ⟨rfl, b2⟩
                go_wp2
                go_ret3
                exact ⟨by rw [HR.out]; rfl, hbw.trans (b2.mono hbw.size)⟩
          · rw [bareGo_stop (Or.inl (by unfold tgHid; simp; omega))] at hgo
            have HE := Lib.hid (HD.out k q hgo.symm)
            clear hgo hd HD
            generalize s[k] = b at *
            by_cases hk0 : k = 0
            · have HR := Lib.hid (show destL s.data.toList = ([], 0, false) from by rw [HE.out, if_pos (Or.inl hk0)])
              have hki : ((k : Int) == 0) = true := by simp; omega
              clear HE hk0
              go_wp2
              go_ret3
              exact ⟨by rw [HR.out]; rfl, hbw⟩
            · have hki : ((k : Int) == 0) = false := by simp; omega
              by_cases hq0 : 0 < q
              · have HR := Lib.hid (show destL s.data.toList = ([], 0, false) from by rw [HE.out, if_pos (Or.inr hq0)])
                have hqi : (0 : Int) < (q : Int) := by omega
                clear HE hk0
                go_wp2
                go_ret3
                exact ⟨by rw [HR.out]; rfl, hbw⟩
              · have hqi : ¬ (0 : Int) < (q : Int) := by omega
                have HR := Lib.hid (show destL s.data.toList = (unL (s.data.toList.take k), k, true) from by rw [HE.out, if_neg (by omega)])
                have hsl := slice_hi s k k rfl (by omega)
                have cu := fun W => runesc_any (s.extract 0 k) W (by rw [ByteArray.size_extract]; omega)
                rw [part_str, List.drop_zero] at cu
                have CU := Lib.hid cu
                clear HE cu hk0
                generalize unL (s.data.toList.take k) = U at *
                generalize s.extract 0 k = E at *
                go_wp2_with fail
                refine (CU.out _).mono ?_
                rintro e w2 ⟨rfl, b2⟩
                go_wp2
                go_ret3
                exact ⟨by rw [HR.out]; rfl, hbw.trans (b2.mono hbw.size)⟩
          · rw [bareGo_stop (Or.inr ⟨h3, h4, rfl⟩)] at hgo
            have HE := Lib.hid (HD.out k q hgo.symm)
            clear hgo hd HD
            generalize s[k] = b at *
            have h4b : ((q : Int) == 0) = true := by simp; omega
            have h4c : ¬ 0 < q := by omega
            clear h4
            by_cases hk0 : k = 0
            · have HR := Lib.hid (show destL s.data.toList = ([], 0, false) from by rw [HE.out, if_pos (Or.inl hk0)])
              have hki : ((k : Int) == 0) = true := by simp; omega
              clear HE hk0
              go_wp2
              go_ret3
              exact ⟨by rw [HR.out]; rfl, hbw⟩
            · have hki : ((k : Int) == 0) = false := by simp; omega
              by_cases hq0 : 0 < q
              · exact absurd hq0 h4c
              · have hqi : ¬ (0 : Int) < (q : Int) := by omega
                have HR := Lib.hid (show destL s.data.toList = (unL (s.data.toList.take k), k, true) from by rw [HE.out, if_neg (by omega)])
                have hsl := slice_hi s k k rfl (by omega)
                have cu := fun W => runesc_any (s.extract 0 k) W (by rw [ByteArray.size_extract]; omega)
                rw [part_str, List.drop_zero] at cu
                have CU := Lib.hid cu
                clear HE cu hk0
                generalize unL (s.data.toList.take k) = U at *
                generalize s.extract 0 k = E at *
                go_wp2_with fail
                refine (CU.out _).mono ?_
                rintro e w2 ⟨rfl, b2⟩
                go_wp2
                go_ret3
                exact ⟨by rw [HR.out]; rfl, hbw.trans (b2.mono hbw.size)⟩
          · have hnh : tgHid (s[k].toNat : Int) = false := by unfold tgHid; simp; omega
            by_cases h92 : s[k].toNat = 92
            · rw [u8_is (c := 92) h92] at hgo
              by_cases hp2 : k + 1 < s.size
              · have hix2 := index_str s ((k : Int) + 1) (k + 1) (by omega) hp2
                rw [get_list s (k + 1) hp2] at hgo
                have hc2 : s[k + 1].toNat ≤ 32 ∨ ¬ s[k + 1].toNat ≤ 32 ∧ s[k + 1].toNat = 127 ∨ ¬ s[k + 1].toNat ≤ 32 ∧ ¬ s[k + 1].toNat = 127 := by omega
                rcases hc2 with g | ⟨g, g2⟩ | ⟨g, g2⟩
                · rw [bare_pair0 (by unfold tgHid; simp; omega), ← get_list s (k + 1) hp2] at hgo
                  have HG := Lib.hid hgo
                  clear hgo hd HD hnh
                  generalize s[k + 1] = c at *
                  generalize s[k] = b at *
                  go_wp2
                  first
                    | exact ⟨⟨k + 1, q, by go_num, rfl, by omega, by omega, HG.out, hbw⟩, by simp only [intOf]; omega⟩
                    | (go_roundw
                       case rel => exact ⟨k + 1, q, by go_num, rfl, by omega, by omega, HG.out, hbw⟩
                       case measure => simp [intOf]; omega)
                · rw [bare_pair0 (by unfold tgHid; simp; omega), ← get_list s (k + 1) hp2] at hgo
                  have HG := Lib.hid hgo
                  clear hgo hd HD hnh
                  generalize s[k + 1] = c at *
                  generalize s[k] = b at *
                  go_wp2
                  first
                    | exact ⟨⟨k + 1, q, by go_num, rfl, by omega, by omega, HG.out, hbw⟩, by simp only [intOf]; omega⟩
                    | (go_roundw
                       case rel => exact ⟨k + 1, q, by go_num, rfl, by omega, by omega, HG.out, hbw⟩
                       case measure => simp [intOf]; omega)
                · rw [bare_pair (by unfold tgHid; simp; omega)] at hgo
                  have HG := Lib.hid hgo
                  clear hgo hd HD hnh
                  generalize s[k + 1] = c at *
                  generalize s[k] = b at *
                  go_wp2
                  first
                    | exact ⟨⟨k + 2, q, by go_num, rfl, by omega, by omega, HG.out, hbw⟩, by simp only [intOf]; omega⟩
                    | (go_roundw
                       case rel => exact ⟨k + 2, q, by go_num, rfl, by omega, by omega, HG.out, hbw⟩
                       case measure => simp [intOf]; omega)
              · have e9 : s.data.toList.drop (k + 1) = [] := List.drop_eq_nil_of_le (by omega)
                rw [e9, bare_last, ← e9] at hgo
                have HG := Lib.hid hgo
                clear hgo hd HD hnh e9
                generalize s[k] = b at *
                go_wp2
                first
                  | exact ⟨⟨k + 1, q, by go_num, rfl, by omega, by omega, HG.out, hbw⟩, by simp only [intOf]; omega⟩
                  | (go_roundw
                     case rel => exact ⟨k + 1, q, by go_num, rfl, by omega, by omega, HG.out, hbw⟩
                     case measure => simp [intOf]; omega)
            · by_cases h40 : s[k].toNat = 40
              · rw [bareGo_on hnh (by omega), if_neg (by simp), if_neg h92, if_pos h40] at hgo
                have HG := Lib.hid hgo
                clear hgo hd HD hnh
                generalize s[k] = b at *
                go_wp2
                first
                  | exact ⟨⟨k + 1, q + 1, by go_num, by go_num, by omega, by omega, HG.out, hbw⟩, by simp only [intOf]; omega⟩
                  | (go_roundw
                     case rel => exact ⟨k + 1, q + 1, by go_num, by go_num, by omega, by omega, HG.out, hbw⟩
                     case measure => simp [intOf]; omega)
              · rcases h3 with ⟨h41, hq0⟩ | h41
                · rw [bareGo_on hnh (by omega), if_neg (by simp), if_neg h92, if_neg h40, if_pos h41] at hgo
                  have HG := Lib.hid hgo
                  clear hgo hd HD hnh
                  generalize s[k] = b at *
                  obtain ⟨r, rfl⟩ : ∃ r, q = r + 1 := ⟨q - 1, by omega⟩
                  go_wp2
                  first
                    | exact ⟨⟨k + 1, r, by go_num, by go_num, by omega, by omega, HG.out, hbw⟩, by simp only [intOf]; omega⟩
                    | (go_roundw
                       case rel => exact ⟨k + 1, r, by go_num, by go_num, by omega, by omega, HG.out, hbw⟩
                       case measure => simp [intOf]; omega)
                · rw [bareGo_on hnh (by omega), if_neg (by simp), if_neg h92, if_neg h40, if_neg h41] at hgo
                  have HG := Lib.hid hgo
                  have f92 : ((s[k].toNat : Int) == 92) = false := by simp; omega
                  have f40 : ((s[k].toNat : Int) == 40) = false := by simp; omega
                  have f41 : ((s[k].toNat : Int) == 41) = false := by simp; omega
                  have f32 : ¬ (s[k].toNat : Int) ≤ 32 := by omega
                  have f127 : ((s[k].toNat : Int) == 127) = false := by simp; omega
                  clear h92 h40 h41 h h2
                  clear hgo hd HD hnh
                  generalize s[k] = b at *
                  go_wp2
                  first
                    | exact ⟨⟨k + 1, q, by go_num, rfl, by omega, by omega, HG.out, hbw⟩, by simp only [intOf]; omega⟩
                    | (go_roundw
                       case rel => exact ⟨k + 1, q, by go_num, rfl, by omega, by omega, HG.out, hbw⟩
                       case measure => simp [intOf]; omega)
        · rw [List.drop_eq_nil_of_le (by omega)] at hgo
          have HE := Lib.hid (HD.out k q hgo.symm)
          clear hgo HD
          have hk00 : ¬ k = 0 := by omega
          have hki : ((k : Int) == 0) = false := by simp; omega
          by_cases hq0 : 0 < q
          · have HR := Lib.hid (show destL s.data.toList = ([], 0, false) from by rw [HE.out, if_pos (Or.inr hq0)])
            have hqi : (0 : Int) < (q : Int) := by omega
            clear HE
            go_wp2
            go_ret3
            exact ⟨by rw [HR.out]; rfl, hbw⟩
          · have hqi : ¬ (0 : Int) < (q : Int) := by omega
            have HR := Lib.hid (show destL s.data.toList = (unL (s.data.toList.take k), k, true) from by rw [HE.out, if_neg (by omega)])
            have hsl := slice_hi s k k rfl (by omega)
            have cu := fun W => runesc_any (s.extract 0 k) W (by rw [ByteArray.size_extract]; omega)
            rw [part_str, List.drop_zero] at cu
            have CU := Lib.hid cu
            clear HE cu
            generalize unL (s.data.toList.take k) = U at *
            generalize s.extract 0 k = E at *
            go_wp2_with fail
            refine (CU.out _).mono ?_
            rintro e w2 ⟨rfl, b2⟩
            go_wp2
            go_ret3
            exact ⟨by rw [HR.out]; rfl, hbw.trans (b2.mono hbw.size)⟩

end Go.Proofs.YtioolcnoiaoflaaGreatDoor

namespace Go.Proofs.YtioolcnoiaoflaaGreatDoor
open Go.RowKit
set_option linter.unusedSimpArgs false
set_option linter.unusedVariables false
set_option maxRecDepth 100000

def RtRel (c : UInt8) (nv : List UInt8) (s : ByteArray) (w : World) (i : Value) (wr : World) : Prop :=
  ∃ k : Nat, i = .int .i64 k ∧ 1 ≤ k ∧ k ≤ s.size + 1 ∧ btwGo c nv (s.data.toList.drop k) false k = btwGo c nv (s.data.toList.drop 1) false 1 ∧ Below w.heap.size w wr
theorem btwL_go (c : UInt8) (nv l : List UInt8) : btwL c nv l = match btwGo c nv (l.drop 1) false 1 with | none => ([], 0, false) | some i => (unL ((l.take i).drop 1), i + 1, true) := rfl

set_option maxHeartbeats 8000000 in
theorem rtitle_any (s : ByteArray) (w : World) (hs : s.size ≤ 1000) :
    Calls Tryz.prog 31 #[.string s] w fun e w' => e = .returned (tib (titleL s.data.toList)) ∧ Below w.heap.size w w' := by
  have hll := str_len s
  by_cases h0 : s.data.toList = []
  · obtain ⟨e1, e2⟩ := emp_yes h0
    have HR := Lib.hid (show titleL s.data.toList = ([], 0, false) from by rw [h0]; rfl)
    clear h0 hll
    go_enter Tryz.func31, Tryz.ntmps31
    go_wp2
    go_ret3
    exact ⟨by rw [HR.out]; rfl, Below.refl _ _⟩
  · obtain ⟨e1, e2⟩ := emp_no h0
    have h1 : 0 < s.size := by
      rw [← hll]
      exact List.length_pos_iff.2 h0
    have hix0 := index_str s 0 0 rfl h1
    have hf34 := first_is h1 34
    have hf39 := first_is h1 39
    have hf40 := first_is h1 40
    have hTL : titleL s.data.toList = if ((34 : UInt8) == s[0]) = true then btwL 34 [] s.data.toList else if ((39 : UInt8) == s[0]) = true then btwL 39 [] s.data.toList else if ((40 : UInt8) == s[0]) = true then btwL 41 [40] s.data.toList else ([], 0, false) := by
      unfold titleL
      rw [hf34, hf39, hf40]
    clear h0 hf34 hf39 hf40
    by_cases q34 : s[0].toNat = 34
    · rw [if_pos (by rw [u8_is (c := 34) q34]; rfl)] at hTL
      have HD := Lib.hid (show titleL s.data.toList = _ from hTL.trans (btwL_go 34 [] s.data.toList))
      clear hTL
      have z34 : ((s[0].toNat : Int) == 34) = true := by simp; omega
      have y34 : ((s[0].toNat : Int) != 34) = false := by simp; omega
      have z40 : ((s[0].toNat : Int) == 40) = false := by simp; omega
      have y40 : ((s[0].toNat : Int) != 40) = true := by simp; omega
      clear q34
      generalize s[0] = b0 at *
      go_enter Tryz.func31, Tryz.ntmps31
      go_wp2_with fail
      clear hix0
      go_loopw [6] (fun i wr => RtRel 34 [] s w i wr) (fun i _ => s.size + 1 - (intOf i).toNat)
      case atStart => exact ⟨1, rfl, Nat.le_refl _, by omega, rfl, Below.refl _ _⟩
      case round =>
        obtain ⟨k, rfl, hk1, hk, hgo, hbw⟩ := hrel
        by_cases hp : k < s.size
        · have hix := index_str s k k rfl hp
          have hd := get_list s k hp
          rw [hd] at hgo
          by_cases hz : s[k].toNat = 0
          · rw [btwGo_zero hz] at hgo
            have HR := Lib.hid (show titleL s.data.toList = ([], 0, false) from by rw [HD.out, ← hgo])
            have f0 : ((s[k].toNat : Int) == 0) = true := by simp; omega
            clear hgo hd HD hz
            generalize s[k] = b at *
            go_wp2
            go_ret3
            exact ⟨by rw [HR.out]; rfl, hbw⟩
          · by_cases h92 : s[k].toNat = 92
            · rw [u8_is (c := 92) h92] at hgo
              have f0 : ((s[k].toNat : Int) == 0) = false := by simp; omega
              have f92 : ((s[k].toNat : Int) == 92) = true := by simp; omega
              by_cases hp2 : k + 1 < s.size
              · have hix2 := index_str s ((k : Int) + 1) (k + 1) (by omega) hp2
                rw [get_list s (k + 1) hp2] at hgo
                by_cases hz2 : s[k + 1].toNat = 0
                · rw [btw_pair0 hz2] at hgo
                  have g0 : ((s[k + 1].toNat : Int) == 0) = true := by simp; omega
                  have HR := Lib.hid (show titleL s.data.toList = ([], 0, false) from by rw [HD.out, ← hgo])
                  clear hgo hd HD hz h92 hz2
                  generalize s[k + 1] = c2 at *
                  generalize s[k] = b at *
                  go_wp2
                  go_ret3
                  exact ⟨by rw [HR.out]; rfl, hbw⟩
                · rw [btw_pair hz2] at hgo
                  have g0 : ((s[k + 1].toNat : Int) == 0) = false := by simp; omega
                  have HG := Lib.hid hgo
                  clear hgo hd HD hz h92 hz2
                  generalize s[k + 1] = c2 at *
                  generalize s[k] = b at *
                  go_wp2
                  first
                    | exact ⟨⟨k + 2, by go_num, by omega, by omega, HG.out, hbw⟩, by simp only [intOf]; omega⟩
                    | (go_roundw
                       case rel => exact ⟨k + 2, by go_num, by omega, by omega, HG.out, hbw⟩
                       case measure => simp [intOf]; omega)
              · rw [List.drop_eq_nil_of_le (by omega : s.data.toList.length ≤ k + 1), btw_last] at hgo
                have HG := Lib.hid (show btwGo 34 [] (s.data.toList.drop (k + 2)) false (k + 2) = btwGo 34 [] (s.data.toList.drop 1) false 1 from by
                  rw [List.drop_eq_nil_of_le (by omega), ← hgo]; rfl)
                clear hgo hd HD hz h92
                generalize s[k] = b at *
                go_wp2
                first
                  | exact ⟨⟨k + 2, by go_num, by omega, by omega, HG.out, hbw⟩, by simp only [intOf]; omega⟩
                  | (go_roundw
                     case rel => exact ⟨k + 2, by go_num, by omega, by omega, HG.out, hbw⟩
                     case measure => simp [intOf]; omega)
            · by_cases hc : s[k].toNat = 34
              · rw [btwGo_shut hz h92 (u8_is (c := 34) hc)] at hgo
                have HR := Lib.hid (show titleL s.data.toList = (unL ((s.data.toList.take k).drop 1), k + 1, true) from by rw [HD.out, ← hgo])
                have hsl := slice_lohi s 1 k 1 k rfl rfl hk1 (by omega)
                have cu := fun W => runesc_any (s.extract 1 k) W (by rw [ByteArray.size_extract]; omega)
                rw [part_str] at cu
                have CU := Lib.hid cu
                have f0 : ((s[k].toNat : Int) == 0) = false := by simp; omega
                have f92 : ((s[k].toNat : Int) == 92) = false := by simp; omega
                have fc : ((s[k].toNat : Int) == 34) = true := by simp; omega
                clear hgo hd HD cu hz h92 hc
                generalize unL ((s.data.toList.take k).drop 1) = U at *
                generalize s.extract 1 k = E at *
                generalize s[k] = b at *
                go_wp2_with fail
                refine (CU.out _).mono ?_
                rintro e w2 ⟨rfl, b2⟩
                go_wp2
                go_ret3
                exact ⟨by rw [HR.out]; unfold tib; first | rfl | simp, hbw.trans (b2.mono hbw.size)⟩
              · have hcne : ¬ s[k] = 34 := by
                  intro e
                  rw [e] at hc
                  exact hc rfl
                by_cases h40 : s[k].toNat = 40
                · rw [btwGo_on hz h92 hcne (by simp)] at hgo
                  have HG := Lib.hid hgo
                  have f0 : ((s[k].toNat : Int) == 0) = false := by simp; omega
                  have f92 : ((s[k].toNat : Int) == 92) = false := by simp; omega
                  have fc : ((s[k].toNat : Int) == 34) = false := by simp; omega
                  have f40 : ((s[k].toNat : Int) == 40) = true := by simp; omega
                  clear hgo hd HD hz h92 hc hcne h40
                  generalize s[k] = b at *
                  go_wp2
                  first
                    | exact ⟨⟨k + 1, by go_num, by omega, by omega, HG.out, hbw⟩, by simp only [intOf]; omega⟩
                    | (go_roundw
                       case rel => exact ⟨k + 1, by go_num, by omega, by omega, HG.out, hbw⟩
                       case measure => simp [intOf]; omega)
                · rw [btwGo_on hz h92 hcne (by simp)] at hgo
                  have HG := Lib.hid hgo
                  have f0 : ((s[k].toNat : Int) == 0) = false := by simp; omega
                  have f92 : ((s[k].toNat : Int) == 92) = false := by simp; omega
                  have fc : ((s[k].toNat : Int) == 34) = false := by simp; omega
                  have f40 : ((s[k].toNat : Int) == 40) = false := by simp; omega
                  clear hgo hd HD hz h92 hc hcne h40
                  generalize s[k] = b at *
                  go_wp2
                  first
                    | exact ⟨⟨k + 1, by go_num, by omega, by omega, HG.out, hbw⟩, by simp only [intOf]; omega⟩
                    | (go_roundw
                       case rel => exact ⟨k + 1, by go_num, by omega, by omega, HG.out, hbw⟩
                       case measure => simp [intOf]; omega)
        · rw [List.drop_eq_nil_of_le (by omega)] at hgo
          have HR := Lib.hid (show titleL s.data.toList = ([], 0, false) from by rw [HD.out, ← hgo]; rfl)
          clear hgo HD
          go_wp2
          go_ret3
          exact ⟨by rw [HR.out]; rfl, hbw⟩
    · have n34 : ¬ ((34 : UInt8) == s[0]) = true := by
        intro e
        rw [beq_iff_eq] at e
        rw [← e] at q34
        exact q34 rfl
      rw [if_neg n34] at hTL
      by_cases q39 : s[0].toNat = 39
      · rw [if_pos (by rw [u8_is (c := 39) q39]; rfl)] at hTL
        have HD := Lib.hid (show titleL s.data.toList = _ from hTL.trans (btwL_go 39 [] s.data.toList))
        clear hTL
        have z34 : ((s[0].toNat : Int) == 34) = false := by simp; omega
        have y34 : ((s[0].toNat : Int) != 34) = true := by simp; omega
        have z39 : ((s[0].toNat : Int) == 39) = true := by simp; omega
        have y39 : ((s[0].toNat : Int) != 39) = false := by simp; omega
        have z40 : ((s[0].toNat : Int) == 40) = false := by simp; omega
        have y40 : ((s[0].toNat : Int) != 40) = true := by simp; omega
        clear q34 q39 n34
        generalize s[0] = b0 at *
        go_enter Tryz.func31, Tryz.ntmps31
        go_wp2_with fail
        clear hix0
        go_loopw [6] (fun i wr => RtRel 39 [] s w i wr) (fun i _ => s.size + 1 - (intOf i).toNat)
        case atStart => exact ⟨1, rfl, Nat.le_refl _, by omega, rfl, Below.refl _ _⟩
        case round =>
          obtain ⟨k, rfl, hk1, hk, hgo, hbw⟩ := hrel
          by_cases hp : k < s.size
          · have hix := index_str s k k rfl hp
            have hd := get_list s k hp
            rw [hd] at hgo
            by_cases hz : s[k].toNat = 0
            · rw [btwGo_zero hz] at hgo
              have HR := Lib.hid (show titleL s.data.toList = ([], 0, false) from by rw [HD.out, ← hgo])
              have f0 : ((s[k].toNat : Int) == 0) = true := by simp; omega
              clear hgo hd HD hz
              generalize s[k] = b at *
              go_wp2
              go_ret3
              exact ⟨by rw [HR.out]; rfl, hbw⟩
            · by_cases h92 : s[k].toNat = 92
              · rw [u8_is (c := 92) h92] at hgo
                have f0 : ((s[k].toNat : Int) == 0) = false := by simp; omega
                have f92 : ((s[k].toNat : Int) == 92) = true := by simp; omega
                by_cases hp2 : k + 1 < s.size
                · have hix2 := index_str s ((k : Int) + 1) (k + 1) (by omega) hp2
                  rw [get_list s (k + 1) hp2] at hgo
                  by_cases hz2 : s[k + 1].toNat = 0
                  · rw [btw_pair0 hz2] at hgo
                    have g0 : ((s[k + 1].toNat : Int) == 0) = true := by simp; omega
                    have HR := Lib.hid (show titleL s.data.toList = ([], 0, false) from by rw [HD.out, ← hgo])
                    clear hgo hd HD hz h92 hz2
                    generalize s[k + 1] = c2 at *
                    generalize s[k] = b at *
                    go_wp2
                    go_ret3
                    exact ⟨by rw [HR.out]; rfl, hbw⟩
                  · rw [btw_pair hz2] at hgo
                    have g0 : ((s[k + 1].toNat : Int) == 0) = false := by simp; omega
                    have HG := Lib.hid hgo
                    clear hgo hd HD hz h92 hz2
                    generalize s[k + 1] = c2 at *
                    generalize s[k] = b at *
                    go_wp2
                    first
                      | exact ⟨⟨k + 2, by go_num, by omega, by omega, HG.out, hbw⟩, by simp only [intOf]; omega⟩
                      | (go_roundw
                         case rel => exact ⟨k + 2, by go_num, by omega, by omega, HG.out, hbw⟩
                         case measure => simp [intOf]; omega)
                · rw [List.drop_eq_nil_of_le (by omega : s.data.toList.length ≤ k + 1), btw_last] at hgo
                  have HG := Lib.hid (show btwGo 39 [] (s.data.toList.drop (k + 2)) false (k + 2) = btwGo 39 [] (s.data.toList.drop 1) false 1 from by
                    rw [List.drop_eq_nil_of_le (by omega), ← hgo]; rfl)
                  clear hgo hd HD hz h92
                  generalize s[k] = b at *
                  go_wp2
                  first
                    | exact ⟨⟨k + 2, by go_num, by omega, by omega, HG.out, hbw⟩, by simp only [intOf]; omega⟩
                    | (go_roundw
                       case rel => exact ⟨k + 2, by go_num, by omega, by omega, HG.out, hbw⟩
                       case measure => simp [intOf]; omega)
              · by_cases hc : s[k].toNat = 39
                · rw [btwGo_shut hz h92 (u8_is (c := 39) hc)] at hgo
                  have HR := Lib.hid (show titleL s.data.toList = (unL ((s.data.toList.take k).drop 1), k + 1, true) from by rw [HD.out, ← hgo])
                  have hsl := slice_lohi s 1 k 1 k rfl rfl hk1 (by omega)
                  have cu := fun W => runesc_any (s.extract 1 k) W (by rw [ByteArray.size_extract]; omega)
                  rw [part_str] at cu
                  have CU := Lib.hid cu
                  have f0 : ((s[k].toNat : Int) == 0) = false := by simp; omega
                  have f92 : ((s[k].toNat : Int) == 92) = false := by simp; omega
                  have fc : ((s[k].toNat : Int) == 39) = true := by simp; omega
                  clear hgo hd HD cu hz h92 hc
                  generalize unL ((s.data.toList.take k).drop 1) = U at *
                  generalize s.extract 1 k = E at *
                  generalize s[k] = b at *
                  go_wp2_with fail
                  refine (CU.out _).mono ?_
                  rintro e w2 ⟨rfl, b2⟩
                  go_wp2
                  go_ret3
                  exact ⟨by rw [HR.out]; unfold tib; first | rfl | simp, hbw.trans (b2.mono hbw.size)⟩
                · have hcne : ¬ s[k] = 39 := by
                    intro e
                    rw [e] at hc
                    exact hc rfl
                  by_cases h40 : s[k].toNat = 40
                  · rw [btwGo_on hz h92 hcne (by simp)] at hgo
                    have HG := Lib.hid hgo
                    have f0 : ((s[k].toNat : Int) == 0) = false := by simp; omega
                    have f92 : ((s[k].toNat : Int) == 92) = false := by simp; omega
                    have fc : ((s[k].toNat : Int) == 39) = false := by simp; omega
                    have f40 : ((s[k].toNat : Int) == 40) = true := by simp; omega
                    clear hgo hd HD hz h92 hc hcne h40
                    generalize s[k] = b at *
                    go_wp2
                    first
                      | exact ⟨⟨k + 1, by go_num, by omega, by omega, HG.out, hbw⟩, by simp only [intOf]; omega⟩
                      | (go_roundw
                         case rel => exact ⟨k + 1, by go_num, by omega, by omega, HG.out, hbw⟩
                         case measure => simp [intOf]; omega)
                  · rw [btwGo_on hz h92 hcne (by simp)] at hgo
                    have HG := Lib.hid hgo
                    have f0 : ((s[k].toNat : Int) == 0) = false := by simp; omega
                    have f92 : ((s[k].toNat : Int) == 92) = false := by simp; omega
                    have fc : ((s[k].toNat : Int) == 39) = false := by simp; omega
                    have f40 : ((s[k].toNat : Int) == 40) = false := by simp; omega
                    clear hgo hd HD hz h92 hc hcne h40
                    generalize s[k] = b at *
                    go_wp2
                    first
                      | exact ⟨⟨k + 1, by go_num, by omega, by omega, HG.out, hbw⟩, by simp only [intOf]; omega⟩
                      | (go_roundw
                         case rel => exact ⟨k + 1, by go_num, by omega, by omega, HG.out, hbw⟩
                         case measure => simp [intOf]; omega)
          · rw [List.drop_eq_nil_of_le (by omega)] at hgo
            have HR := Lib.hid (show titleL s.data.toList = ([], 0, false) from by rw [HD.out, ← hgo]; rfl)
            clear hgo HD
            go_wp2
            go_ret3
            exact ⟨by rw [HR.out]; rfl, hbw⟩
      · have n39 : ¬ ((39 : UInt8) == s[0]) = true := by
          intro e
          rw [beq_iff_eq] at e
          rw [← e] at q39
          exact q39 rfl
        rw [if_neg n39] at hTL
        by_cases q40 : s[0].toNat = 40
        · rw [if_pos (by rw [u8_is (c := 40) q40]; rfl)] at hTL
          have HD := Lib.hid (show titleL s.data.toList = _ from hTL.trans (btwL_go 41 [40] s.data.toList))
          clear hTL
          have z34 : ((s[0].toNat : Int) == 34) = false := by simp; omega
          have y34 : ((s[0].toNat : Int) != 34) = true := by simp; omega
          have z39 : ((s[0].toNat : Int) == 39) = false := by simp; omega
          have y39 : ((s[0].toNat : Int) != 39) = true := by simp; omega
          have z40 : ((s[0].toNat : Int) == 40) = true := by simp; omega
          have y40 : ((s[0].toNat : Int) != 40) = false := by simp; omega
          clear q34 q39 q40 n34 n39
          generalize s[0] = b0 at *
          go_enter Tryz.func31, Tryz.ntmps31
          go_wp2_with fail
          clear hix0
          go_loopw [6] (fun i wr => RtRel 41 [40] s w i wr) (fun i _ => s.size + 1 - (intOf i).toNat)
          case atStart => exact ⟨1, rfl, Nat.le_refl _, by omega, rfl, Below.refl _ _⟩
          case round =>
            obtain ⟨k, rfl, hk1, hk, hgo, hbw⟩ := hrel
            by_cases hp : k < s.size
            · have hix := index_str s k k rfl hp
              have hd := get_list s k hp
              rw [hd] at hgo
              by_cases hz : s[k].toNat = 0
              · rw [btwGo_zero hz] at hgo
                have HR := Lib.hid (show titleL s.data.toList = ([], 0, false) from by rw [HD.out, ← hgo])
                have f0 : ((s[k].toNat : Int) == 0) = true := by simp; omega
                clear hgo hd HD hz
                generalize s[k] = b at *
                go_wp2
                go_ret3
                exact ⟨by rw [HR.out]; rfl, hbw⟩
              · by_cases h92 : s[k].toNat = 92
                · rw [u8_is (c := 92) h92] at hgo
                  have f0 : ((s[k].toNat : Int) == 0) = false := by simp; omega
                  have f92 : ((s[k].toNat : Int) == 92) = true := by simp; omega
                  by_cases hp2 : k + 1 < s.size
                  · have hix2 := index_str s ((k : Int) + 1) (k + 1) (by omega) hp2
                    rw [get_list s (k + 1) hp2] at hgo
                    by_cases hz2 : s[k + 1].toNat = 0
                    · rw [btw_pair0 hz2] at hgo
                      have g0 : ((s[k + 1].toNat : Int) == 0) = true := by simp; omega
                      have HR := Lib.hid (show titleL s.data.toList = ([], 0, false) from by rw [HD.out, ← hgo])
                      clear hgo hd HD hz h92 hz2
                      generalize s[k + 1] = c2 at *
                      generalize s[k] = b at *
                      go_wp2
                      go_ret3
                      exact ⟨by rw [HR.out]; rfl, hbw⟩
                    · rw [btw_pair hz2] at hgo
                      have g0 : ((s[k + 1].toNat : Int) == 0) = false := by simp; omega
                      have HG := Lib.hid hgo
                      clear hgo hd HD hz h92 hz2
                      generalize s[k + 1] = c2 at *
                      generalize s[k] = b at *
                      go_wp2
                      first
                        | exact ⟨⟨k + 2, by go_num, by omega, by omega, HG.out, hbw⟩, by simp only [intOf]; omega⟩
                        | (go_roundw
                           case rel => exact ⟨k + 2, by go_num, by omega, by omega, HG.out, hbw⟩
                           case measure => simp [intOf]; omega)
                  · rw [List.drop_eq_nil_of_le (by omega : s.data.toList.length ≤ k + 1), btw_last] at hgo
                    have HG := Lib.hid (show btwGo 41 [40] (s.data.toList.drop (k + 2)) false (k + 2) = btwGo 41 [40] (s.data.toList.drop 1) false 1 from by
                      rw [List.drop_eq_nil_of_le (by omega), ← hgo]; rfl)
                    clear hgo hd HD hz h92
                    generalize s[k] = b at *
                    go_wp2
                    first
                      | exact ⟨⟨k + 2, by go_num, by omega, by omega, HG.out, hbw⟩, by simp only [intOf]; omega⟩
                      | (go_roundw
                         case rel => exact ⟨k + 2, by go_num, by omega, by omega, HG.out, hbw⟩
                         case measure => simp [intOf]; omega)
                · by_cases hc : s[k].toNat = 41
                  · rw [btwGo_shut hz h92 (u8_is (c := 41) hc)] at hgo
                    have HR := Lib.hid (show titleL s.data.toList = (unL ((s.data.toList.take k).drop 1), k + 1, true) from by rw [HD.out, ← hgo])
                    have hsl := slice_lohi s 1 k 1 k rfl rfl hk1 (by omega)
                    have cu := fun W => runesc_any (s.extract 1 k) W (by rw [ByteArray.size_extract]; omega)
                    rw [part_str] at cu
                    have CU := Lib.hid cu
                    have f0 : ((s[k].toNat : Int) == 0) = false := by simp; omega
                    have f92 : ((s[k].toNat : Int) == 92) = false := by simp; omega
                    have fc : ((s[k].toNat : Int) == 41) = true := by simp; omega
                    clear hgo hd HD cu hz h92 hc
                    generalize unL ((s.data.toList.take k).drop 1) = U at *
                    generalize s.extract 1 k = E at *
                    generalize s[k] = b at *
                    go_wp2_with fail
                    refine (CU.out _).mono ?_
                    rintro e w2 ⟨rfl, b2⟩
                    go_wp2
                    go_ret3
                    exact ⟨by rw [HR.out]; unfold tib; first | rfl | simp, hbw.trans (b2.mono hbw.size)⟩
                  · have hcne : ¬ s[k] = 41 := by
                      intro e
                      rw [e] at hc
                      exact hc rfl
                    by_cases h40 : s[k].toNat = 40
                    · rw [btwGo_never hz h92 hcne (by rw [u8_is (c := 40) h40]; decide)] at hgo
                      have HR := Lib.hid (show titleL s.data.toList = ([], 0, false) from by rw [HD.out, ← hgo])
                      have f0 : ((s[k].toNat : Int) == 0) = false := by simp; omega
                      have f92 : ((s[k].toNat : Int) == 92) = false := by simp; omega
                      have fc : ((s[k].toNat : Int) == 41) = false := by simp; omega
                      have f40 : ((s[k].toNat : Int) == 40) = true := by simp; omega
                      clear hgo hd HD hz h92 hc hcne h40
                      generalize s[k] = b at *
                      go_wp2
                      go_ret3
                      exact ⟨by rw [HR.out]; rfl, hbw⟩
                    · rw [btwGo_on hz h92 hcne (by
                        intro e
                        simp only [List.mem_cons, List.not_mem_nil, or_false] at e
                        rw [e] at h40
                        exact h40 rfl)] at hgo
                      have HG := Lib.hid hgo
                      have f0 : ((s[k].toNat : Int) == 0) = false := by simp; omega
                      have f92 : ((s[k].toNat : Int) == 92) = false := by simp; omega
                      have fc : ((s[k].toNat : Int) == 41) = false := by simp; omega
                      have f40 : ((s[k].toNat : Int) == 40) = false := by simp; omega
                      clear hgo hd HD hz h92 hc hcne h40
                      generalize s[k] = b at *
                      go_wp2
                      first
                        | exact ⟨⟨k + 1, by go_num, by omega, by omega, HG.out, hbw⟩, by simp only [intOf]; omega⟩
                        | (go_roundw
                           case rel => exact ⟨k + 1, by go_num, by omega, by omega, HG.out, hbw⟩
                           case measure => simp [intOf]; omega)
            · rw [List.drop_eq_nil_of_le (by omega)] at hgo
              have HR := Lib.hid (show titleL s.data.toList = ([], 0, false) from by rw [HD.out, ← hgo]; rfl)
              clear hgo HD
              go_wp2
              go_ret3
              exact ⟨by rw [HR.out]; rfl, hbw⟩
        · have n40 : ¬ ((40 : UInt8) == s[0]) = true := by
            intro e
            rw [beq_iff_eq] at e
            rw [← e] at q40
            exact q40 rfl
          rw [if_neg n40] at hTL
          have HR := Lib.hid hTL
          clear hTL
          have z34 : ((s[0].toNat : Int) == 34) = false := by simp; omega
          have y34 : ((s[0].toNat : Int) != 34) = true := by simp; omega
          have z39 : ((s[0].toNat : Int) == 39) = false := by simp; omega
          have y39 : ((s[0].toNat : Int) != 39) = true := by simp; omega
          have z40 : ((s[0].toNat : Int) == 40) = false := by simp; omega
          have y40 : ((s[0].toNat : Int) != 40) = true := by simp; omega
          clear q34 q39 q40 n34 n39 n40
          generalize s[0] = b0 at *
          go_enter Tryz.func31, Tryz.ntmps31
          go_wp2
          go_ret3
          exact ⟨by rw [HR.out]; rfl, Below.refl _ _⟩

end Go.Proofs.YtioolcnoiaoflaaGreatDoor

namespace Go.Proofs.YtioolcnoiaoflaaGreatDoor
open Go.RowKit
set_option linter.unusedSimpArgs false
set_option linter.unusedVariables false
set_option maxRecDepth 100000

theorem line_cut {l : List UInt8} {k : Nat} (h1 : 1 ≤ k) (hk : k < l.length) (h0 : l.head? = some 91) (h93 : l[k] = 93) : l = 91 :: ((l.take k).drop 1 ++ 93 :: l.drop (k + 1)) := by
  match l, h0, h1, hk with
  | b :: l, h0, h1, hk =>
    have hb : b = 91 := by simpa using h0
    subst hb
    obtain ⟨j, rfl⟩ : ∃ j, k = j + 1 := ⟨k - 1, by omega⟩
    simp only [List.take_succ_cons, List.drop_succ_cons, List.drop_zero]
    have hj : j < l.length := by simpa using hk
    have h9 : l[j] = 93 := by simpa using h93
    rw [← h9, ← List.drop_eq_getElem_cons hj, List.take_append_drop]
theorem rl_shut {l : List UInt8} {k : Nat} (h1 : 1 ≤ k) (hk : k < l.length) (h0 : l.head? = some 91) (hn : NoEnd ((l.take k).drop 1)) (h93 : l[k] = 93) (hc : Lib.hasPrefix (l.drop (k + 1)) [58] = false) : dlL l = (noDfn, false) := by
  rw [line_cut h1 hk h0 h93]
  exact dlL_shut hn hc
theorem rl_open {l : List UInt8} {k : Nat} (h1 : 1 ≤ k) (hk : k < l.length) (h0 : l.head? = some 91) (hn : NoEnd ((l.take k).drop 1)) (h93 : l[k] = 93) (hc : l.drop (k + 1) = 58 :: l.drop (k + 2)) : dlL l = dlBehind ((l.take k).drop 1) ((l.drop (k + 2)).dropWhile isGap) := by
  rw (occs := .pos [1]) [line_cut h1 hk h0 h93]
  rw [hc]
  exact dlL_open hn _
theorem rl_none {l : List UInt8} (h0 : l.head? = some 91) (hn : NoEnd (l.drop 1)) : dlL l = (noDfn, false) := by
  match l, h0 with
  | b :: l, h0 =>
    have hb : b = 91 := by simpa using h0
    subst hb
    exact dlL_noEnd (by simpa using hn)
theorem take_more {l : List UInt8} {k : Nat} (h1 : 1 ≤ k) (hk : k < l.length) (hn : NoEnd ((l.take k).drop 1)) (h : l[k] ≠ 93) : NoEnd ((l.take (k + 1)).drop 1) := by
  rw [List.take_succ_eq_append_getElem hk, List.drop_append_of_le_length (by rw [List.length_take]; omega)]
  intro b hb
  rw [List.mem_append, List.mem_singleton] at hb
  rcases hb with hb | rfl
  · exact hn b hb
  · exact h
def RlRel (s : ByteArray) (w : World) (i : Value) (wr : World) : Prop := ∃ k : Nat, i = .int .i64 k ∧ 1 ≤ k ∧ k ≤ s.size ∧ NoEnd ((s.data.toList.take k).drop 1) ∧ wr = w
def RgRel (s : ByteArray) (w : World) (z : Value) (wr : World) : Prop := ∃ Y : ByteArray, z = .string Y ∧ Y.data.toList.dropWhile isGap = s.data.toList.dropWhile isGap ∧ Y.size ≤ s.size ∧ wr = w
def RhRel (s : ByteArray) (w : World) (z : Value) (wr : World) : Prop := ∃ Y : ByteArray, z = .string Y ∧ Y.data.toList.dropWhile isGap = s.data.toList.dropWhile isGap ∧ Y.data.toList.all isGap = false ∧ Y.size ≤ s.size ∧ wr = w
theorem ext_drop (s : ByteArray) (k : Nat) : (s.extract k s.size).data.toList = s.data.toList.drop k := by
  rw [part_str, List.take_of_length_le (by rw [str_len]; exact Nat.le_refl _)]
theorem head_of {s : ByteArray} (h : 0 < s.size) : s.data.toList.head? = some s[0] := by
  have hd := get_list s 0 h
  rw [List.drop_zero] at hd
  rw [hd]
  rfl
theorem not_all_pos {Y : ByteArray} (h : Y.data.toList.all isGap = false) : 0 < Y.size := by
  have hl := str_len Y
  by_cases h0 : Y.data.toList = []
  · rw [h0] at h
    simp at h
  · rw [← hl]
    exact List.length_pos_iff.2 h0

set_option maxHeartbeats 16000000 in
theorem rdline_any (s : ByteArray) (w : World) (hT : Tabs w) (hs : s.size ≤ 1000) :
    Calls Tryz.prog 9 #[.string s] w fun e w' => e = .returned (dfTib (dlL s.data.toList)) ∧ Below w.heap.size w w' := by
  have hll := str_len s
  have b0 : Below w.heap.size w (w.alloc (.cells #[.string ⟨#[]⟩, .string ⟨#[]⟩, .string ⟨#[]⟩, .string ⟨#[]⟩, .bool false] 26)) := (Below.refl _ w).alloc (Nat.le_refl _) _
  have z0 := dfAt_zero w
  have hs0 := alloc_size w (.cells #[.string ⟨#[]⟩, .string ⟨#[]⟩, .string ⟨#[]⟩, .string ⟨#[]⟩, .bool false] 26)
  have HT := Lib.hid (hT.below b0)
  have HB0 := Lib.hid b0
  have HZ0 := Lib.hid z0
  clear b0 z0 hT
  by_cases h0 : s.data.toList = []
  · obtain ⟨e1, e2⟩ := emp_yes h0
    have HR := Lib.hid (show dlL s.data.toList = (noDfn, false) from by rw [h0]; rfl)
    clear h0 hll
    go_enter Tryz.func9, Tryz.ntmps9
    go_wp2
    (try simp only [Exit.inBlock, Exit.then])
    refine bodyPost_ret (v := dfTib (noDfn, false)) ?_ rfl ⟨by rw [HR.out], HB0.out⟩
    exact ret_df rfl (g := w.heap.size) HZ0.out rfl rfl
  · obtain ⟨e1, e2⟩ := emp_no h0
    have h1 : 0 < s.size := by
      rw [← hll]
      exact List.length_pos_iff.2 h0
    have hix0 := index_str s 0 0 rfl h1
    have hhd := head_of h1
    clear h0
    by_cases h91 : s[0].toNat = 91
    · rw [u8_is (c := 91) h91] at hhd
      have z91 : ((s[0].toNat : Int) != 91) = false := by simp; omega
      have HH := Lib.hid hhd
      clear h91 hhd
      generalize s[0] = b0 at *
      go_enter Tryz.func9, Tryz.ntmps9
      go_wp2_with fail
      clear hix0
      go_loopw [4] (fun i wr => RlRel s (w.alloc (.cells #[.string ⟨#[]⟩, .string ⟨#[]⟩, .string ⟨#[]⟩, .string ⟨#[]⟩, .bool false] 26)) i wr) (fun i _ => s.size - (intOf i).toNat)
      case atStart => exact ⟨1, rfl, Nat.le_refl _, by omega, by intro b hb; simp at hb, rfl⟩
      case round =>
        obtain ⟨k, rfl, hk1, hk, hne, rfl⟩ := hrel
        by_cases hp : k < s.size
        · have hix := index_str s k k rfl hp
          have HKL := Lib.hid (show k < s.data.toList.length from by omega)
          have hgk : s.data.toList[k]'HKL.out = s[k] := rfl
          by_cases h93 : s[k].toNat = 93
          · have e93 : s.data.toList[k]'HKL.out = 93 := by rw [hgk]; exact u8_is (c := 93) h93
            have f93 : ((s[k].toNat : Int) != 93) = false := by simp; omega
            by_cases hp2 : k + 1 < s.size
            · have hix2 := index_str s ((k : Int) + 1) (k + 1) (by omega) hp2
              have hd1 := get_list s (k + 1) hp2
              by_cases h58 : s[k + 1].toNat = 58
              · have f58 : ((s[k + 1].toNat : Int) != 58) = false := by simp; omega
                have hopen := rl_open hk1 HKL.out HH.out hne e93 (by rw [hd1, u8_is (c := 58) h58])
                have hs1 := slice_lohi s 1 k 1 k rfl rfl hk1 (by omega)
                have hs2 := slice_lo s ((k : Int) + 2) (k + 2) (by omega) (by omega)
                have hN := part_str s 1 k
                have hR := ext_drop s (k + 2)
                have hNz : (s.extract 1 k).size ≤ 1000 := by rw [ByteArray.size_extract]; omega
                have hRz : (s.extract (k + 2) s.size).size ≤ 1000 := by rw [ByteArray.size_extract]; omega
                rw [← hN, ← hR] at hopen
                have HD := Lib.hid hopen
                clear hopen hN hR hd1 e93 hne h93 h58 hgk
                generalize s.extract 1 k = N at *
                generalize s.extract (k + 2) s.size = R at *
                generalize s[k + 1] = c at *
                generalize s[k] = b at *
                go_wp2_with fail
                clear hix hix2 hs1 hs2 f93 f58
                go_loopw [6] (fun z wr => RgRel R (w.alloc (.cells #[.string ⟨#[]⟩, .string ⟨#[]⟩, .string ⟨#[]⟩, .string ⟨#[]⟩, .bool false] 26)) z wr) (fun z _ => (strOf z).length)
                case atStart => exact ⟨R, rfl, rfl, Nat.le_refl _, rfl⟩
                case round =>
                  obtain ⟨T, rfl, hTd, hTs, rfl⟩ := hrel
                  have hlen := str_len T
                  by_cases hpT : 0 < T.size
                  · have hneT : ¬ T.data.toList = [] := by intro e; rw [e] at hlen; simp at hlen; omega
                    obtain ⟨e3, e4⟩ := emp_no hneT
                    have e5 : (T.toList != []) = true := by simp [bne, e4]
                    have hixT := index_str T 0 0 rfl hpT
                    have cg := fun W => gap_any T[0] W
                    have hdT := get_list T 0 hpT
                    rw [List.drop_zero] at hdT
                    cases hg : isGap T[0] with
                    | true =>
                      rw [hg] at cg
                      have hsl := slice_lo T 1 1 rfl (by omega)
                      have HY := Lib.hid (show (T.extract 1 T.size).data.toList.dropWhile isGap = R.data.toList.dropWhile isGap from by
                        rw [ext_drop, ← hTd]
                        rw (occs := .pos [2]) [hdT]
                        rw [List.dropWhile_cons, if_pos hg])
                      have HS2 := Lib.hid (show (T.extract 1 T.size).size = T.size - 1 from by rw [ByteArray.size_extract]; omega)
                      have HC := Lib.hid cg
                      clear cg hg hdT hTd hneT hlen
                      generalize T.extract 1 T.size = Y at *
                      generalize T[0] = b at *
                      go_wp2_with (go_at_call 27; refine (HC.out _).mono ?_; rintro e w' ⟨rfl, rfl⟩)
                      go_roundw
                      case rel => exact ⟨Y, rfl, HY.out, by rw [HS2.out]; omega, rfl⟩
                      case measure => have := HS2.out; simp only [strOf, str_len]; omega
                    | false =>
                      rw [hg] at cg
                      have HTd := Lib.hid (show T.data.toList = R.data.toList.dropWhile isGap from by
                        rw [← hTd, hdT, List.dropWhile_cons, if_neg (by rw [hg]; simp)])
                      have HC := Lib.hid cg
                      clear cg hg hdT hTd hneT hlen
                      generalize T[0] = b at *
                      have hD2 := HD.out
                      rw [← HTd.out] at hD2
                      by_cases hN0 : N.data.toList = []
                      · obtain ⟨f1, f2⟩ := emp_yes hN0
                        have f3 : (N.toList != []) = false := by simp [bne, f2]
                        have c1 := fun W h => rdnm_any N W h (by omega)
                        rw [hN0, show dnL [] = ([], false) from rfl] at c1
                        simp only at c1
                        have c2 := fun W => rdest_any T W (by omega)
                        have HR := Lib.hid (show dlL s.data.toList = (noDfn, false) from by
                          rw [hD2, hN0]
                          show dlUrl [] T.data.toList = _
                          unfold dlUrl
                          rw [show dnL [] = ([], false) from rfl]
                          rfl)
                        have C1 := Lib.hid c1
                        clear hD2 hN0 c1
                        generalize destL T.data.toList = d at *
                        obtain ⟨url, m, is⟩ := d
                        unfold tib at c2
                        simp only at c2
                        have C2 := Lib.hid c2
                        clear c2
                        go_wp2_with (go_at_call 27; refine (HC.out _).mono ?_; rintro e w' ⟨rfl, rfl⟩)
                        refine (C1.out _ HT.out).mono ?_
                        rintro e w1 ⟨rfl, b1⟩
                        have HBn := Lib.hid (HB0.out.then b1)
                        have HZn := Lib.hid (HZ0.out.below b1)
                        clear b1
                        go_wp2_with fail
                        refine (C2.out _).mono ?_
                        rintro e w2 ⟨rfl, b2⟩
                        have HBn := Lib.hid (HBn.out.then b2)
                        have HZn := Lib.hid (HZn.out.below b2)
                        clear b2
                        obtain ⟨k0, k1, k2, k3, k4, kf⟩ := HZn.out.cells
                        have HS := Lib.hid (HZn.out.set noDfn)
                        have HW := Lib.hid (below_set5 HBn.out (Nat.le_refl _) (.string ⟨#[]⟩) (.string ⟨#[]⟩) (.string ⟨#[]⟩) (.string ⟨#[]⟩) (.bool false))
                        go_wp2
                        (try simp only [Exit.inBlock, Exit.then])
                        refine bodyPost_ret (v := dfTib (noDfn, false)) ?_ rfl ⟨by rw [HR.out], HW.out⟩
                        exact ret_df rfl (g := w.heap.size) HS.out rfl rfl
                      · obtain ⟨f1, f2⟩ := emp_no hN0
                        have f3 : (N.toList != []) = true := by simp [bne, f2]
                        have hpN : 0 < N.size := by
                          rw [← str_len N]
                          exact List.length_pos_iff.2 hN0
                        have hixN := index_str N 0 0 rfl hpN
                        have hdN := get_list N 0 hpN
                        rw [List.drop_zero] at hdN
                        by_cases h94 : N[0].toNat = 94
                        · have z94 : ((N[0].toNat : Int) == 94) = true := by simp; omega
                          have hq : dlL s.data.toList = dlNote (N.data.toList.drop 1) T.data.toList := by
                            rw [hD2]
                            unfold dlBehind
                            rw [if_pos]
                            rw [hdN, u8_is (c := 94) h94]
                            rfl
                          have hsl := slice_lo N 1 1 rfl (by omega)
                          have hN1 := ext_drop N 1
                          have hN1z : (N.extract 1 N.size).size ≤ 1000 := by rw [ByteArray.size_extract]; omega
                          rw [← hN1] at hq
                          have HE := Lib.hid hq
                          clear hq hN1 hD2 h94 hdN hN0
                          generalize N.extract 1 N.size = N1 at *
                          generalize N[0] = b at *
                          have c1 := fun W h => rdnm_any N1 W h (by omega)
                          have ct := fun W => rtrim_any T W (by omega)
                          unfold dlNote at HE
                          generalize dnL N1.data.toList = d at *
                          obtain ⟨n, ok⟩ := d
                          simp only at c1
                          have C1 := Lib.hid c1
                          clear c1
                          generalize trimG T.data.toList = x at *
                          obtain ⟨X, hX, rfl⟩ := text_of' x
                          rw [hX] at ct
                          have CT := Lib.hid ct
                          clear ct
                          cases ok with
                          | false =>
                            have HR := Lib.hid (show dlL s.data.toList = (noDfn, false) from by rw [HE.out]; rfl)
                            clear HE
                            go_wp2_with (go_at_call 27; refine (HC.out _).mono ?_; rintro e w' ⟨rfl, rfl⟩)
                            refine (C1.out _ HT.out).mono ?_
                            rintro e w1 ⟨rfl, b1⟩
                            have HBn := Lib.hid (HB0.out.then b1)
                            have HZn := Lib.hid (HZ0.out.below b1)
                            clear b1
                            obtain ⟨k0, k1, k2, k3, k4, kf⟩ := HZn.out.cells
                            have HS := Lib.hid (HZn.out.set noDfn)
                            have HW := Lib.hid (below_set5 HBn.out (Nat.le_refl _) (.string ⟨#[]⟩) (.string ⟨#[]⟩) (.string ⟨#[]⟩) (.string ⟨#[]⟩) (.bool false))
                            go_wp2
                            (try simp only [Exit.inBlock, Exit.then])
                            refine bodyPost_ret (v := dfTib (noDfn, false)) ?_ rfl ⟨by rw [HR.out], HW.out⟩
                            exact ret_df rfl (g := w.heap.size) HS.out rfl rfl
                          | true =>
                            by_cases hX0 : X.data.toList = []
                            · obtain ⟨g1, g2⟩ := emp_yes hX0
                              have HR := Lib.hid (show dlL s.data.toList = (noDfn, false) from by rw [HE.out, hX0]; rfl)
                              clear HE hX0 hX
                              go_wp2_with (go_at_call 27; refine (HC.out _).mono ?_; rintro e w' ⟨rfl, rfl⟩)
                              refine (C1.out _ HT.out).mono ?_
                              rintro e w1 ⟨rfl, b1⟩
                              have HBn := Lib.hid (HB0.out.then b1)
                              have HZn := Lib.hid (HZ0.out.below b1)
                              clear b1
                              go_wp2_with fail
                              refine (CT.out _).mono ?_
                              rintro e w3 ⟨rfl, rfl⟩
                              obtain ⟨k0, k1, k2, k3, k4, kf⟩ := HZn.out.cells
                              have HS := Lib.hid (HZn.out.set noDfn)
                              have HW := Lib.hid (below_set5 HBn.out (Nat.le_refl _) (.string ⟨#[]⟩) (.string ⟨#[]⟩) (.string ⟨#[]⟩) (.string ⟨#[]⟩) (.bool false))
                              go_wp2
                              (try simp only [Exit.inBlock, Exit.then])
                              refine bodyPost_ret (v := dfTib (noDfn, false)) ?_ rfl ⟨by rw [HR.out], HW.out⟩
                              exact ret_df rfl (g := w.heap.size) HS.out rfl rfl
                            · obtain ⟨g1, g2⟩ := emp_no hX0
                              have HR := Lib.hid (show dlL s.data.toList = (⟨n, [], [], X.data.toList, true⟩, true) from by
                                rw [HE.out]
                                cases hh : X.data.toList with
                                | nil => exact absurd hh hX0
                                | cons a l => rfl)
                              clear HE hX0 hX
                              go_wp2_with (go_at_call 27; refine (HC.out _).mono ?_; rintro e w' ⟨rfl, rfl⟩)
                              refine (C1.out _ HT.out).mono ?_
                              rintro e w1 ⟨rfl, b1⟩
                              have HBn := Lib.hid (HB0.out.then b1)
                              have HZn := Lib.hid (HZ0.out.below b1)
                              clear b1
                              go_wp2_with fail
                              refine (CT.out _).mono ?_
                              rintro e w3 ⟨rfl, rfl⟩
                              go_wp2_with fail
                              refine (CT.out _).mono ?_
                              rintro e w4 ⟨rfl, rfl⟩
                              obtain ⟨k0, k1, k2, k3, k4, kf⟩ := HZn.out.cells
                              have hst := HZn.out.set ⟨n, [], [], X.data.toList, true⟩
                              rw [show (⟨X.data.toList.toArray⟩ : ByteArray) = X from Lib.mk_data X] at hst
                              have HS := Lib.hid hst
                              clear hst
                              have HW := Lib.hid (below_set5 HBn.out (Nat.le_refl _) (.string ⟨n.toArray⟩) (.string ⟨#[]⟩) (.string ⟨#[]⟩) (.string X) (.bool true))
                              go_wp2
                              (try simp only [Exit.inBlock, Exit.then])
                              refine bodyPost_ret (v := dfTib (⟨n, [], [], X.data.toList, true⟩, true)) ?_ rfl ⟨by rw [HR.out], HW.out⟩
                              exact ret_df rfl (g := w.heap.size) HS.out rfl rfl
                        · have z94 : ((N[0].toNat : Int) == 94) = false := by simp; omega
                          have hq : dlL s.data.toList = dlUrl N.data.toList T.data.toList := by
                            rw [hD2]
                            unfold dlBehind
                            rw [if_neg]
                            rw [hdN]
                            simp [Lib.hasPrefix, List.isPrefixOf]
                            intro e
                            rw [← e] at h94
                            exact h94 rfl
                          have HE := Lib.hid hq
                          clear hq hD2 h94 hdN hN0
                          generalize N[0] = b at *
                          have c1 := fun W h => rdnm_any N W h (by omega)
                          have c2 := fun W => rdest_any T W (by omega)
                          have hle := destL_le T.data.toList
                          rw [str_len] at hle
                          unfold dlUrl at HE
                          generalize dnL N.data.toList = d at *
                          obtain ⟨n, ok⟩ := d
                          simp only at c1
                          have C1 := Lib.hid c1
                          generalize destL T.data.toList = d2 at *
                          obtain ⟨url, m, is⟩ := d2
                          unfold tib at c2
                          simp only at c2 hle
                          have C2 := Lib.hid c2
                          clear c1 c2
                          cases ok with
                          | false =>
                            have HR := Lib.hid (show dlL s.data.toList = (noDfn, false) from by rw [HE.out]; rfl)
                            clear HE
                            go_wp2_with (go_at_call 27; refine (HC.out _).mono ?_; rintro e w' ⟨rfl, rfl⟩)
                            refine (C1.out _ HT.out).mono ?_
                            rintro e w1 ⟨rfl, b1⟩
                            have HBn := Lib.hid (HB0.out.then b1)
                            have HZn := Lib.hid (HZ0.out.below b1)
                            clear b1
                            go_wp2_with fail
                            refine (C2.out _).mono ?_
                            rintro e w2 ⟨rfl, b2⟩
                            have HBn := Lib.hid (HBn.out.then b2)
                            have HZn := Lib.hid (HZn.out.below b2)
                            clear b2
                            obtain ⟨k0, k1, k2, k3, k4, kf⟩ := HZn.out.cells
                            have HS := Lib.hid (HZn.out.set noDfn)
                            have HW := Lib.hid (below_set5 HBn.out (Nat.le_refl _) (.string ⟨#[]⟩) (.string ⟨#[]⟩) (.string ⟨#[]⟩) (.string ⟨#[]⟩) (.bool false))
                            go_wp2
                            (try simp only [Exit.inBlock, Exit.then])
                            refine bodyPost_ret (v := dfTib (noDfn, false)) ?_ rfl ⟨by rw [HR.out], HW.out⟩
                            exact ret_df rfl (g := w.heap.size) HS.out rfl rfl
                          | true =>
                            cases is with
                            | false =>
                              have HR := Lib.hid (show dlL s.data.toList = (noDfn, false) from by rw [HE.out]; rfl)
                              clear HE
                              go_wp2_with (go_at_call 27; refine (HC.out _).mono ?_; rintro e w' ⟨rfl, rfl⟩)
                              refine (C1.out _ HT.out).mono ?_
                              rintro e w1 ⟨rfl, b1⟩
                              have HBn := Lib.hid (HB0.out.then b1)
                              have HZn := Lib.hid (HZ0.out.below b1)
                              clear b1
                              go_wp2_with fail
                              refine (C2.out _).mono ?_
                              rintro e w2 ⟨rfl, b2⟩
                              have HBn := Lib.hid (HBn.out.then b2)
                              have HZn := Lib.hid (HZn.out.below b2)
                              clear b2
                              obtain ⟨k0, k1, k2, k3, k4, kf⟩ := HZn.out.cells
                              have HS := Lib.hid (HZn.out.set noDfn)
                              have HW := Lib.hid (below_set5 HBn.out (Nat.le_refl _) (.string ⟨#[]⟩) (.string ⟨#[]⟩) (.string ⟨#[]⟩) (.string ⟨#[]⟩) (.bool false))
                              go_wp2
                              (try simp only [Exit.inBlock, Exit.then])
                              refine bodyPost_ret (v := dfTib (noDfn, false)) ?_ rfl ⟨by rw [HR.out], HW.out⟩
                              exact ret_df rfl (g := w.heap.size) HS.out rfl rfl
                            | true =>
                              go_wp2_with (go_at_call 27; refine (HC.out _).mono ?_; rintro e w' ⟨rfl, rfl⟩)
                              refine (C1.out _ HT.out).mono ?_
                              rintro e w1 ⟨rfl, b1⟩
                              have HBn := Lib.hid (HB0.out.then b1)
                              have HZn := Lib.hid (HZ0.out.below b1)
                              clear b1
                              go_wp2_with fail
                              refine (C2.out _).mono ?_
                              rintro e w2 ⟨rfl, b2⟩
                              have HBn := Lib.hid (HBn.out.then b2)
                              have HZn := Lib.hid (HZn.out.below b2)
                              clear b2
                              have hq : dlL s.data.toList = dlTitle n url (T.data.toList.drop m) := by rw [HE.out]; rfl
                              have hsl := slice_lo T m m rfl hle
                              have hU := ext_drop T m
                              have hUz : (T.extract m T.size).size ≤ 1000 := by rw [ByteArray.size_extract]; omega
                              rw [← hU] at hq
                              have HQ := Lib.hid hq
                              clear hq hU HE
                              generalize T.extract m T.size = U at *
                              have cb := fun W => rblank_any U W (by omega)
                              cases hall : U.data.toList.all isGap with
                              | true =>
                                rw [hall] at cb
                                have HR := Lib.hid (show dlL s.data.toList = (⟨n, url, [], [], false⟩, true) from by rw [HQ.out]; unfold dlTitle; rw [if_pos hall])
                                have CB := Lib.hid cb
                                clear cb hall HQ
                                go_wp2_with fail
                                refine (CB.out _).mono ?_
                                rintro e w3 ⟨rfl, rfl⟩
                                obtain ⟨k0, k1, k2, k3, k4, kf⟩ := HZn.out.cells
                                have HS := Lib.hid (HZn.out.set ⟨n, url, [], [], false⟩)
                                have HW := Lib.hid (below_set5 HBn.out (Nat.le_refl _) (.string ⟨n.toArray⟩) (.string ⟨url.toArray⟩) (.string ⟨#[]⟩) (.string ⟨#[]⟩) (.bool false))
                                go_wp2
                                (try simp only [Exit.inBlock, Exit.then])
                                refine bodyPost_ret (v := dfTib (⟨n, url, [], [], false⟩, true)) ?_ rfl ⟨by rw [HR.out], HW.out⟩
                                exact ret_df rfl (g := w.heap.size) HS.out rfl rfl
                              | false =>
                                rw [hall] at cb
                                have hpU := not_all_pos hall
                                have hixU := index_str U 0 0 rfl hpU
                                have cg := fun W => gap_any U[0] W
                                have hdU := get_list U 0 hpU
                                rw [List.drop_zero] at hdU
                                have CB := Lib.hid cb
                                clear cb
                                cases hg : isGap U[0] with
                                | false =>
                                  rw [hg] at cg
                                  have HR := Lib.hid (show dlL s.data.toList = (noDfn, false) from by
                                    rw [HQ.out]
                                    unfold dlTitle
                                    rw [if_neg (by rw [hall]; simp), if_neg]
                                    rw [hdU]
                                    show ¬ (isGap U[0] && _ && _) = true
                                    rw [hg]
                                    simp)
                                  have CG := Lib.hid cg
                                  clear cg hg hdU hall HQ
                                  generalize U[0] = b at *
                                  go_wp2_with fail
                                  refine (CB.out _).mono ?_
                                  rintro e w3 ⟨rfl, rfl⟩
                                  go_wp2_with fail
                                  refine (CG.out _).mono ?_
                                  rintro e w4 ⟨rfl, rfl⟩
                                  obtain ⟨k0, k1, k2, k3, k4, kf⟩ := HZn.out.cells
                                  have HS := Lib.hid (HZn.out.set noDfn)
                                  have HW := Lib.hid (below_set5 HBn.out (Nat.le_refl _) (.string ⟨#[]⟩) (.string ⟨#[]⟩) (.string ⟨#[]⟩) (.string ⟨#[]⟩) (.bool false))
                                  go_wp2
                                  (try simp only [Exit.inBlock, Exit.then])
                                  refine bodyPost_ret (v := dfTib (noDfn, false)) ?_ rfl ⟨by rw [HR.out], HW.out⟩
                                  exact ret_df rfl (g := w.heap.size) HS.out rfl rfl
                                | true =>
                                  rw [hg] at cg
                                  have HHd := Lib.hid (show isGap (U.data.toList.headD 0) = true from by rw [hdU]; exact hg)
                                  have CG := Lib.hid cg
                                  have HAL := Lib.hid hall
                                  clear cg hg hdU hall
                                  generalize U[0] = b at *
                                  go_wp2_with fail
                                  refine (CB.out _).mono ?_
                                  rintro e w3 ⟨rfl, rfl⟩
                                  go_wp2_with fail
                                  refine (CG.out _).mono ?_
                                  rintro e w4 ⟨rfl, rfl⟩
                                  go_wp2_with fail
                                  clear hixU hsl CB CG
                                  go_loopw [6] (fun z wr => RhRel U w2 z wr) (fun z _ => (strOf z).length)
                                  case atStart => exact ⟨U, rfl, rfl, HAL.out, Nat.le_refl _, rfl⟩
                                  case round =>
                                    obtain ⟨V, rfl, hVd, hVa, hVs, rfl⟩ := hrel
                                    have hpV := not_all_pos hVa
                                    have hixV := index_str V 0 0 rfl hpV
                                    have cg := fun W => gap_any V[0] W
                                    have hdV := get_list V 0 hpV
                                    rw [List.drop_zero] at hdV
                                    cases hg : isGap V[0] with
                                    | true =>
                                      rw [hg] at cg
                                      have hsl := slice_lo V 1 1 rfl (by omega)
                                      have HY := Lib.hid (show (V.extract 1 V.size).data.toList.dropWhile isGap = U.data.toList.dropWhile isGap from by
                                        rw [ext_drop, ← hVd]
                                        rw (occs := .pos [2]) [hdV]
                                        rw [List.dropWhile_cons, if_pos hg])
                                      have HYa := Lib.hid (show (V.extract 1 V.size).data.toList.all isGap = false from by
                                        rw [ext_drop]
                                        rw [hdV, List.all_cons, hg, Bool.true_and] at hVa
                                        exact hVa)
                                      have HS2 := Lib.hid (show (V.extract 1 V.size).size = V.size - 1 from by rw [ByteArray.size_extract]; omega)
                                      have CG := Lib.hid cg
                                      clear cg hg hdV hVd hVa
                                      generalize V.extract 1 V.size = Y at *
                                      generalize V[0] = b at *
                                      go_wp2_with (go_at_call 27; refine (CG.out _).mono ?_; rintro e w' ⟨rfl, rfl⟩)
                                      go_roundw
                                      case rel => exact ⟨Y, rfl, HY.out, HYa.out, by rw [HS2.out]; omega, rfl⟩
                                      case measure => have := HS2.out; simp only [strOf, str_len]; omega
                                    | false =>
                                      rw [hg] at cg
                                      have hx : U.data.toList.dropWhile isGap = V.data.toList := by
                                        rw [← hVd, hdV, List.dropWhile_cons, if_neg (by rw [hg]; simp)]
                                      have hq2 : dlL s.data.toList = if (titleL V.data.toList).2.2 && (V.data.toList.drop (titleL V.data.toList).2.1).all isGap then (⟨n, url, (titleL V.data.toList).1, [], false⟩, true) else (noDfn, false) := by
                                        rw [HQ.out]
                                        unfold dlTitle
                                        rw [if_neg (by rw [HAL.out]; simp), hx, HHd.out, Bool.true_and]
                                      have ct := fun W => rtitle_any V W (by omega)
                                      have hle2 := titleL_le V.data.toList
                                      rw [str_len] at hle2
                                      have HQ2 := Lib.hid hq2
                                      have CG := Lib.hid cg
                                      clear cg hg hdV hVd hVa hx hq2 HQ
                                      generalize titleL V.data.toList = tt at *
                                      obtain ⟨ttl, m2, on⟩ := tt
                                      unfold tib at ct
                                      simp only at ct hle2
                                      have CT := Lib.hid ct
                                      clear ct
                                      generalize V[0] = b at *
                                      cases on with
                                      | false =>
                                        have HR := Lib.hid (show dlL s.data.toList = (noDfn, false) from by rw [HQ2.out]; rfl)
                                        clear HQ2
                                        go_wp2_with fail
                                        refine (CG.out _).mono ?_
                                        rintro e w5 ⟨rfl, rfl⟩
                                        go_wp2_with fail
                                        refine (CT.out _).mono ?_
                                        rintro e w6 ⟨rfl, b6⟩
                                        have HBn := Lib.hid (HBn.out.then b6)
                                        have HZn := Lib.hid (HZn.out.below b6)
                                        clear b6
                                        obtain ⟨k0, k1, k2, k3, k4, kf⟩ := HZn.out.cells
                                        have HS := Lib.hid (HZn.out.set noDfn)
                                        have HW := Lib.hid (below_set5 HBn.out (Nat.le_refl _) (.string ⟨#[]⟩) (.string ⟨#[]⟩) (.string ⟨#[]⟩) (.string ⟨#[]⟩) (.bool false))
                                        go_wp2
                                        (try simp only [Exit.inBlock, Exit.then])
                                        refine bodyPost_ret (v := dfTib (noDfn, false)) ?_ rfl ⟨by rw [HR.out], HW.out⟩
                                        exact ret_df rfl (g := w.heap.size) HS.out rfl rfl
                                      | true =>
                                        have hsl := slice_lo V m2 m2 rfl hle2
                                        have hX := ext_drop V m2
                                        have hXz : (V.extract m2 V.size).size ≤ 1000 := by rw [ByteArray.size_extract]; omega
                                        have cb := fun W => rblank_any (V.extract m2 V.size) W (by omega)
                                        rw [hX] at cb
                                        cases hal : (V.data.toList.drop m2).all isGap with
                                        | false =>
                                          rw [hal] at cb
                                          have HR := Lib.hid (show dlL s.data.toList = (noDfn, false) from by
                                            rw [HQ2.out, if_neg]
                                            show ¬ (true && (V.data.toList.drop m2).all isGap) = true
                                            rw [hal]; simp)
                                          have CB := Lib.hid cb
                                          clear HQ2 cb hal hX
                                          generalize V.extract m2 V.size = X at *
                                          go_wp2_with fail
                                          refine (CG.out _).mono ?_
                                          rintro e w5 ⟨rfl, rfl⟩
                                          go_wp2_with fail
                                          refine (CT.out _).mono ?_
                                          rintro e w6 ⟨rfl, b6⟩
                                          have HBn := Lib.hid (HBn.out.then b6)
                                          have HZn := Lib.hid (HZn.out.below b6)
                                          clear b6
                                          go_wp2_with fail
                                          refine (CB.out _).mono ?_
                                          rintro e w7 ⟨rfl, rfl⟩
                                          obtain ⟨k0, k1, k2, k3, k4, kf⟩ := HZn.out.cells
                                          have HS := Lib.hid (HZn.out.set noDfn)
                                          have HW := Lib.hid (below_set5 HBn.out (Nat.le_refl _) (.string ⟨#[]⟩) (.string ⟨#[]⟩) (.string ⟨#[]⟩) (.string ⟨#[]⟩) (.bool false))
                                          go_wp2
                                          (try simp only [Exit.inBlock, Exit.then])
                                          refine bodyPost_ret (v := dfTib (noDfn, false)) ?_ rfl ⟨by rw [HR.out], HW.out⟩
                                          exact ret_df rfl (g := w.heap.size) HS.out rfl rfl
                                        | true =>
                                          rw [hal] at cb
                                          have HR := Lib.hid (show dlL s.data.toList = (⟨n, url, ttl, [], false⟩, true) from by
                                            rw [HQ2.out, if_pos]
                                            show (true && (V.data.toList.drop m2).all isGap) = true
                                            rw [hal]; rfl)
                                          have CB := Lib.hid cb
                                          clear HQ2 cb hal hX
                                          generalize V.extract m2 V.size = X at *
                                          go_wp2_with fail
                                          refine (CG.out _).mono ?_
                                          rintro e w5 ⟨rfl, rfl⟩
                                          go_wp2_with fail
                                          refine (CT.out _).mono ?_
                                          rintro e w6 ⟨rfl, b6⟩
                                          have HBn := Lib.hid (HBn.out.then b6)
                                          have HZn := Lib.hid (HZn.out.below b6)
                                          clear b6
                                          go_wp2_with fail
                                          refine (CB.out _).mono ?_
                                          rintro e w7 ⟨rfl, rfl⟩
                                          obtain ⟨k0, k1, k2, k3, k4, kf⟩ := HZn.out.cells
                                          have HS := Lib.hid (HZn.out.set ⟨n, url, ttl, [], false⟩)
                                          have HW := Lib.hid (below_set5 HBn.out (Nat.le_refl _) (.string ⟨n.toArray⟩) (.string ⟨url.toArray⟩) (.string ⟨ttl.toArray⟩) (.string ⟨#[]⟩) (.bool false))
                                          go_wp2
                                          (try simp only [Exit.inBlock, Exit.then])
                                          refine bodyPost_ret (v := dfTib (⟨n, url, ttl, [], false⟩, true)) ?_ rfl ⟨by rw [HR.out], HW.out⟩
                                          exact ret_df rfl (g := w.heap.size) HS.out rfl rfl
                  · have hneT : T.data.toList = [] := List.eq_nil_of_length_eq_zero (by omega)
                    obtain ⟨e3, e4⟩ := emp_yes hneT
                    have e5 : (T.toList != []) = false := by simp [bne, e4]
                    have HTd := Lib.hid (show T.data.toList = R.data.toList.dropWhile isGap from by
                      rw [← hTd, hneT]; rfl)
                    clear hneT hTd hlen
                    have hD2 := HD.out
                    rw [← HTd.out] at hD2
                    by_cases hN0 : N.data.toList = []
                    · obtain ⟨f1, f2⟩ := emp_yes hN0
                      have f3 : (N.toList != []) = false := by simp [bne, f2]
                      have c1 := fun W h => rdnm_any N W h (by omega)
                      rw [hN0, show dnL [] = ([], false) from rfl] at c1
                      simp only at c1
                      have c2 := fun W => rdest_any T W (by omega)
                      have HR := Lib.hid (show dlL s.data.toList = (noDfn, false) from by
                        rw [hD2, hN0]
                        show dlUrl [] T.data.toList = _
                        unfold dlUrl
                        rw [show dnL [] = ([], false) from rfl]
                        rfl)
                      have C1 := Lib.hid c1
                      clear hD2 hN0 c1
                      generalize destL T.data.toList = d at *
                      obtain ⟨url, m, is⟩ := d
                      unfold tib at c2
                      simp only at c2
                      have C2 := Lib.hid c2
                      clear c2
                      go_wp2_with fail
                      refine (C1.out _ HT.out).mono ?_
                      rintro e w1 ⟨rfl, b1⟩
                      have HBn := Lib.hid (HB0.out.then b1)
                      have HZn := Lib.hid (HZ0.out.below b1)
                      clear b1
                      go_wp2_with fail
                      refine (C2.out _).mono ?_
                      rintro e w2 ⟨rfl, b2⟩
                      have HBn := Lib.hid (HBn.out.then b2)
                      have HZn := Lib.hid (HZn.out.below b2)
                      clear b2
                      obtain ⟨k0, k1, k2, k3, k4, kf⟩ := HZn.out.cells
                      have HS := Lib.hid (HZn.out.set noDfn)
                      have HW := Lib.hid (below_set5 HBn.out (Nat.le_refl _) (.string ⟨#[]⟩) (.string ⟨#[]⟩) (.string ⟨#[]⟩) (.string ⟨#[]⟩) (.bool false))
                      go_wp2
                      (try simp only [Exit.inBlock, Exit.then])
                      refine bodyPost_ret (v := dfTib (noDfn, false)) ?_ rfl ⟨by rw [HR.out], HW.out⟩
                      exact ret_df rfl (g := w.heap.size) HS.out rfl rfl
                    · obtain ⟨f1, f2⟩ := emp_no hN0
                      have f3 : (N.toList != []) = true := by simp [bne, f2]
                      have hpN : 0 < N.size := by
                        rw [← str_len N]
                        exact List.length_pos_iff.2 hN0
                      have hixN := index_str N 0 0 rfl hpN
                      have hdN := get_list N 0 hpN
                      rw [List.drop_zero] at hdN
                      by_cases h94 : N[0].toNat = 94
                      · have z94 : ((N[0].toNat : Int) == 94) = true := by simp; omega
                        have hq : dlL s.data.toList = dlNote (N.data.toList.drop 1) T.data.toList := by
                          rw [hD2]
                          unfold dlBehind
                          rw [if_pos]
                          rw [hdN, u8_is (c := 94) h94]
                          rfl
                        have hsl := slice_lo N 1 1 rfl (by omega)
                        have hN1 := ext_drop N 1
                        have hN1z : (N.extract 1 N.size).size ≤ 1000 := by rw [ByteArray.size_extract]; omega
                        rw [← hN1] at hq
                        have HE := Lib.hid hq
                        clear hq hN1 hD2 h94 hdN hN0
                        generalize N.extract 1 N.size = N1 at *
                        generalize N[0] = b at *
                        have c1 := fun W h => rdnm_any N1 W h (by omega)
                        have ct := fun W => rtrim_any T W (by omega)
                        unfold dlNote at HE
                        generalize dnL N1.data.toList = d at *
                        obtain ⟨n, ok⟩ := d
                        simp only at c1
                        have C1 := Lib.hid c1
                        clear c1
                        generalize trimG T.data.toList = x at *
                        obtain ⟨X, hX, rfl⟩ := text_of' x
                        rw [hX] at ct
                        have CT := Lib.hid ct
                        clear ct
                        cases ok with
                        | false =>
                          have HR := Lib.hid (show dlL s.data.toList = (noDfn, false) from by rw [HE.out]; rfl)
                          clear HE
                          go_wp2_with fail
                          refine (C1.out _ HT.out).mono ?_
                          rintro e w1 ⟨rfl, b1⟩
                          have HBn := Lib.hid (HB0.out.then b1)
                          have HZn := Lib.hid (HZ0.out.below b1)
                          clear b1
                          obtain ⟨k0, k1, k2, k3, k4, kf⟩ := HZn.out.cells
                          have HS := Lib.hid (HZn.out.set noDfn)
                          have HW := Lib.hid (below_set5 HBn.out (Nat.le_refl _) (.string ⟨#[]⟩) (.string ⟨#[]⟩) (.string ⟨#[]⟩) (.string ⟨#[]⟩) (.bool false))
                          go_wp2
                          (try simp only [Exit.inBlock, Exit.then])
                          refine bodyPost_ret (v := dfTib (noDfn, false)) ?_ rfl ⟨by rw [HR.out], HW.out⟩
                          exact ret_df rfl (g := w.heap.size) HS.out rfl rfl
                        | true =>
                          by_cases hX0 : X.data.toList = []
                          · obtain ⟨g1, g2⟩ := emp_yes hX0
                            have HR := Lib.hid (show dlL s.data.toList = (noDfn, false) from by rw [HE.out, hX0]; rfl)
                            clear HE hX0 hX
                            go_wp2_with fail
                            refine (C1.out _ HT.out).mono ?_
                            rintro e w1 ⟨rfl, b1⟩
                            have HBn := Lib.hid (HB0.out.then b1)
                            have HZn := Lib.hid (HZ0.out.below b1)
                            clear b1
                            go_wp2_with fail
                            refine (CT.out _).mono ?_
                            rintro e w3 ⟨rfl, rfl⟩
                            obtain ⟨k0, k1, k2, k3, k4, kf⟩ := HZn.out.cells
                            have HS := Lib.hid (HZn.out.set noDfn)
                            have HW := Lib.hid (below_set5 HBn.out (Nat.le_refl _) (.string ⟨#[]⟩) (.string ⟨#[]⟩) (.string ⟨#[]⟩) (.string ⟨#[]⟩) (.bool false))
                            go_wp2
                            (try simp only [Exit.inBlock, Exit.then])
                            refine bodyPost_ret (v := dfTib (noDfn, false)) ?_ rfl ⟨by rw [HR.out], HW.out⟩
                            exact ret_df rfl (g := w.heap.size) HS.out rfl rfl
                          · obtain ⟨g1, g2⟩ := emp_no hX0
                            have HR := Lib.hid (show dlL s.data.toList = (⟨n, [], [], X.data.toList, true⟩, true) from by
                              rw [HE.out]
                              cases hh : X.data.toList with
                              | nil => exact absurd hh hX0
                              | cons a l => rfl)
                            clear HE hX0 hX
                            go_wp2_with fail
                            refine (C1.out _ HT.out).mono ?_
                            rintro e w1 ⟨rfl, b1⟩
                            have HBn := Lib.hid (HB0.out.then b1)
                            have HZn := Lib.hid (HZ0.out.below b1)
                            clear b1
                            go_wp2_with fail
                            refine (CT.out _).mono ?_
                            rintro e w3 ⟨rfl, rfl⟩
                            go_wp2_with fail
                            refine (CT.out _).mono ?_
                            rintro e w4 ⟨rfl, rfl⟩
                            obtain ⟨k0, k1, k2, k3, k4, kf⟩ := HZn.out.cells
                            have hst := HZn.out.set ⟨n, [], [], X.data.toList, true⟩
                            rw [show (⟨X.data.toList.toArray⟩ : ByteArray) = X from Lib.mk_data X] at hst
                            have HS := Lib.hid hst
                            clear hst
                            have HW := Lib.hid (below_set5 HBn.out (Nat.le_refl _) (.string ⟨n.toArray⟩) (.string ⟨#[]⟩) (.string ⟨#[]⟩) (.string X) (.bool true))
                            go_wp2
                            (try simp only [Exit.inBlock, Exit.then])
                            refine bodyPost_ret (v := dfTib (⟨n, [], [], X.data.toList, true⟩, true)) ?_ rfl ⟨by rw [HR.out], HW.out⟩
                            exact ret_df rfl (g := w.heap.size) HS.out rfl rfl
                      · have z94 : ((N[0].toNat : Int) == 94) = false := by simp; omega
                        have hq : dlL s.data.toList = dlUrl N.data.toList T.data.toList := by
                          rw [hD2]
                          unfold dlBehind
                          rw [if_neg]
                          rw [hdN]
                          simp [Lib.hasPrefix, List.isPrefixOf]
                          intro e
                          rw [← e] at h94
                          exact h94 rfl
                        have HE := Lib.hid hq
                        clear hq hD2 h94 hdN hN0
                        generalize N[0] = b at *
                        have c1 := fun W h => rdnm_any N W h (by omega)
                        have c2 := fun W => rdest_any T W (by omega)
                        have hle := destL_le T.data.toList
                        rw [str_len] at hle
                        unfold dlUrl at HE
                        generalize dnL N.data.toList = d at *
                        obtain ⟨n, ok⟩ := d
                        simp only at c1
                        have C1 := Lib.hid c1
                        generalize destL T.data.toList = d2 at *
                        obtain ⟨url, m, is⟩ := d2
                        unfold tib at c2
                        simp only at c2 hle
                        have C2 := Lib.hid c2
                        clear c1 c2
                        cases ok with
                        | false =>
                          have HR := Lib.hid (show dlL s.data.toList = (noDfn, false) from by rw [HE.out]; rfl)
                          clear HE
                          go_wp2_with fail
                          refine (C1.out _ HT.out).mono ?_
                          rintro e w1 ⟨rfl, b1⟩
                          have HBn := Lib.hid (HB0.out.then b1)
                          have HZn := Lib.hid (HZ0.out.below b1)
                          clear b1
                          go_wp2_with fail
                          refine (C2.out _).mono ?_
                          rintro e w2 ⟨rfl, b2⟩
                          have HBn := Lib.hid (HBn.out.then b2)
                          have HZn := Lib.hid (HZn.out.below b2)
                          clear b2
                          obtain ⟨k0, k1, k2, k3, k4, kf⟩ := HZn.out.cells
                          have HS := Lib.hid (HZn.out.set noDfn)
                          have HW := Lib.hid (below_set5 HBn.out (Nat.le_refl _) (.string ⟨#[]⟩) (.string ⟨#[]⟩) (.string ⟨#[]⟩) (.string ⟨#[]⟩) (.bool false))
                          go_wp2
                          (try simp only [Exit.inBlock, Exit.then])
                          refine bodyPost_ret (v := dfTib (noDfn, false)) ?_ rfl ⟨by rw [HR.out], HW.out⟩
                          exact ret_df rfl (g := w.heap.size) HS.out rfl rfl
                        | true =>
                          cases is with
                          | false =>
                            have HR := Lib.hid (show dlL s.data.toList = (noDfn, false) from by rw [HE.out]; rfl)
                            clear HE
                            go_wp2_with fail
                            refine (C1.out _ HT.out).mono ?_
                            rintro e w1 ⟨rfl, b1⟩
                            have HBn := Lib.hid (HB0.out.then b1)
                            have HZn := Lib.hid (HZ0.out.below b1)
                            clear b1
                            go_wp2_with fail
                            refine (C2.out _).mono ?_
                            rintro e w2 ⟨rfl, b2⟩
                            have HBn := Lib.hid (HBn.out.then b2)
                            have HZn := Lib.hid (HZn.out.below b2)
                            clear b2
                            obtain ⟨k0, k1, k2, k3, k4, kf⟩ := HZn.out.cells
                            have HS := Lib.hid (HZn.out.set noDfn)
                            have HW := Lib.hid (below_set5 HBn.out (Nat.le_refl _) (.string ⟨#[]⟩) (.string ⟨#[]⟩) (.string ⟨#[]⟩) (.string ⟨#[]⟩) (.bool false))
                            go_wp2
                            (try simp only [Exit.inBlock, Exit.then])
                            refine bodyPost_ret (v := dfTib (noDfn, false)) ?_ rfl ⟨by rw [HR.out], HW.out⟩
                            exact ret_df rfl (g := w.heap.size) HS.out rfl rfl
                          | true =>
                            go_wp2_with fail
                            refine (C1.out _ HT.out).mono ?_
                            rintro e w1 ⟨rfl, b1⟩
                            have HBn := Lib.hid (HB0.out.then b1)
                            have HZn := Lib.hid (HZ0.out.below b1)
                            clear b1
                            go_wp2_with fail
                            refine (C2.out _).mono ?_
                            rintro e w2 ⟨rfl, b2⟩
                            have HBn := Lib.hid (HBn.out.then b2)
                            have HZn := Lib.hid (HZn.out.below b2)
                            clear b2
                            have hq : dlL s.data.toList = dlTitle n url (T.data.toList.drop m) := by rw [HE.out]; rfl
                            have hsl := slice_lo T m m rfl hle
                            have hU := ext_drop T m
                            have hUz : (T.extract m T.size).size ≤ 1000 := by rw [ByteArray.size_extract]; omega
                            rw [← hU] at hq
                            have HQ := Lib.hid hq
                            clear hq hU HE
                            generalize T.extract m T.size = U at *
                            have cb := fun W => rblank_any U W (by omega)
                            cases hall : U.data.toList.all isGap with
                            | true =>
                              rw [hall] at cb
                              have HR := Lib.hid (show dlL s.data.toList = (⟨n, url, [], [], false⟩, true) from by rw [HQ.out]; unfold dlTitle; rw [if_pos hall])
                              have CB := Lib.hid cb
                              clear cb hall HQ
                              go_wp2_with fail
                              refine (CB.out _).mono ?_
                              rintro e w3 ⟨rfl, rfl⟩
                              obtain ⟨k0, k1, k2, k3, k4, kf⟩ := HZn.out.cells
                              have HS := Lib.hid (HZn.out.set ⟨n, url, [], [], false⟩)
                              have HW := Lib.hid (below_set5 HBn.out (Nat.le_refl _) (.string ⟨n.toArray⟩) (.string ⟨url.toArray⟩) (.string ⟨#[]⟩) (.string ⟨#[]⟩) (.bool false))
                              go_wp2
                              (try simp only [Exit.inBlock, Exit.then])
                              refine bodyPost_ret (v := dfTib (⟨n, url, [], [], false⟩, true)) ?_ rfl ⟨by rw [HR.out], HW.out⟩
                              exact ret_df rfl (g := w.heap.size) HS.out rfl rfl
                            | false =>
                              rw [hall] at cb
                              have hpU := not_all_pos hall
                              have hixU := index_str U 0 0 rfl hpU
                              have cg := fun W => gap_any U[0] W
                              have hdU := get_list U 0 hpU
                              rw [List.drop_zero] at hdU
                              have CB := Lib.hid cb
                              clear cb
                              cases hg : isGap U[0] with
                              | false =>
                                rw [hg] at cg
                                have HR := Lib.hid (show dlL s.data.toList = (noDfn, false) from by
                                  rw [HQ.out]
                                  unfold dlTitle
                                  rw [if_neg (by rw [hall]; simp), if_neg]
                                  rw [hdU]
                                  show ¬ (isGap U[0] && _ && _) = true
                                  rw [hg]
                                  simp)
                                have CG := Lib.hid cg
                                clear cg hg hdU hall HQ
                                generalize U[0] = b at *
                                go_wp2_with fail
                                refine (CB.out _).mono ?_
                                rintro e w3 ⟨rfl, rfl⟩
                                go_wp2_with fail
                                refine (CG.out _).mono ?_
                                rintro e w4 ⟨rfl, rfl⟩
                                obtain ⟨k0, k1, k2, k3, k4, kf⟩ := HZn.out.cells
                                have HS := Lib.hid (HZn.out.set noDfn)
                                have HW := Lib.hid (below_set5 HBn.out (Nat.le_refl _) (.string ⟨#[]⟩) (.string ⟨#[]⟩) (.string ⟨#[]⟩) (.string ⟨#[]⟩) (.bool false))
                                go_wp2
                                (try simp only [Exit.inBlock, Exit.then])
                                refine bodyPost_ret (v := dfTib (noDfn, false)) ?_ rfl ⟨by rw [HR.out], HW.out⟩
                                exact ret_df rfl (g := w.heap.size) HS.out rfl rfl
                              | true =>
                                rw [hg] at cg
                                have HHd := Lib.hid (show isGap (U.data.toList.headD 0) = true from by rw [hdU]; exact hg)
                                have CG := Lib.hid cg
                                have HAL := Lib.hid hall
                                clear cg hg hdU hall
                                generalize U[0] = b at *
                                go_wp2_with fail
                                refine (CB.out _).mono ?_
                                rintro e w3 ⟨rfl, rfl⟩
                                go_wp2_with fail
                                refine (CG.out _).mono ?_
                                rintro e w4 ⟨rfl, rfl⟩
                                go_wp2_with fail
                                clear hixU hsl CB CG
                                go_loopw [6] (fun z wr => RhRel U w2 z wr) (fun z _ => (strOf z).length)
                                case atStart => exact ⟨U, rfl, rfl, HAL.out, Nat.le_refl _, rfl⟩
                                case round =>
                                  obtain ⟨V, rfl, hVd, hVa, hVs, rfl⟩ := hrel
                                  have hpV := not_all_pos hVa
                                  have hixV := index_str V 0 0 rfl hpV
                                  have cg := fun W => gap_any V[0] W
                                  have hdV := get_list V 0 hpV
                                  rw [List.drop_zero] at hdV
                                  cases hg : isGap V[0] with
                                  | true =>
                                    rw [hg] at cg
                                    have hsl := slice_lo V 1 1 rfl (by omega)
                                    have HY := Lib.hid (show (V.extract 1 V.size).data.toList.dropWhile isGap = U.data.toList.dropWhile isGap from by
                                      rw [ext_drop, ← hVd]
                                      rw (occs := .pos [2]) [hdV]
                                      rw [List.dropWhile_cons, if_pos hg])
                                    have HYa := Lib.hid (show (V.extract 1 V.size).data.toList.all isGap = false from by
                                      rw [ext_drop]
                                      rw [hdV, List.all_cons, hg, Bool.true_and] at hVa
                                      exact hVa)
                                    have HS2 := Lib.hid (show (V.extract 1 V.size).size = V.size - 1 from by rw [ByteArray.size_extract]; omega)
                                    have CG := Lib.hid cg
                                    clear cg hg hdV hVd hVa
                                    generalize V.extract 1 V.size = Y at *
                                    generalize V[0] = b at *
                                    go_wp2_with (go_at_call 27; refine (CG.out _).mono ?_; rintro e w' ⟨rfl, rfl⟩)
                                    go_roundw
                                    case rel => exact ⟨Y, rfl, HY.out, HYa.out, by rw [HS2.out]; omega, rfl⟩
                                    case measure => have := HS2.out; simp only [strOf, str_len]; omega
                                  | false =>
                                    rw [hg] at cg
                                    have hx : U.data.toList.dropWhile isGap = V.data.toList := by
                                      rw [← hVd, hdV, List.dropWhile_cons, if_neg (by rw [hg]; simp)]
                                    have hq2 : dlL s.data.toList = if (titleL V.data.toList).2.2 && (V.data.toList.drop (titleL V.data.toList).2.1).all isGap then (⟨n, url, (titleL V.data.toList).1, [], false⟩, true) else (noDfn, false) := by
                                      rw [HQ.out]
                                      unfold dlTitle
                                      rw [if_neg (by rw [HAL.out]; simp), hx, HHd.out, Bool.true_and]
                                    have ct := fun W => rtitle_any V W (by omega)
                                    have hle2 := titleL_le V.data.toList
                                    rw [str_len] at hle2
                                    have HQ2 := Lib.hid hq2
                                    have CG := Lib.hid cg
                                    clear cg hg hdV hVd hVa hx hq2 HQ
                                    generalize titleL V.data.toList = tt at *
                                    obtain ⟨ttl, m2, on⟩ := tt
                                    unfold tib at ct
                                    simp only at ct hle2
                                    have CT := Lib.hid ct
                                    clear ct
                                    generalize V[0] = b at *
                                    cases on with
                                    | false =>
                                      have HR := Lib.hid (show dlL s.data.toList = (noDfn, false) from by rw [HQ2.out]; rfl)
                                      clear HQ2
                                      go_wp2_with fail
                                      refine (CG.out _).mono ?_
                                      rintro e w5 ⟨rfl, rfl⟩
                                      go_wp2_with fail
                                      refine (CT.out _).mono ?_
                                      rintro e w6 ⟨rfl, b6⟩
                                      have HBn := Lib.hid (HBn.out.then b6)
                                      have HZn := Lib.hid (HZn.out.below b6)
                                      clear b6
                                      obtain ⟨k0, k1, k2, k3, k4, kf⟩ := HZn.out.cells
                                      have HS := Lib.hid (HZn.out.set noDfn)
                                      have HW := Lib.hid (below_set5 HBn.out (Nat.le_refl _) (.string ⟨#[]⟩) (.string ⟨#[]⟩) (.string ⟨#[]⟩) (.string ⟨#[]⟩) (.bool false))
                                      go_wp2
                                      (try simp only [Exit.inBlock, Exit.then])
                                      refine bodyPost_ret (v := dfTib (noDfn, false)) ?_ rfl ⟨by rw [HR.out], HW.out⟩
                                      exact ret_df rfl (g := w.heap.size) HS.out rfl rfl
                                    | true =>
                                      have hsl := slice_lo V m2 m2 rfl hle2
                                      have hX := ext_drop V m2
                                      have hXz : (V.extract m2 V.size).size ≤ 1000 := by rw [ByteArray.size_extract]; omega
                                      have cb := fun W => rblank_any (V.extract m2 V.size) W (by omega)
                                      rw [hX] at cb
                                      cases hal : (V.data.toList.drop m2).all isGap with
                                      | false =>
                                        rw [hal] at cb
                                        have HR := Lib.hid (show dlL s.data.toList = (noDfn, false) from by
                                          rw [HQ2.out, if_neg]
                                          show ¬ (true && (V.data.toList.drop m2).all isGap) = true
                                          rw [hal]; simp)
                                        have CB := Lib.hid cb
                                        clear HQ2 cb hal hX
                                        generalize V.extract m2 V.size = X at *
                                        go_wp2_with fail
                                        refine (CG.out _).mono ?_
                                        rintro e w5 ⟨rfl, rfl⟩
                                        go_wp2_with fail
                                        refine (CT.out _).mono ?_
                                        rintro e w6 ⟨rfl, b6⟩
                                        have HBn := Lib.hid (HBn.out.then b6)
                                        have HZn := Lib.hid (HZn.out.below b6)
                                        clear b6
                                        go_wp2_with fail
                                        refine (CB.out _).mono ?_
                                        rintro e w7 ⟨rfl, rfl⟩
                                        obtain ⟨k0, k1, k2, k3, k4, kf⟩ := HZn.out.cells
                                        have HS := Lib.hid (HZn.out.set noDfn)
                                        have HW := Lib.hid (below_set5 HBn.out (Nat.le_refl _) (.string ⟨#[]⟩) (.string ⟨#[]⟩) (.string ⟨#[]⟩) (.string ⟨#[]⟩) (.bool false))
                                        go_wp2
                                        (try simp only [Exit.inBlock, Exit.then])
                                        refine bodyPost_ret (v := dfTib (noDfn, false)) ?_ rfl ⟨by rw [HR.out], HW.out⟩
                                        exact ret_df rfl (g := w.heap.size) HS.out rfl rfl
                                      | true =>
                                        rw [hal] at cb
                                        have HR := Lib.hid (show dlL s.data.toList = (⟨n, url, ttl, [], false⟩, true) from by
                                          rw [HQ2.out, if_pos]
                                          show (true && (V.data.toList.drop m2).all isGap) = true
                                          rw [hal]; rfl)
                                        have CB := Lib.hid cb
                                        clear HQ2 cb hal hX
                                        generalize V.extract m2 V.size = X at *
                                        go_wp2_with fail
                                        refine (CG.out _).mono ?_
                                        rintro e w5 ⟨rfl, rfl⟩
                                        go_wp2_with fail
                                        refine (CT.out _).mono ?_
                                        rintro e w6 ⟨rfl, b6⟩
                                        have HBn := Lib.hid (HBn.out.then b6)
                                        have HZn := Lib.hid (HZn.out.below b6)
                                        clear b6
                                        go_wp2_with fail
                                        refine (CB.out _).mono ?_
                                        rintro e w7 ⟨rfl, rfl⟩
                                        obtain ⟨k0, k1, k2, k3, k4, kf⟩ := HZn.out.cells
                                        have HS := Lib.hid (HZn.out.set ⟨n, url, ttl, [], false⟩)
                                        have HW := Lib.hid (below_set5 HBn.out (Nat.le_refl _) (.string ⟨n.toArray⟩) (.string ⟨url.toArray⟩) (.string ⟨ttl.toArray⟩) (.string ⟨#[]⟩) (.bool false))
                                        go_wp2
                                        (try simp only [Exit.inBlock, Exit.then])
                                        refine bodyPost_ret (v := dfTib (⟨n, url, ttl, [], false⟩, true)) ?_ rfl ⟨by rw [HR.out], HW.out⟩
                                        exact ret_df rfl (g := w.heap.size) HS.out rfl rfl
              · have f58 : ((s[k + 1].toNat : Int) != 58) = true := by simp; omega
                have HR := Lib.hid (show dlL s.data.toList = (noDfn, false) from rl_shut hk1 HKL.out HH.out hne e93 (by
                  rw [hd1]
                  simp [Lib.hasPrefix, List.isPrefixOf]
                  intro e
                  rw [← e] at h58
                  exact h58 rfl))
                clear hd1 e93 hne h93 h58 hgk
                generalize s[k + 1] = c at *
                generalize s[k] = b at *
                go_wp2
                (try simp only [Exit.inBlock, Exit.then])
                refine bodyPost_ret (v := dfTib (noDfn, false)) ?_ rfl ⟨by rw [HR.out], HB0.out⟩
                exact ret_df rfl (g := w.heap.size) HZ0.out rfl rfl
            · have HR := Lib.hid (show dlL s.data.toList = (noDfn, false) from rl_shut hk1 HKL.out HH.out hne e93 (by
                rw [List.drop_eq_nil_of_le (by omega)]; rfl))
              clear e93 hne h93 hgk
              generalize s[k] = b at *
              go_wp2
              (try simp only [Exit.inBlock, Exit.then])
              refine bodyPost_ret (v := dfTib (noDfn, false)) ?_ rfl ⟨by rw [HR.out], HB0.out⟩
              exact ret_df rfl (g := w.heap.size) HZ0.out rfl rfl
          · have f93 : ((s[k].toNat : Int) != 93) = true := by simp; omega
            have HN := Lib.hid (take_more hk1 HKL.out hne (by rw [hgk]; intro e; rw [e] at h93; exact h93 rfl))
            clear hne h93 hgk
            generalize s[k] = b at *
            go_wp2
            go_roundw
            case rel => exact ⟨k + 1, by go_num, by omega, by omega, HN.out, rfl⟩
            case measure => simp [intOf]; omega
        · have HR := Lib.hid (show dlL s.data.toList = (noDfn, false) from rl_none HH.out (by
            rw [List.take_of_length_le (by omega)] at hne
            exact hne))
          clear hne
          go_wp2
          (try simp only [Exit.inBlock, Exit.then])
          refine bodyPost_ret (v := dfTib (noDfn, false)) ?_ rfl ⟨by rw [HR.out], HB0.out⟩
          exact ret_df rfl (g := w.heap.size) HZ0.out rfl rfl
    · have z91 : ((s[0].toNat : Int) != 91) = true := by simp; omega
      have HR := Lib.hid (show dlL s.data.toList = (noDfn, false) from by
        have hd := get_list s 0 h1
        rw [List.drop_zero] at hd
        rw [hd]
        exact dlL_other (by intro e; rw [e] at h91; exact h91 rfl) _)
      clear h91 hhd
      generalize s[0] = b0 at *
      go_enter Tryz.func9, Tryz.ntmps9
      go_wp2
      (try simp only [Exit.inBlock, Exit.then])
      refine bodyPost_ret (v := dfTib (noDfn, false)) ?_ rfl ⟨by rw [HR.out], HB0.out⟩
      exact ret_df rfl (g := w.heap.size) HZ0.out rfl rfl

end Go.Proofs.YtioolcnoiaoflaaGreatDoor

namespace Go.Proofs.YtioolcnoiaoflaaGreatDoor
open Go.RowKit
set_option linter.unusedSimpArgs false
set_option linter.unusedVariables false
set_option maxRecDepth 100000

def RkRel (m : ByteArray) (w : World) (i : Value) (wr : World) : Prop := ∃ k : Nat, i = .int .i64 k ∧ k ≤ m.size ∧ (∀ b ∈ m.data.toList.take k, b ≠ 10) ∧ wr = w
theorem takeW_at {l : List UInt8} {k : Nat} (hk : k ≤ l.length) (hn : ∀ b ∈ l.take k, b ≠ 10) (he : k = l.length ∨ ∃ h : k < l.length, l[k] = 10) : l.takeWhile (· != 10) = l.take k ∧ (l.dropWhile (· != 10)).drop 1 = l.drop (k + 1) := by
  rcases he with rfl | ⟨h, h10⟩
  · rw [List.take_length] at hn ⊢
    rw [takeW_all l hn, dropW_all l hn, List.drop_eq_nil_of_le (Nat.le_succ _)]
    exact ⟨rfl, rfl⟩
  · have e : l = l.take k ++ 10 :: l.drop (k + 1) := by
      rw [← h10, ← List.drop_eq_getElem_cons h, List.take_append_drop]
    constructor
    · rw (occs := .pos [1]) [e]
      exact takeW_lf _ _ hn
    · rw (occs := .pos [1]) [e]
      rw [dropW_lf _ _ hn]
      rfl
theorem take_lf {l : List UInt8} {k : Nat} (hk : k < l.length) (hn : ∀ b ∈ l.take k, b ≠ 10) (h : l[k] ≠ 10) : ∀ b ∈ l.take (k + 1), b ≠ 10 := by
  rw [List.take_succ_eq_append_getElem hk]
  intro b hb
  rw [List.mem_append, List.mem_singleton] at hb
  rcases hb with hb | rfl
  · exact hn b hb
  · exact h
theorem dtL_at {m : ByteArray} {k : Nat} (hk : k ≤ m.size) (hn : ∀ b ∈ m.data.toList.take k, b ≠ 10) (he : k = m.size ∨ ∃ h : k < m.size, m[k] = 10) :
    dtL m.data.toList = if (dlL (m.extract 0 k).data.toList).2 then ((dlL (m.extract 0 k).data.toList).1 :: (dtL (m.extract (min (k + 1) m.size) m.size).data.toList).1, (dtL (m.extract (min (k + 1) m.size) m.size).data.toList).2) else ([], m.data.toList) := by
  have hl := str_len m
  have h := takeW_at (l := m.data.toList) (k := k) (by omega) hn (by
    rcases he with h | ⟨h, h10⟩
    · exact Or.inl (by omega)
    · exact Or.inr ⟨by omega, h10⟩)
  have e0 : (m.extract 0 k).data.toList = m.data.toList.take k := by rw [part_str, List.drop_zero]
  have e1 : (m.extract (min (k + 1) m.size) m.size).data.toList = m.data.toList.drop (k + 1) := by
    rw [ext_drop]
    by_cases h9 : k + 1 ≤ m.size
    · rw [Nat.min_eq_left h9]
    · rw [Nat.min_eq_right (by omega), List.drop_eq_nil_of_le (by omega), List.drop_eq_nil_of_le (by omega)]
  rw [e0, e1, dtL_step, h.1, h.2]

set_option maxHeartbeats 8000000 in
theorem rtake_any (s : ByteArray) (w : World) (hT : Tabs w) (hs : s.size ≤ 1000) :
    Calls Tryz.prog 11 #[.string s] w fun e w' => ∃ v, e = .returned (.tuple #[v, .string ⟨(dtL s.data.toList).2.toArray⟩]) ∧ w'.ownsRow w.heap.size 26 5 v (dtL s.data.toList).1.length (flt dfC (dtL s.data.toList).1) ∧ Below w.heap.size w w' := by
  obtain ⟨i0, hi0, hz0, hz1, hz2⟩ := info_parts infoDef
  have HT := Lib.hid hT
  clear hT
  go_enter Tryz.func11, Tryz.ntmps11
  go_wp2_with fail
  go_loopw [0, 4] (fun z t wr => TakeRel s w z t wr) (fun z _ _ => strLen z)
  case atStart => exact ⟨s, [], rfl, World.ownsRow_nil _ _ _ _, Below.refl _ _, by simp, by simp⟩
  case round =>
    obtain ⟨m, D, rfl, hown, hbw, hlen, hdt⟩ := hrel
    have hsz := hbw.size
    have hml := str_len m
    by_cases hm0 : m.data.toList = []
    · obtain ⟨e1, e2⟩ := emp_yes hm0
      have e3 : (m.toList != []) = false := by simp [bne, e2]
      have HR := Lib.hid (show dtL s.data.toList = (D, []) from by
        rw [hdt, hm0, show dtL [] = ([], []) from rfl]; simp)
      have HO := Lib.hid hown
      have HM := Lib.hid (show (⟨#[]⟩ : ByteArray) = m from by have h9 := Lib.mk_data m; rw [hm0] at h9; exact h9)
      clear hdt hm0 hown hml
      go_wp2
      go_ret2
      exact ⟨_, by rw [HR.out]; show _ = Ending.returned (.tuple #[_, .string ⟨#[]⟩]); rw [HM.out]; rfl, by rw [HR.out]; exact HO.out, hbw⟩
    · obtain ⟨e1, e2⟩ := emp_no hm0
      have e3 : (m.toList != []) = true := by simp [bne, e2]
      have hm1 : 0 < m.size := by rw [← hml]; exact List.length_pos_iff.2 hm0
      have HDT := Lib.hid hdt
      have HO := Lib.hid hown
      have HBW := Lib.hid hbw
      clear hdt hm0 hown hbw
      go_wp2_with fail
      go_loopw [5] (fun i wr2 => RkRel m wr i wr2) (fun i _ => m.size - (intOf i).toNat)
      case atStart => exact ⟨0, rfl, Nat.zero_le _, by intro b hb; simp at hb, rfl⟩
      case round =>
        obtain ⟨k, rfl, hk, hn, hwe⟩ := hrel
        rename World => wB
        have hwe2 := hwe.symm
        subst hwe2
        clear hwe
        have hix := fun h : k < m.size => index_str m k k rfl h
        by_cases hgo : ∃ h : k < m.size, ¬ m[k].toNat = 10
        · obtain ⟨hp, h10⟩ := hgo
          have hx := hix hp
          have f10 : ((m[k].toNat : Int) != 10) = true := by simp; omega
          have HN := Lib.hid (take_lf (l := m.data.toList) (by omega) hn (fun e => h10 (by
            have e2 : m[k] = 10 := e
            rw [e2]; rfl)))
          clear hix hn h10
          generalize m[k] = b at *
          go_wp2
          go_roundw
          case rel => exact ⟨k + 1, by go_num, by omega, HN.out, rfl⟩
          case measure => simp [intOf]; omega
        · have hend : k = m.size ∨ ∃ h : k < m.size, m[k] = 10 := by
            by_cases hp : k < m.size
            · right
              refine ⟨hp, ?_⟩
              by_cases h10 : m[k].toNat = 10
              · exact u8_is (c := 10) h10
              · exact absurd ⟨hp, h10⟩ hgo
            · left; omega
          have hq := dtL_at hk hn hend
          have hsl := slice_hi m k k rfl hk
          have hEz : (m.extract 0 k).size ≤ 1000 := by rw [ByteArray.size_extract]; omega
          have cd := fun W h => rdline_any (m.extract 0 k) W h hEz
          generalize dlL (m.extract 0 k).data.toList = y at *
          obtain ⟨x, ok⟩ := y
          unfold dfTib dfV at cd
          simp only at cd hq
          have CD := Lib.hid cd
          clear cd hn
          generalize m.extract 0 k = E at *
          cases ok with
          | true =>
            rw [if_pos rfl] at hq
            have hmin : min ((k : Int) + 1) (m.size : Int) = ((min (k + 1) m.size : Nat) : Int) := by omega
            have hsl2 := slice_lo m (min ((k : Int) + 1) (m.size : Int)) (min (k + 1) m.size) hmin (by omega)
            have hRz : (m.extract (min (k + 1) m.size) m.size).size ≤ m.size - 1 := by
              rw [ByteArray.size_extract]
              rcases hend with h | ⟨h, _⟩ <;> omega
            have HRz := Lib.hid hRz
            have HTT := Lib.hid (show dtL s.data.toList = ((D ++ [x]) ++ (dtL (m.extract (min (k + 1) m.size) m.size).data.toList).1, (dtL (m.extract (min (k + 1) m.size) m.size).data.toList).2) from by rw [HDT.out, hq]; simp)
            have HU : flt dfC (D ++ [x]) = flt dfC D ++ dfC x := by rw [flt_append, flt_one]
            replace HU := Lib.hid HU
            clear hq hmin hRz
            generalize m.extract (min (k + 1) m.size) m.size = R at *
            by_cases hp : k < m.size
            · have hx := hix hp
              have f10 : ((m[k].toNat : Int) != 10) = false := by
                rcases hend with h | ⟨h, h10⟩
                · omega
                · rw [h10]; rfl
              clear hix hend hgo
              generalize m[k] = b at *
              go_wp2_with fail
              refine (CD.out _ (HT.out.below HBW.out)).mono ?_
              rintro e w2 ⟨rfl, b3⟩
              have hown2 := ownsRow_below HO.out b3
              have hs2 := b3.size
              have hz9 := alloc_size w2 (.cells #[.string ⟨x.nm.toArray⟩, .string ⟨x.url.toArray⟩, .string ⟨x.ttl.toArray⟩, .string ⟨x.txt.toArray⟩, .bool x.nt] 26)
              have hnw := elt_cells (w2.alloc (.cells #[.string ⟨x.nm.toArray⟩, .string ⟨x.url.toArray⟩, .string ⟨x.ttl.toArray⟩, .string ⟨x.txt.toArray⟩, .bool x.nt] 26)) (dfC x) 26
              rw [hz9] at hnw
              have HZ9 := Lib.hid hz9
              clear hz9
              go_wp2_with (at_builtin; refine wpList_append_own _ rfl _ _ 40 rfl w.heap.size 26 i0 (.agg #[.string ByteArray.empty, .string ByteArray.empty, .string ByteArray.empty, .string ByteArray.empty, .bool false]) 5 72 Tryz.underlying40 hi0 hz0 hz1 hz2 rfl (by decide) _ _ _ rfl ((hown2.alloc _).alloc _) ⟨w2.heap.size + 1, 0, none⟩ 1 1 (dfC x) rfl rfl hnw (dfC_one _) (by unfold maxLen; omega) (by omega) (by simp; omega) ?_)
              intro v' w3 hown' hgrow _
              have hbw3 := (((HBW.out.trans (b3.mono hsz)).alloc (by omega) _).alloc (by rw [HZ9.out]; omega) _).grown hgrow (by simp; omega) (fun k hk => (hown2.lt k hk).1)
              rw [← HU.out] at hown'
              have HO := Lib.hid hown'
              have HB := Lib.hid hbw3
              clear hown' hgrow hbw3
              go_wp2
              go_roundw
              case rel => exact ⟨R, D ++ [x], rfl, by rw [List.length_append]; exact HO.out, HB.out, by have := HRz.out; rw [List.length_append]; simp only [List.length_cons, List.length_nil]; omega, HTT.out⟩
              case measure => have := HRz.out; simp only [strLen]; omega
            · clear hix hend hgo
              go_wp2_with fail
              refine (CD.out _ (HT.out.below HBW.out)).mono ?_
              rintro e w2 ⟨rfl, b3⟩
              have hown2 := ownsRow_below HO.out b3
              have hs2 := b3.size
              have hz9 := alloc_size w2 (.cells #[.string ⟨x.nm.toArray⟩, .string ⟨x.url.toArray⟩, .string ⟨x.ttl.toArray⟩, .string ⟨x.txt.toArray⟩, .bool x.nt] 26)
              have hnw := elt_cells (w2.alloc (.cells #[.string ⟨x.nm.toArray⟩, .string ⟨x.url.toArray⟩, .string ⟨x.ttl.toArray⟩, .string ⟨x.txt.toArray⟩, .bool x.nt] 26)) (dfC x) 26
              rw [hz9] at hnw
              have HZ9 := Lib.hid hz9
              clear hz9
              go_wp2_with (at_builtin; refine wpList_append_own _ rfl _ _ 40 rfl w.heap.size 26 i0 (.agg #[.string ByteArray.empty, .string ByteArray.empty, .string ByteArray.empty, .string ByteArray.empty, .bool false]) 5 72 Tryz.underlying40 hi0 hz0 hz1 hz2 rfl (by decide) _ _ _ rfl ((hown2.alloc _).alloc _) ⟨w2.heap.size + 1, 0, none⟩ 1 1 (dfC x) rfl rfl hnw (dfC_one _) (by unfold maxLen; omega) (by omega) (by simp; omega) ?_)
              intro v' w3 hown' hgrow _
              have hbw3 := (((HBW.out.trans (b3.mono hsz)).alloc (by omega) _).alloc (by rw [HZ9.out]; omega) _).grown hgrow (by simp; omega) (fun k hk => (hown2.lt k hk).1)
              rw [← HU.out] at hown'
              have HO := Lib.hid hown'
              have HB := Lib.hid hbw3
              clear hown' hgrow hbw3
              go_wp2
              go_roundw
              case rel => exact ⟨R, D ++ [x], rfl, by rw [List.length_append]; exact HO.out, HB.out, by have := HRz.out; rw [List.length_append]; simp only [List.length_cons, List.length_nil]; omega, HTT.out⟩
              case measure => have := HRz.out; simp only [strLen]; omega
          | false =>
            rw [if_neg (by simp)] at hq
            have HTT := Lib.hid (show dtL s.data.toList = (D, m.data.toList) from by rw [HDT.out, hq]; simp)
            clear hq
            by_cases hp : k < m.size
            · have hx := hix hp
              have f10 : ((m[k].toNat : Int) != 10) = false := by
                rcases hend with h | ⟨h, h10⟩
                · omega
                · rw [h10]; rfl
              clear hix hend hgo
              generalize m[k] = b at *
              go_wp2_with fail
              refine (CD.out _ (HT.out.below HBW.out)).mono ?_
              rintro e w2 ⟨rfl, b3⟩
              have hown2 := ownsRow_below HO.out b3
              have HB := Lib.hid (HBW.out.trans (b3.mono hsz))
              have HO2 := Lib.hid hown2
              have hs2 := b3.size
              clear hown2
              go_wp2
              go_ret2
              refine ⟨_, ?_, by rw [HTT.out]; exact HO2.out.alloc _, HB.out.alloc (Nat.le_trans hsz hs2) _⟩
              rw [HTT.out]
              exact by rw [Lib.mk_data]; rfl
            · clear hix hend hgo
              go_wp2_with fail
              refine (CD.out _ (HT.out.below HBW.out)).mono ?_
              rintro e w2 ⟨rfl, b3⟩
              have hown2 := ownsRow_below HO.out b3
              have HB := Lib.hid (HBW.out.trans (b3.mono hsz))
              have HO2 := Lib.hid hown2
              have hs2 := b3.size
              clear hown2
              go_wp2
              go_ret2
              refine ⟨_, ?_, by rw [HTT.out]; exact HO2.out.alloc _, HB.out.alloc (Nat.le_trans hsz hs2) _⟩
              rw [HTT.out]
              exact by rw [Lib.mk_data]; rfl

end Go.Proofs.YtioolcnoiaoflaaGreatDoor
