/-
  SpansOne: a span in a line is found, whatever stands ahead of it and behind, if that begins no span; the law's walk.
-/
import Derived.Test.YtodnioihadpncaaDoorSpnE
namespace Go.Proofs.YtodnioihadpncaaDoor
open Go.RowKit
set_option linter.unusedSimpArgs false
set_option linter.unusedVariables false
set_option maxRecDepth 100000

def SgRel (X : ByteArray) (w : World) (i : Value) (wr : World) : Prop := ∃ k : Nat, i = .int .i64 k ∧ k ≤ X.size ∧ (∀ m (h : m < X.size), m < k → X[m].toNat ≠ 123 ∧ X[m].toNat ≠ 124 ∧ X[m].toNat ≠ 125) ∧ wr = w
def LtRel (X : ByteArray) (w : World) (i : Value) (wr : World) : Prop := ∃ k : Nat, i = .int .i64 k ∧ k ≤ X.size ∧ (∀ m (h : m < X.size), m < k → 97 ≤ X[m].toNat ∧ X[m].toNat ≤ 122) ∧ wr = w
def ThreeRel (a b c : ByteArray) (w : World) (i : Value) (wr : World) : Prop := ∃ k : Nat, i = .int .i64 k ∧ k ≤ 3 ∧ (0 < k → NoSigns a) ∧ (1 < k → NoSigns b) ∧ (2 < k → NoSigns c) ∧ wr = w

theorem one_cat (a l t b : ByteArray) : (((((a ++ (⟨#[123, 124]⟩ : ByteArray)) ++ l) ++ (⟨#[58]⟩ : ByteArray)) ++ t) ++ (⟨#[124, 125]⟩ : ByteArray)) ++ b = ⟨(a.data.toList ++ (spanTxt l.data.toList t.data.toList ++ b.data.toList)).toArray⟩ := by
  apply ByteArray.ext
  apply Array.ext'
  simp [spanTxt, spB, spE]

set_option maxHeartbeats 8000000 in
theorem spansOne_short (w : World) (hml : MaxL w) (a0 a1 a2 a3 : ByteArray) (h0 : a0.size ≤ 60) (h2 : a2.size ≤ 60) (h3 : a3.size ≤ 60) (z1 : a1.size ≤ 9223372036854775807) :
    Calls Tryd.prog 6 #[.string a0, .string a1, .string a2, .string a3] w fun e w' => e = .returned (.bool true) ∧ Below w.heap.size w w' := by
  have HML := Lib.hid hml
  clear hml
  go_enter Tryd.func6, Tryd.ntmps6
  go_wp2_with fail
  refine (alive6_any _ HML.out).mono ?_
  rintro e w1 ⟨rfl, b1⟩
  have b2 : Below w.heap.size w (w1.alloc (.cells #[.string a0, .string a2, .string a3] 9)) := b1.then ((Below.refl _ w1).alloc (Nat.le_refl _) _)
  have hcl := box3_cells (heap_alloc_new w1 (.cells #[.string a0, .string a2, .string a3] 9))
  go_wp2_with fail
  generalize w1.alloc (.cells #[.string a0, .string a2, .string a3] 9) = wA at *
  obtain ⟨q0, q1, q2⟩ := hcl
  go_loopw [39] (fun i wr => ThreeRel a0 a2 a3 wA i wr) (fun i _ => 3 - (intOf i).toNat)
  case atStart => exact ⟨0, rfl, by omega, fun h => absurd h (by omega), fun h => absurd h (by omega), fun h => absurd h (by omega), rfl⟩
  case round =>
    obtain ⟨k, rfl, hk, n0, n1, n2, hwe⟩ := hrel
    have hwe := hwe.symm
    subst hwe
    have N0 := Lib.hid n0
    have N1 := Lib.hid n1
    have N2 := Lib.hid n2
    clear n0 n1 n2
    by_cases hk3 : k = 3
    · subst hk3
      have m0 := N0.out (by omega)
      have m2 := N1.out (by omega)
      have m3 := N2.out (by omega)
      have M0 := Lib.hid m0.all
      have M2 := Lib.hid m2.all
      have M3 := Lib.hid m3.all
      clear m0 m2 m3 q0 q1 q2
      by_cases hl : a1.size < 1 ∨ 40 < a1.size
      · rcases hl with hl | hl
        all_goals
          go_wp2
          go_ret
          exact ⟨rfl, b2⟩
      · have hl1 : 1 ≤ a1.size := by omega
        have hl40 : a1.size ≤ 40 := by omega
        clear hl
        go_wp2_with fail
        go_loopw [12] (fun i wr => LtRel a1 wA i wr) (fun i _ => a1.size - (intOf i).toNat)
        case atStart => exact ⟨0, rfl, Nat.zero_le _, fun m _ hm => absurd hm (Nat.not_lt_zero _), rfl⟩
        case round =>
          obtain ⟨k, rfl, hk, hby, hwe⟩ := hrel
          have hwe := hwe.symm
          subst hwe
          have HBy := Lib.hid hby
          clear hby
          by_cases hp : k < a1.size
          · by_cases h97 : a1[k].toNat < 97
            · have f1 : decide ((a1[k].toNat : Int) < 97) = true := by simp; omega
              clear h97
              go_wp2
              go_ret
              exact ⟨rfl, b2⟩
            · have f1 : decide ((a1[k].toNat : Int) < 97) = false := by simp; omega
              by_cases h122 : 122 < a1[k].toNat
              · have f2 : decide ((122 : Int) < a1[k].toNat) = true := by simp; omega
                clear h97 h122
                go_wp2
                go_ret
                exact ⟨rfl, b2⟩
              · have f2 : decide ((122 : Int) < a1[k].toNat) = false := by simp; omega
                have HL := Lib.hid (show 97 ≤ a1[k].toNat ∧ a1[k].toNat ≤ 122 from by omega)
                clear h97 h122
                go_wp2
                refine ⟨⟨k + 1, by go_num, by omega, fun q hq hq2 => ?_, rfl⟩, by simp [intOf]; omega⟩
                by_cases e : q = k
                · subst e; exact HL.out
                · exact HBy.out q hq (by omega)
          · obtain rfl : k = a1.size := by omega
            have hlt : Letters a1 := fun m hm => HBy.out m hm hm
            have hlab := hlt.lab hl1 hl40
            have hone := spans_one a0.data.toList a1.data.toList a2.data.toList a3.data.toList (fun b hb => (M0.out b hb).1) hlab (fun b hb => (M2.out b hb).2.1) (fun b hb => (M3.out b hb).1)
            have s1 : (a0 ++ (⟨#[123, 124]⟩ : ByteArray)).size ≤ 62 := by rw [ByteArray.size_append]; show _ + 2 ≤ _; omega
            have s2 : ((a0 ++ (⟨#[123, 124]⟩ : ByteArray)) ++ a1).size ≤ 102 := by rw [ByteArray.size_append]; omega
            have s3 : (((a0 ++ (⟨#[123, 124]⟩ : ByteArray)) ++ a1) ++ (⟨#[58]⟩ : ByteArray)).size ≤ 103 := by rw [ByteArray.size_append]; show _ + 1 ≤ _; omega
            have s4 : ((((a0 ++ (⟨#[123, 124]⟩ : ByteArray)) ++ a1) ++ (⟨#[58]⟩ : ByteArray)) ++ a2).size ≤ 163 := by rw [ByteArray.size_append]; omega
            have s5 : (((((a0 ++ (⟨#[123, 124]⟩ : ByteArray)) ++ a1) ++ (⟨#[58]⟩ : ByteArray)) ++ a2) ++ (⟨#[124, 125]⟩ : ByteArray)).size ≤ 165 := by rw [ByteArray.size_append]; show _ + 2 ≤ _; omega
            have s6 : ((((((a0 ++ (⟨#[123, 124]⟩ : ByteArray)) ++ a1) ++ (⟨#[58]⟩ : ByteArray)) ++ a2) ++ (⟨#[124, 125]⟩ : ByteArray)) ++ a3).size ≤ 225 := by rw [ByteArray.size_append]; omega
            have cs := spans_any ((((((a0 ++ (⟨#[123, 124]⟩ : ByteArray)) ++ a1) ++ (⟨#[58]⟩ : ByteArray)) ++ a2) ++ (⟨#[124, 125]⟩ : ByteArray)) ++ a3) wA (by omega) (HML.out.below b2)
            rw [show ((((((a0 ++ (⟨#[123, 124]⟩ : ByteArray)) ++ a1) ++ (⟨#[58]⟩ : ByteArray)) ++ a2) ++ (⟨#[124, 125]⟩ : ByteArray)) ++ a3).data.toList = a0.data.toList ++ (spanTxt a1.data.toList a2.data.toList ++ a3.data.toList) from by rw [one_cat], hone] at cs
            have CS := Lib.hid cs
            have hsame := fun W => piece_same W true a1 a2
            clear cs hone hlab hlt HBy
            have hE0 : a0.size = 0 ∨ 0 < a0.size := by omega
            have hE3 : a3.size = 0 ∨ 0 < a3.size := by omega
            go_wp2_with fail
            refine CS.out.mono ?_
            rintro e w5 ⟨v, rfl, hO, b5⟩
            have HB := Lib.hid (b2.then b5)
            have hl0 : a0.data.toList.length = a0.size := by simp
            have hl3 : a3.data.toList.length = a3.size := by simp
            rcases hE0 with hE0 | hE0
            · have Z0 := Lib.hid (show a0.data.toList = [] from List.eq_nil_of_length_eq_zero (by omega))
              have fe0 : (@BEq.beq (List UInt8) (@List.instBEq UInt8 (@instBEqOfDecidableEq UInt8 instDecidableEqUInt8)) a0.toList []) = true := by rw [ByteArray.toList_eq, Z0.out]; rfl
              rcases hE3 with hE3 | hE3
              · have Z3 := Lib.hid (show a3.data.toList = [] from List.eq_nil_of_length_eq_zero (by omega))
                have fe3 : (@BEq.beq (List UInt8) (@List.instBEq UInt8 (@instBEqOfDecidableEq UInt8 instDecidableEqUInt8)) a3.toList []) = true := by rw [ByteArray.toList_eq, Z3.out]; rfl
                clear hl0 hl3 hE0 hE3
                have hA0 : addT [] a0.data.toList = [] := by unfold addT; rw [if_pos (Z0.out)]
                have hA3 : addT [] a3.data.toList = [] := by unfold addT; rw [if_pos (Z3.out)]
                rw [hA0, hA3] at hO
                obtain ⟨g, cap, cur, rfl, _, hlt, hnc, hcm, _, hq⟩ := own_block hO (by simp)
                have c0 := hq 0 (.bool true) rfl
                have c1 := hq 1 (.string ⟨a1.data.toList.toArray⟩) rfl
                have c2 := hq 2 (.string ⟨a2.data.toList.toArray⟩) rfl
                rw [show (⟨a1.data.toList.toArray⟩ : ByteArray) = a1 from Lib.mk_data a1] at c1
                rw [show (⟨a2.data.toList.toArray⟩ : ByteArray) = a2 from Lib.mk_data a2] at c2
                have hnc' : 1 ≤ cap := hnc
                unfold maxLen at hcm
                clear hO hq hA0 hA3 hnc
                simp only [List.length_append, List.length_cons, List.length_nil, List.nil_append, List.cons_append, Nat.zero_add, Nat.reduceAdd]
                go_wp2
                go_ret
                exact ⟨rfl, HB.out⟩
              · have Z3 := Lib.hid (show ¬ a3.data.toList = [] from fun e => by have h := congrArg List.length e; rw [hl3, List.length_nil] at h; omega)
                have fe3 : (@BEq.beq (List UInt8) (@List.instBEq UInt8 (@instBEqOfDecidableEq UInt8 instDecidableEqUInt8)) a3.toList []) = false := by rw [ByteArray.toList_eq]; simpa using Z3.out
                clear hl0 hl3 hE0 hE3
                have hA0 : addT [] a0.data.toList = [] := by unfold addT; rw [if_pos (Z0.out)]
                have hA3 : addT [] a3.data.toList = [⟨false, [], a3.data.toList⟩] := by unfold addT; rw [if_neg (Z3.out)]; rfl
                rw [hA0, hA3] at hO
                obtain ⟨g, cap, cur, rfl, _, hlt, hnc, hcm, _, hq⟩ := own_block hO (by simp)
                have c0 := hq 0 (.bool true) rfl
                have c1 := hq 1 (.string ⟨a1.data.toList.toArray⟩) rfl
                have c2 := hq 2 (.string ⟨a2.data.toList.toArray⟩) rfl
                have e2 := hq 5 (.string ⟨a3.data.toList.toArray⟩) rfl
                rw [show (⟨a3.data.toList.toArray⟩ : ByteArray) = a3 from Lib.mk_data a3] at e2
                rw [show (⟨a1.data.toList.toArray⟩ : ByteArray) = a1 from Lib.mk_data a1] at c1
                rw [show (⟨a2.data.toList.toArray⟩ : ByteArray) = a2 from Lib.mk_data a2] at c2
                have hnc' : 2 ≤ cap := hnc
                unfold maxLen at hcm
                clear hO hq hA0 hA3 hnc
                simp only [List.length_append, List.length_cons, List.length_nil, List.nil_append, List.cons_append, Nat.zero_add, Nat.reduceAdd]
                go_wp2
                go_ret
                exact ⟨rfl, HB.out⟩
            · have Z0 := Lib.hid (show ¬ a0.data.toList = [] from fun e => by have h := congrArg List.length e; rw [hl0, List.length_nil] at h; omega)
              have fe0 : (@BEq.beq (List UInt8) (@List.instBEq UInt8 (@instBEqOfDecidableEq UInt8 instDecidableEqUInt8)) a0.toList []) = false := by rw [ByteArray.toList_eq]; simpa using Z0.out
              rcases hE3 with hE3 | hE3
              · have Z3 := Lib.hid (show a3.data.toList = [] from List.eq_nil_of_length_eq_zero (by omega))
                have fe3 : (@BEq.beq (List UInt8) (@List.instBEq UInt8 (@instBEqOfDecidableEq UInt8 instDecidableEqUInt8)) a3.toList []) = true := by rw [ByteArray.toList_eq, Z3.out]; rfl
                clear hl0 hl3 hE0 hE3
                have hA0 : addT [] a0.data.toList = [⟨false, [], a0.data.toList⟩] := by unfold addT; rw [if_neg (Z0.out)]; rfl
                have hA3 : addT [] a3.data.toList = [] := by unfold addT; rw [if_pos (Z3.out)]
                rw [hA0, hA3] at hO
                obtain ⟨g, cap, cur, rfl, _, hlt, hnc, hcm, _, hq⟩ := own_block hO (by simp)
                have c0 := hq 3 (.bool true) rfl
                have c1 := hq 4 (.string ⟨a1.data.toList.toArray⟩) rfl
                have c2 := hq 5 (.string ⟨a2.data.toList.toArray⟩) rfl
                have d2 := hq 2 (.string ⟨a0.data.toList.toArray⟩) rfl
                rw [show (⟨a0.data.toList.toArray⟩ : ByteArray) = a0 from Lib.mk_data a0] at d2
                rw [show (⟨a1.data.toList.toArray⟩ : ByteArray) = a1 from Lib.mk_data a1] at c1
                rw [show (⟨a2.data.toList.toArray⟩ : ByteArray) = a2 from Lib.mk_data a2] at c2
                have hnc' : 2 ≤ cap := hnc
                unfold maxLen at hcm
                clear hO hq hA0 hA3 hnc
                simp only [List.length_append, List.length_cons, List.length_nil, List.nil_append, List.cons_append, Nat.zero_add, Nat.reduceAdd]
                go_wp2
                go_ret
                exact ⟨rfl, HB.out⟩
              · have Z3 := Lib.hid (show ¬ a3.data.toList = [] from fun e => by have h := congrArg List.length e; rw [hl3, List.length_nil] at h; omega)
                have fe3 : (@BEq.beq (List UInt8) (@List.instBEq UInt8 (@instBEqOfDecidableEq UInt8 instDecidableEqUInt8)) a3.toList []) = false := by rw [ByteArray.toList_eq]; simpa using Z3.out
                clear hl0 hl3 hE0 hE3
                have hA0 : addT [] a0.data.toList = [⟨false, [], a0.data.toList⟩] := by unfold addT; rw [if_neg (Z0.out)]; rfl
                have hA3 : addT [] a3.data.toList = [⟨false, [], a3.data.toList⟩] := by unfold addT; rw [if_neg (Z3.out)]; rfl
                rw [hA0, hA3] at hO
                obtain ⟨g, cap, cur, rfl, _, hlt, hnc, hcm, _, hq⟩ := own_block hO (by simp)
                have c0 := hq 3 (.bool true) rfl
                have c1 := hq 4 (.string ⟨a1.data.toList.toArray⟩) rfl
                have c2 := hq 5 (.string ⟨a2.data.toList.toArray⟩) rfl
                have d2 := hq 2 (.string ⟨a0.data.toList.toArray⟩) rfl
                rw [show (⟨a0.data.toList.toArray⟩ : ByteArray) = a0 from Lib.mk_data a0] at d2
                have e2 := hq 8 (.string ⟨a3.data.toList.toArray⟩) rfl
                rw [show (⟨a3.data.toList.toArray⟩ : ByteArray) = a3 from Lib.mk_data a3] at e2
                rw [show (⟨a1.data.toList.toArray⟩ : ByteArray) = a1 from Lib.mk_data a1] at c1
                rw [show (⟨a2.data.toList.toArray⟩ : ByteArray) = a2 from Lib.mk_data a2] at c2
                have hnc' : 3 ≤ cap := hnc
                unfold maxLen at hcm
                clear hO hq hA0 hA3 hnc
                simp only [List.length_append, List.length_cons, List.length_nil, List.nil_append, List.cons_append, Nat.zero_add, Nat.reduceAdd]
                go_wp2
                go_ret
                exact ⟨rfl, HB.out⟩
    · have hk2 : k < 3 := by omega
      have hget : ∃ X : ByteArray, ∀ h : k < 3, ([Value.string a0, Value.string a2, Value.string a3] : List Value)[k]'h = .string X ∧ wA.cell? ⟨w1.heap.size, k, none⟩ = some (.string X) ∧ (NoSigns X → (0 < k + 1 → NoSigns a0) ∧ (1 < k + 1 → NoSigns a2) ∧ (2 < k + 1 → NoSigns a3)) ∧ X.size ≤ 60 := by
        rcases (show k = 0 ∨ k = 1 ∨ k = 2 from by omega) with rfl | rfl | rfl
        · exact ⟨a0, fun _ => ⟨rfl, q0, fun h => ⟨fun _ => h, fun h => absurd h (by omega), fun h => absurd h (by omega)⟩, h0⟩⟩
        · exact ⟨a2, fun _ => ⟨rfl, q1, fun h => ⟨fun _ => N0.out (by omega), fun _ => h, fun h => absurd h (by omega)⟩, h2⟩⟩
        · exact ⟨a3, fun _ => ⟨rfl, q2, fun h => ⟨fun _ => N0.out (by omega), fun _ => N1.out (by omega), fun _ => h⟩, h3⟩⟩
      obtain ⟨X, hX⟩ := hget
      obtain ⟨_, hcX, hNX, hXz⟩ := hX hk2
      have HNX := Lib.hid hNX
      clear hX hNX q0 q1 q2
      go_wp2_with fail
      go_loopw [11] (fun i wr => SgRel X wA i wr) (fun i _ => X.size - (intOf i).toNat)
      case atStart => exact ⟨0, rfl, Nat.zero_le _, fun m _ hm => absurd hm (Nat.not_lt_zero _), rfl⟩
      case round =>
        obtain ⟨m, rfl, hm, hby, hwe⟩ := hrel
        have hwe := hwe.symm
        subst hwe
        have HBy := Lib.hid hby
        clear hby
        by_cases hp : m < X.size
        · by_cases h123 : X[m].toNat = 123
          · have f1 : ((X[m].toNat : Int) == 123) = true := by simp; omega
            clear h123
            go_wp2
            go_ret
            exact ⟨rfl, b2⟩
          have f1 : ((X[m].toNat : Int) == 123) = false := by simp; omega
          by_cases h124 : X[m].toNat = 124
          · have f2 : ((X[m].toNat : Int) == 124) = true := by simp; omega
            clear h123 h124
            go_wp2
            go_ret
            exact ⟨rfl, b2⟩
          have f2 : ((X[m].toNat : Int) == 124) = false := by simp; omega
          by_cases h125 : X[m].toNat = 125
          · have f3 : ((X[m].toNat : Int) == 125) = true := by simp; omega
            clear h123 h124 h125
            go_wp2
            go_ret
            exact ⟨rfl, b2⟩
          have f3 : ((X[m].toNat : Int) == 125) = false := by simp; omega
          by_cases h10 : X[m].toNat = 10
          · have f4 : ((X[m].toNat : Int) == 10) = true := by simp; omega
            clear h123 h124 h125 h10
            go_wp2
            go_ret
            exact ⟨rfl, b2⟩
          have f4 : ((X[m].toNat : Int) == 10) = false := by simp; omega
          have HL := Lib.hid (show X[m].toNat ≠ 123 ∧ X[m].toNat ≠ 124 ∧ X[m].toNat ≠ 125 from ⟨h123, h124, h125⟩)
          clear h123 h124 h125 h10
          go_wp2
          refine ⟨⟨m + 1, by go_num, by omega, fun q hq hq2 => ?_, rfl⟩, by simp [intOf]; omega⟩
          by_cases e : q = m
          · subst e; exact HL.out
          · exact HBy.out q hq (by omega)
        · obtain rfl : m = X.size := by omega
          have HF := Lib.hid (HNX.out (fun q hq => HBy.out q hq hq))
          go_wp2
          exact ⟨⟨k + 1, by go_num, by omega, HF.out.1, HF.out.2.1, HF.out.2.2, rfl⟩, by simp [intOf]; omega⟩

theorem spansOne_walk (w : World) (hml : MaxL w) (a0 : ByteArray) (w0 : a0.size ≤ maxLen) (a1 : ByteArray) (w1 : a1.size ≤ maxLen) (a2 : ByteArray) (w2 : a2.size ≤ maxLen) (a3 : ByteArray) (w3 : a3.size ≤ maxLen) :
    Calls Tryd.prog 6 #[.string a0, .string a1, .string a2, .string a3] w fun e w' => e = .returned (.bool true) ∧ Below w.heap.size w w' := by
  unfold maxLen at w0 w1 w2 w3
  by_cases h : a0.size ≤ 60 ∧ a2.size ≤ 60 ∧ a3.size ≤ 60
  · exact spansOne_short w hml a0 a1 a2 a3 h.1 h.2.1 h.2.2 w1
  · have HN := Lib.hid hml
    have hor : 60 < a0.size ∨ 60 < a2.size ∨ 60 < a3.size := by omega
    clear hml h
    rcases hor with h | h | h
    all_goals
      go_enter Tryd.func6, Tryd.ntmps6
      go_wp2_with (go_at_call 12; refine (alive6_any _ HN.out).mono ?_; rintro e w3 ⟨rfl, b2⟩)
      all_goals go_ret
      all_goals exact ⟨rfl, b2⟩

end Go.Proofs.YtodnioihadpncaaDoor
