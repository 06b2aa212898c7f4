/-
  EntityLengths: the law's walk.
-/
import Derived.Test.YtggfllbaomfjhaaDoorEntM
namespace Go.Proofs.YtggfllbaomfjhaaDoor
open Go.RowKit
set_option linter.unusedSimpArgs false
set_option linter.unusedVariables false

def LenRel (pre : List UInt8) (n : Nat) (s i : Value) : Prop :=
  ∃ (k : Nat) (S : ByteArray), s = .string S ∧ i = .int .i64 k ∧ k ≤ n ∧ S.data.toList = pre ++ List.replicate k 48
theorem size_len (S : ByteArray) : S.data.toList.length = S.size := by simp

theorem len10_in : ∀ m : Nat, m < 13 → (1 ≤ m ∧ m ≤ 7) → (atL ([38, 35] ++ List.replicate m 48 ++ [59])).2 = m + 3 := by decide +kernel
theorem len10_out : ∀ m : Nat, m < 13 → ¬ (1 ≤ m ∧ m ≤ 7) → (atL ([38, 35] ++ List.replicate m 48 ++ [59])).2 = 0 := by decide +kernel
theorem len10_open : ∀ m : Nat, m < 13 → (atL ([38, 35] ++ List.replicate m 48)).2 = 0 := by decide +kernel

set_option maxHeartbeats 2000000 in
theorem entityLengths10 (w : World) (hn : NamedIs w) (n : Nat) (h12 : n ≤ 12) :
    Calls Tryd.prog 7 #[.int .i64 n, .bool false] w fun e w' => e = .returned (.bool true) ∧ Below w.heap.size w w' := by
  have ca := alive3_any w hn
  have HN := Lib.hid hn
  clear hn
  go_enter Tryd.func7, Tryd.ntmps7
  go_wp2_with (go_at_call 8; refine ca.mono ?_; rintro e w1 ⟨rfl, b1⟩)
  go_loop [5, 7] (fun s i => LenRel [38, 35] n s i) (fun _ i => n - (intOf i).toNat)
  case atStart => exact ⟨0, _, rfl, rfl, Nat.zero_le _, rfl⟩
  case round =>
    obtain ⟨k, S, rfl, rfl, hk, hS⟩ := hrel
    have hz : S.size = k + 2 := by
      rw [← size_len, hS, List.length_append, List.length_replicate]
      simp; omega
    by_cases hp : k < n
    · have hz2 : S.size ≤ 100 := by omega
      have HS := Lib.hid (show (S ++ (⟨#[48]⟩ : ByteArray)).data.toList = [38, 35] ++ List.replicate (k + 1) 48 from by
        rw [ByteArray.data_append, Array.toList_append, hS, List.replicate_succ']
        simp)
      clear hS hz
      go_wp2
      go_round
      case rel => exact ⟨k + 1, _, rfl, by go_num, by omega, HS.out⟩
      case measure => simp [intOf]; omega
    · obtain rfl : k = n := by omega
      have hz2 : S.size ≤ 100 := by omega
      have hz3 : (S ++ (⟨#[59]⟩ : ByteArray)).size ≤ 200 := by rw [ByteArray.size_append]; show _ + 1 ≤ _; omega
      have e1 : (S ++ (⟨#[59]⟩ : ByteArray)).data.toList = [38, 35] ++ List.replicate k 48 ++ [59] := by
        rw [ByteArray.data_append, Array.toList_append, hS]
      have c1 := fun w1 hn => at_any (S ++ (⟨#[59]⟩ : ByteArray)) w1 hn (by omega)
      have c2 := fun w1 hn => at_any S w1 hn (by omega)
      rw [e1] at c1
      rw [hS] at c2
      unfold atRet at c1 c2
      rw [len10_open k (by omega)] at c2
      by_cases hin : 1 ≤ k ∧ k ≤ 7
      · rw [len10_in k (by omega) hin] at c1
        have f0 : (((k + 3 : Nat) : Int) == 0) = false := by simp; omega
        have f1 : (((k + 3 : Nat) : Int) == (S.size : Int) + 1) = true := by simp; omega
        have f2 : (0 : Int) < ((k + 3 : Nat) : Int) := by omega
        obtain ⟨M, hM⟩ : ∃ M : Int, M = ((k + 3 : Nat) : Int) := ⟨_, rfl⟩
        rw [← hM] at c1 f0 f1 f2
        obtain ⟨hin1, hin2⟩ := hin
        have hi1 : (1 : Int) ≤ k := by omega
        have hi2 : (k : Int) ≤ 7 := by omega
        generalize (atL ([38, 35] ++ List.replicate k 48 ++ [59])).1 = X1 at *
        generalize (atL ([38, 35] ++ List.replicate k 48)).1 = X2 at *
        clear e1 hS hz hM
        go_wp2_with fail
        refine (c1 _ (HN.out.below b1)).mono ?_
        rintro e w2 ⟨rfl, b2⟩
        have q2 := b1.then b2
        go_wp2_with fail
        refine (c2 _ (HN.out.below q2)).mono ?_
        rintro e w3 ⟨rfl, b3⟩
        have q3 := q2.then b3
        go_wp2
        go_ret
        exact ⟨rfl, q3⟩
      · rw [len10_out k (by omega) hin] at c1
        generalize (atL ([38, 35] ++ List.replicate k 48 ++ [59])).1 = X1 at *
        generalize (atL ([38, 35] ++ List.replicate k 48)).1 = X2 at *
        clear e1 hS hz
        by_cases h0 : 1 ≤ k
        · have hi2 : ¬ (k : Int) ≤ 7 := by omega
          have hi1 : (1 : Int) ≤ k := by omega
          clear hin h0
          go_wp2_with fail
          refine (c1 _ (HN.out.below b1)).mono ?_
          rintro e w2 ⟨rfl, b2⟩
          have q2 := b1.then b2
          go_wp2_with fail
          refine (c2 _ (HN.out.below q2)).mono ?_
          rintro e w3 ⟨rfl, b3⟩
          have q3 := q2.then b3
          go_wp2
          go_ret
          exact ⟨ret_bool (by simp; omega), q3⟩
        · have hi1 : ¬ (1 : Int) ≤ k := by omega
          clear hin h0
          go_wp2_with fail
          refine (c1 _ (HN.out.below b1)).mono ?_
          rintro e w2 ⟨rfl, b2⟩
          have q2 := b1.then b2
          go_wp2_with fail
          refine (c2 _ (HN.out.below q2)).mono ?_
          rintro e w3 ⟨rfl, b3⟩
          have q3 := q2.then b3
          go_wp2
          go_ret
          exact ⟨rfl, q3⟩

theorem len16_in : ∀ m : Nat, m < 13 → (1 ≤ m ∧ m ≤ 6) → (atL ([38, 35, 120] ++ List.replicate m 48 ++ [59])).2 = m + 4 := by decide +kernel
theorem len16_out : ∀ m : Nat, m < 13 → ¬ (1 ≤ m ∧ m ≤ 6) → (atL ([38, 35, 120] ++ List.replicate m 48 ++ [59])).2 = 0 := by decide +kernel
theorem len16_open : ∀ m : Nat, m < 13 → (atL ([38, 35, 120] ++ List.replicate m 48)).2 = 0 := by decide +kernel

set_option maxHeartbeats 2000000 in
theorem entityLengths16 (w : World) (hn : NamedIs w) (n : Nat) (h12 : n ≤ 12) :
    Calls Tryd.prog 7 #[.int .i64 n, .bool true] w fun e w' => e = .returned (.bool true) ∧ Below w.heap.size w w' := by
  have ca := alive3_any w hn
  have HN := Lib.hid hn
  clear hn
  go_enter Tryd.func7, Tryd.ntmps7
  go_wp2_with (go_at_call 8; refine ca.mono ?_; rintro e w1 ⟨rfl, b1⟩)
  go_loop [5, 7] (fun s i => LenRel [38, 35, 120] n s i) (fun _ i => n - (intOf i).toNat)
  case atStart => exact ⟨0, _, rfl, rfl, Nat.zero_le _, rfl⟩
  case round =>
    obtain ⟨k, S, rfl, rfl, hk, hS⟩ := hrel
    have hz : S.size = k + 3 := by
      rw [← size_len, hS, List.length_append, List.length_replicate]
      simp; omega
    by_cases hp : k < n
    · have hz2 : S.size ≤ 100 := by omega
      have HS := Lib.hid (show (S ++ (⟨#[48]⟩ : ByteArray)).data.toList = [38, 35, 120] ++ List.replicate (k + 1) 48 from by
        rw [ByteArray.data_append, Array.toList_append, hS, List.replicate_succ']
        simp)
      clear hS hz
      go_wp2
      go_round
      case rel => exact ⟨k + 1, _, rfl, by go_num, by omega, HS.out⟩
      case measure => simp [intOf]; omega
    · obtain rfl : k = n := by omega
      have hz2 : S.size ≤ 100 := by omega
      have hz3 : (S ++ (⟨#[59]⟩ : ByteArray)).size ≤ 200 := by rw [ByteArray.size_append]; show _ + 1 ≤ _; omega
      have e1 : (S ++ (⟨#[59]⟩ : ByteArray)).data.toList = [38, 35, 120] ++ List.replicate k 48 ++ [59] := by
        rw [ByteArray.data_append, Array.toList_append, hS]
      have c1 := fun w1 hn => at_any (S ++ (⟨#[59]⟩ : ByteArray)) w1 hn (by omega)
      have c2 := fun w1 hn => at_any S w1 hn (by omega)
      rw [e1] at c1
      rw [hS] at c2
      unfold atRet at c1 c2
      rw [len16_open k (by omega)] at c2
      by_cases hin : 1 ≤ k ∧ k ≤ 6
      · rw [len16_in k (by omega) hin] at c1
        have f0 : (((k + 4 : Nat) : Int) == 0) = false := by simp; omega
        have f1 : (((k + 4 : Nat) : Int) == (S.size : Int) + 1) = true := by simp; omega
        have f2 : (0 : Int) < ((k + 4 : Nat) : Int) := by omega
        obtain ⟨M, hM⟩ : ∃ M : Int, M = ((k + 4 : Nat) : Int) := ⟨_, rfl⟩
        rw [← hM] at c1 f0 f1 f2
        obtain ⟨hin1, hin2⟩ := hin
        have hi1 : (1 : Int) ≤ k := by omega
        have hi2 : (k : Int) ≤ 6 := by omega
        generalize (atL ([38, 35, 120] ++ List.replicate k 48 ++ [59])).1 = X1 at *
        generalize (atL ([38, 35, 120] ++ List.replicate k 48)).1 = X2 at *
        clear e1 hS hz hM
        go_wp2_with fail
        refine (c1 _ (HN.out.below b1)).mono ?_
        rintro e w2 ⟨rfl, b2⟩
        have q2 := b1.then b2
        go_wp2_with fail
        refine (c2 _ (HN.out.below q2)).mono ?_
        rintro e w3 ⟨rfl, b3⟩
        have q3 := q2.then b3
        go_wp2
        go_ret
        exact ⟨rfl, q3⟩
      · rw [len16_out k (by omega) hin] at c1
        generalize (atL ([38, 35, 120] ++ List.replicate k 48 ++ [59])).1 = X1 at *
        generalize (atL ([38, 35, 120] ++ List.replicate k 48)).1 = X2 at *
        clear e1 hS hz
        by_cases h0 : 1 ≤ k
        · have hi2 : ¬ (k : Int) ≤ 6 := by omega
          have hi1 : (1 : Int) ≤ k := by omega
          clear hin h0
          go_wp2_with fail
          refine (c1 _ (HN.out.below b1)).mono ?_
          rintro e w2 ⟨rfl, b2⟩
          have q2 := b1.then b2
          go_wp2_with fail
          refine (c2 _ (HN.out.below q2)).mono ?_
          rintro e w3 ⟨rfl, b3⟩
          have q3 := q2.then b3
          go_wp2
          go_ret
          exact ⟨ret_bool (by simp; omega), q3⟩
        · have hi1 : ¬ (1 : Int) ≤ k := by omega
          clear hin h0
          go_wp2_with fail
          refine (c1 _ (HN.out.below b1)).mono ?_
          rintro e w2 ⟨rfl, b2⟩
          have q2 := b1.then b2
          go_wp2_with fail
          refine (c2 _ (HN.out.below q2)).mono ?_
          rintro e w3 ⟨rfl, b3⟩
          have q3 := q2.then b3
          go_wp2
          go_ret
          exact ⟨rfl, q3⟩

theorem entityLengths_walk (w : World) (hn : NamedIs w) (a0 : Int) (w0 : (Lit.int .i64 a0).wf = true) (a1 : Bool) :
    Calls Tryd.prog 7 #[.int .i64 a0, .bool a1] w fun e w' => e = .returned (.bool true) ∧ Below w.heap.size w w' := by
  by_cases h : 0 ≤ a0 ∧ a0 ≤ 12
  · obtain ⟨m, rfl⟩ : ∃ m : Nat, a0 = m := ⟨a0.toNat, by omega⟩
    cases a1 with
    | true => exact entityLengths16 w hn m (by omega)
    | false => exact entityLengths10 w hn m (by omega)
  · have ca := alive3_any w hn
    clear hn w0
    by_cases h0 : 0 ≤ a0
    · have h1 : ¬ a0 ≤ 12 := by omega
      clear h
      go_enter Tryd.func7, Tryd.ntmps7
      go_wp2_with (go_at_call 8; refine ca.mono ?_; rintro e w1 ⟨rfl, b1⟩)
      go_ret
      exact ⟨rfl, b1⟩
    · clear h
      go_enter Tryd.func7, Tryd.ntmps7
      go_wp2_with (go_at_call 8; refine ca.mono ?_; rintro e w1 ⟨rfl, b1⟩)
      go_ret
      exact ⟨rfl, b1⟩

end Go.Proofs.YtggfllbaomfjhaaDoor
