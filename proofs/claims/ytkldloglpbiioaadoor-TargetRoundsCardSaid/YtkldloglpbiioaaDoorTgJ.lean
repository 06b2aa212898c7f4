/-
  The laws of the layer target: TargetBrackets: its walk.
-/
import Derived.Test.YtkldloglpbiioaaDoorTgtH
namespace Go.Proofs.YtkldloglpbiioaaDoor
open Go.RowKit
set_option linter.unusedSimpArgs false
set_option linter.unusedVariables false

def brkL (n m : Nat) : List UInt8 := 97 :: (List.replicate n 40 ++ List.replicate m 41)
theorem brk_dest : ∀ n : Nat, n < 11 → ∀ m : Nat, m < 11 → (destL (brkL n m)).2 = if m < n then (0, false) else (1 + 2 * n, true) := by decide +kernel
theorem brk_open (n : Nat) : brkL n 0 ++ [40] = brkL (n + 1) 0 := by
  simp [brkL, List.replicate_succ']
theorem brk_shut (n m : Nat) : brkL n m ++ [41] = brkL n (m + 1) := by
  simp [brkL, List.replicate_succ']
theorem brk_len (n m : Nat) : (brkL n m).length = n + m + 1 := by simp [brkL]
def OpRel (w : World) (s i : Value) (wr : World) : Prop :=
  ∃ (k : Nat) (S : ByteArray), s = .string S ∧ i = .int .i64 k ∧ S.data.toList = brkL k 0 ∧ Below w.heap.size w wr
def ShRel (n m : Nat) (s i : Value) : Prop :=
  ∃ (k : Nat) (S : ByteArray), s = .string S ∧ i = .int .i64 k ∧ k ≤ m ∧ S.data.toList = brkL n k
theorem list_size (S : ByteArray) : S.data.toList.length = S.size := by simp

set_option maxHeartbeats 2000000 in
set_option maxRecDepth 100000 in
theorem targetBrackets_in (w : World) (hn : TenIs w) (n m : Nat) (h1 : n ≤ 10) (h2 : m ≤ 10) :
    Calls Tryd.prog 6 #[.int .i64 n, .int .i64 m] w fun e w' => e = .returned (.bool true) ∧ Below w.heap.size w w' := by
  have ca := alive10_any w hn
  have HN := Lib.hid hn
  clear hn
  go_enter Tryd.func6, Tryd.ntmps6
  go_wp2_with (go_at_call 9; refine ca.mono ?_; rintro e w1 ⟨rfl, b1⟩)
  go_loop [5, 6] (fun s i => ∃ (k : Nat) (S : ByteArray), s = .string S ∧ i = .int .i64 k ∧ k ≤ n ∧ S.data.toList = brkL k 0) (fun _ i => n - (intOf i).toNat)
  case atStart => exact ⟨0, _, rfl, rfl, Nat.zero_le _, rfl⟩
  case round =>
    obtain ⟨k, S, rfl, rfl, hk, hS⟩ := hrel
    have hz : S.size ≤ 100 := by rw [← list_size, hS, brk_len]; omega
    by_cases hp : k < n
    · have HS := Lib.hid (show (S ++ (⟨#[40]⟩ : ByteArray)).data.toList = brkL (k + 1) 0 from by
        rw [ByteArray.data_append, Array.toList_append, hS, ← brk_open])
      clear hS
      go_wp2
      go_round
      case rel => exact ⟨k + 1, _, rfl, by go_num, by omega, HS.out⟩
      case measure => simp [intOf]; omega
    · obtain rfl : k = n := by omega
      have HS := Lib.hid hS
      clear hS
      go_wp2_with fail
      go_loop [5, 7] (fun s i => ShRel k m s i) (fun _ i => m - (intOf i).toNat)
      case atStart => exact ⟨0, _, rfl, rfl, Nat.zero_le _, HS.out⟩
      case round =>
        obtain ⟨j, S2, rfl, rfl, hj, hS2⟩ := hrel
        have hz2 : S2.size ≤ 100 := by rw [← list_size, hS2, brk_len]; omega
        by_cases hp2 : j < m
        · have HS2 := Lib.hid (show (S2 ++ (⟨#[41]⟩ : ByteArray)).data.toList = brkL k (j + 1) from by
            rw [ByteArray.data_append, Array.toList_append, hS2, ← brk_shut])
          clear hS2
          go_wp2
          go_round
          case rel => exact ⟨j + 1, _, rfl, by go_num, by omega, HS2.out⟩
          case measure => simp [intOf]; omega
        · obtain rfl : j = m := by omega
          have cd := dest_any S2 w1 (HN.out.below b1).1 (by omega)
          rw [hS2] at cd
          have hd := brk_dest k (by omega) j (by omega)
          generalize destL (brkL k j) = x at *
          obtain ⟨X, y⟩ := x
          simp only at hd
          subst hd
          unfold tib at cd
          clear hS2
          by_cases hlt : j < k
          · simp only [if_pos hlt] at cd
            go_wp2_with fail
            refine cd.mono ?_
            rintro e w2 ⟨rfl, b2⟩
            go_wp2
            go_ret
            exact ⟨rfl, b1.then b2⟩
          · simp only [if_neg hlt] at cd
            rw [show ((1 + 2 * k : Nat) : Int) = 1 + 2 * (k : Int) from by omega] at cd
            go_wp2_with fail
            refine cd.mono ?_
            rintro e w2 ⟨rfl, b2⟩
            go_wp2
            go_ret
            exact ⟨by simp, b1.then b2⟩

set_option maxHeartbeats 1000000 in
theorem targetBrackets_walk (w : World) (hn : TenIs w) (a0 : Int) (w0 : (Lit.int .i64 a0).wf = true) (a1 : Int) (w1 : (Lit.int .i64 a1).wf = true) :
    Calls Tryd.prog 6 #[.int .i64 a0, .int .i64 a1] w fun e w' => e = .returned (.bool true) ∧ Below w.heap.size w w' := by
  by_cases h : (0 ≤ a0 ∧ a0 ≤ 10) ∧ 0 ≤ a1 ∧ a1 ≤ 10
  · obtain ⟨n, rfl⟩ : ∃ n : Nat, a0 = n := ⟨a0.toNat, by omega⟩
    obtain ⟨m, rfl⟩ : ∃ m : Nat, a1 = m := ⟨a1.toNat, by omega⟩
    exact targetBrackets_in w hn n m (by omega) (by omega)
  · have ca := alive10_any w hn
    clear hn
    have hcase : a0 < 0 ∨ (0 ≤ a0 ∧ 10 < a0) ∨ (0 ≤ a0 ∧ a0 ≤ 10 ∧ a1 < 0) ∨ (0 ≤ a0 ∧ a0 ≤ 10 ∧ 0 ≤ a1 ∧ 10 < a1) := by omega
    clear h w0 w1
    rcases hcase with h | ⟨h, h1⟩ | ⟨h, h1, h2⟩ | ⟨h, h1, h2, h3⟩
    all_goals
      go_enter Tryd.func6, Tryd.ntmps6
      go_wp2_with (go_at_call 9; refine ca.mono ?_; rintro e w1 ⟨rfl, b1⟩)
      go_ret
      exact ⟨rfl, b1⟩

end Go.Proofs.YtkldloglpbiioaaDoor
