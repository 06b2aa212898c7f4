/-
  Plain facts of the layer token: LFs that become blanks; numbers of few digits.
-/
import Derived.Test.YtggdpmaomhmobaaGreatDoorTkP
import Derived.Lib.ReplaceLaws
namespace Go.Proofs.YtggdpmaomhmobaaGreatDoor
open Go.RowKit
set_option linter.unusedSimpArgs false
set_option linter.unusedVariables false

def tkFlat (l : List UInt8) : List UInt8 := l.map fun b => if b == 10 then 32 else b
theorem replaceK_other (b : UInt8) (l : List UInt8) (h : ¬ b = 10) : ∀ k, Lib.replaceK [10] [32] k (b :: l) = b :: Lib.replaceK [10] [32] k l
  | 0 => rfl
  | k + 1 => by
    have e : Lib.index (b :: l) [10] = if Lib.index l [10] == -1 then -1 else Lib.index l [10] + 1 := by
      rw [Lib.index, if_neg]
      simp [List.isPrefixOf, Ne.symm h]
    unfold Lib.replaceK
    rw [e]
    by_cases hi : Lib.index l [10] = -1
    · simp [hi]
    · have := Lib.index_ge l [10]
      have e1 : (Lib.index l [10] == -1) = false := by simp [hi]
      have e2 : ((Lib.index l [10] + 1) == -1) = false := by simp; omega
      simp only [e1, Bool.false_eq_true, if_false, e2]
      have e3 : (Lib.index l [10] + 1).toNat = (Lib.index l [10]).toNat + 1 := by omega
      rw [e3]
      have e4 : (Lib.index l [10]).toNat + 1 + [(10 : UInt8)].length = ((Lib.index l [10]).toNat + [(10 : UInt8)].length) + 1 := by simp
      rw [e4, List.take_succ_cons, List.drop_succ_cons]
      simp
theorem replaceK_lf (l : List UInt8) (k : Nat) : Lib.replaceK [10] [32] (k + 1) (10 :: l) = 32 :: Lib.replaceK [10] [32] k l := by
  have e : Lib.index (10 :: l) [10] = ((0 : Nat) : Int) := by rw [Lib.index, if_pos (by simp [List.isPrefixOf])]; rfl
  rw [Lib.replaceK_hit _ _ _ _ _ e]
  simp
theorem replace_flat : ∀ l : List UInt8, Lib.replaceK [10] [32] (l.count 10) l = tkFlat l
  | [] => rfl
  | b :: l => by
    by_cases h : b = 10
    · subst h
      rw [List.count_cons_self, replaceK_lf, replace_flat l]
      rfl
    · rw [List.count_cons_of_ne (by exact h), replaceK_other b l h, replace_flat l]
      simp [tkFlat, h]
theorem replaceAll_flat (l : List UInt8) : Lib.replaceAll l [10] [32] = tkFlat l := by
  unfold Lib.replaceAll Lib.replace
  rw [if_neg (by decide)]
  have e : Lib.replaceNum l [10] (-1) = l.count 10 := by
    unfold Lib.replaceNum
    rw [if_pos (Or.inl (by decide)), Lib.count_one]
  rw [e, replace_flat]
theorem tkFlat_length (l : List UInt8) : (tkFlat l).length = l.length := by simp [tkFlat]

theorem dec_digits : ∀ (l : List UInt8) (acc : Nat), (∀ b ∈ l, tkDigit b = true) → ∃ n, Lib.decFrom acc l = some n ∧ n < (acc + 1) * 10 ^ l.length
  | [], acc, _ => ⟨acc, rfl, by simp⟩
  | b :: l, acc, h => by
    have hb := h b (by simp)
    have hb' : 48 ≤ b.toNat ∧ b.toNat ≤ 57 := by
      have := (inR_iff _ _ _).1 (show inR b.toNat 48 57 = true from hb)
      omega
    obtain ⟨n, h1, h2⟩ := dec_digits l (acc * 10 + (b.toNat - 48)) (fun x hx => h x (by simp [hx]))
    refine ⟨n, ?_, ?_⟩
    · rw [Lib.decFrom]
      unfold Lib.digitVal
      rw [if_pos hb']
      exact h1
    · rw [List.length_cons, Nat.pow_succ]
      have : (acc * 10 + (b.toNat - 48) + 1) ≤ (acc + 1) * 10 := by omega
      calc n < _ := h2
        _ ≤ (acc + 1) * 10 * 10 ^ l.length := Nat.mul_le_mul_right _ this
        _ = (acc + 1) * (10 ^ l.length * 10) := by rw [Nat.mul_assoc, Nat.mul_comm 10]
theorem atoi_digits (l : List UInt8) (h : ∀ b ∈ l, tkDigit b = true) (hne : l ≠ []) : ∃ n : Nat, Lib.atoi l = some (n : Int) ∧ n < 10 ^ l.length := by
  cases l with
  | nil => exact absurd rfl hne
  | cons b r =>
    have hb := h b (by simp)
    have hb' : 48 ≤ b.toNat ∧ b.toNat ≤ 57 := by
      have := (inR_iff _ _ _).1 (show inR b.toNat 48 57 = true from hb)
      omega
    obtain ⟨n, h1, h2⟩ := dec_digits (b :: r) 0 h
    refine ⟨n, ?_, by simpa using h2⟩
    have n1 : (b == 45) = false := by
      rw [beq_eq_false_iff_ne]; intro e; subst e; simp at hb'
    have n2 : (b == 43) = false := by
      rw [beq_eq_false_iff_ne]; intro e; subst e; simp at hb'
    have e : Lib.atoi (b :: r) = (Lib.decNat (b :: r)).map fun (m : Nat) => (m : Int) := by
      unfold Lib.atoi
      simp only [n1, n2, Bool.false_eq_true, if_false]
    rw [e]
    unfold Lib.decNat
    rw [show (b :: r).isEmpty = false from rfl]
    simp [h1]
theorem takeWhile_all (p : UInt8 → Bool) : ∀ (l : List UInt8), ∀ b ∈ l.takeWhile p, p b = true
  | [], _, h => by simp at h
  | a :: l, b, h => by
    rw [List.takeWhile_cons] at h
    split at h
    · rcases List.mem_cons.1 h with rfl | h
      · assumption
      · exact takeWhile_all p l b h
    · simp at h
theorem past_part (p : UInt8 → Bool) (l : List UInt8) (k : Nat) : (l.take (pastL p l k)).drop k = (l.drop k).takeWhile p := by
  unfold pastL
  rw [List.drop_take, Nat.add_sub_cancel_left]
  exact (List.prefix_iff_eq_take.1 (List.takeWhile_prefix p)).symm
end Go.Proofs.YtggdpmaomhmobaaGreatDoor
