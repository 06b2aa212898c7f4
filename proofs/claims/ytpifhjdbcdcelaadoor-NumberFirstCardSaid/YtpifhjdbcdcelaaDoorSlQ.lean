/-
  Plain words of the layer slug: the next anchor, of those that there are.
-/
import Derived.Test.YtpifhjdbcdcelaaDoorSlP
import Derived.Lib.ItoaNum
namespace Go.Proofs.YtpifhjdbcdcelaaDoor
open Go.RowKit
set_option linter.unusedSimpArgs false
set_option linter.unusedVariables false

def slNum (id : List UInt8) (n : Nat) : List UInt8 := id ++ 45 :: Lib.decDigits n
def slFind (had : List (List UInt8)) (id : List UInt8) : Nat → Nat → Nat
  | 0, n => n
  | f + 1, n => if slNum id n ∈ had then slFind had id f (n + 1) else n
def slLeast (had : List (List UInt8)) (id : List UInt8) : Nat := slFind had id (had.length + 1) 2
def slNext (had : List (List UInt8)) (s : List UInt8) : List UInt8 := if slugL s ∈ had then slNum (slugL s) (slLeast had (slugL s)) else slugL s

/-! ### Numbers up to 99 -/
def decVal (l : List UInt8) : Nat := l.foldl (fun v b => v * 10 + (b.toNat - 48)) 0
theorem decVal_digits {n : Nat} (h : n < 100) : decVal (Lib.decDigits n) = n := by
  by_cases h1 : n < 10
  · rw [Lib.decDigits_one h1]
    have : ((List.range 10).all fun n => decVal [UInt8.ofNat (48 + n)] == n) = true := by decide +kernel
    simpa using List.all_eq_true.1 this n (List.mem_range.2 h1)
  · rw [Lib.decDigits_two h1 h]
    have : ((List.range 100).all fun n => decVal [UInt8.ofNat (48 + n / 10), UInt8.ofNat (48 + n % 10)] == n) = true := by decide +kernel
    simpa using List.all_eq_true.1 this n (List.mem_range.2 h)
theorem decDigits_ok {n : Nat} (h : n < 100) : (∀ b ∈ Lib.decDigits n, 48 ≤ b.toNat ∧ b.toNat ≤ 57) ∧ Lib.decDigits n ≠ [] ∧ (Lib.decDigits n).length ≤ 2 := by
  by_cases h1 : n < 10
  · rw [Lib.decDigits_one h1]
    have : ((List.range 10).all fun n => [UInt8.ofNat (48 + n)].all fun b => decide (48 ≤ b.toNat ∧ b.toNat ≤ 57)) = true := by decide +kernel
    have := List.all_eq_true.1 this n (List.mem_range.2 h1)
    exact ⟨fun b hb => by simpa using List.all_eq_true.1 this b hb, by simp, by simp⟩
  · rw [Lib.decDigits_two h1 h]
    have : ((List.range 100).all fun n => [UInt8.ofNat (48 + n / 10), UInt8.ofNat (48 + n % 10)].all fun b => decide (48 ≤ b.toNat ∧ b.toNat ≤ 57)) = true := by decide +kernel
    have := List.all_eq_true.1 this n (List.mem_range.2 h)
    exact ⟨fun b hb => by simpa using List.all_eq_true.1 this b hb, by simp, by simp⟩
theorem slNum_inj {id : List UInt8} {n m : Nat} (hn : n < 100) (hm : m < 100) (e : slNum id n = slNum id m) : n = m := by
  unfold slNum at e
  have := List.append_cancel_left e
  simp at this
  rw [← decVal_digits hn, this, decVal_digits hm]
theorem slNum_ne (id : List UInt8) (n : Nat) : slNum id n ≠ id := by
  intro e
  have := congrArg List.length e
  simp [slNum] at this

/-! ### The least that is free -/
theorem slFind_le (had : List (List UInt8)) (id : List UInt8) : ∀ f n, n ≤ slFind had id f n ∧ slFind had id f n ≤ n + f
  | 0, n => ⟨Nat.le_refl _, Nat.le_refl _⟩
  | f + 1, n => by
    unfold slFind
    split
    · have := slFind_le had id f (n + 1); omega
    · omega
theorem slFind_in (had : List (List UInt8)) (id : List UInt8) : ∀ f n j, n ≤ j → j < slFind had id f n → slNum id j ∈ had
  | 0, n, j, h1, h2 => by unfold slFind at h2; omega
  | f + 1, n, j, h1, h2 => by
    unfold slFind at h2
    split at h2
    · next hm =>
      by_cases e : j = n
      · subst e; exact hm
      · exact slFind_in had id f (n + 1) j (by omega) h2
    · omega
theorem slFind_out (had : List (List UInt8)) (id : List UInt8) : ∀ f n, slFind had id f n < n + f → slNum id (slFind had id f n) ∉ had
  | 0, n, h => by unfold slFind at h; omega
  | f + 1, n, h => by
    unfold slFind at h ⊢
    split
    · next hm => rw [if_pos hm] at h; exact slFind_out had id f (n + 1) (by omega)
    · next hm => exact hm
theorem nodup_len {α : Type} [DecidableEq α] : ∀ (l m : List α), l.Nodup → (∀ x ∈ l, x ∈ m) → l.length ≤ m.length
  | [], m, _, _ => Nat.zero_le _
  | x :: l, m, hn, h => by
    have h1 := h x (by simp)
    have hn' := List.nodup_cons.1 hn
    have := nodup_len l (m.erase x) hn'.2 (fun y hy => (List.mem_erase_of_ne (by rintro rfl; exact hn'.1 hy)).2 (h y (by simp [hy])))
    rw [List.length_erase_of_mem h1] at this
    have := List.length_pos_of_mem h1
    simp; omega
theorem slLeast_is (had : List (List UInt8)) (id : List UInt8) (h : had.length ≤ 60) : 2 ≤ slLeast had id ∧ slLeast had id ≤ had.length + 2 ∧ slNum id (slLeast had id) ∉ had ∧ ∀ j, 2 ≤ j → j < slLeast had id → slNum id j ∈ had := by
  have h1 := slFind_le had id (had.length + 1) 2
  have h2 := slFind_in had id (had.length + 1) 2
  have h3 := slFind_out had id (had.length + 1) 2
  unfold slLeast
  have h4 : slFind had id (had.length + 1) 2 < 2 + (had.length + 1) := by
    refine Nat.lt_of_not_le fun hge => ?_
    have hnd : ((List.range (had.length + 1)).map fun k => slNum id (k + 2)).Nodup := by
      rw [List.nodup_iff_pairwise_ne, List.pairwise_map]
      refine List.Pairwise.imp_of_mem ?_ (List.nodup_iff_pairwise_ne.1 List.nodup_range)
      intro a b ha hb hab e
      have ha' := List.mem_range.1 ha
      have hb' := List.mem_range.1 hb
      have := slNum_inj (by omega) (by omega) e
      omega
    have := nodup_len _ had hnd (fun x hx => by
      obtain ⟨k, hk, rfl⟩ := List.mem_map.1 hx
      have := List.mem_range.1 hk
      exact h2 (k + 2) (by omega) (by omega))
    simp at this
    omega
  exact ⟨h1.1, by omega, h3 h4, h2⟩
theorem slNext_new (had : List (List UInt8)) (s : List UInt8) (h : had.length ≤ 60) : slNext had s ∉ had := by
  unfold slNext
  split
  · exact (slLeast_is had _ h).2.2.1
  · next hn => exact hn
/-- What a new one is made of. -/
theorem slNext_ok (had : List (List UInt8)) (s : List UInt8) (h : had.length ≤ 60) : slNext had s ≠ [] ∧ (∀ b ∈ slNext had s, slKeep b = true ∨ b = 45) ∧ (slNext had s).headD 0 ≠ 45 ∧ (slNext had s).getLastD 0 ≠ 45 ∧ (slNext had s).length ≤ 43 := by
  obtain ⟨h1, h2, h3, h4⟩ := slug_ok s
  unfold slNext
  split
  · have hl := slLeast_is had (slugL s) h
    obtain ⟨d1, d2, d3⟩ := decDigits_ok (n := slLeast had (slugL s)) (by omega)
    unfold slNum
    refine ⟨by simp, ?_, ?_, ?_, ?_⟩
    · intro b hb
      rcases List.mem_append.1 hb with hb | hb
      · exact h1.signs b hb
      · rcases List.mem_cons.1 hb with rfl | hb
        · exact .inr rfl
        · have := d1 b hb
          exact .inl (by simp [slKeep]; omega)
    · have := h1.first
      cases hs : slugL s with
      | nil => exact absurd hs h3
      | cons c t => rw [hs] at this; exact this
    · obtain ⟨p, z, e⟩ := snoc_of d2
      have hz := d1 z (by rw [e]; simp)
      rw [e, show slugL s ++ 45 :: (p ++ [z]) = (slugL s ++ 45 :: p) ++ [z] from by simp, getLastD_snoc]
      rintro rfl
      exact absurd hz (by decide)
    · simp; omega
  · exact ⟨h3, h1.signs, h1.first, h2, by omega⟩

/-! ### One text, again and again -/
def slMany (x : List UInt8) : Nat → List (List UInt8)
  | 0 => []
  | 1 => [x]
  | k + 2 => slMany x (k + 1) ++ [slNum x (k + 2)]
theorem slMany_len (x : List UInt8) : ∀ k, (slMany x k).length = k
  | 0 => rfl
  | 1 => rfl
  | k + 2 => by rw [slMany, List.length_append, slMany_len x (k + 1)]; rfl
theorem mem_slMany (x : List UInt8) : ∀ k y, y ∈ slMany x k ↔ (1 ≤ k ∧ y = x) ∨ ∃ j, 2 ≤ j ∧ j ≤ k ∧ y = slNum x j
  | 0, y => by simp [slMany]; intro j h1 h2; omega
  | 1, y => by
    simp [slMany]
    intro j h1 h2; omega
  | k + 2, y => by
    rw [slMany, List.mem_append, mem_slMany x (k + 1)]
    constructor
    · rintro ((⟨h1, rfl⟩ | ⟨j, h1, h2, rfl⟩) | h)
      · exact .inl ⟨by omega, rfl⟩
      · exact .inr ⟨j, h1, by omega, rfl⟩
      · simp at h; subst h; exact .inr ⟨k + 2, by omega, by omega, rfl⟩
    · rintro (⟨h1, rfl⟩ | ⟨j, h1, h2, rfl⟩)
      · exact .inl (.inl ⟨by omega, rfl⟩)
      · by_cases e : j = k + 2
        · subst e; exact .inr (by simp)
        · exact .inl (.inr ⟨j, h1, by omega, rfl⟩)
theorem slNext_many (s : List UInt8) (k : Nat) (h : k ≤ 40) : slNext (slMany (slugL s) k) s = if k = 0 then slugL s else slNum (slugL s) (k + 1) := by
  unfold slNext
  by_cases hk : k = 0
  · subst hk; simp [slMany]
  · rw [if_pos ((mem_slMany _ _ _).2 (.inl ⟨by omega, rfl⟩)), if_neg hk]
    have hl := slMany_len (slugL s) k
    obtain ⟨h1, h2, h3, h4⟩ := slLeast_is (slMany (slugL s) k) (slugL s) (by omega)
    congr 1
    have h5 : ¬ slLeast (slMany (slugL s) k) (slugL s) ≤ k := fun hle => h3 ((mem_slMany _ _ _).2 (.inr ⟨_, h1, hle, rfl⟩))
    have h6 : ¬ k + 1 < slLeast (slMany (slugL s) k) (slugL s) := fun hlt => by
      rcases (mem_slMany _ _ _).1 (h4 (k + 1) (by omega) hlt) with ⟨_, e⟩ | ⟨j, e1, e2, e⟩
      · exact slNum_ne _ _ e
      · have := slNum_inj (by omega) (by omega) e; omega
    omega
theorem slMany_snoc (s : List UInt8) (k : Nat) (h : k ≤ 40) : slMany (slugL s) k ++ [slNext (slMany (slugL s) k) s] = slMany (slugL s) (k + 1) := by
  rw [slNext_many s k h]
  cases k with
  | zero => rfl
  | succ k => rfl

end Go.Proofs.YtpifhjdbcdcelaaDoor
