/-
  Package slug: stays, dashed, Of.
-/
import Derived.Test.YtpifhjdbcdcelaaDoorSlA
import Derived.Deep.AppendLies
import Derived.Laws.IdiomStrings
import Derived.Laws.BytesArg
namespace Go.Proofs.YtpifhjdbcdcelaaDoor
open Go.RowKit Go.Maps
set_option linter.unusedSimpArgs false
set_option linter.unusedVariables false
set_option maxRecDepth 100000

/-! ### plain -/
def slKeepI (r : Int) : Bool := (decide (97 ≤ r) && decide (r ≤ 122)) || (decide (48 ≤ r) && decide (r ≤ 57))
theorem keepI_nat (b : UInt8) : slKeepI b.toNat = slKeep b := by
  unfold slKeepI slKeep
  have h1 : decide ((97 : Int) ≤ b.toNat) = decide (97 ≤ b.toNat) := by congr 1; apply propext; omega
  have h2 : decide ((b.toNat : Int) ≤ 122) = decide (b.toNat ≤ 122) := by congr 1; apply propext; omega
  have h3 : decide ((48 : Int) ≤ b.toNat) = decide (48 ≤ b.toNat) := by congr 1; apply propext; omega
  have h4 : decide ((b.toNat : Int) ≤ 57) = decide (b.toNat ≤ 57) := by congr 1; apply propext; omega
  rw [h1, h2, h3, h4]
theorem high_keep {b : UInt8} (h : 128 ≤ b.toNat) : slKeep b = false := by
  simp [slKeep]; omega
theorem goesOn_high {b : UInt8} (h : goesOn b = true) : 128 ≤ b.toNat := by
  simp [goesOn] at h; omega
theorem dec_small {x : UInt8} {m : List UInt8} (h : (dec (x :: m)).1 < 128) : x.toNat = (dec (x :: m)).1 ∧ (dec (x :: m)).2 = 1 := by
  unfold dec at h ⊢
  dsimp only [List.getD_cons_zero] at h ⊢
  split at h
  · rename_i h1; rw [if_pos h1]; exact ⟨rfl, rfl⟩
  · rename_i h1
    split at h
    · split at h
      · rename_i h2; dsimp only at h; omega
      · dsimp only at h; omega
    · split at h
      · split at h
        · rename_i h2; simp only [Bool.and_eq_true, decide_eq_true_eq] at h2; dsimp only at h; omega
        · dsimp only at h; omega
      · split at h
        · split at h
          · rename_i h2; simp only [Bool.and_eq_true, decide_eq_true_eq] at h2; dsimp only at h; omega
          · dsimp only at h; omega
        · dsimp only at h; omega
theorem takeWhile_ok {α : Type} (p : α → Bool) : ∀ (l : List α) (c : α), c ∈ l.takeWhile p → p c = true
  | [], c, h => by simp at h
  | x :: l, c, h => by
    rw [List.takeWhile_cons] at h
    split at h
    · next hx =>
      rcases List.mem_cons.1 h with rfl | h
      · exact hx
      · exact takeWhile_ok p l c h
    · simp at h
theorem run_take (l : List UInt8) (n : Nat) (h : n ≤ (run l).length) : l.take n = (run l).take n := by
  obtain ⟨t, ht⟩ : ∃ t, l = run l ++ t := by
    obtain ⟨t, ht⟩ := (List.takeWhile_prefix goesOn : l.takeWhile goesOn <+: l)
    exact ⟨t, ht.symm⟩
  have : (run l ++ t).take n = (run l).take n := List.take_append_of_le_length h
  rw [← ht] at this
  exact this
/-- A rune that stays is one byte. -/
theorem seg_keep {b : UInt8} {l : List UInt8} (h : slKeepI (dec (b :: l)).1 = true) : (dec (b :: l)).2 = 1 ∧ (dec (b :: l)).1 = b.toNat ∧ slKeep b = true := by
  have hs : (dec (b :: l)).1 < 128 := by simp [slKeepI] at h; omega
  obtain ⟨h1, h2⟩ := dec_small hs
  exact ⟨h2, h1.symm, by rw [← keepI_nat, h1]; exact h⟩
/-- The bytes of another one are none that stay. -/
theorem seg_other {b : UInt8} {l : List UInt8} (h : slKeepI (dec (b :: l)).1 = false) : slKeep b = false ∧ ∀ c ∈ ((b :: l).take (dec (b :: l)).2).drop 1, slKeep c = false := by
  by_cases hb : b.toNat < 128
  · rw [dec_ascii b l hb] at h ⊢
    exact ⟨by rw [← keepI_nat]; exact h, by intro c hc; simp at hc⟩
  · refine ⟨high_keep (by omega), fun c hc => ?_⟩
    have hw := (dec_width b (run l)).2
    rw [← dec_run] at hw
    have : c ∈ run l := by
      rw [List.drop_take, show (b :: l).drop 1 = l from rfl, run_take l _ (by omega)] at hc
      exact List.mem_of_mem_take hc
    have h3 : goesOn c = true := takeWhile_ok goesOn l c this
    exact high_keep (goesOn_high h3)
theorem slRow_step (f : List UInt8) (pos : Nat) (b : UInt8) (l : List UInt8) (hd : f.drop pos = b :: l) : slRow (f.take (pos + (dec (b :: l)).2)) = slOne (slRow (f.take pos)) b := by
  have hn := (dec_width b l).1
  have e : f.take (pos + (dec (b :: l)).2) = f.take pos ++ (b :: l).take (dec (b :: l)).2 := by
    rw [List.take_add, hd]
  rw [e, slRow_append]
  obtain ⟨n, hn2⟩ : ∃ n, (dec (b :: l)).2 = n + 1 := ⟨(dec (b :: l)).2 - 1, by omega⟩
  by_cases hk : slKeepI (dec (b :: l)).1 = true
  · obtain ⟨h1, _, _⟩ := seg_keep hk
    rw [h1]
    rfl
  · have hk' : slKeepI (dec (b :: l)).1 = false := by simpa using hk
    obtain ⟨h1, h2⟩ := seg_other hk'
    rw [hn2] at h2 ⊢
    rw [List.take_succ_cons] at h2 ⊢
    exact slFold_others _ _ b h1 (fun c hc => h2 c (by simpa using hc))
theorem slOne_yes (id : List UInt8) (b : UInt8) (h : slKeep b = true) : slOne id b = id ++ [b] := by unfold slOne; rw [if_pos h]
theorem slOne_dash (id : List UInt8) (b : UInt8) (h : slKeep b = false) (h1 : id ≠ []) (h2 : (id.getLastD 0 == 45) = false) : slOne id b = id ++ [45] := by
  unfold slOne
  rw [if_neg (by rw [h]; simp), if_neg]
  intro e
  obtain ⟨p, z, rfl⟩ := snoc_of h1
  rw [getLastD_snoc] at e h2
  subst e
  simp at h2
theorem slOne_same (id : List UInt8) (b : UInt8) (h : slKeep b = false) (h1 : id = [] ∨ (id.getLastD 0 == 45) = true) : slOne id b = id := by
  unfold slOne
  rw [if_neg (by rw [h]; simp), if_pos]
  rcases h1 with rfl | h1
  · rfl
  · by_cases hn : id = []
    · subst hn; rfl
    · obtain ⟨p, z, rfl⟩ := snoc_of hn
      rw [getLastD_snoc] at h1 ⊢
      simpa using h1

/-! ### walks -/
theorem stays_any (r : Int) (w : World) : Calls Tryd.prog 24 #[.int .i32 r] w fun e w' => e = .returned (.bool (slKeepI r)) ∧ w = w' := by
  unfold slKeepI
  go_enter Tryd.func24, Tryd.ntmps24
  go_wp2
  all_goals (go_ret; refine ⟨ret_bool ?_, rfl⟩; simp_all <;> omega)

set_option maxHeartbeats 4000000 in
theorem dashed_any (A : Option Addr) (cap : Nat) (l : List UInt8) (w : World) (h : RowOf w A cap (Lib.byteCells l)) :
    Calls Tryd.prog 25 #[.slice A l.length cap] w fun e w' => e = .returned (.bool (l.getLastD 0 == 45)) ∧ w = w' := by
  have hle := h.1
  have hcap := h.2.1
  rw [Lib.byteCells_length] at hle
  unfold maxLen at hcap
  by_cases hl : l = []
  · subst hl
    clear h
    go_enter Tryd.func25, Tryd.ntmps25
    go_wp2
    go_ret
    exact ⟨rfl, rfl⟩
  · obtain ⟨p, z, rfl⟩ := snoc_of hl
    obtain ⟨b, off, rfl, hb, hc⟩ := h.at (by intro e; have := congrArg List.length e; rw [Lib.byteCells_length] at this; simp at this)
    have hz := hc p.length (by rw [Lib.byteCells_length]; simp)
    rw [show (Lib.byteCells (p ++ [z]))[p.length]'(by rw [Lib.byteCells_length]; simp) = .int .u8 z.toNat from by simp [Lib.byteCells]] at hz
    rw [getLastD_snoc]
    rw [List.length_append, List.length_singleton] at hle ⊢
    have hw : ((p.length + 1 : Nat) : Int) - 1 = (p.length : Int) := by omega
    have e45 : ((z.toNat : Int) == 45) = (z == 45) := by
      rw [Bool.eq_iff_iff]
      simp only [beq_iff_eq]
      exact ⟨fun e => UInt8.toNat_inj.1 (by show z.toNat = 45; omega), fun e => by rw [e]; rfl⟩
    have hp0 : 0 < p.length + 1 := by omega
    clear h hc hl
    generalize p.length + 1 = n at *
    generalize p.length = k at *
    cases hzz : (z == 45) with
    | true =>
      rw [hzz] at e45
      clear hzz
      go_enter Tryd.func25, Tryd.ntmps25
      go_wp2
      go_ret
      exact ⟨rfl, rfl⟩
    | false =>
      rw [hzz] at e45
      clear hzz
      go_enter Tryd.func25, Tryd.ntmps25
      go_wp2
      go_ret
      exact ⟨rfl, rfl⟩

end Go.Proofs.YtpifhjdbcdcelaaDoor
