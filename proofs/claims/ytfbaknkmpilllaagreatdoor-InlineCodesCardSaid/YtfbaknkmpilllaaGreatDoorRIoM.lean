/- Texts joined: IoM. -/
import Derived.Test.YtfbaknkmpilllaaGreatDoorQAN
namespace Go.Proofs.YtfbaknkmpilllaaGreatDoor
open Go.RowKit
set_option linter.unusedSimpArgs false
set_option linter.unusedVariables false
theorem pot_go {C : Nat} (hC : 3 ≤ C) (E : Env) (D : List Dfn) (s : List UInt8) (htok : ∀ l : List UInt8, l ≠ [] → tokN E (nextL l).1 ≤ C * (nextL l).2) (hat : ∀ k x, E.atom k = some x → WrapD x) : ∀ (f i j : Nat) (l : List Ent), j ≤ i → j ≤ s.length → PotSt C j l → ∃ j', j' ≤ s.length ∧ PotSt C j' (inlGo E D s f i l)
  | 0, i, j, l, _, hj, h => ⟨j, hj, h⟩
  | f + 1, i, j, l, hji, hj, h => by
    unfold inlGo
    split
    · next hi =>
      have hne : s.drop i ≠ [] := by intro e; have := congrArg List.length e; simp at this; omega
      have hlen := next_len _ hne
      rw [List.length_drop] at hlen
      have ht := htok _ hne
      have hr := next_run_len (s.drop i)
      generalize nextL (s.drop i) = q at *
      obtain ⟨t, n⟩ := q
      dsimp only at *
      have hs := pot_step hC E D s i n t l hlen.1 ht (fun b k e => by subst e; exact hr b k n rfl) hat (h.less hji)
      exact pot_go hC E D s htok hat f _ (i + n) _ (by omega) (by omega) hs
    · exact ⟨j, hj, h⟩
theorem pot_nil (C : Nat) : PotSt C 0 [] := ⟨Nat.le_refl _, Nat.zero_le _, (by intro x hx; cases hx), wrapD_nil, (by intro img p sh hm; cases hm)⟩
theorem inl_siz {C : Nat} (hC : 3 ≤ C) (E : Env) (D : List Dfn) (s : List UInt8) (htok : ∀ l : List UInt8, l ≠ [] → tokN E (nextL l).1 ≤ C * (nextL l).2) (hat : ∀ k x, E.atom k = some x → WrapD x) : sizI (inlE E D s) ≤ C * s.length ∧ WrapD (inlE E D s) := by
  obtain ⟨j, hj, h⟩ := pot_go hC E D s htok hat s.length 0 0 [] (Nat.le_refl _) (Nat.zero_le _) (pot_nil C)
  unfold inlE
  refine ⟨?_, wrapD_group ?_⟩
  · refine Nat.le_trans (group_pot _) ?_
    rw [List.map_reverse, potI_reverse]
    exact Nat.le_trans h.pot (Nat.mul_le_mul_left _ hj)
  · rw [List.map_reverse]
    exact allI_rev h.wd
theorem raw_siz (D : List Dfn) (s : List UInt8) : sizI (rawI D s) ≤ 8 * s.length ∧ WrapD (rawI D s) :=
  inl_siz (by omega) rawE D s (fun l hl => next_tokN (E := rawE) (M := 0) (C := 8) (fun c => restL_len (fun k => Nat.zero_le _) c) (fun k x e => by cases e) (by omega) l hl) (fun k x e => by cases e)
theorem atm_is {D : List Dfn} {As : List Atm} {k : Int} {x : List Iln} (h : (atmE D As).atom k = some x) : ∃ n : Nat, ∃ hn : n < As.length, k = n ∧ x = ⟨12, 0, As[n].lb, [], []⟩ :: deepI (rawI D As[n].tx) := by
  unfold atmE at h
  dsimp only at h
  split at h
  · next hk =>
    have hn : k.toNat < As.length := by omega
    refine ⟨k.toNat, hn, by omega, ?_⟩
    injection h with h
    rw [← h, show As.getD k.toNat ⟨[], []⟩ = As[k.toNat] from by simp [List.getD, List.getElem?_eq_getElem hn]]
  · cases h
theorem atm_at (D : List Dfn) (As : List Atm) (n : Nat) (hn : n < As.length) : (atmE D As).atom (n : Int) = some (⟨12, 0, As[n].lb, [], []⟩ :: deepI (rawI D As[n].tx)) := by
  unfold atmE
  dsimp only
  rw [if_pos (by omega), show ((n : Int)).toNat = n from by omega, show As.getD n ⟨[], []⟩ = As[n] from by simp [List.getD, List.getElem?_eq_getElem hn]]
theorem atm_no (D : List Dfn) (As : List Atm) (n : Nat) (hn : ¬ n < As.length) : (atmE D As).atom (n : Int) = none := by
  unfold atmE
  dsimp only
  rw [if_neg (by omega)]
theorem atm_siz (D : List Dfn) (As : List Atm) (M : Nat) (hM : ∀ a ∈ As, a.tx.length ≤ M) (k : Int) (x : List Iln) (h : (atmE D As).atom k = some x) : sizI x ≤ 1 + 8 * M ∧ WrapD x := by
  obtain ⟨n, hn, rfl, rfl⟩ := atm_is h
  have h1 := (raw_siz D As[n].tx).1
  have h2 := hM _ (List.getElem_mem hn)
  refine ⟨?_, ?_⟩
  · rw [sizI_cons, sizI_deep]
    show 1 + 0 + _ ≤ _
    omega
  · intro y hy
    rcases List.mem_cons.1 hy with rfl | hy
    · rfl
    · exact wrapD_deep _ y hy
theorem atm_code (D : List Dfn) (As : List Atm) (M : Nat) (hM : ∀ a ∈ As, a.tx.length ≤ M) (c : List UInt8) : ((atmE D As).code c).length ≤ (1 + M) * c.length := by
  refine restL_len (fun k => ?_) c
  show (if 0 ≤ k ∧ k < As.length then (As.getD k.toNat ⟨[], []⟩).tx else []).length ≤ M
  split
  · next hk =>
    have hn : k.toNat < As.length := by omega
    rw [show As.getD k.toNat ⟨[], []⟩ = As[k.toNat] from by simp [List.getD, List.getElem?_eq_getElem hn]]
    exact hM _ (List.getElem_mem hn)
  · exact Nat.zero_le _
theorem atm_tok (D : List Dfn) (As : List Atm) (M : Nat) (hM : ∀ a ∈ As, a.tx.length ≤ M) (l : List UInt8) (hl : l ≠ []) : tokN (atmE D As) (nextL l).1 ≤ (8 + 8 * M) * (nextL l).2 :=
  next_tokN (M := M) (atm_code D As M hM) (fun k x e => by have := (atm_siz D As M hM k x e).1; omega) (by omega) l hl
end Go.Proofs.YtfbaknkmpilllaaGreatDoor
