/-
  Plain facts for the laws of package block: blank lines behind all; two texts with a blank line between.
-/
import Derived.Test.YtoleoigpijgboaaDoorBlkS
import Derived.Test.YtoleoigpijgboaaDoorBlkR
namespace Go.Proofs.YtoleoigpijgboaaDoor
set_option linter.unusedSimpArgs false
set_option linter.unusedVariables false

theorem closes_blank {s : List UInt8} (h : s.all isGap = true) (c : UInt8) (n : Int) : mkCloses s c n = false := (mk_nothing (blank_nothing h)).2.2.2.1 c n
/-- What is found first, ahead of blank lines: as it was, or a fence that is open. -/
theorem firstL_end (d : Int) (q i : List (List UInt8) → List Blk) (l bl : List (List UInt8)) (hl : l ≠ []) (hb : ¬ (l.headD []).all isGap = true) (hbl : ∀ s ∈ bl, s.all isGap = true) :
    firstL d q i (l ++ bl) = firstL d q i l ∨ ∃ c c' : Blk, firstL d q i l = ([c], l.length) ∧ firstL d q i (l ++ bl) = ([c'], l.length + bl.length) ∧ c.kind = 6 := by
  cases bl with
  | nil => rw [List.append_nil]; exact Or.inl rfl
  | cons s m =>
    have hs := hbl s (by simp)
    have ht := tail_len hl
    have key : leafL (l ++ s :: m) = leafL l ∨ ∃ c c' : Blk, leafL l = (c, l.length) ∧ leafL (l ++ s :: m) = (c', l.length + (s :: m).length) ∧ c.kind = 6 := by
      unfold leafL
      rw [headD_app hl]
      by_cases h4 : 4 ≤ mCols (l.headD []) 0
      · rw [if_pos h4, if_pos h4]
        left
        unfold indentedL
        rw [deepL_blank 4 l (s :: m) hbl, take_app (deepL_le 4 l)]
      · rw [if_neg h4, if_neg h4]
        cases hf : mkFence (l.headD []) with
        | none => exact Or.inl rfl
        | some x =>
          obtain ⟨c, n, inf⟩ := x
          dsimp only
          unfold fencedL
          rw [headD_app hl, tail_app hl]
          cases hk : l.tail.findIdx? (fun s => mkCloses s c n) with
          | some k =>
            have hk2 : k < l.tail.length := by
              rw [List.findIdx?_eq_some_iff_findIdx_eq] at hk
              exact hk.1
            rw [findIdx_app _ _ _ hk]
            dsimp only
            rw [take_app (by omega)]
            exact Or.inl rfl
          | none =>
            have hn : (l.tail ++ s :: m).findIdx? (fun s => mkCloses s c n) = none := by
              rw [List.findIdx?_eq_none_iff] at hk ⊢
              intro x hx
              rcases List.mem_append.1 hx with hx | hx
              · exact hk x hx
              · exact closes_blank (hbl x hx) c n
            rw [hn]
            dsimp only
            exact Or.inr ⟨_, _, rfl, by rw [List.length_append], rfl⟩
    rcases key with key | ⟨c, c', k1, k2, k3⟩
    · left
      unfold firstL
      rw [headD_app hl, if_neg hb, if_neg hb, key]
      by_cases h1 : 0 < (leafL l).2
      · rw [if_pos h1, if_pos h1]
      rw [if_neg h1, if_neg h1, quotedL_blank hs m l]
      by_cases h2 : beginsQ d (l.headD []) = true
      · rw [if_pos h2, if_pos h2]
      rw [if_neg h2, if_neg h2]
      by_cases h3 : beginsI d (l.headD []) = true
      · rw [if_pos h3, if_pos h3]
        unfold listL
        rw [headD_app hl]
        cases hm : mkItem (l.headD []) with
        | none => rfl
        | some x =>
          obtain ⟨sg, n, c, t⟩ := x
          dsimp only
          rw [itemsL_blank d i sg (s :: m) hbl l.length _ l (Nat.le_refl _) (Nat.le_refl _) (fun e => absurd e hl), take_app (itemsL_le d i sg _ l)]
      rw [if_neg h3, if_neg h3]
      by_cases h4 : mkHtml (l.headD []) = true
      · rw [if_pos h4, if_pos h4]
        unfold rawL
        rw [rawN_blank hs, take_app (rawN_le l)]
      rw [if_neg h4, if_neg h4]
      have hp := paraN_le d l.tail
      unfold paraL
      rw [tail_app hl, paraN_blank d hs m, take_app (by omega)]
    · right
      have hpos : 0 < l.length := by omega
      refine ⟨{ c with depth := d }, { c' with depth := d }, ?_, ?_, k3⟩
      · unfold firstL
        rw [if_neg hb, k1, if_pos hpos]
      · unfold firstL
        rw [headD_app hl, if_neg hb, k2, if_pos (by simp only; omega)]
/-- Blank lines behind all. -/
theorem allL_behind (m : Nat) (bl : List (List UInt8)) (hbl : ∀ s ∈ bl, s.all isGap = true) : ∀ (n : Nat) (l : List (List UInt8)), l.length ≤ n →
    allL m (l ++ bl) = allL m l ∨ ∃ (Y : List Blk) (c c' : Blk), allL m l = Y ++ [c] ∧ allL m (l ++ bl) = Y ++ [c'] ∧ c.kind = 6
  | _, [], _ => by
    rw [List.nil_append, allL_all m bl hbl, allL_nil]
    exact Or.inl rfl
  | 0, s :: r, h => by simp at h
  | n + 1, s :: r, h => by
    by_cases hb : s.all isGap = true
    · rw [List.cons_append, allL_blank m s _ hb, allL_blank m s _ hb]
      exact allL_behind m bl hbl n r (by simp only [List.length_cons] at h; omega)
    · obtain ⟨d, q, i, e⟩ := firstM_def m
      have hp := firstM_pos m (s :: r) (by simp)
      rw [allL_step m (s :: r) (by simp), allL_step m ((s :: r) ++ bl) (by simp)]
      rw [e] at hp ⊢
      rcases some_or ((s :: r).drop (firstL d q i (s :: r)).2) with hS | hS
      · rw [firstL_stop d q i (s :: r) bl (by simp) hS, drop_app hp.2]
        rcases allL_behind m bl hbl n ((s :: r).drop (firstL d q i (s :: r)).2) (by rw [List.length_drop]; simp only [List.length_cons] at h ⊢; omega) with h1 | ⟨Y, c, c', h1, h2, h3⟩
        · rw [h1]; exact Or.inl rfl
        · rw [h1, h2]
          exact Or.inr ⟨(firstL d q i (s :: r)).1 ++ Y, c, c', by rw [List.append_assoc], by rw [List.append_assoc], h3⟩
      · rw [allL_all m _ hS, List.append_nil]
        rcases firstL_end d q i (s :: r) bl (by simp) (by rw [List.headD_cons]; exact hb) hbl with h1 | ⟨c, c', h1, h2, h3⟩
        · left
          rw [h1, drop_app hp.2, allL_all m _ (fun x hx => by
            rcases List.mem_append.1 hx with hx | hx
            · exact hS x hx
            · exact hbl x hx), List.append_nil]
        · right
          rw [h1, h2]
          simp only
          refine ⟨[], c, c', rfl, ?_, h3⟩
          rw [List.drop_of_length_le (by rw [List.length_append]; exact Nat.le_refl _), allL_nil]
          rfl
theorem parse_behind (bl : List (List UInt8)) (hbl : ∀ s ∈ bl, s.all isGap = true) (l : List (List UInt8)) :
    parseB (l ++ bl) = parseB l ∨ ∃ (Y : List Blk) (c c' : Blk), parseB l = Y ++ [c] ∧ parseB (l ++ bl) = Y ++ [c'] ∧ c.kind = 6 := allL_behind 12 bl hbl l.length l (Nat.le_refl _)

/-! ### Two texts with a blank line between -/
theorem first0_apart (l : List (List UInt8)) (m : List (List UInt8)) (hl : l ≠ []) (hb : ¬ (l.headD []).all isGap = true) (c : Blk) (hc : (firstL 0 (allL 11) (allL 10) l).1.getLast? = some c) (hd : c.depth = 0) (hk : c.kind = 1 ∨ c.kind = 7 ∨ c.kind = 2 ∨ c.kind = 8) :
    firstL 0 (allL 11) (allL 10) (l ++ [] :: m) = firstL 0 (allL 11) (allL 10) l := by
  have hs : ([] : List UInt8).all isGap = true := rfl
  unfold firstL at hc ⊢
  rw [headD_app hl]
  rw [if_neg hb] at hc ⊢
  rw [if_neg hb]
  have hlf : 0 < (leafL l).2 → (leafL l).1.kind ≠ 6 → leafL (l ++ [] :: m) = leafL l := by
    intro h1 h6
    unfold leafL at h1 h6 ⊢
    rw [headD_app hl]
    by_cases h4 : 4 ≤ mCols (l.headD []) 0
    · rw [if_pos h4] at h6
      exact absurd rfl h6
    · rw [if_neg h4] at h6
      rw [if_neg h4, if_neg h4]
      cases hf : mkFence (l.headD []) with
      | none => rfl
      | some x =>
        obtain ⟨a, n, inf⟩ := x
        rw [hf] at h6
        dsimp only at h6
        unfold fencedL at h6
        split at h6
        · exact absurd rfl h6
        · exact absurd rfl h6
  have hl0 : ¬ 0 < (leafL l).2 → leafL (l ++ [] :: m) = leafL l := by
    intro h1
    unfold leafL at h1 ⊢
    rw [headD_app hl]
    by_cases h4 : 4 ≤ mCols (l.headD []) 0
    · rw [if_pos h4] at h1
      rw [if_pos h4, if_pos h4]
      exfalso
      have hd4 : deepL 4 l = 0 := by
        have : ¬ 0 < deepL 4 l := h1
        omega
      cases l with
      | nil => exact hl rfl
      | cons s r =>
        rw [List.headD_cons] at hb h4
        simp only [deepL] at hd4
        rw [if_neg hb, if_neg (by omega)] at hd4
        omega
    · rw [if_neg h4] at h1
      rw [if_neg h4, if_neg h4]
      cases hf : mkFence (l.headD []) with
      | none => rfl
      | some x =>
        obtain ⟨a, n, inf⟩ := x
        rw [hf] at h1
        exact absurd (fencedL_pos l a n inf hl).1 (fun h => h1 h)
  by_cases h1 : 0 < (leafL l).2
  · rw [if_pos h1] at hc
    simp only [List.getLast?_singleton, Option.some.injEq] at hc
    have h6 : (leafL l).1.kind ≠ 6 := by
      intro e
      have : c.kind = 6 := by rw [← hc]; exact e
      omega
    rw [hlf h1 h6, if_pos h1, if_pos h1]
  rw [if_neg h1] at hc
  rw [hl0 h1, if_neg h1, if_neg h1]
  by_cases h2 : beginsQ 0 (l.headD []) = true
  · rw [if_pos h2] at hc
    exfalso
    have hmem := List.mem_of_getLast? hc
    rcases List.mem_cons.1 hmem with rfl | hmem
    · have : ((3 : Int) = 1 ∨ (3 : Int) = 7 ∨ (3 : Int) = 2 ∨ (3 : Int) = 8) := hk
      omega
    · have := (allL_sound 11 _ c hmem).1
      omega
  rw [if_neg h2] at hc
  rw [if_neg h2, if_neg h2]
  by_cases h3 : beginsI 0 (l.headD []) = true
  · rw [if_pos h3] at hc
    exfalso
    unfold listL at hc
    cases hm : mkItem (l.headD []) with
    | none => rw [hm] at hc; simp at hc
    | some x =>
      obtain ⟨sg, n, c2, t⟩ := x
      rw [hm] at hc
      dsimp only at hc
      have hmem := List.mem_of_getLast? hc
      rcases List.mem_cons.1 hmem with rfl | hmem
      · have : ((4 : Int) = 1 ∨ (4 : Int) = 7 ∨ (4 : Int) = 2 ∨ (4 : Int) = 8) := hk
        omega
      · have := (itemsL_sound (d := 0) (by omega) (allL 10) (fun l b hb => by
          have := allL_sound 10 l b hb
          rw [show (12 : Int) - ((10 : Nat) : Int) = 0 + 2 from by omega] at this
          exact this) sg l.length l c hmem).1
        omega
  rw [if_neg h3] at hc
  rw [if_neg h3, if_neg h3]
  by_cases h4 : mkHtml (l.headD []) = true
  · rw [if_pos h4, if_pos h4]
    unfold rawL
    rw [rawN_blank hs, take_app (rawN_le l)]
  rw [if_neg h4, if_neg h4]
  have hp := paraN_le 0 l.tail
  have ht := tail_len hl
  unfold paraL
  rw [tail_app hl, paraN_blank 0 hs m, take_app (by omega)]
theorem parse_apart (m : List (List UInt8)) : ∀ (n : Nat) (l : List (List UInt8)), l.length ≤ n → ∀ c : Blk, (parseB l).getLast? = some c → c.depth = 0 → (c.kind = 1 ∨ c.kind = 7 ∨ c.kind = 2 ∨ c.kind = 8) → parseB (l ++ [] :: m) = parseB l ++ parseB m
  | _, [], _, c, hc, _, _ => by
    rw [show parseB [] = [] from allL_nil 12] at hc
    cases hc
  | 0, s :: r, h, _, _, _, _ => by simp at h
  | n + 1, s :: r, h, c, hc, hd, hk => by
    by_cases hb : s.all isGap = true
    · have e1 : ∀ t, parseB (s :: t) = parseB t := fun t => allL_blank 12 s t hb
      rw [List.cons_append, e1, e1]
      rw [e1] at hc
      exact parse_apart m n r (by simp only [List.length_cons] at h; omega) c hc hd hk
    · have e : firstM 12 = firstL 0 (allL 11) (allL 10) := by
        show firstL (10 - ((10 : Nat) : Int)) (allL 11) (allL 10) = _
        rw [show (10 : Int) - ((10 : Nat) : Int) = 0 from by omega]
      have hp := firstM_pos 12 (s :: r) (by simp)
      have hstep : ∀ t, t ≠ [] → parseB t = (firstM 12 t).1 ++ parseB (t.drop (firstM 12 t).2) := fun t ht => allL_step 12 t ht
      rw [hstep (s :: r) (by simp)] at hc ⊢
      rw [hstep ((s :: r) ++ [] :: m) (by simp)]
      rw [e] at hp hc ⊢
      rcases some_or ((s :: r).drop (firstL 0 (allL 11) (allL 10) (s :: r)).2) with hS | hS
      · have hne : parseB ((s :: r).drop (firstL 0 (allL 11) (allL 10) (s :: r)).2) ≠ [] := allL_some 12 _ hS
        have hc2 : (parseB ((s :: r).drop (firstL 0 (allL 11) (allL 10) (s :: r)).2)).getLast? = some c := by
          cases hq : (parseB ((s :: r).drop (firstL 0 (allL 11) (allL 10) (s :: r)).2)).getLast? with
          | none => exact absurd (List.getLast?_eq_none_iff.1 hq) hne
          | some c' =>
            rw [List.getLast?_append, hq] at hc
            exact hc
        rw [firstL_stop 0 _ _ (s :: r) ([] :: m) (by simp) hS, drop_app hp.2, parse_apart m n _ (by rw [List.length_drop]; simp only [List.length_cons] at h ⊢; omega) c hc2 hd hk, List.append_assoc]
      · have h0 : parseB ((s :: r).drop (firstL 0 (allL 11) (allL 10) (s :: r)).2) = [] := allL_all 12 _ hS
        rw [h0, List.append_nil] at hc ⊢
        rw [first0_apart (s :: r) m (by simp) (by rw [List.headD_cons]; exact hb) c hc hd hk, drop_app hp.2]
        congr 1
        show allL 12 _ = allL 12 _
        rw [allL_blanks 12 _ _ hS, allL_blank 12 [] m rfl]

end Go.Proofs.YtoleoigpijgboaaDoor
