/-
  Plain facts of the layer block: lines behind other ones: what does not go on stays as it is; blank lines behind all.
-/
import Derived.Test.YtoleoigpijgboaaDoorBlkP
namespace Go.Proofs.YtoleoigpijgboaaDoor
set_option linter.unusedSimpArgs false
set_option linter.unusedVariables false

/-- Some line is not blank. -/
def Some' (l : List (List UInt8)) : Prop := ∃ s ∈ l, ¬ s.all isGap = true
theorem Some'.ne {l : List (List UInt8)} (h : Some' l) : l ≠ [] := by
  rintro rfl
  obtain ⟨s, hs, _⟩ := h
  simp at hs
theorem Some'.cons_blank {s : List UInt8} {l : List (List UInt8)} (h : Some' (s :: l)) (hb : s.all isGap = true) : Some' l := by
  obtain ⟨x, hx, hn⟩ := h
  rcases List.mem_cons.1 hx with rfl | hx
  · exact absurd hb hn
  · exact ⟨x, hx, hn⟩
theorem some_or (l : List (List UInt8)) : Some' l ∨ ∀ s ∈ l, s.all isGap = true := by
  by_cases h : Some' l
  · exact Or.inl h
  · exact Or.inr fun s hs => Classical.byContradiction fun hn => h ⟨s, hs, hn⟩

/-- A blank line begins nothing. -/
theorem blank_drop : ∀ s : List UInt8, s.all isGap = true → s.drop (mSize s) = [] := by
  intro s h
  rw [(mSize_all s).2 h]
  simp
theorem blank_nothing {s : List UInt8} (h : s.all isGap = true) : mkBegin s = [] := by
  unfold mkBegin
  rw [blank_drop s h]
  split <;> rfl

theorem deepL_blank (c : Nat) : ∀ (l bl : List (List UInt8)), (∀ s ∈ bl, s.all isGap = true) → deepL c (l ++ bl) = deepL c l
  | [], [], _ => rfl
  | [], s :: bl, h => by
    have ih := deepL_blank c [] bl (fun x hx => h x (by simp [hx]))
    rw [List.nil_append] at ih ⊢
    simp only [deepL, h s (by simp), if_true, ih]
  | s :: l, bl, h => by
    have ih := deepL_blank c l bl h
    rw [List.cons_append]
    simp only [deepL, ih]
theorem deepL_stop (c : Nat) : ∀ (l m : List (List UInt8)), Some' (l.drop (deepL c l)) → deepL c (l ++ m) = deepL c l
  | [], m, h => by exact absurd rfl h.ne
  | s :: l, m, h => by
    rw [List.cons_append]
    simp only [deepL] at h ⊢
    cases hb : s.all isGap with
    | true =>
      rw [hb] at h
      simp only [if_true] at h ⊢
      by_cases h0 : deepL c l = 0
      · rw [if_pos h0, List.drop_zero] at h
        have ih := deepL_stop c l m (by rw [h0, List.drop_zero]; exact h.cons_blank hb)
        rw [ih]
      · rw [if_neg h0, List.drop_succ_cons] at h
        rw [deepL_stop c l m h]
    | false =>
      rw [hb] at h
      simp only [Bool.false_eq_true, if_false] at h ⊢
      by_cases hc : mCols s 0 < c
      · rw [if_pos hc, if_pos hc]
      · rw [if_neg hc, List.drop_succ_cons] at h
        rw [if_neg hc, if_neg hc, deepL_stop c l m h]
theorem blanksL_stop : ∀ (l m : List (List UInt8)), Some' l → blanksL (l ++ m) = blanksL l ∧ blanksL l < l.length ∧ Some' (l.drop (blanksL l))
  | [], m, h => absurd rfl h.ne
  | s :: l, m, h => by
    rw [List.cons_append]
    simp only [blanksL]
    cases hb : s.all isGap with
    | true =>
      obtain ⟨h1, h2, h3⟩ := blanksL_stop l m (h.cons_blank hb)
      simp only [if_true, List.length_cons, List.drop_succ_cons]
      exact ⟨by rw [h1], by omega, h3⟩
    | false =>
      simp only [Bool.false_eq_true, if_false, List.length_cons, List.drop_zero]
      exact ⟨trivial, by omega, h⟩
theorem blanksL_all : ∀ (l : List (List UInt8)), (∀ s ∈ l, s.all isGap = true) → blanksL l = l.length
  | [], _ => rfl
  | s :: l, h => by
    simp only [blanksL, h s (by simp), if_true, List.length_cons]
    rw [blanksL_all l (fun x hx => h x (by simp [hx]))]
theorem quotedL_stop : ∀ (l m : List (List UInt8)), (quotedL l).length < l.length → quotedL (l ++ m) = quotedL l
  | [], m, h => by simp at h
  | s :: l, m, h => by
    rw [List.cons_append]
    simp only [quotedL] at h ⊢
    cases hq : mkQuote s with
    | none => rfl
    | some t =>
      rw [hq] at h
      simp only [List.length_cons] at h
      simp only
      rw [quotedL_stop l m (by omega)]
theorem quotedL_blank {s : List UInt8} (h : s.all isGap = true) (m : List (List UInt8)) : ∀ l, quotedL (l ++ s :: m) = quotedL l
  | [] => by
    rw [List.nil_append]
    simp only [quotedL, (mk_nothing (blank_nothing h)).2.2.2.2.1]
  | x :: l => by
    rw [List.cons_append]
    simp only [quotedL]
    rw [quotedL_blank h m l]
theorem rawN_stop (l m : List (List UInt8)) (h : rawN l < l.length) : rawN (l ++ m) = rawN l := by
  unfold rawN at *
  induction l with
  | nil => simp at h
  | cons s l ih =>
    rw [List.cons_append, List.takeWhile_cons, List.takeWhile_cons]
    rw [List.takeWhile_cons] at h
    split
    · rename_i hs
      rw [if_pos hs] at h
      simp only [List.length_cons] at h ⊢
      rw [ih (by omega)]
    · rfl
theorem rawN_blank {s : List UInt8} (h : s.all isGap = true) (l m : List (List UInt8)) : rawN (l ++ s :: m) = rawN l := by
  unfold rawN
  induction l with
  | nil => rw [List.nil_append, List.takeWhile_cons, if_neg (by simp [h])]; rfl
  | cons x l ih =>
    rw [List.cons_append, List.takeWhile_cons, List.takeWhile_cons]
    split
    · simp only [List.length_cons]; rw [ih]
    · rfl
theorem paraN_stop (d : Int) : ∀ (l m : List (List UInt8)), (paraN d l).1 + min (paraN d l).2 1 < l.length → paraN d (l ++ m) = paraN d l
  | [], m, h => by simp at h
  | s :: l, m, h => by
    rw [List.cons_append]
    simp only [paraN] at h ⊢
    by_cases h1 : 0 < mkUnder s
    · rw [if_pos h1, if_pos h1]
    rw [if_neg h1] at h
    rw [if_neg h1, if_neg h1]
    by_cases h2 : endsP d s = true
    · rw [if_pos h2, if_pos h2]
    rw [if_neg h2] at h
    rw [if_neg h2, if_neg h2]
    simp only [List.length_cons] at h
    rw [paraN_stop d l m (by omega)]
theorem paraN_blank (d : Int) {s : List UInt8} (h : s.all isGap = true) (m : List (List UInt8)) : ∀ l, paraN d (l ++ s :: m) = paraN d l
  | [] => by
    rw [List.nil_append]
    simp only [paraN, (mk_nothing (blank_nothing h)).2.2.2.2.2.2.1]
    rw [if_neg (by omega), if_pos (by simp [endsP, h])]
  | x :: l => by
    rw [List.cons_append]
    simp only [paraN]
    rw [paraN_blank d h m l]
theorem take_app {l m : List (List UInt8)} {k : Nat} (h : k ≤ l.length) : (l ++ m).take k = l.take k := List.take_append_of_le_length h
theorem drop_app {l m : List (List UInt8)} {k : Nat} (h : k ≤ l.length) : (l ++ m).drop k = l.drop k ++ m := List.drop_append_of_le_length h
theorem headD_app {l : List (List UInt8)} (h : l ≠ []) (m : List (List UInt8)) : (l ++ m).headD [] = l.headD [] := by
  cases l with
  | nil => exact absurd rfl h
  | cons s l => rfl
theorem tail_app {l : List (List UInt8)} (h : l ≠ []) (m : List (List UInt8)) : (l ++ m).tail = l.tail ++ m := by
  cases l with
  | nil => exact absurd rfl h
  | cons s l => rfl
theorem tail_len {l : List (List UInt8)} (h : l ≠ []) : l.tail.length + 1 = l.length := by
  cases l with
  | nil => exact absurd rfl h
  | cons a t => simp
theorem findIdx_app {α : Type} (p : α → Bool) (l m : List α) {k : Nat} (h : l.findIdx? p = some k) : (l ++ m).findIdx? p = some k := by
  rw [List.findIdx?_append, h]; rfl
theorem some_len {l : List (List UInt8)} {k : Nat} (h : Some' (l.drop k)) : k < l.length := by
  have := h.ne
  rw [Ne, List.drop_eq_nil_iff] at this
  omega
/-- A leaf behind which a line is that is not blank. -/
theorem leafL_stop (l m : List (List UInt8)) (hl : l ≠ []) (h : Some' (l.drop (leafL l).2)) : leafL (l ++ m) = leafL l := by
  have hlen := some_len h
  unfold leafL at h hlen ⊢
  rw [headD_app hl]
  split
  · rename_i h4
    rw [if_pos h4] at h
    unfold indentedL at h ⊢
    dsimp only at h
    rw [deepL_stop 4 l m h, take_app (deepL_le 4 l)]
  · rename_i h4
    rw [if_neg h4] at hlen
    cases hf : mkFence (l.headD []) with
    | some x =>
      obtain ⟨c, n, i⟩ := x
      rw [hf] at hlen
      dsimp only at hlen ⊢
      unfold fencedL at hlen ⊢
      rw [headD_app hl, tail_app hl]
      cases hk : l.tail.findIdx? (fun s => mkCloses s c n) with
      | some k =>
        have hk2 : k < l.tail.length := by
          rw [List.findIdx?_eq_some_iff_findIdx_eq] at hk
          exact hk.1
        rw [findIdx_app _ _ _ hk]
        dsimp only
        rw [take_app (by omega)]
      | none =>
        rw [hk] at hlen
        dsimp only at hlen
        omega
    | none => rfl
/-- A leaf ahead of blank lines: as it was, or a fence that is open. -/
theorem leafL_blank (l : List (List UInt8)) (s : List UInt8) (m : List (List UInt8)) (hl : l ≠ []) (hs : s.all isGap = true) (h4 : ¬ 4 ≤ mCols (l.headD []) 0) (hf : mkFence (l.headD []) = none) : leafL (l ++ s :: m) = leafL l := by
  unfold leafL
  rw [headD_app hl, if_neg h4, if_neg h4, hf]
theorem itemsL_stop (d : Int) (i : List (List UInt8) → List Blk) (sg : UInt8) (m : List (List UInt8)) : ∀ f g (l : List (List UInt8)), l.length ≤ f → (l ++ m).length ≤ g → Some' (l.drop (itemsL d i sg f l).2) → itemsL d i sg g (l ++ m) = itemsL d i sg f l
  | 0, g, [], _, _, h => absurd rfl h.ne
  | 0, g, s :: r, h, _, _ => by simp at h
  | f + 1, g, [], _, _, h => absurd rfl h.ne
  | f + 1, 0, s :: r, _, h, _ => by simp at h
  | f + 1, g + 1, s :: r, h1, h2, h => by
    rw [List.cons_append] at h2 ⊢
    simp only [List.length_cons] at h1 h2
    cases hm : mkItem s with
    | none => simp only [itemsL, hm]
    | some x =>
      obtain ⟨sg', n, cols, text⟩ := x
      by_cases hsg : sg' = sg
      · simp only [itemsL, hm, hsg, eq_self, if_true] at h ⊢
        have hk := deepL_le cols r
        have key : Some' (r.drop (deepL cols r)) ∧ itemsL d i sg g ((r.drop (deepL cols r + blanksL (r.drop (deepL cols r)))) ++ m) = itemsL d i sg f (r.drop (deepL cols r + blanksL (r.drop (deepL cols r)))) := by
          generalize hX : itemsL d i sg f (r.drop (deepL cols r + blanksL (r.drop (deepL cols r)))) = X at h ⊢
          by_cases h0 : X.2 = 0
          · rw [if_pos h0, show 1 + deepL cols r = deepL cols r + 1 from by omega, List.drop_succ_cons] at h
            refine ⟨h, ?_⟩
            obtain ⟨_, h5, h6⟩ := blanksL_stop (r.drop (deepL cols r)) m h
            rw [← hX]
            refine itemsL_stop d i sg m f g _ (by rw [List.length_drop]; omega) (by rw [List.length_append, List.length_drop]; rw [List.length_append] at h2; omega) ?_
            rw [hX, h0, List.drop_zero, ← List.drop_drop]
            exact h6
          · rw [if_neg h0, show 1 + deepL cols r + blanksL (r.drop (deepL cols r)) + X.2 = (deepL cols r + blanksL (r.drop (deepL cols r)) + X.2) + 1 from by omega, List.drop_succ_cons] at h
            have hS : Some' (r.drop (deepL cols r)) := by
              obtain ⟨x, hx, hn⟩ := h
              refine ⟨x, ?_, hn⟩
              rw [show deepL cols r + blanksL (r.drop (deepL cols r)) + X.2 = deepL cols r + (blanksL (r.drop (deepL cols r)) + X.2) from by omega, ← List.drop_drop] at hx
              exact List.mem_of_mem_drop hx
            refine ⟨hS, ?_⟩
            rw [← hX]
            refine itemsL_stop d i sg m f g _ (by rw [List.length_drop]; omega) (by rw [List.length_append, List.length_drop]; rw [List.length_append] at h2; omega) ?_
            rw [hX, List.drop_drop]
            exact h
        have hd := deepL_stop cols r m key.1
        have hb := (blanksL_stop (r.drop (deepL cols r)) m key.1)
        rw [hd, take_app hk, drop_app hk, hb.1]
        rw [drop_app (k := deepL cols r + blanksL (r.drop (deepL cols r))) (by have := hb.2.1; rw [List.length_drop] at this; omega), key.2]
      · simp only [itemsL, hm, hsg, if_false]
theorem itemsL_blank (d : Int) (i : List (List UInt8) → List Blk) (sg : UInt8) (bl : List (List UInt8)) (hbl : ∀ s ∈ bl, s.all isGap = true) : ∀ f g (l : List (List UInt8)), l.length ≤ f → (l ++ bl).length ≤ g → (l = [] → bl = []) → itemsL d i sg g (l ++ bl) = itemsL d i sg f l
  | 0, g, [], _, _, h => by
    rw [h rfl]
    cases g <;> rfl
  | 0, g, s :: r, h, _, _ => by simp at h
  | f + 1, g, [], _, _, h => by
    rw [h rfl]
    cases g <;> rfl
  | f + 1, 0, s :: r, _, h, _ => by simp at h
  | f + 1, g + 1, s :: r, h1, h2, _ => by
    rw [List.cons_append] at h2 ⊢
    simp only [List.length_cons] at h1 h2
    cases hm : mkItem s with
    | none => simp only [itemsL, hm]
    | some x =>
      obtain ⟨sg', n, cols, text⟩ := x
      by_cases hsg : sg' = sg
      · have hk := deepL_le cols r
        have hd := deepL_blank cols r bl hbl
        simp only [itemsL, hm, hsg, eq_self, if_true]
        rw [hd, take_app hk, drop_app hk]
        rcases some_or (r.drop (deepL cols r)) with hS | hS
        · have hb := (blanksL_stop (r.drop (deepL cols r)) bl hS)
          have hlt : deepL cols r + blanksL (r.drop (deepL cols r)) < r.length := by have := hb.2.1; rw [List.length_drop] at this; omega
          rw [hb.1, drop_app (by omega), itemsL_blank d i sg bl hbl f g _ (by rw [List.length_drop]; omega) (by rw [List.length_append, List.length_drop]; rw [List.length_append] at h2; omega) (fun e => by rw [List.drop_eq_nil_iff] at e; omega)]
        · have e1 : itemsL d i sg f (r.drop (deepL cols r + blanksL (r.drop (deepL cols r)))) = ([], 0) := by
            rw [blanksL_all _ hS, List.length_drop, show deepL cols r + (r.length - deepL cols r) = r.length from by omega, List.drop_length]
            cases f <;> rfl
          have e2 : itemsL d i sg g ((r ++ bl).drop (deepL cols r + blanksL (r.drop (deepL cols r) ++ bl))) = ([], 0) := by
            rw [blanksL_all _ (fun s hs => by
              rcases List.mem_append.1 hs with h | h
              · exact hS s h
              · exact hbl s h), List.length_append, List.length_drop, List.drop_eq_nil_of_le (by rw [List.length_append]; omega)]
            cases g <;> rfl
          rw [e1, e2]
          rfl
      · simp only [itemsL, hm, hsg, if_false]

/-- What a level finds first, where the lines behind it are not all blank: whatever more there is. -/
theorem firstL_stop (d : Int) (q i : List (List UInt8) → List Blk) (l m : List (List UInt8)) (hl : l ≠ []) (h : Some' (l.drop (firstL d q i l).2)) : firstL d q i (l ++ m) = firstL d q i l := by
  have hlen := some_len h
  unfold firstL at h hlen ⊢
  rw [headD_app hl]
  split
  · rfl
  · rename_i h0
    rw [if_neg h0] at h hlen
    by_cases h1 : 0 < (leafL l).2
    · rw [if_pos h1] at h hlen ⊢
      rw [leafL_stop l m hl h, if_pos h1]
    · have e0 : (leafL l).2 = 0 := by omega
      have hlf : leafL (l ++ m) = leafL l := by
        refine leafL_stop l m hl ?_
        rw [e0, List.drop_zero]
        obtain ⟨x, hx, hn⟩ := h
        exact ⟨x, List.mem_of_mem_drop hx, hn⟩
      rw [hlf]
      rw [if_neg h1] at h hlen ⊢
      split
      · rename_i h2
        rw [if_pos h2] at hlen
        rw [quotedL_stop l m hlen]
      · rename_i h2
        rw [if_neg h2] at h hlen
        split
        · rename_i h3
          rw [if_pos h3] at h
          unfold listL at h ⊢
          rw [headD_app hl]
          cases hm : mkItem (l.headD []) with
          | none => rfl
          | some x =>
            obtain ⟨sg, n, c, t⟩ := x
            rw [hm] at h
            dsimp only at h ⊢
            rw [itemsL_stop d i sg m l.length (l ++ m).length l (Nat.le_refl _) (Nat.le_refl _) h, take_app (itemsL_le d i sg _ l)]
        · rename_i h3
          rw [if_neg h3] at hlen
          split
          · rename_i h4
            rw [if_pos h4] at hlen
            have hr : rawN l < l.length := hlen
            unfold rawL
            rw [rawN_stop l m hr, take_app (by omega)]
          · rename_i h4
            rw [if_neg h4] at hlen
            have ht := tail_len hl
            have hp := paraN_le d l.tail
            have hstop : paraN d (l.tail ++ m) = paraN d l.tail := by
              refine paraN_stop d _ m ?_
              unfold paraL at hlen
              split at hlen
              · dsimp only at hlen; omega
              · dsimp only at hlen; omega
            unfold paraL
            rw [tail_app hl, hstop, take_app (by omega)]
/-- The kind of what a level finds first. -/
theorem firstM_def (m : Nat) : ∃ d q i, firstM m = firstL d q i := by
  match m with
  | 0 => exact ⟨12, fun _ => [], fun _ => [], rfl⟩
  | 1 => exact ⟨11, allL 0, fun _ => [], rfl⟩
  | m + 2 => exact ⟨10 - m, allL (m + 1), allL m, rfl⟩
theorem allL_blank (m : Nat) (s : List UInt8) (l : List (List UInt8)) (h : s.all isGap = true) : allL m (s :: l) = allL m l := by
  rw [allL_step m _ (by simp)]
  obtain ⟨d, q, i, e⟩ := firstM_def m
  have : firstM m (s :: l) = ([], 1) := by
    rw [e]
    unfold firstL
    rw [List.headD_cons, if_pos h]
  rw [this]
  rfl
theorem allL_blanks (m : Nat) : ∀ (bl l : List (List UInt8)), (∀ s ∈ bl, s.all isGap = true) → allL m (bl ++ l) = allL m l
  | [], l, _ => rfl
  | s :: bl, l, h => by
    rw [List.cons_append, allL_blank m s _ (h s (by simp))]
    exact allL_blanks m bl l (fun x hx => h x (by simp [hx]))
theorem allL_all (m : Nat) (bl : List (List UInt8)) (h : ∀ s ∈ bl, s.all isGap = true) : allL m bl = [] := by
  have := allL_blanks m bl [] h
  rw [List.append_nil, allL_nil] at this
  exact this
/-- Of lines that are not all blank there is a block. -/
theorem firstL_some (d : Int) (q i : List (List UInt8) → List Blk) (l : List (List UInt8)) (h : ¬ (l.headD []).all isGap = true) : (firstL d q i l).1 ≠ [] := by
  unfold firstL
  rw [if_neg h]
  split
  · simp
  · split
    · simp
    · split
      · rename_i h3
        simp only [beginsI, Bool.and_eq_true] at h3
        unfold listL
        cases hm : mkItem (l.headD []) with
        | none => rw [hm] at h3; simp at h3
        | some x => simp
      · split <;> simp
theorem allL_some (m : Nat) : ∀ l : List (List UInt8), Some' l → allL m l ≠ []
  | [], h => absurd rfl h.ne
  | s :: l, h => by
    by_cases hb : s.all isGap = true
    · rw [allL_blank m s l hb]
      exact allL_some m l (h.cons_blank hb)
    · rw [allL_step m _ (by simp)]
      obtain ⟨d, q, i, e⟩ := firstM_def m
      have := firstL_some d q i (s :: l) (by rw [List.headD_cons]; exact hb)
      rw [← e] at this
      intro e2
      exact this (List.append_eq_nil_iff.1 e2).1

end Go.Proofs.YtoleoigpijgboaaDoor
