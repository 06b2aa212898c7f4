/-
  Plain facts of the layer block: how long all that is made becomes; how many blocks there are.
-/
import Derived.Test.YtoleoigpijgboaaDoorBlkP
namespace Go.Proofs.YtoleoigpijgboaaDoor
set_option linter.unusedSimpArgs false
set_option linter.unusedVariables false

/-- A line's columns at most. -/
def wt : List UInt8 → Nat
  | [] => 0
  | b :: l => (if b == 9 then 4 else 1) + wt l
theorem wt_append (a b : List UInt8) : wt (a ++ b) = wt a + wt b := by
  induction a with
  | nil => simp [wt]
  | cons x a ih => rw [List.cons_append]; simp only [wt, ih]; omega
theorem wt_len (l : List UInt8) : l.length ≤ wt l := by
  induction l with
  | nil => simp [wt]
  | cons x a ih => simp only [wt, List.length_cons]; split <;> omega
theorem wt_le (l : List UInt8) : wt l ≤ 4 * l.length := by
  induction l with
  | nil => simp [wt]
  | cons x a ih => simp only [wt, List.length_cons]; split <;> omega
theorem wt_drop (l : List UInt8) (n : Nat) : wt (l.drop n) ≤ wt l := by
  have := congrArg wt (List.take_append_drop n l)
  rw [wt_append] at this
  omega
theorem wt_spaces (n : Nat) : wt (spaces n) = n := by
  unfold spaces
  induction n with
  | zero => rfl
  | succ n ih =>
    rw [List.replicate_succ]
    show (if ((32 : UInt8) == 9) = true then 4 else 1) + wt (List.replicate n 32) = n + 1
    rw [ih, if_neg (by decide)]; omega
theorem mCols_wt : ∀ (l : List UInt8) (c : Nat), mCols l c ≤ c + wt (l.take (mSize l))
  | [], c => by simp [mCols, wt]
  | b :: l, c => by
    simp only [mCols, mSize, isGap]
    split
    · rename_i h
      have := mCols_wt l (c + 1)
      simp only [h, Bool.true_or, if_true, List.take_succ_cons, wt]
      have e : b = 32 := by simpa using h
      subst e
      rw [if_neg (by decide)]; omega
    · split
      · rename_i h
        have := mCols_wt l (c + (4 - c % 4))
        simp only [h, Bool.or_true, if_true, List.take_succ_cons, wt]
        omega
      · omega
theorem wt_strip (l : List UInt8) (n : Nat) : wt (stripL l n) ≤ wt l := by
  have h1 := mCols_wt l 0
  have h2 := congrArg wt (List.take_append_drop (mSize l) l)
  rw [wt_append] at h2
  unfold stripL
  rw [wt_append, wt_spaces]
  omega
theorem wt_begin (l : List UInt8) : wt (mkBegin l) ≤ wt l := by
  unfold mkBegin
  split
  · exact wt_drop l _
  · exact Nat.zero_le _
theorem wt_trimPrefix (l p : List UInt8) : wt (Lib.trimPrefix l p) ≤ wt l := by
  unfold Lib.trimPrefix
  split
  · exact wt_drop l _
  · exact Nat.le_refl _
theorem wt_quote {l t : List UInt8} (h : mkQuote l = some t) : wt t ≤ wt l := by
  unfold mkQuote at h
  split at h
  · cases h
    have h1 := wt_trimPrefix (mkBegin l) [62]
    have h2 := wt_trimPrefix (Lib.trimPrefix (mkBegin l) [62]) [32]
    have h3 := wt_begin l
    omega
  · cases h
theorem wt_item {l t : List UInt8} {sg : UInt8} {n : Int} {c : Nat} (h : mkItem l = some (sg, n, c, t)) : wt t ≤ wt l := by
  unfold mkItem at h
  dsimp only at h
  split at h
  · cases h
  · simp only [Option.some.injEq, Prod.mk.injEq] at h
    rw [← h.2.2.2]
    have h1 := wt_drop ((mkBegin l).drop (itemSg (mkBegin l)).2.2) (min (mkGap ((mkBegin l).drop (itemSg (mkBegin l)).2.2)) ((mkBegin l).drop (itemSg (mkBegin l)).2.2).length)
    have h2 := wt_drop (mkBegin l) (itemSg (mkBegin l)).2.2
    have h3 := wt_begin l
    omega

/-- Lines that may be: not too many, none too long. -/
structure Few (ls : List (List UInt8)) : Prop where
  len : ls.length ≤ 100000
  wt : ∀ x ∈ ls, wt x ≤ 1000000
theorem Few.take {ls : List (List UInt8)} (h : Few ls) (k : Nat) : Few (ls.take k) := ⟨by have := h.len; rw [List.length_take]; omega, fun x hx => h.wt x (List.mem_of_mem_take hx)⟩
theorem Few.drop {ls : List (List UInt8)} (h : Few ls) (k : Nat) : Few (ls.drop k) := ⟨by have := h.len; rw [List.length_drop]; omega, fun x hx => h.wt x (List.mem_of_mem_drop hx)⟩
theorem Few.tail {ls : List (List UInt8)} (h : Few ls) : Few ls.tail := by rw [← List.drop_one]; exact h.drop 1
theorem Few.size {ls : List (List UInt8)} (h : Few ls) {k : Nat} (hk : k < ls.length) : ls[k].length ≤ 1000000 := by
  have h1 := h.wt _ (List.getElem_mem hk)
  have h2 := wt_len ls[k]
  omega
theorem Few.stripped {ls : List (List UInt8)} (h : Few ls) (c : Nat) : Few (strippedL c ls) := by
  refine ⟨by unfold strippedL; rw [List.length_map]; exact h.len, fun x hx => ?_⟩
  obtain ⟨y, hy, rfl⟩ := List.mem_map.1 hx
  have h1 := h.wt y hy
  have h2 := wt_strip y c
  omega
theorem Few.quoted : ∀ {ls : List (List UInt8)}, Few ls → Few (quotedL ls)
  | [], h => h
  | s :: l, h => by
    have ih := Few.quoted (ls := l) (h.drop 1)
    have hl := h.len
    have h2 := quotedL_le l
    simp only [List.length_cons] at hl
    simp only [quotedL]
    split
    · rename_i t ht
      refine ⟨by rw [List.length_cons]; omega, fun x hx => ?_⟩
      rcases List.mem_cons.1 hx with rfl | hx
      · have h3 := wt_quote ht
        have h4 := h.wt s (by simp)
        omega
      · exact ih.wt x hx
    · exact ⟨by simp, by simp⟩
theorem Few.item {s : List UInt8} {r : List (List UInt8)} {sg : UInt8} {n : Int} {c : Nat} {t : List UInt8} (h : Few (s :: r)) (hi : mkItem s = some (sg, n, c, t)) (k j : Nat) : Few (t :: strippedL j (r.take k)) := by
  have h1 : Few (strippedL j (r.take k)) := Few.stripped ((h.drop 1).take k) j
  have hl := h.len
  have h2 := wt_item hi
  have h3 := h.wt s (by simp)
  simp only [List.length_cons] at hl
  refine ⟨?_, fun x hx => ?_⟩
  · rw [List.length_cons]
    unfold strippedL
    rw [List.length_map, List.length_take]
    omega
  · rcases List.mem_cons.1 hx with rfl | hx
    · omega
    · exact h1.wt x hx
theorem joinL_bound : ∀ (ls : List (List UInt8)) (M : Nat), (∀ x ∈ ls, x.length ≤ M) → (joinL ls).length ≤ ls.length * (M + 1)
  | [], M, _ => by simp [joinL]
  | l :: ls, M, h => by
    have ih := joinL_bound ls M (fun x hx => h x (by simp [hx]))
    have h1 := h l (by simp)
    simp only [joinL, List.length_append, List.length_cons, Nat.succ_mul]
    omega
theorem Few.join {ls : List (List UInt8)} (h : Few ls) : (joinL ls).length ≤ 100000100000 := by
  have h1 := joinL_bound ls 1000000 (fun x hx => by have h1 := h.wt x hx; have h2 := wt_len x; omega)
  have h2 := Nat.mul_le_mul_right (1000000 + 1) h.len
  omega

/-! ### How many blocks there are -/
theorem itemsL_count (d : Int) (i : List (List UInt8) → List Blk) (K : Nat) (hi : ∀ l, (i l).length ≤ K * l.length) (sg : UInt8) : ∀ f l, (itemsL d i sg f l).1.length ≤ (K + 1) * (itemsL d i sg f l).2
  | 0, _ => by simp [itemsL]
  | _ + 1, [] => by simp [itemsL]
  | f + 1, s :: r => by
    simp only [itemsL]
    split
    · simp
    · rename_i sg' n cols text _
      split
      · have h1 := deepL_le cols r
        have ih := itemsL_count d i K hi sg f (r.drop (deepL cols r + blanksL (r.drop (deepL cols r))))
        have h2 := hi (text :: strippedL cols (r.take (deepL cols r)))
        have h3 : (text :: strippedL cols (r.take (deepL cols r))).length = deepL cols r + 1 := by
          unfold strippedL
          rw [List.length_cons, List.length_map, List.length_take]
          omega
        rw [h3] at h2
        generalize (itemsL d i sg f (r.drop (deepL cols r + blanksL (r.drop (deepL cols r))))) = X at *
        generalize deepL cols r = k at *
        generalize blanksL (r.drop k) = b at *
        simp only [List.length_cons, List.length_append, List.cons_append]
        split
        · rename_i h0
          rw [h0] at ih
          have e : (K + 1) * (1 + k) = K * (k + 1) + (1 + k) := by rw [Nat.add_mul, Nat.one_mul, Nat.add_comm 1 k]
          rw [e]
          omega
        · have e : (K + 1) * (1 + k + b + X.2) = K * (k + 1) + (1 + k) + (K + 1) * b + (K + 1) * X.2 := by
            rw [Nat.mul_add, Nat.mul_add, Nat.add_mul, Nat.one_mul, Nat.add_comm 1 k]
          rw [e]
          omega
      · simp
theorem firstL_count (d : Int) (q i : List (List UInt8) → List Blk) (K : Nat) (hq : ∀ l, (q l).length ≤ K * l.length) (hi : ∀ l, (i l).length ≤ K * l.length) (l : List (List UInt8)) (h : l ≠ []) : (firstL d q i l).1.length ≤ (K + 2) * (firstL d q i l).2 := by
  have hpos := firstL_pos d q i l h
  unfold firstL at hpos ⊢
  split
  · simp
  · rename_i h0
    rw [if_neg h0] at hpos
    split
    · rename_i h1
      rw [if_pos h1] at hpos
      have := Nat.mul_le_mul (show 1 ≤ K + 2 by omega) hpos.1
      simpa using this
    · rename_i h1
      rw [if_neg h1] at hpos
      split
      · rename_i h2
        rw [if_pos h2] at hpos
        have := hq (quotedL l)
        have e : (K + 2) * (quotedL l).length = K * (quotedL l).length + 2 * (quotedL l).length := by rw [Nat.add_mul]
        simp only [List.length_cons]
        rw [e]
        simp only at hpos
        omega
      · rename_i h2
        rw [if_neg h2] at hpos
        split
        · rename_i h3
          rw [if_pos h3] at hpos
          unfold listL at hpos ⊢
          split
          · simp
          · rename_i sg n c t hit
            rw [hit] at hpos
            have := itemsL_count d i K hi sg l.length l
            simp only [List.length_cons]
            simp only at hpos
            have e : (K + 2) * (itemsL d i sg l.length l).2 = (K + 1) * (itemsL d i sg l.length l).2 + (itemsL d i sg l.length l).2 := by rw [Nat.add_mul, Nat.add_mul]; omega
            rw [e]
            omega
        · rename_i h3
          rw [if_neg h3] at hpos
          split
          · rename_i h4
            rw [if_pos h4] at hpos
            have := Nat.mul_le_mul (show 1 ≤ K + 2 by omega) hpos.1
            simpa using this
          · rename_i h4
            rw [if_neg h4] at hpos
            have := Nat.mul_le_mul (show 1 ≤ K + 2 by omega) hpos.1
            simpa using this
theorem loopL_count (first : List (List UInt8) → List Blk × Nat) (K : Nat) (hf : ∀ l, l ≠ [] → (first l).1.length ≤ K * (first l).2 ∧ (first l).2 ≤ l.length) : ∀ f l, (loopL first f l).length ≤ K * l.length
  | 0, _ => by simp [loopL]
  | _ + 1, [] => by simp [loopL]
  | f + 1, s :: l => by
    have h := hf (s :: l) (by simp)
    have ih := loopL_count first K hf f ((s :: l).drop (first (s :: l)).2)
    simp only [loopL]
    rw [List.length_append]
    rw [List.length_drop] at ih
    have e : K * (s :: l).length = K * (first (s :: l)).2 + K * ((s :: l).length - (first (s :: l)).2) := by
      rw [← Nat.mul_add]
      congr 1
      omega
    rw [e]
    omega
theorem firstM_count : ∀ m, (∀ l, (allL m l).length ≤ (2 * m + 2) * l.length) ∧ (∀ l, l ≠ [] → (firstM m l).1.length ≤ (2 * m + 2) * (firstM m l).2)
  | 0 => by
    have h : ∀ l, l ≠ [] → (firstM 0 l).1.length ≤ (2 * 0 + 2) * (firstM 0 l).2 := fun l h => firstL_count _ _ _ 0 (fun _ => by simp) (fun _ => by simp) l h
    exact ⟨fun l => by rw [allL_loop]; exact loopL_count _ _ (fun l hl => ⟨h l hl, (firstM_pos 0 l hl).2⟩) _ l, h⟩
  | 1 => by
    have h : ∀ l, l ≠ [] → (firstM 1 l).1.length ≤ (2 * 1 + 2) * (firstM 1 l).2 := fun l h => firstL_count _ _ _ 2 (firstM_count 0).1 (fun _ => by simp) l h
    exact ⟨fun l => by rw [allL_loop]; exact loopL_count _ _ (fun l hl => ⟨h l hl, (firstM_pos 1 l hl).2⟩) _ l, h⟩
  | m + 2 => by
    have h : ∀ l, l ≠ [] → (firstM (m + 2) l).1.length ≤ (2 * (m + 2) + 2) * (firstM (m + 2) l).2 := fun l h => firstL_count _ _ _ (2 * (m + 1) + 2) (firstM_count (m + 1)).1 (fun l => by
      have h1 := (firstM_count m).1 l
      have h2 := Nat.mul_le_mul_right l.length (show 2 * m + 2 ≤ 2 * (m + 1) + 2 by omega)
      omega) l h
    exact ⟨fun l => by rw [allL_loop]; exact loopL_count _ _ (fun l hl => ⟨h l hl, (firstM_pos (m + 2) l hl).2⟩) _ l, h⟩

end Go.Proofs.YtoleoigpijgboaaDoor
