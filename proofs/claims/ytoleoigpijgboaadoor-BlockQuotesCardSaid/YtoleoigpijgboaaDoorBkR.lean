/-
  Plain facts for BlockQuotes: lines of which each is quoted are one quote, in which they lie one deeper.
-/
import Derived.Test.YtoleoigpijgboaaDoorBlkS
import Derived.Test.YtoleoigpijgboaaDoorBlkR
import Derived.Test.YtoleoigpijgboaaDoorBlkQ
import Derived.Test.YtoleoigpijgboaaDoorMkP
namespace Go.Proofs.YtoleoigpijgboaaDoor
set_option linter.unusedSimpArgs false
set_option linter.unusedVariables false

/-- A block one deeper. -/
def shiftB (b : Blk) : Blk := { b with depth := b.depth + 1 }
def Low10 (bs : List Blk) : Prop := ∀ b ∈ bs, b.depth < 10
theorem cutsL_deep {d : Int} (h : d ≤ 9) (s : List UInt8) : cutsL (d + 1) s = cutsL d s := by
  unfold cutsL
  rw [decide_eq_true (show d + 1 < 11 by omega), decide_eq_true (show d < 11 by omega)]
theorem beginsQ_deep {d : Int} (h : d ≤ 9) (s : List UInt8) : beginsQ (d + 1) s = beginsQ d s := by
  unfold beginsQ
  rw [decide_eq_true (show d + 1 < 12 by omega), decide_eq_true (show d < 12 by omega)]
theorem beginsI_deep {d : Int} (h : d ≤ 9) (s : List UInt8) : beginsI (d + 1) s = beginsI d s := by
  unfold beginsI
  rw [decide_eq_true (show d + 1 < 11 by omega), decide_eq_true (show d < 11 by omega)]
theorem endsP_deep {d : Int} (h : d ≤ 9) (s : List UInt8) : endsP (d + 1) s = endsP d s := by
  unfold endsP
  rw [beginsQ_deep h, cutsL_deep h]
theorem paraN_deep {d : Int} (h : d ≤ 9) : ∀ l, paraN (d + 1) l = paraN d l
  | [] => rfl
  | s :: l => by simp only [paraN, endsP_deep h, paraN_deep h l]
theorem paraL_deep {d : Int} (h : d ≤ 9) (l : List (List UInt8)) : paraL (d + 1) l = paraL d l := by
  unfold paraL
  rw [paraN_deep h]
theorem itemsL_shift {d : Int} (i i' : List (List UInt8) → List Blk) (hi : ∀ l, Low10 (i l) → i' l = (i l).map shiftB) (sg : UInt8) : ∀ f l, Low10 (itemsL d i sg f l).1 → itemsL (d + 1) i' sg f l = ((itemsL d i sg f l).1.map shiftB, (itemsL d i sg f l).2)
  | 0, _, _ => rfl
  | _ + 1, [], _ => rfl
  | f + 1, s :: r, h => by
    simp only [itemsL] at h ⊢
    cases hm : mkItem s with
    | none => rfl
    | some x =>
      obtain ⟨sg', n, cols, text⟩ := x
      rw [hm] at h
      dsimp only at h ⊢
      by_cases hs : sg' = sg
      · simp only [hs, if_true] at h ⊢
        have ih := itemsL_shift i i' hi sg f (r.drop (deepL cols r + blanksL (r.drop (deepL cols r)))) (fun b hb => h b (List.mem_append_right _ hb))
        rw [ih, hi _ (fun b hb => h b (List.mem_append_left _ (List.mem_cons_of_mem _ hb)))]
        simp [shiftB]
      · simp only [hs, if_false]
        rfl
theorem firstL_shift {d : Int} (hd : d ≤ 9) (q i q' i' : List (List UInt8) → List Blk) (hq : ∀ l, Low10 (q l) → q' l = (q l).map shiftB) (hi : ∀ l, Low10 (i l) → i' l = (i l).map shiftB) (l : List (List UInt8)) (h : Low10 (firstL d q i l).1) :
    firstL (d + 1) q' i' l = ((firstL d q i l).1.map shiftB, (firstL d q i l).2) := by
  unfold firstL at h ⊢
  rw [beginsQ_deep hd, beginsI_deep hd, paraL_deep hd]
  by_cases hb : (l.headD []).all isGap = true
  · simp only [hb, if_true]
    rfl
  simp only [hb, if_false] at h ⊢
  by_cases h1 : 0 < (leafL l).2
  · simp only [h1, if_true]
    rfl
  simp only [h1, if_false] at h ⊢
  by_cases h2 : beginsQ d (l.headD []) = true
  · simp only [h2, if_true] at h ⊢
    rw [hq _ (fun b hb => h b (List.mem_cons_of_mem _ hb))]
    rfl
  simp only [h2, if_false] at h ⊢
  by_cases h3 : beginsI d (l.headD []) = true
  · simp only [h3, if_true] at h ⊢
    unfold listL at h ⊢
    cases hm : mkItem (l.headD []) with
    | none => rfl
    | some x =>
      obtain ⟨sg, n, cols, text⟩ := x
      rw [hm] at h
      dsimp only at h ⊢
      rw [itemsL_shift i i' hi sg l.length l (fun b hb => h b (List.mem_cons_of_mem _ hb))]
      rfl
  simp only [h3, if_false] at h ⊢
  by_cases h4 : mkHtml (l.headD []) = true
  · simp only [h4, if_true]
    rfl
  simp only [h4, if_false]
  rfl
theorem loopL_shift (first first' : List (List UInt8) → List Blk × Nat) (hf : ∀ l, Low10 (first l).1 → first' l = ((first l).1.map shiftB, (first l).2)) : ∀ f l, Low10 (loopL first f l) → loopL first' f l = (loopL first f l).map shiftB
  | 0, _, _ => rfl
  | _ + 1, [], _ => rfl
  | f + 1, s :: l, h => by
    simp only [loopL] at h ⊢
    rw [hf _ (fun b hb => h b (List.mem_append_left _ hb))]
    dsimp only
    rw [loopL_shift first first' hf f _ (fun b hb => h b (List.mem_append_right _ hb)), List.map_append]
theorem allL_high (m : Nat) (hm : m ≤ 1) (l : List (List UInt8)) (h : Low10 (allL (m + 1) l)) : allL m l = (allL (m + 1) l).map shiftB := by
  rcases some_or l with hs | hs
  · have hne := allL_some (m + 1) l hs
    cases he : allL (m + 1) l with
    | nil => exact absurd he hne
    | cons b t =>
      have h1 := (allL_sound (m + 1) l b (by rw [he]; simp)).1
      have h2 := h b (by rw [he]; simp)
      omega
  · rw [allL_all m l hs, allL_all (m + 1) l hs]
    rfl
theorem allL_shift : ∀ m l, Low10 (allL (m + 1) l) → allL m l = (allL (m + 1) l).map shiftB
  | 0, l, h => allL_high 0 (by omega) l h
  | 1, l, h => allL_high 1 (by omega) l h
  | k + 2, l, h => by
    rw [allL_loop] at h
    rw [allL_loop, allL_loop (k + 2 + 1)]
    refine loopL_shift (firstM (k + 2 + 1)) (firstM (k + 2)) (fun l h => ?_) l.length l h
    show firstL (10 - (k : Int)) (allL (k + 1)) (allL k) l = _
    have e : (10 : Int) - (k : Int) = (10 - ((k + 1 : Nat) : Int)) + 1 := by omega
    rw [e]
    exact firstL_shift (by omega) (allL (k + 1 + 1)) (allL (k + 1)) (allL (k + 1)) (allL k) (allL_shift (k + 1)) (allL_shift k) l h

/-! ### Lines that are quoted -/
def qt (x : List UInt8) : List UInt8 := 62 :: 32 :: x
theorem qt_quote (x : List UInt8) : mkQuote (qt x) = some x := by
  have := mkQuote_made (k := 0) (l := 32 :: x) (by omega)
  rw [trimBlank_yes] at this
  exact this
theorem quotedL_qt : ∀ ls : List (List UInt8), quotedL (ls.map qt) = ls
  | [] => rfl
  | x :: ls => by
    rw [List.map_cons]
    simp only [quotedL, qt_quote]
    rw [quotedL_qt ls]
theorem qt_leaf (x : List UInt8) (r : List (List UInt8)) : (leafL (qt x :: r)).2 = 0 := by
  have hbg : mkBegin (qt x) = qt x := mkBegin_here (by decide)
  have hc : mCols (qt x) 0 = 0 := mCols_other (by decide)
  have hf : mkFence (qt x) = none := by
    unfold mkFence
    dsimp only
    rw [hbg]
    have hp : Lib.hasPrefix (qt x) [126] = false := rfl
    rw [hp]
    simp only [Bool.false_eq_true, if_false]
    rw [show mkRow 96 (qt x) = 0 from mkRow_other (by decide), if_pos (Or.inl (by decide))]
  have hh : mkHead (qt x) = none := by
    unfold mkHead
    rw [hbg, show mkRow 35 (qt x) = 0 from mkRow_other (by decide), if_neg (by rintro ⟨h, _⟩; omega)]
  have hr : mkRule (qt x) = false := by
    unfold mkRule
    rw [hbg]
    exact ruleH_no (fun _ => by decide) (fun h => by cases h) (by decide)
  unfold leafL
  rw [List.headD_cons, hc, if_neg (by omega), hf, hh, hr]
  rfl
theorem parse_quotes (ls : List (List UInt8)) (hne : ls ≠ []) (h : Low10 (parseB ls)) : parseB (ls.map qt) = ⟨3, 0, 0, false, [], []⟩ :: (parseB ls).map shiftB := by
  obtain ⟨x, r, rfl⟩ : ∃ x r, ls = x :: r := by
    cases ls with
    | nil => exact absurd rfl hne
    | cons x r => exact ⟨x, r, rfl⟩
  have hf : firstM 12 ((x :: r).map qt) = (⟨3, 0, 0, false, [], []⟩ :: allL 11 (x :: r), ((x :: r).map qt).length) := by
    show firstL (10 - ((10 : Nat) : Int)) (allL 11) (allL 10) _ = _
    have hq : beginsQ (10 - ((10 : Nat) : Int)) (qt x) = true := by
      unfold beginsQ
      rw [qt_quote]
      rfl
    have hg : (qt x).all isGap = false := rfl
    unfold firstL
    rw [quotedL_qt, List.map_cons, List.headD_cons, hg, if_neg (by simp), qt_leaf, if_neg (by simp), hq, if_pos rfl]
    simp
  show allL 12 _ = _
  rw [allL_step 12 _ (by simp), hf]
  dsimp only
  rw [List.drop_length, allL_nil, List.append_nil, allL_shift 11 (x :: r) h]
  rfl
theorem few_qt {ls : List (List UInt8)} (h40 : ls.length ≤ 40) (h : ∀ x ∈ ls, x.length ≤ 100) : Few (ls.map qt) := ⟨by rw [List.length_map]; omega, fun y hy => by
  obtain ⟨z, hz, rfl⟩ := List.mem_map.1 hy
  have h1 := wt_le (qt z)
  have h2 := h z hz
  simp only [qt, List.length_cons] at h1
  show wt (62 :: 32 :: z) ≤ _
  omega⟩

end Go.Proofs.YtoleoigpijgboaaDoor
