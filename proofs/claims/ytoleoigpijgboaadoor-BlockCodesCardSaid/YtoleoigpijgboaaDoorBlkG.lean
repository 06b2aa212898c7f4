/-
  Package block: a list's items, one behind the other: plain facts.
-/
import Derived.Test.YtoleoigpijgboaaDoorBlkF
import Derived.Test.YtoleoigpijgboaaDoorOwb
import Derived.Test.YtoleoigpijgboaaDoorReg
namespace Go.Proofs.YtoleoigpijgboaaDoor
open Go.RowKit
set_option linter.unusedSimpArgs false
set_option linter.unusedVariables false
set_option maxRecDepth 100000

theorem items_end (d : Int) (i : List (List UInt8) → List Blk) (sg : UInt8) (N : Nat) : itemsL d i sg N [] = ([], 0) := by cases N <;> rfl
theorem items_none (d : Int) (i : List (List UInt8) → List Blk) (sg : UInt8) (N : Nat) (s : List UInt8) (r : List (List UInt8)) (h : mkItem s = none) : itemsL d i sg N (s :: r) = ([], 0) := by
  cases N with
  | zero => rfl
  | succ N => simp only [itemsL, h]
theorem items_other (d : Int) (i : List (List UInt8) → List Blk) (sg : UInt8) (N : Nat) (s : List UInt8) (r : List (List UInt8)) {sg' : UInt8} {n : Int} {c : Nat} {t : List UInt8} (h : mkItem s = some (sg', n, c, t)) (hs : sg' ≠ sg) : itemsL d i sg N (s :: r) = ([], 0) := by
  cases N with
  | zero => rfl
  | succ N => simp only [itemsL, h, hs, if_false]
theorem items_step (d : Int) (i : List (List UInt8) → List Blk) (sg : UInt8) (N : Nat) (ls : List (List UInt8)) (hN : ls.length ≤ N) (k : Nat) (s : List UInt8) (hk : k < ls.length) (hd : ls.drop k = s :: ls.drop (k + 1)) {n : Int} {cols : Nat} {text : List UInt8} (hm : mkItem s = some (sg, n, cols, text)) :
    (itemsL d i sg N (ls.drop k)).1 = ⟨5, d + 1, 0, false, [], []⟩ :: i (text :: strippedL cols ((ls.drop (k + 1)).take (deepL cols (ls.drop (k + 1))))) ++ (itemsL d i sg N (ls.drop (k + 1 + deepL cols (ls.drop (k + 1)) + blanksL (ls.drop (k + 1 + deepL cols (ls.drop (k + 1))))))).1 ∧
    ∀ n0, later n0 k (itemsL d i sg N (ls.drop k)).2 = later (k + 1 + deepL cols (ls.drop (k + 1))) (k + 1 + deepL cols (ls.drop (k + 1)) + blanksL (ls.drop (k + 1 + deepL cols (ls.drop (k + 1))))) (itemsL d i sg N (ls.drop (k + 1 + deepL cols (ls.drop (k + 1)) + blanksL (ls.drop (k + 1 + deepL cols (ls.drop (k + 1))))))).2 := by
  obtain ⟨M, rfl⟩ : ∃ M, N = M + 1 := ⟨N - 1, by omega⟩
  rw [hd]
  have e1 : ∀ j, (ls.drop (k + 1)).drop j = ls.drop (k + 1 + j) := fun j => by rw [List.drop_drop]
  simp only [itemsL, hm, if_true, eq_self]
  generalize deepL cols (ls.drop (k + 1)) = j
  simp only [e1, ← Nat.add_assoc]
  generalize blanksL (ls.drop (k + 1 + j)) = b
  rw [itemsL_fuel d i sg M (M + 1) (ls.drop (k + 1 + j + b)) (by rw [List.length_drop]; omega) (by rw [List.length_drop]; omega)]
  generalize itemsL d i sg (M + 1) (ls.drop (k + 1 + j + b)) = Y
  refine ⟨rfl, fun n0 => ?_⟩
  obtain ⟨Y1, Y2⟩ := Y
  dsimp only
  cases Y2 with
  | zero =>
    rw [if_pos rfl, show 1 + j = j + 1 from by omega]
    show k + (j + 1) = k + 1 + j
    omega
  | succ y =>
    rw [if_neg (by omega), show 1 + j + b + (y + 1) = (j + b + y + 1) + 1 from by omega]
    show k + (j + b + y + 1 + 1) = k + 1 + j + b + (y + 1)
    omega
theorem mkItem_sign {l : List UInt8} {sg : UInt8} {n : Int} {c : Nat} {t : List UInt8} (h : mkItem l = some (sg, n, c, t)) : sg = 45 ∨ sg = 43 ∨ sg = 42 ∨ sg = 46 ∨ sg = 41 := by
  have key : ∀ (x : List UInt8) (i m : Nat), (itemF i m x).2.2 ≠ 0 → (itemF i m x).1 = 45 ∨ (itemF i m x).1 = 43 ∨ (itemF i m x).1 = 42 ∨ (itemF i m x).1 = 46 ∨ (itemF i m x).1 = 41 := by
    intro x
    induction x with
    | nil => intro i m h; exact absurd rfl h
    | cons b t ih =>
      intro i m h
      simp only [itemF] at h ⊢
      by_cases h1 : (decide (i = 0) && (b == 45 || b == 43 || b == 42)) = true
      · rw [if_pos h1]
        simp only [Bool.and_eq_true, Bool.or_eq_true, beq_iff_eq] at h1
        rcases h1.2 with (h | h) | h
        · exact Or.inl h
        · exact Or.inr (Or.inl h)
        · exact Or.inr (Or.inr (Or.inl h))
      rw [if_neg h1] at h ⊢
      by_cases h2 : (decide (0 < i) && (b == 46 || b == 41)) = true
      · rw [if_pos h2]
        simp only [Bool.and_eq_true, Bool.or_eq_true, beq_iff_eq] at h2
        rcases h2.2 with h | h
        · exact Or.inr (Or.inr (Or.inr (Or.inl h)))
        · exact Or.inr (Or.inr (Or.inr (Or.inr h)))
      rw [if_neg h2] at h ⊢
      by_cases h3 : (decide (i < 9) && isDig b) = true
      · rw [if_pos h3] at h ⊢
        exact ih _ _ h
      · rw [if_neg h3] at h
        exact absurd rfl h
  unfold mkItem at h
  dsimp only at h
  split at h
  · cases h
  · rename_i hc
    simp only [Option.some.injEq, Prod.mk.injEq] at h
    rw [← h.1]
    exact key _ _ _ (fun e => hc (Or.inl e))
theorem mkItem_cols {l : List UInt8} {sg : UInt8} {n : Int} {c : Nat} {t : List UInt8} (h : mkItem l = some (sg, n, c, t)) : c ≤ 10 * wt l + 10 := by
  unfold mkItem at h
  dsimp only at h
  split at h
  · cases h
  · simp only [Option.some.injEq, Prod.mk.injEq] at h
    rw [← h.2.2.1]
    have h1 := mCols_le l 0
    have h2 := mSize_le l
    have h3 := wt_len l
    have h4 := itemF_size (mkBegin l) 0 0
    have h5 := mkBegin_le l
    have h6 : mkGap ((mkBegin l).drop (itemSg (mkBegin l)).2.2) ≤ 4 + (mkBegin l).length := by
      unfold mkGap
      split
      · omega
      · have := mkRow_le 32 ((mkBegin l).drop (itemSg (mkBegin l)).2.2)
        rw [List.length_drop] at this
        omega
    have h7 : (itemSg (mkBegin l)).2.2 ≤ 0 + (mkBegin l).length := h4
    omega
theorem count_step {K k j D x : Nat} (h : D ≤ (K + 1) * k) (hx : x ≤ K * (j + 1)) : D + (x + 1) ≤ (K + 1) * (k + 1 + j) := by
  have e : (K + 1) * (k + 1 + j) = (K + 1) * k + K * (j + 1) + (j + 1) := by
    rw [show k + 1 + j = k + (j + 1) from by omega, Nat.mul_add, Nat.add_mul K 1 (j + 1)]; omega
  rw [e]; omega
/-- The value that a list of the call's own is. -/
theorem own_slice {w : World} {B : Nat} {e : TypeId} {size n : Nat} {v : Value} {xs : List Value} (h : w.ownsRow B e size v n xs) : ∃ A cap, v = .slice A n cap ∧ n ≤ cap ∧ cap ≤ maxLen := by
  rcases h.2 with ⟨rfl, rfl⟩ | ⟨g, cap, cur, rfl, _, _, h1, h2, _⟩
  · exact ⟨none, 0, rfl, Nat.le_refl _, Nat.zero_le _⟩
  · exact ⟨_, cap, rfl, h1, h2⟩
/-- A block's flag is set anew. -/
theorem FinIs.setTight {w : World} {B b g cap : Nat} {L : List Blk} (h : FinIs w B b (.slice (some ⟨g, 0, none⟩) L.length cap) L) {k : Nat} (hk : k < L.length) (t : Bool) :
    FinIs (w.setCell ⟨g, k * 6 + 3, none⟩ (.bool t)) B b (.slice (some ⟨g, 0, none⟩) L.length cap) (L.set k { L[k] with tight := t }) ∧ Kpt B w (w.setCell ⟨g, k * 6 + 3, none⟩ (.bool t)) := by
  obtain ⟨g', cap', cur, e, hg, hlt, _, _, hblk, hc⟩ := own_block h.row (by omega)
  cases e
  have hne : b ≠ g := by
    rintro rfl
    have := h.blk
    rw [hblk] at this
    injection this with this
    injection this with _ ht
    exact absurd ht (by decide)
  refine ⟨⟨?_, ?_, h.low⟩, Kpt.set hblk (by decide) hg _ _⟩
  · rw [Below.heap_setCell w ⟨g, k * 6 + 3, none⟩ _ b hne]
    exact h.blk
  · rw [List.length_set, blksC_set L k hk 3 (by omega) { L[k] with tight := t } (.bool t) rfl]
    exact own_store h.row (by rw [blksC_length]; omega) _

/-- The same, of a block among others. -/
theorem FinIs.setFlag {w : World} {B b g M cap : Nat} {L1 D : List Blk} {y : Blk} (h : FinIs w B b (.slice (some ⟨g, 0, none⟩) M cap) (L1 ++ y :: D)) (hM : (L1 ++ y :: D).length = M) (t : Bool) :
    FinIs (w.setCell ⟨g, L1.length * 6 + 3, none⟩ (.bool t)) B b (.slice (some ⟨g, 0, none⟩) M cap) (L1 ++ { y with tight := t } :: D) ∧ Kpt B w (w.setCell ⟨g, L1.length * 6 + 3, none⟩ (.bool t)) := by
  subst hM
  have hk : L1.length < (L1 ++ y :: D).length := by simp
  have := h.setTight hk t
  have e1 : (L1 ++ y :: D)[L1.length] = y := by rw [List.getElem_append_right (Nat.le_refl _)]; simp
  have e2 : ∀ z : Blk, (L1 ++ y :: D).set L1.length z = L1 ++ z :: D := fun z => by rw [List.set_append_right _ _ (Nat.le_refl _), Nat.sub_self]; rfl
  rw [e1, e2] at this
  exact this
theorem FinIs.flagCell {w : World} {B b : Nat} {v : Value} {L1 D : List Blk} {y : Blk} (h : FinIs w B b v (L1 ++ y :: D)) {M : Nat} (hM : (L1 ++ y :: D).length = M) : ∃ g cap, v = .slice (some ⟨g, 0, none⟩) M cap ∧ g < w.heap.size ∧ M ≤ cap ∧ cap ≤ 9223372036854775807 ∧ w.cell? ⟨g, L1.length * 6 + 3, none⟩ = some (.bool y.tight) ∧ w.frozen? ⟨g, L1.length * 6 + 3, none⟩ = false := by
  subst hM
  have hk : L1.length < (L1 ++ y :: D).length := by simp
  obtain ⟨g, cap, cur, e, hg, hlt, h1, h2, hblk, hc⟩ := own_block h.row (by omega)
  refine ⟨g, cap, e, hlt, h1, by unfold maxLen at h2; omega, ?_, own_frozen hblk _⟩
  refine hc _ _ (blksC_get _ _ hk 3 _ ?_)
  have e1 : (L1 ++ y :: D)[L1.length] = y := by rw [List.getElem_append_right (Nat.le_refl _)]; simp
  rw [e1]
  rfl

end Go.Proofs.YtoleoigpijgboaaDoor
