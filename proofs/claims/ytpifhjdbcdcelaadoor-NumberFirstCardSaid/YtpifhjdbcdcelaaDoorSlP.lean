/-
  Plain words of the layer slug: a text's anchor; the next one, of those that there are.
-/
import Derived.Test.YtpifhjdbcdcelaaDoorRepairF
namespace Go.Proofs.YtpifhjdbcdcelaaDoor
open Go.RowKit
set_option linter.unusedSimpArgs false
set_option linter.unusedVariables false

/-- The bytes that stay. -/
def slKeep (b : UInt8) : Bool := (decide (97 ≤ b.toNat) && decide (b.toNat ≤ 122)) || (decide (48 ≤ b.toNat) && decide (b.toNat ≤ 57))
def slOne (id : List UInt8) (b : UInt8) : List UInt8 := if slKeep b then id ++ [b] else if id.getLastD 45 = 45 then id else id ++ [45]
def slRow (l : List UInt8) : List UInt8 := l.foldl slOne []
def slTrim (id : List UInt8) : List UInt8 := if id.getLastD 0 = 45 then id.dropLast else id
def slNone : List UInt8 := [115, 101, 99, 116, 105, 111, 110]
def slEnd (id : List UInt8) : List UInt8 := if slTrim id = [] then slNone else slTrim id
def slugL (s : List UInt8) : List UInt8 := slEnd ((slRow (foldL s)).take 40)

/-! ### A row grows behind what it has -/
theorem slOne_more (id : List UInt8) (b : UInt8) : ∃ t, slOne id b = id ++ t ∧ t.length ≤ 1 := by
  unfold slOne
  split
  · exact ⟨[b], rfl, Nat.le_refl _⟩
  · split
    · exact ⟨[], by simp, by simp⟩
    · exact ⟨[45], rfl, Nat.le_refl _⟩
theorem slFold_more : ∀ (l id : List UInt8), ∃ t, l.foldl slOne id = id ++ t ∧ t.length ≤ l.length
  | [], id => ⟨[], by simp, by simp⟩
  | b :: l, id => by
    obtain ⟨t, e, ht⟩ := slOne_more id b
    obtain ⟨u, e2, hu⟩ := slFold_more l (id ++ t)
    exact ⟨t ++ u, by rw [List.foldl_cons, e, e2, List.append_assoc], by simp; omega⟩
theorem slFold_full (l id : List UInt8) (h : id.length = 40) : (l.foldl slOne id).take 40 = id := by
  obtain ⟨t, e, _⟩ := slFold_more l id
  rw [e, ← h, List.take_left]
theorem slRow_append (a b : List UInt8) : slRow (a ++ b) = b.foldl slOne (slRow a) := by
  unfold slRow
  rw [List.foldl_append]
theorem slRow_len (l : List UInt8) : (slRow l).length ≤ l.length := by
  obtain ⟨t, e, ht⟩ := slFold_more l []
  unfold slRow
  rw [e]
  simpa using ht
/-- Bytes that do not stay are as one. -/
theorem slOne_twice (id : List UInt8) (b c : UInt8) (hb : slKeep b = false) (hc : slKeep c = false) : slOne (slOne id b) c = slOne id b := by
  unfold slOne
  rw [hb, hc]
  simp only [Bool.false_eq_true, if_false]
  split
  · rfl
  · rw [if_pos (by simp)]
theorem slFold_others : ∀ (l id : List UInt8) (b : UInt8), slKeep b = false → (∀ c ∈ l, slKeep c = false) → (b :: l).foldl slOne id = slOne id b
  | [], id, b, _, _ => rfl
  | c :: l, id, b, hb, h => by
    rw [List.foldl_cons, slFold_others l _ c (h c (by simp)) (fun x hx => h x (by simp [hx])), slOne_twice _ _ _ hb (h c (by simp))]

/-! ### What an anchor is made of -/
structure SlOk (id : List UInt8) : Prop where
  signs : ∀ b ∈ id, slKeep b = true ∨ b = 45
  first : id.headD 0 ≠ 45
  apart : ∀ (p q : List UInt8) (a b : UInt8), id = p ++ a :: b :: q → ¬ (a = 45 ∧ b = 45)
theorem keep_ne {b : UInt8} (h : slKeep b = true) : b ≠ 45 := by
  rintro rfl
  exact absurd h (by decide)
theorem getLastD_snoc (l : List UInt8) (b d : UInt8) : (l ++ [b]).getLastD d = b := by simp
theorem SlOk.nil : SlOk [] := ⟨by simp, by decide, fun p q a b e => by simp at e⟩
theorem SlOk.snoc {id : List UInt8} (h : SlOk id) (b : UInt8) (hb : slKeep b = true ∨ (b = 45 ∧ id.getLastD 45 ≠ 45)) : SlOk (id ++ [b]) := by
  refine ⟨?_, ?_, ?_⟩
  · intro x hx
    rcases List.mem_append.1 hx with hx | hx
    · exact h.signs x hx
    · simp at hx
      subst hx
      rcases hb with hb | hb
      · exact .inl hb
      · exact .inr hb.1
  · cases id with
    | nil =>
      rcases hb with hb | hb
      · exact keep_ne hb
      · exact absurd rfl hb.2
    | cons c id => exact h.first
  · intro p q x y e ⟨e1, e2⟩
    subst e1 e2
    by_cases hq : q = []
    · subst hq
      have e3 : id ++ [b] = (p ++ [45]) ++ [45] := by rw [e]; simp
      obtain ⟨e4, e5⟩ := List.append_inj' e3 rfl
      simp at e5
      subst e5
      rcases hb with hb | hb
      · exact keep_ne hb rfl
      · rw [e4] at hb
        exact hb.2 (getLastD_snoc _ _ _)
    · obtain ⟨q', z, rfl⟩ : ∃ q' z, q = q' ++ [z] := ⟨q.dropLast, q.getLast hq, (List.dropLast_concat_getLast hq).symm⟩
      have e3 : id ++ [b] = (p ++ 45 :: 45 :: q') ++ [z] := by rw [e]; simp
      obtain ⟨e4, _⟩ := List.append_inj' e3 rfl
      exact h.apart p q' 45 45 e4 ⟨rfl, rfl⟩
theorem SlOk.one {id : List UInt8} (h : SlOk id) (b : UInt8) : SlOk (slOne id b) := by
  unfold slOne
  split
  · next hb => exact h.snoc b (.inl hb)
  · split
    · exact h
    · next hb => exact h.snoc 45 (.inr ⟨rfl, hb⟩)
theorem SlOk.fold : ∀ (l : List UInt8) {id : List UInt8}, SlOk id → SlOk (l.foldl slOne id)
  | [], id, h => h
  | b :: l, id, h => SlOk.fold l (h.one b)
theorem SlOk.row (l : List UInt8) : SlOk (slRow l) := SlOk.fold l SlOk.nil
theorem SlOk.pre {a b : List UInt8} (h : SlOk (a ++ b)) : SlOk a := by
  refine ⟨fun x hx => h.signs x (List.mem_append_left _ hx), ?_, fun p q x y e => h.apart p (q ++ b) x y (by rw [e]; simp)⟩
  cases a with
  | nil => decide
  | cons c a => exact h.first
theorem SlOk.take {a : List UInt8} (h : SlOk a) (k : Nat) : SlOk (a.take k) := SlOk.pre (b := a.drop k) (by rw [List.take_append_drop]; exact h)
theorem snoc_of {a : List UInt8} (h : a ≠ []) : ∃ p z, a = p ++ [z] := ⟨a.dropLast, a.getLast h, (List.dropLast_concat_getLast h).symm⟩
/-- Without a dash at its end. -/
theorem SlOk.trim {a : List UInt8} (h : SlOk a) : SlOk (slTrim a) ∧ (slTrim a).getLastD 0 ≠ 45 ∧ (slTrim a).length ≤ a.length := by
  unfold slTrim
  split
  · next h1 =>
    by_cases hn : a = []
    · subst hn; exact absurd h1 (by decide)
    · obtain ⟨p, z, rfl⟩ := snoc_of hn
      rw [getLastD_snoc] at h1
      subst h1
      rw [List.dropLast_concat]
      refine ⟨h.pre, ?_, by simp⟩
      intro e
      by_cases hp : p = []
      · subst hp; exact absurd e (by decide)
      · obtain ⟨q, y, rfl⟩ := snoc_of hp
        rw [getLastD_snoc] at e
        subst e
        exact h.apart q [] 45 45 (by simp) ⟨rfl, rfl⟩
  · next h1 => exact ⟨h, h1, Nat.le_refl _⟩
theorem slNone_ok : SlOk slNone := by
  have : slRow slNone = slNone := by decide
  rw [← this]
  exact SlOk.row _
theorem slEnd_ok {a : List UInt8} (h : SlOk a) : SlOk (slEnd a) ∧ (slEnd a).getLastD 0 ≠ 45 ∧ slEnd a ≠ [] ∧ (slEnd a).length ≤ max 7 a.length := by
  unfold slEnd
  split
  · exact ⟨slNone_ok, by decide, by decide, by simp [slNone]; omega⟩
  · next hn => exact ⟨h.trim.1, h.trim.2.1, hn, by have := h.trim.2.2; omega⟩
theorem slug_ok (s : List UInt8) : SlOk (slugL s) ∧ (slugL s).getLastD 0 ≠ 45 ∧ slugL s ≠ [] ∧ (slugL s).length ≤ 40 := by
  obtain ⟨h1, h2, h3, h4⟩ := slEnd_ok ((SlOk.row (foldL s)).take 40)
  exact ⟨h1, h2, h3, by rw [List.length_take] at h4; unfold slugL; omega⟩

/-! ### An anchor is its own -/
theorem slOne_keeps {id : List UInt8} {b : UInt8} (h : SlOk (id ++ [b])) : slOne id b = id ++ [b] := by
  unfold slOne
  rcases h.signs b (by simp) with hb | hb
  · rw [if_pos hb]
  · subst hb
    rw [if_neg (by decide), if_neg]
    intro e
    by_cases hn : id = []
    · subst hn; exact h.first rfl
    · obtain ⟨p, z, rfl⟩ := snoc_of hn
      rw [getLastD_snoc] at e
      subst e
      exact h.apart p [] 45 45 (by simp) ⟨rfl, rfl⟩
theorem slFold_keeps : ∀ (b a : List UInt8), SlOk (a ++ b) → b.foldl slOne a = a ++ b
  | [], a, _ => by simp
  | c :: b, a, h => by
    have h1 : SlOk (a ++ [c]) := SlOk.pre (b := b) (by simpa using h)
    rw [List.foldl_cons, slOne_keeps h1, slFold_keeps b (a ++ [c]) (by simpa using h)]
    simp
theorem slRow_own {a : List UInt8} (h : SlOk a) : slRow a = a := slFold_keeps a [] h
theorem fold_own : ∀ (l : List UInt8) (a : Bool), (∀ b ∈ l, b.toNat < 128 ∧ spaceB b.toNat = false ∧ smallI b.toNat = b.toNat) → foldS (segs l) false a = l
  | [], a, _ => rfl
  | b :: l, a, h => by
    obtain ⟨h1, h2, h3⟩ := h b (by simp)
    rw [segs_ascii b l h1, foldS]
    simp only
    rw [if_neg (by rw [h2]; simp)]
    have hs : stray (b.toNat, [b]) = false := by
      unfold stray
      have : (b.toNat == 65533) = false := by simp; omega
      simp [this]
    rw [fold_own l true (fun x hx => h x (by simp [hx]))]
    unfold chunkOut
    rw [hs]
    simp only [Bool.false_eq_true, if_false, Bool.false_and, List.nil_append]
    rw [h3, enc1 b.toNat h1]
    simp
theorem ok_low {b : UInt8} (h : slKeep b = true ∨ b = 45) : b.toNat < 128 ∧ spaceB b.toNat = false ∧ smallI b.toNat = b.toNat := by
  have hr : 45 ≤ b.toNat ∧ b.toNat ≤ 122 ∧ ¬ (65 ≤ b.toNat ∧ b.toNat ≤ 90) := by
    rcases h with h | rfl
    · simp [slKeep] at h
      omega
    · decide
  exact ⟨by omega, spaceB_f _ (by omega), smallI_of _ (by omega) (by omega)⟩
theorem fold_ok {a : List UInt8} (h : SlOk a) : foldL a = a := fold_own a false (fun b hb => ok_low (h.signs b hb))
theorem slug_own {a : List UInt8} (h : SlOk a) (h1 : a.getLastD 0 ≠ 45) (h2 : a ≠ []) (h3 : a.length ≤ 40) : slugL a = a := by
  unfold slugL slEnd slTrim
  rw [fold_ok h, slRow_own h, List.take_of_length_le h3, if_neg h1, if_neg h2]
theorem slug_twice (s : List UInt8) : slugL (slugL s) = slugL s := by
  obtain ⟨h1, h2, h3, h4⟩ := slug_ok s
  exact slug_own h1 h2 h3 h4
theorem fold_around1 (s : List UInt8) : foldL ([32] ++ s ++ [9]) = foldL s := by
  have e1 : segs ([32] ++ s ++ [9]) = (32, [32]) :: (segs s ++ [(9, [9])]) := by
    rw [List.singleton_append, List.cons_append, segs_ascii 32 _ (by decide), segs_app s (fresh_cons 9 [] (by decide)), segs_ascii 9 [] (by decide)]
    rfl
  unfold foldL
  rw [e1, foldS, if_pos (by decide), foldS_end _ _ _ _ (by intro c hc; simp at hc; subst hc; decide), foldS_begin _ true false]
theorem slug_around (s : List UInt8) : slugL ([32] ++ s ++ [9]) = slugL s := by
  unfold slugL
  rw [fold_around1]

/-! ### Words with a sign between each two -/
def slWords : List (List UInt8) → List UInt8
  | [] => []
  | x :: xs => x ++ xs.flatMap fun y => [32, 33, 32] ++ y
def slDashes : List (List UInt8) → List UInt8
  | [] => []
  | x :: xs => x ++ xs.flatMap fun y => [45] ++ y
def lowW (x : List UInt8) : Prop := x ≠ [] ∧ ∀ b ∈ x, 97 ≤ b.toNat ∧ b.toNat ≤ 122
theorem slWords_snoc (l : List (List UInt8)) (y : List UInt8) : slWords (l ++ [y]) = (if l = [] then [] else slWords l ++ [32, 33, 32]) ++ y := by
  cases l with
  | nil => simp [slWords]
  | cons x xs => simp [slWords]
theorem slDashes_snoc (l : List (List UInt8)) (y : List UInt8) : slDashes (l ++ [y]) = (if l = [] then [] else slDashes l ++ [45]) ++ y := by
  cases l with
  | nil => simp [slDashes]
  | cons x xs => simp [slDashes]
theorem low_keep {b : UInt8} (h : 97 ≤ b.toNat ∧ b.toNat ≤ 122) : slKeep b = true := by
  simp [slKeep]; omega
theorem fold_word : ∀ (x r : List UInt8) (a : Bool), (∀ b ∈ x, 97 ≤ b.toNat ∧ b.toNat ≤ 122) → x ≠ [] → foldS (segs (x ++ r)) false a = x ++ foldS (segs r) false true
  | [], r, a, _, h => absurd rfl h
  | b :: x, r, a, h, _ => by
    obtain ⟨h1, h2, h3⟩ := ok_low (.inl (low_keep (h b (by simp))))
    rw [List.cons_append, segs_ascii b _ h1, foldS]
    simp only
    rw [if_neg (by rw [h2]; simp)]
    have hs : stray (b.toNat, [b]) = false := by
      unfold stray
      have : (b.toNat == 65533) = false := by simp; omega
      simp [this]
    have ih : foldS (segs (x ++ r)) false true = x ++ foldS (segs r) false true := by
      by_cases hx : x = []
      · subst hx; rfl
      · exact fold_word x r true (fun c hc => h c (by simp [hc])) hx
    rw [ih]
    unfold chunkOut
    rw [hs]
    simp only [Bool.false_eq_true, if_false, Bool.false_and, List.nil_append]
    rw [h3, enc1 b.toNat h1]
    simp
theorem foldS_blank (c : Nat × List UInt8) (cs : List (Nat × List UInt8)) (g a : Bool) (h : spaceB c.1 = true) : foldS (c :: cs) g a = foldS cs true a := by
  rw [foldS, if_pos h]
theorem foldS_sign (c : Nat × List UInt8) (cs : List (Nat × List UInt8)) (g a : Bool) (h : spaceB c.1 = false) : foldS (c :: cs) g a = ((if g && a then [32] else []) ++ chunkOut c) ++ foldS cs false true := by
  rw [foldS, if_neg (by rw [h]; simp)]
theorem chunk_own {b : UInt8} (h1 : b.toNat < 128) (h3 : smallI b.toNat = b.toNat) : chunkOut (b.toNat, [b]) = [b] := by
  have hs : stray (b.toNat, [b]) = false := by
    unfold stray
    have : (b.toNat == 65533) = false := by simp; omega
    simp [this]
  unfold chunkOut
  rw [hs]
  simp only [Bool.false_eq_true, if_false]
  rw [h3, enc1 b.toNat h1]
  simp
theorem fold_gap3 (b : UInt8) (l : List UInt8) (h1 : b.toNat < 128) (h2 : spaceB b.toNat = false) (h3 : smallI b.toNat = b.toNat) : foldS (segs (32 :: 33 :: 32 :: b :: l)) false true = 32 :: 33 :: 32 :: b :: foldS (segs l) false true := by
  have e33 : chunkOut ((33 : UInt8).toNat, [33]) = [33] := chunk_own (b := 33) (by decide) (smallI_of _ (by decide) (by decide))
  have s32 : spaceB ((32 : UInt8).toNat : Nat) = true := by decide
  have s33 : spaceB ((33 : UInt8).toNat : Nat) = false := by decide
  have eb := chunk_own h1 h3
  rw [segs_ascii 32 _ (by decide), segs_ascii 33 _ (by decide), segs_ascii 32 _ (by decide), segs_ascii b _ h1]
  generalize segs l = q
  generalize (32 : UInt8).toNat = n32 at *
  generalize (33 : UInt8).toNat = n33 at *
  generalize b.toNat = nb at *
  rw [foldS_blank (n32, [32]) _ _ _ s32, foldS_sign (n33, [33]) _ _ _ s33, foldS_blank (n32, [32]) _ _ _ s32, foldS_sign (nb, [b]) _ _ _ h2, e33, eb]
  rfl
theorem fold_between (y r : List UInt8) (h : lowW y) : foldS (segs ([32, 33, 32] ++ (y ++ r))) false true = [32, 33, 32] ++ y ++ foldS (segs r) false true := by
  obtain ⟨hn, hl⟩ := h
  cases y with
  | nil => exact absurd rfl hn
  | cons b y =>
    obtain ⟨h1, h2, h3⟩ := ok_low (.inl (low_keep (hl b (by simp))))
    have ih : foldS (segs (y ++ r)) false true = y ++ foldS (segs r) false true := by
      by_cases hx : y = []
      · subst hx; rfl
      · exact fold_word y r true (fun c hc => hl c (by simp [hc])) hx
    have := fold_gap3 b (y ++ r) h1 h2 h3
    rw [ih] at this
    exact this
theorem fold_words : ∀ (l : List (List UInt8)), (∀ x ∈ l, lowW x) → foldS (segs (l.flatMap fun y => [32, 33, 32] ++ y)) false true = l.flatMap fun y => [32, 33, 32] ++ y
  | [], _ => rfl
  | y :: l, h => by
    rw [List.flatMap_cons, List.append_assoc, fold_between y _ (h y (by simp)), fold_words l (fun x hx => h x (by simp [hx])), List.append_assoc]
theorem foldL_words (l : List (List UInt8)) (h : ∀ x ∈ l, lowW x) : foldL (slWords l) = slWords l := by
  cases l with
  | nil => rfl
  | cons x l =>
    unfold foldL slWords
    rw [fold_word x _ false (h x (by simp)).2 (h x (by simp)).1, fold_words l (fun y hy => h y (by simp [hy]))]
theorem slFold_low (x id : List UInt8) (h : ∀ b ∈ x, 97 ≤ b.toNat ∧ b.toNat ≤ 122) : x.foldl slOne id = id ++ x := by
  induction x generalizing id with
  | nil => simp
  | cons b x ih =>
    rw [List.foldl_cons, ih _ (fun c hc => h c (by simp [hc]))]
    unfold slOne
    rw [if_pos (low_keep (h b (by simp)))]
    simp
theorem last_low {x : List UInt8} (h : lowW x) (id : List UInt8) (d : UInt8) : (id ++ x).getLastD d ≠ 45 := by
  obtain ⟨p, z, rfl⟩ := snoc_of h.1
  rw [← List.append_assoc, getLastD_snoc]
  intro e
  have := h.2 z (by simp)
  subst e
  exact absurd this (by decide)
theorem slFold_words : ∀ (l : List (List UInt8)) (id : List UInt8), (∀ x ∈ l, lowW x) → id.getLastD 45 ≠ 45 → (l.flatMap fun y => [32, 33, 32] ++ y).foldl slOne id = id ++ l.flatMap fun y => [45] ++ y
  | [], id, _, _ => by simp
  | y :: l, id, h, hl => by
    have h1 : slOne (slOne (slOne id 32) 33) 32 = id ++ [45] := by
      have e1 : slOne id 32 = id ++ [45] := by
        unfold slOne
        rw [if_neg (by decide), if_neg hl]
      rw [slOne_twice _ _ _ (by decide) (by decide), slOne_twice _ _ _ (by decide) (by decide), e1]
    rw [List.flatMap_cons, List.foldl_append, List.foldl_append]
    show List.foldl slOne (List.foldl slOne (slOne (slOne (slOne id 32) 33) 32) y) _ = _
    rw [h1, slFold_low y _ (h y (by simp)).2, slFold_words l _ (fun x hx => h x (by simp [hx])) (last_low (h y (by simp)) _ _), List.flatMap_cons]
    simp
theorem slRow_words (l : List (List UInt8)) (h : ∀ x ∈ l, lowW x) : slRow (slWords l) = slDashes l := by
  cases l with
  | nil => rfl
  | cons x l =>
    unfold slRow slWords slDashes
    rw [List.foldl_append, slFold_low x _ (h x (by simp)).2, slFold_words l _ (fun y hy => h y (by simp [hy])) (last_low (h x (by simp)) _ _)]
    simp
/-- SlugLong. -/
theorem slug_words (l : List (List UInt8)) (h : ∀ x ∈ l, lowW x) : slugL (slWords l) = slEnd ((slDashes l).take 40) := by
  unfold slugL
  rw [foldL_words l h, slRow_words l h]
theorem slDashes_nil {l : List (List UInt8)} (h : ∀ x ∈ l, lowW x) : slDashes l = [] ↔ l = [] := by
  cases l with
  | nil => simp [slDashes]
  | cons x l => simp [slDashes]; intro e; exact absurd e (h x (by simp)).1

end Go.Proofs.YtpifhjdbcdcelaaDoor
