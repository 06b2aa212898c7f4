/-
  Plain facts for the laws of package mark: signs again and again, small letters, fences, quotes, headings that are made of their parts.
-/
import Derived.Test.YtoleoigpijgboaaDoorMrkP
namespace Go.Proofs.YtoleoigpijgboaaDoor
open Go.RowKit
set_option linter.unusedSimpArgs false
set_option linter.unusedVariables false

/-- A text that is made of one sign, again and again, behind another one. -/
def RepRel (pre : List UInt8) (c : UInt8) (n : Nat) (w : World) (v i : Value) (wr : World) : Prop := ∃ (k : Nat) (U : ByteArray), i = .int .i64 k ∧ k ≤ n ∧ v = .string U ∧ U.data.toList = pre ++ List.replicate k c ∧ wr = w
theorem rep_step {U : ByteArray} {pre : List UInt8} {c : UInt8} {k : Nat} (h : U.data.toList = pre ++ List.replicate k c) : (U ++ (⟨#[c]⟩ : ByteArray)).data.toList = pre ++ List.replicate (k + 1) c := by
  rw [ByteArray.data_append, Array.toList_append, h, List.replicate_succ', List.append_assoc]
theorem text_size {U : ByteArray} {l : List UInt8} (h : U.data.toList = l) : U.size = l.length := by rw [← h]; simp
theorem text_is {U : ByteArray} {l : List UInt8} (h : U.data.toList = l) : (⟨l.toArray⟩ : ByteArray) = U := by rw [← h]

/-- A text that begins with a sign, again and again. -/
theorem mkBegin_rep {n : Nat} {c : UInt8} {l : List UInt8} (h1 : 1 ≤ n) (hc : isGap c = false) : mkBegin (List.replicate n c ++ l) = List.replicate n c ++ l := by
  obtain ⟨k, rfl⟩ : ∃ k, n = k + 1 := ⟨n - 1, by omega⟩
  rw [List.replicate_succ, List.cons_append]
  exact mkBegin_here hc
theorem mkRow_rep_other {n : Nat} {c d : UInt8} {l : List UInt8} (h1 : 1 ≤ n) (hc : c ≠ d) : mkRow d (List.replicate n c ++ l) = 0 := by
  obtain ⟨k, rfl⟩ : ∃ k, n = k + 1 := ⟨n - 1, by omega⟩
  rw [List.replicate_succ, List.cons_append]
  exact mkRow_other hc
theorem rep_drop (n : Nat) (c : UInt8) (l : List UInt8) : (List.replicate n c ++ l).drop n = l := by
  have := List.drop_left (l₁ := List.replicate n c) (l₂ := l)
  rw [List.length_replicate] at this
  exact this
theorem mkCloses_same {n : Nat} {c : UInt8} {l : List UInt8} {k : Int} (h1 : 1 ≤ n) (hc : isGap c = false) (hl : mkRow c l = 0) : mkCloses (List.replicate n c ++ l) c k = (decide (max k 1 ≤ (n : Int)) && l.all isGap) := by
  unfold mkCloses
  rw [mkBegin_rep h1 hc, mkRow_rep, hl, Nat.add_zero, rep_drop]
theorem mkCloses_other {n : Nat} {c d : UInt8} {l : List UInt8} {k : Int} (h1 : 1 ≤ n) (hc : isGap c = false) (hd : c ≠ d) : mkCloses (List.replicate n c ++ l) d k = false := by
  unfold mkCloses
  rw [mkBegin_rep h1 hc, mkRow_rep_other h1 hd, decide_eq_false (by omega), Bool.false_and]
theorem mkUnder_eq {n : Nat} {l : List UInt8} (h1 : 1 ≤ n) (hl : mkRow 61 l = 0) : mkUnder (List.replicate n 61 ++ l) = if l.all isGap then 1 else 0 := by
  unfold mkUnder
  rw [mkCloses_same h1 (by decide) hl, mkCloses_other h1 (by decide) (by decide), decide_eq_true (by omega), Bool.true_and]
  cases l.all isGap <;> rfl
theorem mkUnder_dash {n : Nat} {l : List UInt8} (h1 : 1 ≤ n) (hl : mkRow 45 l = 0) : mkUnder (List.replicate n 45 ++ l) = if l.all isGap then 2 else 0 := by
  unfold mkUnder
  rw [mkCloses_other h1 (by decide) (by decide), mkCloses_same h1 (by decide) hl, decide_eq_true (by omega), Bool.true_and]
  cases l.all isGap <;> rfl
theorem rep_gap : ∀ m : Nat, (List.replicate m (32 : UInt8)).all isGap = true
  | 0 => rfl
  | m + 1 => by rw [List.replicate_succ, List.all_cons, rep_gap m]; rfl
theorem row_blanks {c : UInt8} (hc : c ≠ 32) : ∀ m : Nat, mkRow c (List.replicate m 32) = 0
  | 0 => rfl
  | m + 1 => by rw [List.replicate_succ]; exact mkRow_other (fun e => hc e.symm)

/-- Bytes that are small letters. -/
def Low (l : List UInt8) : Prop := ∀ b ∈ l, 97 ≤ b.toNat ∧ b.toNat ≤ 122
theorem Low.ne {l : List UInt8} (h : Low l) {b c : UInt8} (hb : b ∈ l) (hc : c.toNat < 97) : b ≠ c := by
  rintro rfl
  have := (h b hb).1
  omega
theorem Low.gap {l : List UInt8} (h : Low l) {b : UInt8} (hb : b ∈ l) : isGap b = false := by
  simp [isGap, h.ne hb (c := 32) (by decide), h.ne hb (c := 9) (by decide)]
theorem trimGR_low {l : List UInt8} (h : Low l) : trimGR l = l := by
  rcases List.eq_nil_or_concat l with rfl | ⟨t, b, rfl⟩
  · rfl
  · rw [List.concat_eq_append] at h ⊢
    exact trimGR_snoc t b (h.gap (by simp))
theorem trimRB_low {l : List UInt8} (h : Low l) {c : UInt8} (hc : c.toNat < 97) : Lib.trimRightB l c = l := by
  rcases List.eq_nil_or_concat l with rfl | ⟨t, b, rfl⟩
  · rfl
  · rw [List.concat_eq_append] at h ⊢
    exact trimRB_snoc t b c (h.ne (by simp) hc)
theorem dropGap_low {l r : List UInt8} (h : Low l) (hne : l ≠ []) : (l ++ r).dropWhile isGap = l ++ r := by
  cases l with
  | nil => exact absurd rfl hne
  | cons b t =>
    rw [List.cons_append, List.dropWhile_cons, if_neg (by rw [h.gap (by simp)]; simp)]
/-- Blanks around text that has none at its ends. -/
theorem trimG_around {l : List UInt8} (h : Low l) (r : List UInt8) (hr : trimGR (l ++ r) = l ++ r) (hne : l ≠ []) : trimG (32 :: (l ++ r)) = l ++ r := by
  have e : trimGR (32 :: (l ++ r)) = 32 :: (l ++ r) := by
    rcases List.eq_nil_or_concat (l ++ r) with h0 | ⟨t, b, h0⟩
    · exact absurd (List.append_eq_nil_iff.1 h0).1 hne
    · rw [List.concat_eq_append] at h0
      have hb : isGap b = false := by
        cases hg : isGap b with
        | false => rfl
        | true =>
          rw [h0, trimGR_blank _ _ hg] at hr
          have := trimGR_le t
          rw [hr] at this
          simp at this
          omega
      rw [h0, ← List.cons_append]
      exact trimGR_snoc _ _ hb
  rw [trimG_def, e, List.dropWhile_cons, if_pos (by decide), dropGap_low h hne]
theorem trimG_lead {l : List UInt8} (h : Low l) : trimG (32 :: l) = l := by
  cases l with
  | nil => rfl
  | cons b t =>
    have := trimG_around h [] (by rw [List.append_nil]; exact trimGR_low h) (by simp)
    rw [List.append_nil] at this
    exact this
theorem trimG_two (l : List UInt8) : trimG (l ++ [32, 32]) = trimG l := by
  rw [trimG_def, trimG_def, show l ++ [32, 32] = (l ++ [32]) ++ [32] from by simp, trimGR_blank _ _ (by decide), trimGR_blank _ _ (by decide)]
theorem indexByte_none {l : List UInt8} {c : UInt8} (h : ∀ b ∈ l, b ≠ c) : ¬ 0 ≤ Lib.indexByte l c := by
  induction l with
  | nil => simp [Lib.indexByte]
  | cons b t ih =>
    have h1 : (b == c) = false := by simpa using h b (by simp)
    have h2 := ih (fun x hx => h x (by simp [hx]))
    have h3 := Lib.indexByte_ge t c
    have h4 : Lib.indexByte t c = -1 := by omega
    simp [Lib.indexByte, h1, h4]
/-- A fence of one sign, its info behind a blank. -/
theorem mkFence_made {n : Nat} {c : UInt8} {info : List UInt8} (h1 : 1 ≤ n) (hc : c = 96 ∨ c = 126) (hi : Low info) : mkFence (List.replicate n c ++ 32 :: info) = if n < 3 then none else some (c, n, info) := by
  have hg : isGap c = false := by rcases hc with rfl | rfl <;> rfl
  have hb := mkBegin_rep (l := 32 :: info) h1 hg
  have hp : (if Lib.hasPrefix (List.replicate n c ++ 32 :: info) [126] = true then (126 : UInt8) else 96) = c := by
    obtain ⟨k, rfl⟩ : ∃ k, n = k + 1 := ⟨n - 1, by omega⟩
    rw [List.replicate_succ, List.cons_append]
    rcases hc with rfl | rfl
    · simp [Lib.hasPrefix, List.isPrefixOf]
    · simp [Lib.hasPrefix, List.isPrefixOf]
  have hne : c ≠ 32 := by rcases hc with rfl | rfl <;> decide
  unfold mkFence
  dsimp only
  rw [hb, hp, mkRow_rep, mkRow_other hne.symm, Nat.add_zero, rep_drop, trimG_lead hi]
  by_cases h3 : n < 3
  · rw [if_pos (Or.inl h3), if_pos h3]
  · rw [if_neg h3, if_neg]
    rintro (h | ⟨_, h⟩)
    · exact h3 h
    · exact indexByte_none (fun b hb => hi.ne hb (by decide)) h
/-- A quote behind at most three blanks. -/
theorem mkQuote_made {k : Nat} {l : List UInt8} (hk : k ≤ 3) : mkQuote (List.replicate k 32 ++ 62 :: l) = some (Lib.trimPrefix l [32]) := by
  unfold mkQuote
  rw [mkBegin_few hk (by decide)]
  have h1 : Lib.hasPrefix (62 :: l) [62] = true := by simp [Lib.hasPrefix, List.isPrefixOf]
  have h2 : Lib.trimPrefix (62 :: l) [62] = l := by simp [Lib.trimPrefix, h1]
  rw [h1, h2, if_pos rfl]
theorem trimBlank_yes (l : List UInt8) : Lib.trimPrefix (32 :: l) [32] = l := by
  have h1 : Lib.hasPrefix (32 :: l) [32] = true := by simp [Lib.hasPrefix, List.isPrefixOf]
  simp [Lib.trimPrefix, h1]
theorem trimBlank_no {b : UInt8} {l : List UInt8} (h : b ≠ 32) : Lib.trimPrefix (b :: l) [32] = b :: l := by
  have h1 : Lib.hasPrefix (b :: l) [32] = false := by
    have : (32 == b) = false := by simpa using fun e => h e.symm
    simp [Lib.hasPrefix, List.isPrefixOf, this]
  simp [Lib.trimPrefix, h1]
theorem trimBlank_nil : Lib.trimPrefix [] [32] = [] := rfl
/-- The signs at a heading's end. -/
def hdTail (m : Nat) (text : List UInt8) : List UInt8 := if 0 < m ∧ text ≠ [] then 32 :: List.replicate m 35 else []
theorem rep_last (m : Nat) (c : UInt8) : List.replicate (m + 1) c = List.replicate m c ++ [c] := List.replicate_succ'
theorem tail_gap (m : Nat) (text : List UInt8) (hl : Low text) : trimGR (text ++ hdTail m text) = text ++ hdTail m text := by
  unfold hdTail
  split
  · rename_i h
    obtain ⟨k, rfl⟩ : ∃ k, m = k + 1 := ⟨m - 1, by omega⟩
    rw [rep_last, ← List.cons_append, ← List.append_assoc]
    exact trimGR_snoc _ _ (by decide)
  · rw [List.append_nil]; exact trimGR_low hl
theorem less_tail (m : Nat) (text : List UInt8) (hl : Low text) : mkLess (text ++ hdTail m text) = text := by
  unfold hdTail
  split
  · rename_i h
    have e1 : Lib.trimRightB (text ++ 32 :: List.replicate m 35) 35 = text ++ [32] := by
      rw [show text ++ 32 :: List.replicate m 35 = (text ++ [32]) ++ List.replicate m 35 from by simp, trimRB_same, trimRB_snoc _ _ _ (by decide)]
    have e2 : trimGR (text ++ [32]) = text := by rw [trimGR_blank _ _ (by decide), trimGR_low hl]
    unfold mkLess
    rw [e1, e2, if_neg]
    rintro ⟨h1, _⟩
    have := congrArg List.length h1
    simp at this
  · rw [List.append_nil]
    unfold mkLess
    rw [trimRB_low hl (by decide), trimGR_low hl]
    by_cases h : text = []
    · rw [if_neg (fun h2 => h2.2 h)]
    · rw [if_pos ⟨rfl, h⟩]
/-- A heading that is made of its parts. -/
theorem mkHead_made {k n m : Nat} {text : List UInt8} (hk : k ≤ 3) (h1 : 1 ≤ n) (hl : Low text) :
    mkHead (List.replicate k 32 ++ (List.replicate n 35 ++ 32 :: (text ++ hdTail m text ++ [32, 32]))) = if n ≤ 6 then some (n, text) else none := by
  have hb : mkBegin (List.replicate k 32 ++ (List.replicate n 35 ++ 32 :: (text ++ hdTail m text ++ [32, 32]))) = List.replicate n 35 ++ 32 :: (text ++ hdTail m text ++ [32, 32]) := by
    obtain ⟨j, rfl⟩ : ∃ j, n = j + 1 := ⟨n - 1, by omega⟩
    rw [List.replicate_succ, List.cons_append]
    exact mkBegin_few hk (by decide)
  unfold mkHead
  rw [hb, mkRow_rep, mkRow_other (by decide), Nat.add_zero, rep_drop]
  have et : trimG (32 :: (text ++ hdTail m text ++ [32, 32])) = text ++ hdTail m text := by
    rw [← List.cons_append, trimG_two]
    by_cases h : text = []
    · subst h
      have : hdTail m [] = [] := by unfold hdTail; rw [if_neg (fun h => h.2 rfl)]
      rw [this]; rfl
    · exact trimG_around hl _ (tail_gap m text hl) h
  by_cases h6 : n ≤ 6
  · rw [if_pos ⟨h1, h6, rfl⟩, if_pos h6, et, less_tail m text hl]
  · rw [if_neg (fun h => h6 h.2.1), if_neg h6]

end Go.Proofs.YtoleoigpijgboaaDoor
