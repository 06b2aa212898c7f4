/-
  Plain facts for the laws of the layer token.
-/
import Derived.Test.YtggdpmaomhmobaaGreatDoorTkP
import Derived.Lib.IndexMore
namespace Go.Proofs.YtggdpmaomhmobaaGreatDoor
open Go.RowKit
set_option linter.unusedSimpArgs false
set_option linter.unusedVariables false

theorem tw_stop (p : UInt8 → Bool) : ∀ (a r : List UInt8), (∀ b ∈ a, p b = true) → (∀ b ∈ r.head?, p b = false) → (a ++ r).takeWhile p = a
  | [], [], _, _ => rfl
  | [], c :: r, _, h => by
    have := h c (by simp)
    simp [this]
  | b :: a, r, h, hr => by
    have hb := h b (by simp)
    rw [List.cons_append, List.takeWhile_cons, if_pos hb, tw_stop p a r (fun x hx => h x (by simp [hx])) hr]
theorem past_at (p : UInt8 → Bool) (x a r : List UInt8) (k : Nat) (hk : x.length = k) (h : ∀ b ∈ a, p b = true) (hr : ∀ b ∈ r.head?, p b = false) : pastL p (x ++ (a ++ r)) k = k + a.length := by
  subst hk
  unfold pastL
  rw [List.drop_left, tw_stop p a r h hr]
theorem hasL_at (x r : List UInt8) (c b : UInt8) (k : Nat) (hk : x.length = k) : hasL (x ++ c :: r) k b = (c == b) := by
  subst hk
  unfold hasL
  rw [List.getElem?_append_right (Nat.le_refl _)]
  simp
theorem hasL_end (x : List UInt8) (b : UInt8) (k : Nat) (hk : x.length ≤ k) : hasL x k b = false := by
  unfold hasL
  rw [List.getElem?_eq_none hk]
  rfl
theorem row_rep (n : Nat) (hn : 1 ≤ n) (c : UInt8) (r : List UInt8) (hr : ∀ b ∈ r.head?, (b == c) = false) : rowL (List.replicate n c ++ r) = n := by
  obtain ⟨m, rfl⟩ : ∃ m, n = m + 1 := ⟨n - 1, by omega⟩
  unfold rowL
  rw [List.replicate_succ, List.cons_append, show (c :: (List.replicate m c ++ r)) = [c] ++ (List.replicate m c ++ r) from rfl, past_at _ [c] (List.replicate m c) r 1 rfl (by intro b hb; rw [List.eq_of_mem_replicate hb]; simp) (by simpa using hr)]
  simp; omega
/-- A row of stars, or of underscores. -/
theorem next_run (n : Nat) (hn : 1 ≤ n) (c : UInt8) (hc : c = 42 ∨ c = 95) (r : List UInt8) (hr : ∀ b ∈ r.head?, (b == c) = false) : nextL (List.replicate n c ++ r) = (.run c n, n) := by
  have hrow := row_rep n hn c r hr
  have h1 : (List.replicate n c ++ r).headD 1 = c := by
    obtain ⟨m, rfl⟩ : ∃ m, n = m + 1 := ⟨n - 1, by omega⟩
    rw [List.replicate_succ]; rfl
  have hf : firstTk (List.replicate n c ++ r) = (.run c n, n) := by
    unfold firstTk
    rw [h1, hrow]
    rcases hc with rfl | rfl <;> simp
  unfold nextL
  rw [hf, if_neg (by simp; omega)]
theorem tokens_runs (a b : Nat) (ha : 1 ≤ a) (hb : 1 ≤ b) (x y : UInt8) (hx : x = 42 ∨ x = 95) (hy : y = 42 ∨ y = 95) (hxy : y ≠ x) :
    tokensL (List.replicate a x ++ List.replicate b y) = [.run x a, .run y b] := by
  have e1 := next_run a ha x hx (List.replicate b y) (by
    intro z hz
    obtain ⟨m, rfl⟩ : ∃ m, b = m + 1 := ⟨b - 1, by omega⟩
    rw [List.replicate_succ] at hz
    simp at hz
    subst hz
    simpa using hxy)
  have e2 := next_run b hb y hy [] (by simp)
  rw [List.append_nil] at e2
  unfold tokensL
  rw [List.length_append, List.length_replicate, List.length_replicate]
  obtain ⟨f, hf⟩ : ∃ f, a + b = f + 2 := ⟨a + b - 2, by omega⟩
  rw [hf, allTk, if_neg (by simp; omega), e1]
  simp only
  rw [show (List.replicate a x ++ List.replicate b y).drop a = List.replicate b y from List.drop_left' (by simp), allTk, if_neg (by simp; omega), e2]
  simp only
  rw [show (List.replicate b y).drop b = [] from by simp]
  cases f <;> rfl

/-- What may stand in plain text. -/
def tkPlain (b : UInt8) : Bool := (inR b.toNat 97 122 || b == 32 || b == 46 || decide (128 ≤ (b.toNat : Int)))
theorem plain_ne {b : UInt8} (h : tkPlain b = true) : b ≠ 10 ∧ (b ≠ 32 → b ≠ 0 ∧ b ≠ 92 ∧ b ≠ 38 ∧ b ≠ 96 ∧ b ≠ 60 ∧ b ≠ 42 ∧ b ≠ 95 ∧ b ≠ 33 ∧ b ≠ 91 ∧ b ≠ 93) := by
  refine ⟨?_, fun _ => ⟨?_, ?_, ?_, ?_, ?_, ?_, ?_, ?_, ?_, ?_⟩⟩ <;> (rintro rfl; revert h; decide)
theorem next_plain (l : List UInt8) (hne : l ≠ []) (h : ∀ b ∈ l, tkPlain b = true) : ∃ k, 1 ≤ k ∧ k ≤ l.length ∧ nextL l = (.word (l.take k), k) := by
  obtain ⟨c, t, rfl⟩ : ∃ c t, l = c :: t := by cases l with | nil => exact absurd rfl hne | cons c t => exact ⟨c, t, rfl⟩
  obtain ⟨h10, hrest⟩ := plain_ne (h c (by simp))
  have hfirst : (firstTk (c :: t)).2 = 0 := by
    by_cases h32 : c = 32
    · subst h32
      have hl : lineTk (32 :: t) = (.brk false, 0) := by
        unfold lineTk
        have : hasL (32 :: t) (pastL (fun b => b == 32) (32 :: t) 0) 10 = false := by
          cases hh : hasL (32 :: t) (pastL (fun b => b == 32) (32 :: t) 0) 10 with
          | false => rfl
          | true =>
            unfold hasL at hh
            have := eq_of_beq hh
            have hm := List.mem_of_getElem? this
            exact absurd rfl (plain_ne (h 10 hm)).1
        simp only [this, if_true]
      unfold firstTk
      simp [hl]
    · obtain ⟨a1, a2, a3, a4, a5, a6, a7, a8, a9, a10⟩ := hrest h32
      unfold firstTk
      simp [a1, a2, a3, a4, a5, a6, a7, a8, a9, a10, h32, h10]
  refine ⟨(wordTk (c :: t)).2, ?_, ?_, ?_⟩
  · unfold wordTk
    simp only
    split
    · exact rowL_pos _
    · exact pastL_ge _ _ _
  · unfold wordTk
    simp only
    split
    · exact rowL_le _ hne
    · exact pastL_le _ _ _ (by simp)
  · unfold nextL
    rw [if_pos hfirst]
    rfl
theorem all_plain : ∀ (f : Nat) (l : List UInt8), l.length ≤ f → (∀ b ∈ l, tkPlain b = true) → ∃ ws : List (List UInt8), allTk f l = ws.map Tk.word ∧ ws.flatten = l
  | 0, l, hf, _ => ⟨[], by rw [allTk]; rfl, by rw [List.length_eq_zero_iff.1 (by omega : l.length = 0)]; rfl⟩
  | f + 1, l, hf, h => by
    by_cases hn : l = []
    · subst hn
      exact ⟨[], by rw [allTk, if_pos rfl]; rfl, rfl⟩
    · obtain ⟨k, h1, h2, h3⟩ := next_plain l hn h
      obtain ⟨ws, e1, e2⟩ := all_plain f (l.drop k) (by rw [List.length_drop]; omega) (fun b hb => h b (List.mem_of_mem_drop hb))
      refine ⟨l.take k :: ws, ?_, ?_⟩
      · rw [allTk, if_neg hn, h3]
        simp only
        rw [e1]
        rfl
      · rw [List.flatten_cons, e2, List.take_append_drop]
theorem tokens_plain (l : List UInt8) (h : ∀ b ∈ l, tkPlain b = true) : ∃ ws : List (List UInt8), tokensL l = ws.map Tk.word ∧ ws.flatten = l := all_plain _ l (Nat.le_refl _) h

/-- What is behind a backslash: one byte. -/
theorem slash_first (c : UInt8) (h10 : c ≠ 10) : firstTk [92, c] = if tkAscii c then (.word [c], 2) else (.no, 0) := by
  have e : hasL [92, c] 1 10 = false := by
    have := hasL_at [92] [] c 10 1 rfl
    rw [List.singleton_append] at this
    rw [this]
    simpa using h10
  unfold firstTk escapedL
  simp [e]
theorem next_slash (c : UInt8) (h10 : c ≠ 10) (h : tkAscii c = true) : nextL [92, c] = (.word [c], 2) := by
  unfold nextL
  rw [slash_first c h10, if_pos h]
  rfl
theorem next_slash_no (c : UInt8) (h10 : c ≠ 10) (h : tkAscii c = false) : ∃ t, (nextL [92, c]).1 = .word (92 :: t) := by
  unfold nextL
  rw [show firstTk [92, c] = (.no, 0) from by rw [slash_first c h10, h]; rfl, if_pos rfl]
  unfold wordTk
  simp only
  have hn : 1 ≤ (if [92, c].headD 1 = 32 then rowL [92, c] else pastL tkWord [92, c] 1) := by
    split
    · exact rowL_pos _
    · exact pastL_ge _ _ _
  generalize (if [92, c].headD 1 = 32 then rowL [92, c] else pastL tkWord [92, c] 1) = n at *
  obtain ⟨m, rfl⟩ : ∃ m, n = m + 1 := ⟨n - 1, by omega⟩
  exact ⟨_, by rw [List.take_succ_cons]⟩

/-- The end of a line. -/
def brkText (n m : Nat) (slash : Bool) : List UInt8 := [97] ++ (if slash then [92] else []) ++ List.replicate n 32 ++ [10] ++ List.replicate m 32 ++ [98]
theorem tokens_breaks : ∀ n : Nat, n < 7 → ∀ m : Nat, m < 7 → tokensL (brkText n m false) = [.word [97], .brk (decide (2 ≤ n)), .word [98]] := by decide +kernel
theorem tokens_slash : ∀ m : Nat, m < 7 → tokensL (brkText 0 m true) = [.word [97], .brk true, .word [98]] := by decide +kernel

/-- Code. -/
theorem rep_prefix (n : Nat) (r : List UInt8) : (List.replicate n (96 : UInt8)).isPrefixOf (List.replicate n 96 ++ r) = true := List.isPrefixOf_iff_prefix.2 (List.prefix_append _ _)
theorem idx_code (n : Nat) (hn : 1 ≤ n) : ∀ (t r : List UInt8), (∀ b ∈ t, b ≠ 96) → Lib.index (t ++ (List.replicate n 96 ++ r)) (List.replicate n 96) = t.length
  | [], r, _ => by
    obtain ⟨m, rfl⟩ : ∃ m, n = m + 1 := ⟨n - 1, by omega⟩
    have := rep_prefix (m + 1) r
    rw [List.replicate_succ, List.cons_append] at this
    rw [List.nil_append, List.replicate_succ, List.cons_append, Lib.index, if_pos this]
    rfl
  | b :: t, r, h => by
    have hb : b ≠ 96 := h b (by simp)
    obtain ⟨m, rfl⟩ : ∃ m, n = m + 1 := ⟨n - 1, by omega⟩
    have ih := idx_code (m + 1) hn t r (fun x hx => h x (by simp [hx]))
    rw [List.cons_append, Lib.index, if_neg, ih]
    · have : (((t.length : Int)) == -1) = false := by simp
      rw [this]
      simp
    · rw [List.replicate_succ]
      simp only [List.isPrefixOf, Bool.and_eq_true, beq_iff_eq]
      exact fun e => hb e.1.symm
theorem idx_none (n : Nat) (hn : 1 ≤ n) : ∀ (t : List UInt8), (∀ b ∈ t, b ≠ 96) → Lib.index t (List.replicate n 96) = -1
  | [], _ => by
    obtain ⟨m, rfl⟩ : ∃ m, n = m + 1 := ⟨n - 1, by omega⟩
    rw [List.replicate_succ]; rfl
  | b :: t, h => by
    have hb : b ≠ 96 := h b (by simp)
    obtain ⟨m, rfl⟩ : ∃ m, n = m + 1 := ⟨n - 1, by omega⟩
    rw [Lib.index, if_neg, idx_none (m + 1) hn t (fun x hx => h x (by simp [hx]))]
    · rfl
    · rw [List.replicate_succ]
      simp only [List.isPrefixOf, Bool.and_eq_true, beq_iff_eq]
      exact fun e => hb e.1.symm
theorem rep_head (n : Nat) (hn : 1 ≤ n) (r : List UInt8) : (List.replicate n (96 : UInt8) ++ r).headD 1 = 96 := by
  obtain ⟨m, rfl⟩ : ∃ m, n = m + 1 := ⟨n - 1, by omega⟩
  rw [List.replicate_succ]; rfl
theorem next_of_code (l : List UInt8) (h : l.headD 1 = 96) (h2 : (codeL l).2 ≠ 0) : nextL l = codeL l := by
  have : firstTk l = codeL l := by
    unfold firstTk
    simp only [h]
    simp
  unfold nextL
  rw [this, if_neg h2]
theorem head_ne (t : List UInt8) (ht : t ≠ []) (h : ∀ b ∈ t, b ≠ 96) (r : List UInt8) : ∀ b ∈ (t ++ r).head?, (b == 96) = false := by
  cases t with
  | nil => exact absurd rfl ht
  | cons c t =>
    intro b hb
    simp at hb
    subst hb
    simpa using h c (by simp)
theorem next_code (n : Nat) (hn : 1 ≤ n) (t : List UInt8) (ht : t ≠ []) (h : ∀ b ∈ t, b ≠ 96) :
    nextL (List.replicate n 96 ++ (t ++ List.replicate n 96)) = (.code (shownL t), 2 * n + t.length) := by
  have hr := row_rep n hn 96 (t ++ List.replicate n 96) (head_ne t ht h _)
  have hr2 := row_rep n hn 96 [] (by simp)
  rw [List.append_nil] at hr2
  have hd : (List.replicate n (96 : UInt8) ++ (t ++ List.replicate n 96)).drop n = t ++ List.replicate n 96 := List.drop_left' (by simp)
  have htk : (List.replicate n (96 : UInt8) ++ (t ++ List.replicate n 96)).take n = List.replicate n 96 := List.take_left' (by simp)
  have hi := idx_code n hn t [] h
  rw [List.append_nil] at hi
  have hd2 : (List.replicate n (96 : UInt8) ++ (t ++ List.replicate n 96)).drop (n + t.length) = List.replicate n 96 := by
    rw [← List.append_assoc]
    exact List.drop_left' (by simp)
  have htk2 : ((List.replicate n (96 : UInt8) ++ (t ++ List.replicate n 96)).take (n + t.length)).drop n = t := by
    rw [← List.append_assoc, List.take_left' (by simp)]
    exact List.drop_left' (by simp)
  have hc : codeL (List.replicate n 96 ++ (t ++ List.replicate n 96)) = (.code (shownL t), 2 * n + t.length) := by
    unfold codeL
    rw [hr, codeGo, hd, htk, hi, if_neg (by omega)]
    simp only [Int.toNat_natCast]
    rw [hd2, hr2, if_pos (by omega), htk2]
    congr 1
    omega
  rw [next_of_code _ (rep_head n hn _) (by rw [hc]; simp; omega), hc]
theorem next_open (n : Nat) (hn : 1 ≤ n) (t : List UInt8) (ht : t ≠ []) (h : ∀ b ∈ t, b ≠ 96) :
    nextL (List.replicate n 96 ++ t) = (.word (List.replicate n 96), n) := by
  have hr := row_rep n hn 96 t (by have := head_ne t ht h []; rwa [List.append_nil] at this)
  have hd : (List.replicate n (96 : UInt8) ++ t).drop n = t := List.drop_left' (by simp)
  have htk : (List.replicate n (96 : UInt8) ++ t).take n = List.replicate n 96 := List.take_left' (by simp)
  have hc : codeL (List.replicate n 96 ++ t) = (.word (List.replicate n 96), n) := by
    unfold codeL
    rw [hr, codeGo, hd, htk, idx_none n hn t h, if_pos (by decide)]
  rw [next_of_code _ (rep_head n hn _) (by rw [hc]; simp; omega), hc]
end Go.Proofs.YtggdpmaomhmobaaGreatDoor
