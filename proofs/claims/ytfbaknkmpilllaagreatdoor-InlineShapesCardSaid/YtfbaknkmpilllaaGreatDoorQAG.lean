/- Texts joined: InQ InR TgLo DefR TgRp InS InU. -/
import Derived.Test.YtfbaknkmpilllaaGreatDoorQAF
namespace Go.Proofs.YtfbaknkmpilllaaGreatDoor
open Go.RowKit
set_option linter.unusedSimpArgs false
set_option linter.unusedVariables false
def inlFrom (E : Env) (D : List Dfn) (s : List UInt8) (i : Nat) (l : List Ent) : List Ent := inlGo E D s (s.length - i) i l
theorem inlGo_fuel (E : Env) (D : List Dfn) (s : List UInt8) : ∀ (f i : Nat) (l : List Ent), s.length ≤ i + f → inlGo E D s f i l = inlFrom E D s i l := by
  suffices ∀ (n f g i : Nat) (l : List Ent), s.length - i ≤ n → s.length ≤ i + f → s.length ≤ i + g → inlGo E D s f i l = inlGo E D s g i l from
    fun f i l h => this _ _ _ _ _ (Nat.le_refl _) h (by omega)
  intro n
  induction n with
  | zero =>
    intro f g i l h _ _
    have hn : ¬ i < s.length := by omega
    cases f <;> cases g <;> simp [inlGo, hn]
  | succ n ih =>
    intro f g i l h hf hg
    by_cases hi : i < s.length
    · obtain ⟨f, rfl⟩ : ∃ f', f = f' + 1 := ⟨f - 1, by omega⟩
      obtain ⟨g, rfl⟩ : ∃ g', g = g' + 1 := ⟨g - 1, by omega⟩
      have hne : s.drop i ≠ [] := by intro e; have := congrArg List.length e; simp at this; omega
      have h1 := (next_len (s.drop i) hne).1
      simp only [inlGo, if_pos hi]
      exact ih f g _ _ (by omega) (by omega) (by omega)
    · cases f <;> cases g <;> simp [inlGo, hi]
theorem inlFrom_end (E : Env) (D : List Dfn) (s : List UInt8) (i : Nat) (l : List Ent) (h : s.length ≤ i) : inlFrom E D s i l = l := by
  unfold inlFrom
  rw [show s.length - i = 0 from by omega]
  rfl
theorem inlFrom_tok (E : Env) (D : List Dfn) (s : List UInt8) (i : Nat) (l : List Ent) (h : i < s.length) {t : Tk} {n : Nat} (ht : nextL (s.drop i) = (t, n)) :
    inlFrom E D s i l = inlFrom E D s (i + n + (stepI E D s i (i + n) t l).2) (stepI E D s i (i + n) t l).1 := by
  have hne : s.drop i ≠ [] := by intro e; have := congrArg List.length e; simp at this; omega
  have h1 := (next_len (s.drop i) hne).1
  rw [ht] at h1
  conv => lhs; unfold inlFrom
  obtain ⟨f, hf⟩ : ∃ f, s.length - i = f + 1 := ⟨s.length - i - 1, by omega⟩
  rw [hf]
  simp only [inlGo, if_pos h, ht]
  exact inlGo_fuel E D s f _ _ (by simp at h1; omega)
/-- A token that takes nothing of what is behind it. -/
theorem inlFrom_plain (E : Env) (D : List Dfn) (p u r : List UInt8) (l : List Ent) {t : Tk} (hu : u ≠ []) (ht : nextL (u ++ r) = (t, u.length)) (hm : ∀ m, t = .mark m → m = [91] ∨ m = [33, 91]) :
    inlFrom E D (p ++ (u ++ r)) p.length l = inlFrom E D (p ++ (u ++ r)) (p ++ u).length (stepI E D (p ++ (u ++ r)) p.length (p ++ u).length t l).1 := by
  have hlen : 0 < u.length := List.length_pos_iff.2 hu
  have hs : (stepI E D (p ++ (u ++ r)) p.length (p.length + u.length) t l).2 = 0 := by
    unfold stepI
    split
    case h_9 m =>
      rcases hm m rfl with rfl | rfl
      · rw [if_pos rfl]
      · rw [if_neg (by decide), if_pos rfl]
    all_goals rfl
  have hd : (p ++ (u ++ r)).drop p.length = u ++ r := List.drop_left' rfl
  rw [inlFrom_tok E D _ _ l (by simp; omega) (t := t) (n := u.length) (by rw [hd]; exact ht), hs, List.length_append, Nat.add_zero]
theorem inlE_from (E : Env) (D : List Dfn) (s : List UInt8) : inlE E D s = groupI ((inlFrom E D s 0 []).reverse.map entI) := rfl
theorem word_ne {c : UInt8} (h : tkWord c = true) : c ≠ 0 ∧ c ≠ 92 ∧ c ≠ 38 ∧ c ≠ 96 ∧ c ≠ 60 ∧ c ≠ 42 ∧ c ≠ 95 ∧ c ≠ 33 ∧ c ≠ 91 ∧ c ≠ 93 ∧ c ≠ 10 ∧ c ≠ 32 := by
  refine ⟨?_, ?_, ?_, ?_, ?_, ?_, ?_, ?_, ?_, ?_, ?_, ?_⟩ <;> (rintro rfl; revert h; decide +kernel)
theorem first_word (c : UInt8) (t : List UInt8) (h : tkWord c = true) : firstTk (c :: t) = (.no, 0) := by
  obtain ⟨a1, a2, a3, a4, a5, a6, a7, a8, a9, a10, a11, a12⟩ := word_ne h
  unfold firstTk
  simp [a1, a2, a3, a4, a5, a6, a7, a8, a9, a10, a11, a12]
theorem next_word (a r : List UInt8) (ha : a ≠ []) (h : ∀ b ∈ a, tkWord b = true) (hr : ∀ b ∈ r.head?, tkWord b = false) : nextL (a ++ r) = (.word a, a.length) := by
  obtain ⟨c, t, rfl⟩ : ∃ c t, a = c :: t := by cases a with | nil => exact absurd rfl ha | cons c t => exact ⟨c, t, rfl⟩
  have hc := h c (by simp)
  unfold nextL
  rw [List.cons_append, first_word c _ hc, if_pos rfl]
  have h32 : ¬ (c :: (t ++ r)).headD 1 = 32 := (word_ne hc).2.2.2.2.2.2.2.2.2.2.2
  have hp : pastL tkWord (c :: (t ++ r)) 1 = (c :: t).length := by
    rw [cons_one, past_at tkWord [c] t r 1 rfl (fun b hb => h b (by simp [hb])) hr]
    simp; omega
  unfold wordTk
  simp only [if_neg h32, hp]
  rw [show (c :: (t ++ r)) = (c :: t) ++ r from rfl, List.take_left' rfl]
theorem next_sq (r : List UInt8) : nextL (91 :: r) = (.mark [91], 1) := by
  unfold nextL firstTk markTk
  simp [Lib.hasPrefix]
theorem next_qs (r : List UInt8) : nextL (93 :: r) = (.mark [93], 1) := by
  unfold nextL firstTk markTk
  simp [Lib.hasPrefix]
theorem next_im (r : List UInt8) : nextL (33 :: 91 :: r) = (.mark [33, 91], 2) := by
  unfold nextL firstTk markTk
  simp [Lib.hasPrefix]
theorem next_esc (c : UInt8) (r : List UInt8) (h10 : c ≠ 10) (h : tkAscii c = true) : nextL (92 :: c :: r) = (.word [c], 2) := by
  have e : hasL (92 :: c :: r) 1 10 = false := by
    have := hasL_at [92] r c 10 1 rfl
    rw [List.singleton_append] at this
    rw [this]
    simpa using h10
  unfold nextL firstTk escapedL
  simp [e, h]
theorem first_blank (l : List UInt8) (h : l.headD 1 = 32 ∨ l.headD 1 = 10) : firstTk l = lineTk l := by
  unfold firstTk
  rcases h with h | h <;> (simp only [h]; rfl)
theorem rep_head2 (k : Nat) (c : UInt8) (r : List UInt8) (d : UInt8) (hk : 1 ≤ k) : (List.replicate k c ++ r).headD d = c := by
  obtain ⟨m, rfl⟩ : ∃ m, k = m + 1 := ⟨k - 1, by omega⟩
  rw [List.replicate_succ]; rfl
theorem past_blanks (k : Nat) (r : List UInt8) (hr : ∀ b ∈ r.head?, b ≠ 32) : pastL (fun b => b == 32) (List.replicate k 32 ++ r) 0 = k := by
  have := past_at (fun b => b == 32) [] (List.replicate k 32) r 0 rfl (by intro b hb; rw [List.eq_of_mem_replicate hb]; rfl) (fun b hb => by have := hr b hb; simpa using this)
  simpa using this
theorem next_line (k m : Nat) (r : List UInt8) (hr : ∀ b ∈ r.head?, tkBlank b = false) : nextL (List.replicate k 32 ++ 10 :: (List.replicate m 32 ++ r)) = (.brk (decide (2 ≤ k)), k + 1 + m) := by
  have e1 := past_blanks k (10 :: (List.replicate m 32 ++ r)) (by simp)
  have e2 := hasL_at (List.replicate k 32) (List.replicate m 32 ++ r) 10 10 k (by simp)
  have e3 := past_at tkBlank (List.replicate k 32 ++ [10]) (List.replicate m 32) r (k + 1) (by simp) (by intro b hb; rw [List.eq_of_mem_replicate hb]; decide) hr
  have hl : lineTk (List.replicate k 32 ++ 10 :: (List.replicate m 32 ++ r)) = (.brk (decide (2 ≤ k)), k + 1 + m) := by
    rw [show List.replicate k 32 ++ [10] ++ (List.replicate m 32 ++ r) = List.replicate k 32 ++ 10 :: (List.replicate m 32 ++ r) from by simp, List.length_replicate] at e3
    unfold lineTk
    simp only [e1, e2, e3, beq_self_eq_true, Bool.true_eq_false, if_false]
  have hh : (List.replicate k (32 : UInt8) ++ 10 :: (List.replicate m 32 ++ r)).headD 1 = 32 ∨ (List.replicate k (32 : UInt8) ++ 10 :: (List.replicate m 32 ++ r)).headD 1 = 10 := by
    cases k with
    | zero => exact Or.inr rfl
    | succ k => exact Or.inl (rep_head2 _ _ _ _ (by omega))
  unfold nextL
  have hf : firstTk (List.replicate k 32 ++ 10 :: (List.replicate m 32 ++ r)) = (.brk (decide (2 ≤ k)), k + 1 + m) := by
    rw [first_blank _ hh, hl]
  rw [hf, if_neg (by simp)]
theorem next_blanks (k : Nat) (hk : 1 ≤ k) (r : List UInt8) (hr : ∀ b ∈ r.head?, b ≠ 32 ∧ b ≠ 10) : nextL (List.replicate k 32 ++ r) = (.word (List.replicate k 32), k) := by
  have e1 := past_blanks k r (fun b hb => (hr b hb).1)
  have hh := rep_head2 k 32 r 1 hk
  have e2 : hasL (List.replicate k 32 ++ r) k 10 = false := by
    unfold hasL
    rw [List.getElem?_append_right (by simp)]
    cases r with
    | nil => simp
    | cons b r => have := (hr b (by simp)).2; simp [this]
  have hl : lineTk (List.replicate k 32 ++ r) = (.brk false, 0) := by
    unfold lineTk
    simp only [e1, e2, if_true]
  have hf : firstTk (List.replicate k 32 ++ r) = (.brk false, 0) := by
    rw [first_blank _ (Or.inl hh), hl]
  unfold nextL
  rw [hf, if_pos rfl]
  have hrow := tkRow_rep k hk 32 r (fun b hb => by have := (hr b hb).1; simpa using this)
  unfold wordTk
  simp only [if_pos hh, hrow]
  rw [List.take_left' (by simp)]
theorem all_nds (L : List Itm) (h : ∀ x ∈ L, x.sg = 0) : groupI L = mergeI (allI L) := by
  unfold groupI
  rw [groupGo_stay L [] _ (fun c hc => by simp [canClose, h c hc]) (by unfold fuelI; omega)]
  rfl
theorem allI_nds (L : List (List Iln)) : allI (L.map ndI) = L.flatten := by
  induction L with
  | nil => rfl
  | cons x L ih => rw [List.map_cons, allI_cons, ih]; simp [leftI, ndI]
end Go.Proofs.YtfbaknkmpilllaaGreatDoor

namespace Go.Proofs.YtfbaknkmpilllaaGreatDoor
open Go.RowKit
set_option linter.unusedSimpArgs false
set_option linter.unusedVariables false
def okW (x : Iln) : Bool := x.kd != 1 || (!x.txt.isEmpty && x.url.isEmpty && x.ttl.isEmpty)
def apartB : List Iln → Bool
  | [] => true
  | [x] => okW x
  | x :: y :: l => okW x && !(x.kd == 1 && y.kd == 1 && x.dp == y.dp) && apartB (y :: l)
theorem apartB_ok : ∀ (l : List Iln), apartB l = true → ∀ x ∈ l, okW x = true
  | [], _, x, hx => by cases hx
  | [y], h, x, hx => by simp at hx; subst hx; exact h
  | y :: z :: l, h, x, hx => by
    simp only [apartB, Bool.and_eq_true] at h
    rcases List.mem_cons.1 hx with rfl | hx
    · exact h.1.1
    · exact apartB_ok (z :: l) h.2 x hx
theorem apartB_two : ∀ (l p : List Iln) (a b : Iln) (q : List Iln), apartB l = true → l = p ++ a :: b :: q → ¬ (a.kd = 1 ∧ b.kd = 1 ∧ a.dp = b.dp)
  | [], p, a, b, q, _, e => by simp at e
  | [y], p, a, b, q, _, e => by have := congrArg List.length e; simp at this; omega
  | y :: z :: l, [], a, b, q, h, e => by
    simp only [List.nil_append, List.cons.injEq] at e
    obtain ⟨rfl, rfl, _⟩ := e
    simp only [apartB, Bool.and_eq_true, Bool.not_eq_true', Bool.and_eq_false_iff] at h
    rintro ⟨h1, h2, h3⟩
    have := h.1.2
    simp [h1, h2, h3] at this
  | y :: z :: l, c :: p, a, b, q, h, e => by
    simp only [List.cons_append, List.cons.injEq] at e
    simp only [apartB, Bool.and_eq_true] at h
    exact apartB_two (z :: l) p a b q h.2 e.2
theorem merged_of {l : List Iln} (h : apartB l = true) : Merged l :=
  ⟨fun x hx hk => by
    have := apartB_ok l h x hx
    simp [okW, hk] at this
    exact ⟨this.1.1, this.1.2, this.2⟩, fun p a b q e => apartB_two l p a b q h e⟩
def entT (E : Env) : Tk → List (List Iln)
  | .word w => [[wordsI 0 w]]
  | .code c => [[⟨2, 0, E.code c, [], []⟩]]
  | .tag x => [[⟨9, 0, x, [], []⟩]]
  | .auto u x => [[⟨5, 0, [], u, []⟩, wordsI 1 x]]
  | .brk h => [[⟨if h then 8 else 7, 0, [], [], []⟩]]
  | .atom k => [(E.atom k).getD []]
  | _ => []
def simpT : Tk → Bool
  | .run _ _ => false
  | .mark _ => false
  | _ => true
theorem step_simp (E : Env) (D : List Dfn) (s : List UInt8) (a b : Nat) (t : Tk) (l : List Ent) (h : simpT t = true) : (stepI E D s a b t l).1 = ((entT E t).map fun x => Ent.it (ndI x)) ++ l := by
  cases t with
  | run b n => cases h
  | mark m => cases h
  | _ => rfl
/-- A text in pieces, each of which is a token. -/
def flatP (ps : List (List UInt8 × Tk)) : List UInt8 := ps.flatMap (·.1)
def Cuts : List (List UInt8 × Tk) → List UInt8 → Prop
  | [], _ => True
  | p :: ps, r => p.1 ≠ [] ∧ nextL (p.1 ++ (flatP ps ++ r)) = (p.2, p.1.length) ∧ simpT p.2 = true ∧ Cuts ps r
theorem flatP_cons (p : List UInt8 × Tk) (ps : List (List UInt8 × Tk)) : flatP (p :: ps) = p.1 ++ flatP ps := rfl
theorem cuts_run (E : Env) (D : List Dfn) : ∀ (ps : List (List UInt8 × Tk)) (p r : List UInt8) (l : List Ent), Cuts ps r →
    inlFrom E D (p ++ (flatP ps ++ r)) p.length l = inlFrom E D (p ++ (flatP ps ++ r)) (p ++ flatP ps).length ((ps.flatMap fun q => entT E q.2).reverse.map (fun x => Ent.it (ndI x)) ++ l)
  | [], p, r, l, _ => by simp [flatP]
  | q :: ps, p, r, l, h => by
    obtain ⟨h1, h2, h3, h4⟩ := h
    have ih := cuts_run E D ps (p ++ q.1) r ((entT E q.2).map (fun x => Ent.it (ndI x)) ++ l) h4
    have hm : ∀ m, q.2 = .mark m → m = [91] ∨ m = [33, 91] := fun m e => by rw [e] at h3; cases h3
    rw [flatP_cons, List.append_assoc, inlFrom_plain E D p q.1 (flatP ps ++ r) l h1 h2 hm, step_simp E D _ _ _ _ _ h3]
    rw [List.append_assoc] at ih
    rw [ih]
    have e1 : (p ++ q.1 ++ flatP ps).length = (p ++ (q.1 ++ flatP ps)).length := by rw [List.append_assoc]
    rw [e1]
    congr 1
    have e2 : (entT E q.2).reverse = entT E q.2 := by
      cases h : q.2 with
      | _ => rfl
    simp only [List.flatMap_cons, List.reverse_append, List.map_append, List.append_assoc, e2]
/-- A text that is cut into such tokens: its nodes. -/
theorem cuts_all (E : Env) (D : List Dfn) (ps : List (List UInt8 × Tk)) (h : Cuts ps []) : inlE E D (flatP ps) = mergeI (ps.flatMap fun q => entT E q.2).flatten := by
  have h1 := cuts_run E D ps [] [] [] h
  simp only [List.nil_append, List.append_nil] at h1
  rw [inlE_from]
  rw [show inlFrom E D (flatP ps) 0 [] = inlFrom E D (flatP ps) ([] : List UInt8).length [] from rfl, h1, inlFrom_end _ _ _ _ _ (Nat.le_refl _)]
  rw [show (List.map (fun x => Ent.it (ndI x)) (ps.flatMap fun q => entT E q.2).reverse).reverse.map entI = (ps.flatMap fun q => entT E q.2).map ndI from by rw [← List.map_reverse, List.reverse_reverse, List.map_map]; rfl]
  rw [all_nds _ (fun x hx => by obtain ⟨y, _, rfl⟩ := List.mem_map.1 hx; rfl), allI_nds]
/-- Lines, each with the blanks that stand behind it (k), an LF and more blanks (m) ahead of the next one. -/
def linesP (m : Nat) : List (List UInt8 × Nat) → List (List UInt8 × Tk)
  | [] => []
  | [x] => [(x.1, .word x.1)]
  | x :: y :: l => (x.1, .word x.1) :: (List.replicate x.2 32 ++ 10 :: List.replicate m 32, .brk (decide (2 ≤ x.2))) :: linesP m (y :: l)
def linesN : List (List UInt8 × Nat) → List Iln
  | [] => []
  | [x] => [wordsI 0 x.1]
  | x :: y :: l => wordsI 0 x.1 :: ⟨if 2 ≤ x.2 then 8 else 7, 0, [], [], []⟩ :: linesN (y :: l)
theorem lines_cuts (m : Nat) : ∀ (l : List (List UInt8 × Nat)), (∀ x ∈ l, x.1 ≠ [] ∧ ∀ b ∈ x.1, tkWord b = true ∧ tkBlank b = false) → Cuts (linesP m l) []
  | [], _ => trivial
  | [x], h => by
    have hx := h x (by simp)
    refine ⟨hx.1, ?_, rfl, trivial⟩
    exact next_word x.1 [] hx.1 (fun b hb => (hx.2 b hb).1) (by simp)
  | x :: y :: l, h => by
    have hx := h x (by simp)
    have hy := h y (by simp)
    have ih := lines_cuts m (y :: l) (fun z hz => h z (by simp [hz]))
    have hhead : ∀ b ∈ (flatP (linesP m (y :: l)) ++ []).head?, tkBlank b = false := by
      intro b hb
      obtain ⟨c, t, hc⟩ : ∃ c t, y.1 = c :: t := by cases hy1 : y.1 with | nil => exact absurd hy1 hy.1 | cons c t => exact ⟨c, t, rfl⟩
      have e : ∃ r, flatP (linesP m (y :: l)) = y.1 ++ r := by
        cases l with
        | nil => exact ⟨[], by simp [linesP, flatP]⟩
        | cons z l => exact ⟨_, rfl⟩
      obtain ⟨r, hr⟩ := e
      rw [hr, hc] at hb
      simp at hb
      subst hb
      exact (hy.2 c (by simp [hc])).2
    refine ⟨hx.1, ?_, rfl, ?_, ?_, rfl, ih⟩
    · refine next_word x.1 _ hx.1 (fun b hb => (hx.2 b hb).1) ?_
      intro b hb
      have : b = 32 ∨ b = 10 := by
        cases hk : x.2 with
        | zero => simp [flatP, hk] at hb; exact Or.inr hb.symm
        | succ k => simp [flatP, hk, List.replicate_succ] at hb; exact Or.inl hb.symm
      rcases this with rfl | rfl <;> decide +kernel
    · simp
    · have := next_line x.2 m (flatP (linesP m (y :: l)) ++ []) hhead
      simp only [List.append_assoc, List.cons_append, List.length_append, List.length_replicate, List.length_cons]
      rw [this]
      congr 1
      omega
theorem lines_nodes (E : Env) (m : Nat) : ∀ (l : List (List UInt8 × Nat)), ((linesP m l).flatMap fun q => entT E q.2).flatten = linesN l
  | [] => rfl
  | [x] => rfl
  | x :: y :: l => by
    have ih := lines_nodes E m (y :: l)
    simp only [linesP, List.flatMap_cons, linesN]
    rw [List.flatten_append, List.flatten_append, ih]
    simp [entT]
theorem lines_apart : ∀ (l : List (List UInt8 × Nat)), (∀ x ∈ l, x.1 ≠ []) → apartB (linesN l) = true
  | [], _ => rfl
  | [x], h => by simp [linesN, apartB, okW, wordsI, h x (by simp)]
  | x :: y :: l, h => by
    have ih := lines_apart (y :: l) (fun z hz => h z (by simp [hz]))
    have hk : ¬ (if 2 ≤ x.2 then (8 : Int) else 7) = 1 := by split <;> decide
    have hx := h x (by simp)
    obtain ⟨z, r, hz⟩ : ∃ z r, linesN (y :: l) = z :: r := by cases l <;> exact ⟨_, _, rfl⟩
    simp only [linesN]
    rw [hz] at ih ⊢
    simp only [apartB, ih, Bool.and_true]
    have e1 : okW (wordsI 0 x.1) = true := by simp [okW, wordsI, hx]
    have e2 : okW ⟨if 2 ≤ x.2 then 8 else 7, 0, [], [], []⟩ = true := by simp only [okW]; split <;> rfl
    rw [e1, e2]
    split <;> simp [wordsI]
/-- Lines of words: words, and a break between each two. -/
theorem lines_plain (E : Env) (D : List Dfn) (m : Nat) (l : List (List UInt8 × Nat)) (h : ∀ x ∈ l, x.1 ≠ [] ∧ ∀ b ∈ x.1, tkWord b = true ∧ tkBlank b = false) :
    inlE E D (flatP (linesP m l)) = linesN l := by
  rw [cuts_all E D _ (lines_cuts m l h), lines_nodes, mergeI_same (merged_of (lines_apart l (fun x hx => (h x hx).1)))]
theorem words_merge (ws : List (List UInt8)) : mergeI (ws.map (wordsI 0)) = if ws.flatten = [] then [] else [wordsI 0 ws.flatten] := by
  suffices ∀ (ws : List (List UInt8)) (a : List UInt8), (ws.map (wordsI 0)).foldl mergeOne (if a = [] then [] else [wordsI 0 a]) = if a ++ ws.flatten = [] then [] else [wordsI 0 (a ++ ws.flatten)] from by
    have := this ws []
    simpa [mergeI] using this
  intro ws
  induction ws with
  | nil => intro a; simp
  | cons t ws ih =>
    intro a
    rw [List.map_cons, List.foldl_cons, List.flatten_cons, ← List.append_assoc, ← ih]
    congr 1
    by_cases ht : t = []
    · subst ht
      unfold mergeOne
      simp [wordsI]
    · by_cases ha : a = []
      · subst ha
        simp [mergeOne, wordsI, ht]
      · simp [mergeOne, wordsI, ht, ha]
theorem entT_words (E : Env) (ps : List (List UInt8 × Tk)) (w : List UInt8 × Tk → List UInt8) (h : ∀ q ∈ ps, q.2 = .word (w q)) : (ps.flatMap fun q => entT E q.2).flatten = (ps.map w).map (wordsI 0) := by
  induction ps with
  | nil => rfl
  | cons q ps ih =>
    rw [List.flatMap_cons, List.flatten_append, ih (fun x hx => h x (by simp [hx])), h q (by simp)]
    rfl
def escS (s : List UInt8) : List UInt8 := s.flatMap fun c => if tkAscii c then [92, c] else [c]
def showB (b : UInt8) : Bool := decide (32 ≤ b.toNat) && decide (b.toNat < 127)
theorem show_word {b : UInt8} (h : showB b = true) (ha : tkAscii b = false) (h32 : b ≠ 32) : tkWord b = true := by
  revert b
  have : ∀ k : Fin 256, showB (UInt8.ofNat k.val) = true → tkAscii (UInt8.ofNat k.val) = false → UInt8.ofNat k.val ≠ 32 → tkWord (UInt8.ofNat k.val) = true := by decide +kernel
  intro b h1 h2 h3
  have hb := this ⟨b.toNat, b.toNat_lt⟩
  simpa using hb (by simpa using h1) (by simpa using h2) (by simpa using h3)
theorem ascii_ne {b : UInt8} (h : tkAscii b = true) : b ≠ 10 ∧ b ≠ 32 := by
  constructor <;> (rintro rfl; revert h; decide)
/-- Words of a text, one behind the other: what is escaped, blanks, the rest. -/
theorem escapes_cuts : ∀ (n : Nat) (s : List UInt8), s.length ≤ n → (∀ b ∈ s, showB b = true) → ∃ ps : List (List UInt8 × Tk), ∃ w : List UInt8 × Tk → List UInt8, flatP ps = escS s ∧ Cuts ps [] ∧ (∀ q ∈ ps, q.2 = .word (w q)) ∧ (ps.map w).flatten = s
  | 0, s, hs, _ => by
    have : s = [] := List.eq_nil_of_length_eq_zero (by omega)
    subst this
    exact ⟨[], fun _ => [], rfl, trivial, by simp, rfl⟩
  | n + 1, [], _, _ => ⟨[], fun _ => [], rfl, trivial, by simp, rfl⟩
  | n + 1, c :: t, hs, hb => by
    have hc := hb c (by simp)
    have hw0 : ∀ (ps : List (List UInt8 × Tk)) (w : List UInt8 × Tk → List UInt8), (∀ q ∈ ps, q.2 = .word (w q)) → ∀ q ∈ ps, q.2 = .word ((fun q : List UInt8 × Tk => match q.2 with | .word x => x | _ => []) q) := by
      intro ps w h q hq
      simp only [h q hq]
    have hwm : ∀ (ps : List (List UInt8 × Tk)) (w : List UInt8 × Tk → List UInt8), (∀ q ∈ ps, q.2 = .word (w q)) → ps.map w = ps.map (fun q : List UInt8 × Tk => match q.2 with | .word x => x | _ => []) := by
      intro ps w h
      exact List.map_congr_left fun q hq => by simp only [h q hq]
    by_cases ha : tkAscii c = true
    · obtain ⟨ps, w, e1, e2, e3, e4⟩ := escapes_cuts n t (by simp at hs; omega) (fun b h => hb b (by simp [h]))
      refine ⟨([92, c], .word [c]) :: ps, fun q => match q.2 with | .word x => x | _ => [], ?_, ⟨by simp, ?_, rfl, e2⟩, ?_, ?_⟩
      · rw [flatP_cons, e1]; simp [escS, ha]
      · rw [e1]; exact next_esc c _ (ascii_ne ha).1 ha
      · intro q hq
        rcases List.mem_cons.1 hq with rfl | hq
        · rfl
        · exact hw0 ps w e3 q hq
      · rw [List.map_cons, List.flatten_cons, ← hwm ps w e3, e4]; rfl
    · have ha' : tkAscii c = false := by simpa using ha
      by_cases h32 : c = 32
      · subst h32
        -- a row of blanks
        have hsp : ∃ k r, t = List.replicate k 32 ++ r ∧ ∀ b ∈ r.head?, b ≠ 32 := by
          refine ⟨(t.takeWhile (· == 32)).length, t.dropWhile (· == 32), ?_, ?_⟩
          · have h1 : t.takeWhile (· == 32) = List.replicate (t.takeWhile (· == 32)).length 32 := List.eq_replicate_iff.2 ⟨rfl, fun b hb => by have := takeWhile_all (· == (32 : UInt8)) t b hb; simpa using this⟩
            rw [← h1, List.takeWhile_append_dropWhile]
          · intro b hb
            have := List.head?_dropWhile_not (· == (32 : UInt8)) t
            cases hd : t.dropWhile (· == 32) with
            | nil => rw [hd] at hb; simp at hb
            | cons x r =>
              rw [hd] at this hb
              simp at hb this
              subst hb
              exact this
        obtain ⟨k, r, rfl, hr⟩ := hsp
        obtain ⟨ps, w, e1, e2, e3, e4⟩ := escapes_cuts n r (by simp at hs; omega) (fun b h => hb b (by simp [h]))
        have hhead : ∀ b ∈ (escS r).head?, b ≠ 32 ∧ b ≠ 10 := by
          intro b hb'
          cases r with
          | nil => simp [escS] at hb'
          | cons x r =>
            have hx := hr x (by simp)
            have hx2 := hb x (by simp)
            simp only [escS, List.flatMap_cons] at hb'
            by_cases hxa : tkAscii x = true
            · rw [if_pos hxa] at hb'; simp at hb'; subst hb'; decide
            · rw [if_neg hxa] at hb'; simp at hb'; subst hb'
              exact ⟨hx, by rintro rfl; revert hx2; decide⟩
        refine ⟨(List.replicate (k + 1) 32, .word (List.replicate (k + 1) 32)) :: ps, fun q => match q.2 with | .word x => x | _ => [], ?_, ⟨by simp, ?_, rfl, e2⟩, ?_, ?_⟩
        · rw [flatP_cons, e1]
          have : ∀ k : Nat, escS (List.replicate k 32 ++ r) = List.replicate k 32 ++ escS r := by
            intro k
            induction k with
            | zero => rfl
            | succ k ih => rw [List.replicate_succ, List.cons_append]; simp only [escS, List.flatMap_cons] at ih ⊢; rw [ih, if_neg (by decide)]; rfl
          show _ = escS (List.replicate (k + 1) 32 ++ r)
          rw [this]
        · rw [e1, List.append_nil]
          simp only [List.length_replicate]
          exact next_blanks (k + 1) (by omega) (escS r) hhead
        · intro q hq
          rcases List.mem_cons.1 hq with rfl | hq
          · rfl
          · exact hw0 ps w e3 q hq
        · rw [List.map_cons, List.flatten_cons, ← hwm ps w e3, e4]
          simp [List.replicate_succ]
      · -- a row of others
        have hsp : ∃ a r, t = a ++ r ∧ (∀ b ∈ a, tkWord b = true ∧ tkAscii b = false) ∧ ∀ b ∈ r.head?, ¬ (tkAscii b = false ∧ b ≠ 32) := by
          refine ⟨t.takeWhile (fun b => !tkAscii b && b != 32), t.dropWhile (fun b => !tkAscii b && b != 32), (List.takeWhile_append_dropWhile ..).symm, ?_, ?_⟩
          · intro b hb'
            have h1 := takeWhile_all (fun b => !tkAscii b && b != (32 : UInt8)) t b hb'
            simp at h1
            exact ⟨show_word (hb b (by simp; exact Or.inr ((List.takeWhile_prefix _).mem hb'))) h1.1 h1.2, h1.1⟩
          · intro b hb'
            have := List.head?_dropWhile_not (fun b => !tkAscii b && b != (32 : UInt8)) t
            cases hd : t.dropWhile (fun b => !tkAscii b && b != 32) with
            | nil => rw [hd] at hb'; simp at hb'
            | cons x r =>
              rw [hd] at this hb'
              simp at hb' this
              subst hb'
              rintro ⟨h1, h2⟩
              exact h2 (this h1)
        obtain ⟨a, r, rfl, h1, h2⟩ := hsp
        obtain ⟨ps, w, e1, e2, e3, e4⟩ := escapes_cuts n r (by simp at hs; omega) (fun b h => hb b (by simp [h]))
        have hall : ∀ b ∈ c :: a, tkWord b = true ∧ tkAscii b = false := by
          intro b hb'
          rcases List.mem_cons.1 hb' with rfl | hb'
          · exact ⟨show_word hc ha' h32, ha'⟩
          · exact h1 b hb'
        refine ⟨(c :: a, .word (c :: a)) :: ps, fun q => match q.2 with | .word x => x | _ => [], ?_, ⟨by simp, ?_, rfl, e2⟩, ?_, ?_⟩
        · rw [flatP_cons, e1]
          have : ∀ a : List UInt8, (∀ b ∈ a, tkWord b = true ∧ tkAscii b = false) → escS (a ++ r) = a ++ escS r := by
            intro a
            induction a with
            | nil => intro _; rfl
            | cons x a ih =>
              intro h
              have := ih (fun b hb => h b (by simp [hb]))
              simp only [escS, List.cons_append, List.flatMap_cons] at this ⊢
              rw [this, if_neg (by rw [(h x (by simp)).2]; simp)]
              rfl
          exact (this (c :: a) hall).symm
        · rw [e1, List.append_nil]
          refine next_word (c :: a) (escS r) (by simp) (fun b hb' => (hall b hb').1) ?_
          intro b hb'
          cases r with
          | nil => simp [escS] at hb'
          | cons x r =>
            have hx := h2 x (by simp)
            simp only [escS, List.flatMap_cons] at hb'
            by_cases hxa : tkAscii x = true
            · rw [if_pos hxa] at hb'; simp at hb'; subst hb'; decide +kernel
            · rw [if_neg hxa] at hb'; simp at hb'; subst hb'
              have : x = 32 := Classical.byContradiction fun h => hx ⟨by simpa using hxa, h⟩
              subst this
              decide +kernel
        · intro q hq
          rcases List.mem_cons.1 hq with rfl | hq
          · rfl
          · exact hw0 ps w e3 q hq
        · rw [List.map_cons, List.flatten_cons, ← hwm ps w e3, e4]; simp
theorem escapes_plain (E : Env) (D : List Dfn) (s : List UInt8) (hne : s ≠ []) (h : ∀ b ∈ s, showB b = true) : inlE E D (escS s) = [wordsI 0 s] := by
  obtain ⟨ps, w, e1, e2, e3, e4⟩ := escapes_cuts s.length s (Nat.le_refl _) h
  rw [← e1, cuts_all E D ps e2, entT_words E ps w e3, words_merge, e4, if_neg hne]
theorem autos_plain (E : Env) (D : List Dfn) (a q : List UInt8) (ha2 : 2 ≤ a.length) (ha3 : a.length ≤ 32) (hq : q ≠ []) (h : ∀ b ∈ a, lowB b = true) (hb : ∀ b ∈ q, lowB b = true) :
    inlE E D ([120, 32] ++ (60 :: (a ++ 58 :: (q ++ [62]))) ++ [32] ++ (60 :: (a ++ 64 :: (q ++ [62])))) =
      [wordsI 0 [120, 32], ⟨5, 0, [], a ++ 58 :: q, []⟩, wordsI 1 (a ++ 58 :: q), wordsI 0 [32], ⟨5, 0, [], tkMailto ++ (a ++ 64 :: q), []⟩, wordsI 1 (a ++ 64 :: q)] := by
  have hc : Cuts [([120], .word [120]), ([32], .word [32]), (60 :: (a ++ 58 :: (q ++ [62])), .auto (a ++ 58 :: q) (a ++ 58 :: q)), ([32], .word [32]), (60 :: (a ++ 64 :: (q ++ [62])), .auto (tkMailto ++ (a ++ 64 :: q)) (a ++ 64 :: q))] [] := by
    refine ⟨by simp, ?_, rfl, by simp, ?_, rfl, by simp, ?_, rfl, by simp, ?_, rfl, by simp, ?_, rfl, trivial⟩
    · exact next_word [120] _ (by simp) (by simp; decide +kernel) (by simp [flatP]; decide +kernel)
    · exact next_blanks 1 (Nat.le_refl _) _ (by simp [flatP])
    · have := next_url a q (flatP [([32], .word [32]), (60 :: (a ++ 64 :: (q ++ [62])), .auto (tkMailto ++ (a ++ 64 :: q)) (a ++ 64 :: q))] ++ []) ha2 ha3 h hb
      simp only [List.cons_append, List.append_assoc, List.nil_append, List.length_cons, List.length_append, List.length_nil] at this ⊢
      rw [this]
      congr 1
      omega
    · exact next_blanks 1 (Nat.le_refl _) _ (by simp [flatP])
    · have := next_mail a q [] (by intro e; rw [e] at ha2; simp at ha2) hq h hb
      simp only [flatP, List.flatMap_nil, List.cons_append, List.append_assoc, List.nil_append, List.length_cons, List.length_append, List.length_nil] at this ⊢
      rw [this]
      congr 1
      omega
  have hw := cuts_all E D _ hc
  have e1 : flatP [([120], Tk.word [120]), ([32], .word [32]), (60 :: (a ++ 58 :: (q ++ [62])), .auto (a ++ 58 :: q) (a ++ 58 :: q)), ([32], .word [32]), (60 :: (a ++ 64 :: (q ++ [62])), .auto (tkMailto ++ (a ++ 64 :: q)) (a ++ 64 :: q))] = [120, 32] ++ (60 :: (a ++ 58 :: (q ++ [62]))) ++ [32] ++ (60 :: (a ++ 64 :: (q ++ [62]))) := by simp [flatP]
  rw [e1] at hw
  rw [hw]
  simp [entT, mergeI, mergeOne, wordsI]
theorem restF_id (tx : Int → List UInt8) : ∀ (f : Nat) (l : List UInt8), l.length ≤ f → (∀ b ∈ l, b ≠ 0) → restF tx f l = l
  | 0, l, h, _ => by rw [List.eq_nil_of_length_eq_zero (by omega : l.length = 0)]; rfl
  | f + 1, [], _, _ => rfl
  | f + 1, b :: l, h, hb => by
    unfold restF
    rw [if_neg (by rintro ⟨e, _⟩; exact hb b (by simp) e), restF_id tx f l (by simpa using h) (fun x hx => hb x (by simp [hx]))]
theorem restL_id (tx : Int → List UInt8) (l : List UInt8) (h : ∀ b ∈ l, b ≠ 0) : restL tx l = l := restF_id tx _ l (Nat.le_refl _) h
theorem codes_plain (D : List Dfn) (c : UInt8) (x : List UInt8) (h96 : c ≠ 96) (h0 : c ≠ 0) (h10 : c ≠ 10) (h32 : c ≠ 32) (hx : ∀ b ∈ x, lowB b = true) :
    rawI D ([96] ++ ((c :: (x ++ [c])) ++ [96])) = [⟨2, 0, c :: (x ++ [c]), [], []⟩] := by
  have hlow : ∀ b ∈ x, b ≠ 96 ∧ b ≠ 0 ∧ b ≠ 10 := fun b hb => by
    have := hx b hb
    refine ⟨?_, ?_, ?_⟩ <;> (rintro rfl; revert this; decide)
  have hmem : ∀ b ∈ c :: (x ++ [c]), b ≠ 96 ∧ b ≠ 0 ∧ b ≠ 10 := by
    intro b hb
    simp only [List.mem_cons, List.mem_append, List.not_mem_nil, or_false] at hb
    rcases hb with rfl | hb | rfl
    · exact ⟨h96, h0, h10⟩
    · exact hlow b hb
    · exact ⟨h96, h0, h10⟩
  have hs : shownL (c :: (x ++ [c])) = c :: (x ++ [c]) := by
    have hm : ((c :: (x ++ [c])).map fun b => if b == 10 then 32 else b) = c :: (x ++ [c]) := by
      refine (List.map_congr_left fun b hb => ?_).trans (List.map_id _)
      have := (hmem b hb).2.2
      simp [this]
    unfold shownL
    simp only [hm]
    rw [if_neg]
    have : hasL (c :: (x ++ [c])) 0 32 = false := by unfold hasL; simp [h32]
    simp [this]
  have hn := next_code 1 (Nat.le_refl _) (c :: (x ++ [c])) (by simp) (fun b hb => (hmem b hb).1)
  have hc : Cuts [([96] ++ ((c :: (x ++ [c])) ++ [96]), .code (c :: (x ++ [c])))] [] := by
    refine ⟨by simp, ?_, rfl, trivial⟩
    have e : [96] ++ ((c :: (x ++ [c])) ++ [96]) ++ (flatP [] ++ []) = List.replicate 1 96 ++ ((c :: (x ++ [c])) ++ List.replicate 1 96) := by simp [flatP]
    rw [e, hn, hs]
    congr 1
    simp
    omega
  have hw := cuts_all rawE D _ hc
  have e1 : flatP [([96] ++ ((c :: (x ++ [c])) ++ [96]), Tk.code (c :: (x ++ [c])))] = [96] ++ ((c :: (x ++ [c])) ++ [96]) := by simp [flatP]
  rw [e1] at hw
  show inlE rawE D _ = _
  rw [hw]
  have hr : rawE.code (c :: (x ++ [c])) = c :: (x ++ [c]) := restL_id _ _ (fun b hb => (hmem b hb).2.1)
  simp [entT, mergeI, mergeOne, hr]
theorem codes_atom (D : List Dfn) (lb tx : List UInt8) : inlL [⟨lb, tx⟩] D [96, 97, 0, 48, 0, 98, 96] = [⟨2, 0, [97] ++ tx ++ [98], [], []⟩] := by
  have hn : nextL [96, 97, 0, 48, 0, 98, 96] = (.code [97, 0, 48, 0, 98], 7) := by decide +kernel
  have hc : Cuts [([96, 97, 0, 48, 0, 98, 96], .code [97, 0, 48, 0, 98])] [] := ⟨by simp, by simpa [flatP] using hn, rfl, trivial⟩
  have hw := cuts_all (atmE D [⟨lb, tx⟩]) D _ hc
  have e1 : flatP [([96, 97, 0, 48, 0, 98, 96], Tk.code [97, 0, 48, 0, 98])] = [96, 97, 0, 48, 0, 98, 96] := rfl
  rw [e1] at hw
  show inlE _ D _ = _
  rw [hw]
  have hr : (atmE D [⟨lb, tx⟩]).code [97, 0, 48, 0, 98] = [97] ++ tx ++ [98] := by
    have ea : atomL [0, 48, 0, 98] = (.atom 0, 3) := by decide +kernel
    show restL _ _ = _
    unfold restL
    simp only [restF, List.length_cons, List.length_nil]
    rw [if_neg (by decide), if_pos (by rw [ea]; decide), ea]
    simp [restF]
  simp [entT, mergeI, mergeOne, hr]
end Go.Proofs.YtfbaknkmpilllaaGreatDoor

namespace Go.Proofs.YtfbaknkmpilllaaGreatDoor
open Go.RowKit
set_option linter.unusedSimpArgs false
set_option linter.unusedVariables false
def Lowers (l : List UInt8) : Prop := ∀ b ∈ l, 97 ≤ b.toNat ∧ b.toNat ≤ 122
theorem unL_plain : ∀ l : List UInt8, (∀ b ∈ l, b.toNat ≠ 92 ∧ b.toNat ≠ 38) → unL l = l
  | [], _ => rfl
  | b :: l, h => by
    have hb := h b (by simp)
    rw [unL_byte (escL_none hb.1 hb.2), unL_plain l (fun x hx => h x (by simp [hx]))]
theorem unL_letters {l : List UInt8} (h : Lowers l) : unL l = l := unL_plain l fun b hb => by have := h b hb; omega
theorem bareGo_letters : ∀ (u l : List UInt8) (i : Nat), Lowers u → bareGo (u ++ l) 0 false i = bareGo l 0 false (i + u.length)
  | [], _, _, _ => rfl
  | b :: u, l, i, h => by
    have hb := h b (by simp)
    have hh : tgHid b.toNat = false := by simp [tgHid]; omega
    rw [List.cons_append, bareGo_on hh (by omega), if_neg (by simp), if_neg (by omega), if_neg (by omega), if_neg (by omega), bareGo_letters u l _ (fun x hx => h x (by simp [hx])), List.length_cons, show i + 1 + u.length = i + (u.length + 1) from by omega]
theorem letters_ne {u : List UInt8} (h : Lowers u) {b : UInt8} (hb : b.toNat < 97) (hne : u ≠ []) (l : List UInt8) : Lib.hasPrefix (u ++ l) [b] = false := by
  match u, hne with
  | x :: u, _ =>
    have hx := h x (by simp)
    rw [← Bool.not_eq_true]
    intro e
    have h2 : [b] <+: x :: (u ++ l) := List.isPrefixOf_iff_prefix.1 e
    have := (List.cons_prefix_cons.1 h2).1
    subst this
    omega
end Go.Proofs.YtfbaknkmpilllaaGreatDoor
namespace Go.Proofs.YtfbaknkmpilllaaGreatDoor
open Go.RowKit
set_option linter.unusedSimpArgs false
set_option linter.unusedVariables false
def Blanks (g : List UInt8) : Prop := ∀ b ∈ g, blkB b.toNat = true
theorem blank_hid {b : UInt8} (h : blkB b.toNat = true) : tgHid b.toNat = true := by simp [blkB] at h; simp [tgHid]; omega
theorem dest_stop {u : List UInt8} (h : Lowers u) (hne : u ≠ []) {x : UInt8} (hx : tgHid x.toNat = true ∨ x.toNat = 41) (l : List UInt8) : destL (u ++ x :: l) = (u, u.length, true) := by
  have hb : bareGo (u ++ x :: l) 0 false 0 = (u.length, 0) := by
    rw [bareGo_letters u _ 0 h, bareGo_stop (by
      rcases hx with hx | hx
      · exact Or.inl hx
      · exact Or.inr ⟨hx, rfl, rfl⟩), Nat.zero_add]
  have hl : 0 < u.length := List.length_pos_iff.2 hne
  unfold destL
  rw [if_neg (by rw [letters_ne h (by decide) hne]; simp)]
  unfold bareL
  rw [hb]
  simp only [Nat.lt_irrefl, if_false]
  rw [List.take_left, unL_letters h, decide_eq_true hl]
end Go.Proofs.YtfbaknkmpilllaaGreatDoor

namespace Go.Proofs.YtfbaknkmpilllaaGreatDoor
open Go.RowKit
set_option linter.unusedSimpArgs false
set_option linter.unusedVariables false
theorem foldS_low (y : UInt8) (cs : List (Nat × List UInt8)) (a : Bool) (h1 : 97 ≤ y.toNat) (h2 : y.toNat ≤ 122) : foldS ((y.toNat, [y]) :: cs) false a = y :: foldS cs false true := by
  have hs : spaceB (y.toNat : Int) = false := spaceB_f _ (by omega)
  have hst : stray (y.toNat, [y]) = false := by
    have : y.toNat ≠ 65533 := by omega
    simp [stray, this]
  have hy := u8_eq y y.toNat rfl
  have ho : chunkOut (y.toNat, [y]) = [y] := by
    unfold chunkOut
    rw [hst, if_neg (by simp)]
    have : smallI (y.toNat : Int) = ((y.toNat : Nat) : Int) := by
      rcases smallI_eq (y.toNat : Int) with ⟨a, b, e⟩ | ⟨a, b, d, e⟩ | ⟨a, b, e⟩
      · omega
      · omega
      · exact e
    simp only [this]
    rw [enc1 _ (by omega), ← hy]
  simp only [foldS, hs, ho, Bool.false_eq_true, if_false, Bool.false_and]
  rfl
theorem foldS_lows : ∀ (u : List UInt8) (a : Bool), Lowers u → foldS (segs u) false a = u
  | [], _, _ => by rw [segs_nil]; rfl
  | b :: u, a, h => by
    have hb := h b (by simp)
    rw [segs_ascii b u (by omega), foldS_low b _ a hb.1 hb.2, foldS_lows u true (fun x hx => h x (by simp [hx]))]
theorem foldL_low {u : List UInt8} (h : Lowers u) : foldL u = u := foldS_lows u false h
theorem badN_low {u : List UInt8} (h : Lowers u) : badN u = false := by
  unfold badN
  rw [List.any_eq_false]
  intro b hb
  have := h b hb
  simp only [Bool.or_eq_true, beq_iff_eq, not_or]
  refine ⟨⟨⟨?_, ?_⟩, ?_⟩, ?_⟩ <;> (rintro rfl; exact absurd this.1 (by decide))
theorem dnL_low {u : List UInt8} (h : Lowers u) (hne : u ≠ []) (hl : u.length ≤ 60) : dnL u = (u, true) := by
  unfold dnL
  rw [foldL_low h, badN_low h, if_neg (by simp [hne]; omega)]
end Go.Proofs.YtfbaknkmpilllaaGreatDoor
namespace Go.Proofs.YtfbaknkmpilllaaGreatDoor
open Go.RowKit
set_option linter.unusedSimpArgs false
set_option linter.unusedVariables false
end Go.Proofs.YtfbaknkmpilllaaGreatDoor

namespace Go.Proofs.YtfbaknkmpilllaaGreatDoor
open Go.RowKit
set_option linter.unusedSimpArgs false
set_option linter.unusedVariables false
theorem drop_at {L pre rest : List UInt8} {k : Nat} (h : L = pre ++ rest) (hk : k = pre.length) : L.drop k = rest := by
  subst h; subst hk; simp
theorem last_at {L pre rest : List UInt8} {y : UInt8} {k : Nat} (h : L = pre ++ y :: rest) (hk : k = pre.length + 1) : L.getD (k - 1) 0 = y := by
  subst h; subst hk
  rw [List.getD_eq_getElem?_getD, show pre.length + 1 - 1 = pre.length from rfl, List.getElem?_append_right (Nat.le_refl _), Nat.sub_self]
  rfl
theorem takeW_blanks : ∀ (g rest : List UInt8), Blanks g → (∀ b ∈ rest.head?, blkB b.toNat = false) → ((g ++ rest).takeWhile fun b => blkB b.toNat).length = g.length
  | [], rest, _, hr => by
    cases rest with
    | nil => rfl
    | cons b rest => exact takeW_stop (hr b (by simp))
  | b :: g, rest, hg, hr => by
    rw [List.cons_append, takeW_cons (hg b (by simp)), takeW_blanks g rest (fun x hx => hg x (by simp [hx])) hr, List.length_cons]
theorem beh_at {L pre g rest : List UInt8} {k : Nat} (h : L = pre ++ (g ++ rest)) (hk : k = pre.length) (hg : Blanks g) (hr : ∀ b ∈ rest.head?, blkB b.toNat = false) : behL L k = k + g.length := by
  unfold behL
  rw [drop_at h hk, takeW_blanks g rest hg hr]
theorem letter_blk {b : UInt8} (h : 97 ≤ b.toNat ∧ b.toNat ≤ 122) : blkB b.toNat = false := by simp [blkB]; omega
theorem snoc_of {l : List UInt8} (h : l ≠ []) : ∃ m x, l = m ++ [x] := ⟨l.dropLast, l.getLast h, (List.dropLast_concat_getLast h).symm⟩
theorem head_of {b : UInt8} {l : List UInt8} (h : blkB b.toNat = false) : ∀ x ∈ (b :: l).head?, blkB x.toNat = false := by
  intro x hx
  simp at hx
  subst hx
  exact h
theorem head_letters {u : List UInt8} (h : Lowers u) (hne : u ≠ []) (l : List UInt8) : ∀ x ∈ (u ++ l).head?, blkB x.toNat = false := by
  match u, hne with
  | b :: u, _ => exact head_of (letter_blk (h b (by simp)))
theorem first_stop {g : List UInt8} {x : UInt8} (hg : Blanks g) (hx : tgHid x.toNat = true ∨ x.toNat = 41) (l : List UInt8) : ∃ y r, g ++ x :: l = y :: r ∧ (tgHid y.toNat = true ∨ y.toNat = 41) := by
  cases g with
  | nil => exact ⟨x, l, rfl, hx⟩
  | cons b g => exact ⟨b, g ++ x :: l, rfl, Or.inl (blank_hid (hg b (by simp)))⟩
theorem title_none (l : List UInt8) : titleL (41 :: l) = ([], 0, false) := rfl
theorem rnd_open {g1 u : List UInt8} (h1 : Blanks g1) (hu : Lowers u) (hne : u ≠ []) {R : List UInt8} (hR : ∃ y r, R = y :: r ∧ (tgHid y.toNat = true ∨ y.toNat = 41)) :
    insideL (40 :: (g1 ++ (u ++ R))) = insL2 (40 :: (g1 ++ (u ++ R))) u (behL (40 :: (g1 ++ (u ++ R))) (1 + g1.length + u.length)) := by
  obtain ⟨y, r, rfl, hy⟩ := hR
  have a1 : behL (40 :: (g1 ++ (u ++ y :: r))) 1 = 1 + g1.length := beh_at (pre := [40]) rfl rfl h1 (head_letters hu hne _)
  have hd : (40 :: (g1 ++ (u ++ y :: r))).drop (1 + g1.length) = u ++ y :: r := drop_at (pre := 40 :: g1) rfl (by simp; omega)
  unfold insideL
  rw [if_pos (by rfl), a1, hd, dest_stop hu hne hy]
theorem tgShut_at {L pre rest url title : List UInt8} {k : Nat} (h : L = pre ++ 41 :: rest) (hk : k = pre.length) : shutL L url title k = (url, title, k + 1, true) := by
  unfold shutL
  rw [drop_at h hk, if_pos (by rfl)]
theorem rnd_plain {g1 g3 u : List UInt8} (h1 : Blanks g1) (h3 : Blanks g3) (hu : Lowers u) (hne : u ≠ []) (more : List UInt8) :
    insideL (40 :: (g1 ++ (u ++ (g3 ++ 41 :: more)))) = (u, [], 2 + g1.length + u.length + g3.length, true) := by
  rw [rnd_open h1 hu hne (first_stop h3 (Or.inr rfl) more)]
  have a2 : behL (40 :: (g1 ++ (u ++ (g3 ++ 41 :: more)))) (1 + g1.length + u.length) = 1 + g1.length + u.length + g3.length :=
    beh_at (pre := 40 :: (g1 ++ u)) (rest := 41 :: more) (by simp) (by simp; omega) h3 (head_of (by decide))
  rw [a2]
  have hsh : ∀ t, shutL (40 :: (g1 ++ (u ++ (g3 ++ 41 :: more)))) u t (1 + g1.length + u.length + g3.length) = (u, t, 2 + g1.length + u.length + g3.length, true) := by
    intro t
    rw [tgShut_at (pre := 40 :: (g1 ++ (u ++ g3))) (rest := more) (by simp) (by simp; omega)]
    congr 3
    omega
  unfold insL2
  by_cases hg : g3 = []
  · subst hg
    obtain ⟨u', x, rfl⟩ := snoc_of hne
    rw [last_at (pre := 40 :: (g1 ++ u')) (y := x) (rest := 41 :: more) (by simp) (by simp; omega), letter_blk (hu x (by simp)), if_neg (by simp), hsh]
  · obtain ⟨g', x, rfl⟩ := snoc_of hg
    rw [last_at (pre := 40 :: (g1 ++ (u ++ g'))) (y := x) (rest := 41 :: more) (by simp) (by simp; omega), h3 x (by simp), if_pos rfl]
    have hd : (40 :: (g1 ++ (u ++ ((g' ++ [x]) ++ 41 :: more)))).drop (1 + g1.length + u.length + (g' ++ [x]).length) = 41 :: more := drop_at (pre := 40 :: (g1 ++ (u ++ (g' ++ [x])))) (by simp) (by simp; omega)
    rw [hd, title_none]
    simp only [Nat.add_zero]
    rw [beh_at (pre := 40 :: (g1 ++ (u ++ (g' ++ [x])))) (g := []) (rest := 41 :: more) (by simp) (by simp; omega) (by intro b hb; simp at hb) (head_of (by decide))]
    exact hsh []
end Go.Proofs.YtfbaknkmpilllaaGreatDoor

namespace Go.Proofs.YtfbaknkmpilllaaGreatDoor
open Go.RowKit
set_option linter.unusedSimpArgs false
set_option linter.unusedVariables false
theorem lastMk_is (m : List Itm) (img : Bool) (pos : Nat) (sh : Bool) (l : List Ent) : lastMk (m.map Ent.it ++ .mk img pos sh :: l) = some (m, (img, pos, sh), l) := by
  induction m with
  | nil => rfl
  | cons x m ih => simp [lastMk, ih]
def ents (E : Env) (ps : List (List UInt8 × Tk)) : List Itm := (ps.flatMap fun q => entT E q.2).reverse.map ndI
theorem ents_map (E : Env) (ps : List (List UInt8 × Tk)) : (ps.flatMap fun q => entT E q.2).reverse.map (fun x => Ent.it (ndI x)) = (ents E ps).map Ent.it := by
  unfold ents
  rw [List.map_map]
  rfl
theorem ents_group (E : Env) (ps : List (List UInt8 × Tk)) : groupI (ents E ps).reverse = mergeI (ps.flatMap fun q => entT E q.2).flatten := by
  unfold ents
  rw [← List.map_reverse, List.reverse_reverse, all_nds _ (fun x hx => by obtain ⟨y, _, rfl⟩ := List.mem_map.1 hx; rfl), allI_nds]
/-- An opener, tokens that stand by themselves, and the sign that closes: what it is then. -/
theorem bracket (E : Env) (D : List Dfn) (img : Bool) (ps : List (List UInt8 × Tk)) (p r : List UInt8) (l : List Ent) (h : Cuts ps (93 :: r)) :
    inlFrom E D (p ++ (markOf img ++ (flatP ps ++ 93 :: r))) p.length l =
      match askedL D img (flatP ps) r with
      | none => inlFrom E D (p ++ (markOf img ++ (flatP ps ++ 93 :: r))) (p ++ (markOf img ++ (flatP ps ++ [93]))).length (.it (ndI [wordsI 0 [93]]) :: (ents E ps).map Ent.it ++ .it (ndI [wordsI 0 (markOf img)]) :: l)
      | some (x, n) => inlFrom E D (p ++ (markOf img ++ (flatP ps ++ 93 :: r))) ((p ++ (markOf img ++ (flatP ps ++ [93]))).length + n)
          (if x.kd = 6 then .it (ndI [{ x with txt := textI (mergeI (ps.flatMap fun q => entT E q.2).flatten) }]) :: l
           else if x.kd = 5 then .it (ndI (x :: deepI (mergeI (ps.flatMap fun q => entT E q.2).flatten))) :: l.map shutE
           else .it (ndI [x]) :: l) := by
  have hu : markOf img ≠ [] := by cases img <;> simp [markOf]
  have ht : nextL (markOf img ++ (flatP ps ++ 93 :: r)) = (.mark (markOf img), (markOf img).length) := by
    cases img
    · exact next_sq _
    · exact next_im _
  have e1 := inlFrom_plain E D p (markOf img) (flatP ps ++ 93 :: r) l hu ht (fun m e => by cases e; cases img <;> simp [markOf])
  have e2 : (stepI E D (p ++ (markOf img ++ (flatP ps ++ 93 :: r))) p.length (p ++ markOf img).length (.mark (markOf img)) l).1 = .mk img (p ++ markOf img).length false :: l := by
    cases img <;> simp [stepI, markOf]
  have e3 := cuts_run E D ps (p ++ markOf img) (93 :: r) (.mk img (p ++ markOf img).length false :: l) h
  rw [ents_map] at e3
  rw [e1, e2]
  have es : p ++ markOf img ++ (flatP ps ++ 93 :: r) = p ++ (markOf img ++ (flatP ps ++ 93 :: r)) := by simp
  rw [es] at e3
  rw [e3]
  generalize hs : p ++ (markOf img ++ (flatP ps ++ 93 :: r)) = s
  have hd : s.drop (p ++ markOf img ++ flatP ps).length = 93 :: r := by
    rw [← hs, show p ++ (markOf img ++ (flatP ps ++ 93 :: r)) = (p ++ markOf img ++ flatP ps) ++ 93 :: r from by simp]
    exact List.drop_left' rfl
  have hlt : (p ++ markOf img ++ flatP ps).length < s.length := by rw [← hs]; simp
  rw [inlFrom_tok E D s _ _ hlt (t := .mark [93]) (n := 1) (by rw [hd]; exact next_qs r)]
  have hx : (s.take (p ++ markOf img ++ flatP ps).length).drop (p ++ markOf img).length = flatP ps := by
    rw [← hs, show p ++ (markOf img ++ (flatP ps ++ 93 :: r)) = (p ++ markOf img ++ flatP ps) ++ 93 :: r from by simp, List.take_left' rfl]
    exact List.drop_left' rfl
  have hb : s.drop ((p ++ markOf img ++ flatP ps).length + 1) = r := by
    rw [← List.drop_drop, hd]; rfl
  have hc : stepI E D s (p ++ markOf img ++ flatP ps).length ((p ++ markOf img ++ flatP ps).length + 1) (.mark [93]) ((ents E ps).map Ent.it ++ .mk img (p ++ markOf img).length false :: l) = closeI D s (p ++ markOf img ++ flatP ps).length ((p ++ markOf img ++ flatP ps).length + 1) ((ents E ps).map Ent.it ++ .mk img (p ++ markOf img).length false :: l) := rfl
  rw [hc]
  unfold closeI
  rw [lastMk_is]
  simp only [Bool.false_eq_true, if_false, hx, hb]
  have el : (p ++ markOf img ++ flatP ps).length + 1 = (p ++ (markOf img ++ (flatP ps ++ [93]))).length := by simp; omega
  cases ha : askedL D img (flatP ps) r with
  | none =>
    simp only [el, Nat.add_zero]
  | some xn =>
    obtain ⟨x, n⟩ := xn
    simp only
    rw [el, ents_group]
    by_cases h6 : x.kd = 6
    · simp only [if_pos h6]
    · by_cases h5 : x.kd = 5
      · simp only [if_neg h6, if_pos h5]
      · simp only [if_neg h6, if_neg h5]
theorem find_nil (x : List UInt8) (b : Bool) : (findL [] x b).2 = false := by
  unfold findL
  split <;> rfl
theorem inside_nil : (insideL []).2.2.2 = false := by decide +kernel
theorem found_nil (img : Bool) (x : List UInt8) (b : Bool) (n : Nat) : foundN img (findL [] x b) n = none := by
  unfold foundN
  rw [find_nil]; rfl
theorem lowers_of {u : List UInt8} (h : ∀ b ∈ u, lowB b = true) : Lowers u := fun b hb => by
  have := h b hb
  unfold lowB at this; rw [inR_iff] at this; omega
theorem fold_up (d c : UInt8) (t : List UInt8) (hd : 65 ≤ d.toNat ∧ d.toNat ≤ 90) (hc : c.toNat = d.toNat + 32) (ht : Lowers t) : foldL (d :: t) = c :: t := by
  have hs : spaceB (d.toNat : Int) = false := spaceB_f _ (by omega)
  have hst : stray (d.toNat, [d]) = false := by
    have : d.toNat ≠ 65533 := by omega
    simp [stray, this]
  have ho : chunkOut (d.toNat, [d]) = [c] := by
    unfold chunkOut
    rw [hst, if_neg (by simp)]
    have : smallI (d.toNat : Int) = ((c.toNat : Nat) : Int) := by
      rcases smallI_eq (d.toNat : Int) with ⟨a, b, e⟩ | ⟨a, b, d, e⟩ | ⟨a, b, e⟩ <;> omega
    simp only [this]
    rw [enc1 _ (by omega), ← u8_eq c c.toNat rfl]
  unfold foldL
  rw [segs_ascii d t (by omega)]
  simp only [foldS, hs, ho, Bool.false_eq_true, if_false, Bool.false_and]
  rw [foldS_lows t true ht]
  rfl
theorem badN_up (d : UInt8) (t : List UInt8) (hd : 65 ≤ d.toNat ∧ d.toNat ≤ 90) (ht : Lowers t) : badN (d :: t) = false := by
  have h := badN_low ht
  unfold badN at h ⊢
  rw [List.any_cons, h, Bool.or_false]
  simp only [Bool.or_eq_false_iff, beq_eq_false_iff_ne]
  refine ⟨⟨⟨?_, ?_⟩, ?_⟩, ?_⟩ <;> (rintro rfl; revert hd; decide)
theorem dnL_up (d c : UInt8) (t : List UInt8) (hd : 65 ≤ d.toNat ∧ d.toNat ≤ 90) (hc : c.toNat = d.toNat + 32) (ht : Lowers t) (hl : (c :: t).length ≤ 60) : dnL (d :: t) = (c :: t, true) := by
  unfold dnL
  rw [fold_up d c t hd hc ht, badN_up d t hd ht, if_neg (by simp at hl ⊢; omega)]
theorem find_one (x : Dfn) (s : List UInt8) (h : dnL s = (x.nm, true)) : findL [x] s x.nt = (x, true) := by
  unfold findL
  rw [h]
  simp [fdL]
theorem all_words (l : List (List UInt8)) : mergeI (l.map fun w => [wordsI 0 w]).flatten = if l.flatten = [] then [] else [wordsI 0 l.flatten] := by
  rw [← words_merge]
  congr 1
  induction l with
  | nil => rfl
  | cons x l ih => simp [ih]
theorem name_word (c : UInt8) (hc : tkWord c = true) (name r : List UInt8) (h : ∀ b ∈ name, lowB b = true) (hr : ∀ b ∈ r.head?, tkWord b = false) : nextL (c :: name ++ r) = (.word (c :: name), (c :: name).length) :=
  next_word (c :: name) r (by simp) (fun b hb => by
    rcases List.mem_cons.1 hb with rfl | hb
    · exact hc
    · exact word_low b (h b hb)) hr
theorem bracket_alone (E : Env) (D : List Dfn) (w : List UInt8) (hw : nextL (w ++ [93]) = (.word w, w.length)) (hne : w ≠ []) :
    inlE E D (91 :: (w ++ [93])) = match askedL D false w [] with
      | none => [wordsI 0 (91 :: (w ++ [93]))]
      | some (x, n) => if x.kd = 6 then groupI [ndI [{ x with txt := w }]] else if x.kd = 5 then groupI [ndI (x :: deepI [wordsI 0 w])] else groupI [ndI [x]] := by
  have hc : Cuts [(w, Tk.word w)] (93 :: []) := ⟨hne, by simpa [flatP] using hw, rfl, trivial⟩
  have hb := bracket E D false [(w, Tk.word w)] [] [] [] hc
  simp only [List.nil_append, List.length_nil, markOf, flatP, List.flatMap_cons, List.flatMap_nil, List.append_nil, Bool.false_eq_true, if_false] at hb
  rw [inlE_from, show (91 :: (w ++ [93])) = [91] ++ (w ++ [93]) from rfl, hb]
  cases ha : askedL D false w [] with
  | none =>
    simp only
    rw [inlFrom_end _ _ _ _ _ (by simp)]
    have : ((Ent.it (ndI [wordsI 0 [93]]) :: (ents E [(w, Tk.word w)]).map Ent.it ++ [Ent.it (ndI [wordsI 0 [91]])]).reverse.map entI) = [[91], w, [93]].map fun w => ndI [wordsI 0 w] := by
      simp [ents, entT, entI]
    rw [this, show ([[91], w, [93]].map fun w => ndI [wordsI 0 w]) = ([[91], w, [93]].map fun w => [wordsI 0 w]).map ndI from by simp, all_nds _ (fun x hx => by obtain ⟨y, _, rfl⟩ := List.mem_map.1 hx; rfl), allI_nds, all_words, if_neg (by simp)]
    simp
  | some xn =>
    obtain ⟨x, n⟩ := xn
    simp only
    rw [inlFrom_end _ _ _ _ _ (by simp)]
    have em : mergeI (entT E (Tk.word w)).flatten = [wordsI 0 w] := by simp [entT, mergeI, mergeOne, wordsI, hne]
    by_cases h6 : x.kd = 6
    · simp only [if_pos h6]
      rw [em]
      simp [entI, textI, ilText, wordsI]
    · by_cases h5 : x.kd = 5
      · simp only [if_neg h6, if_pos h5]
        rw [em]
        simp [entI]
      · simp only [if_neg h6, if_neg h5]
        simp [entI]
theorem group_one (x : Iln) (h : x.kd ≠ 1) : groupI [ndI [x]] = [x] := by
  rw [all_nds _ (by simp [ndI])]
  simp [allI, leftI, ndI, mergeI, mergeOne, h]
theorem group_link (x : Iln) (h : x.kd ≠ 1) (w : List UInt8) (hw : w ≠ []) : groupI [ndI (x :: deepI [wordsI 0 w])] = [x, wordsI 1 w] := by
  have e : IntKind.i64.wrap ((0 : Int) + 1) = 1 := wrap_small (d := 0) (by decide) (by decide)
  have e2 : IntKind.i64.wrap (1 : Int) = 1 := e
  rw [all_nds _ (by simp [ndI])]
  simp [allI, leftI, ndI, mergeI, mergeOne, h, deepI, deepOne, wordsI, hw, e2]
theorem notes_plain (E : Env) (name tx : List UInt8) (hne : name ≠ []) (hl : name.length ≤ 20) (h : ∀ b ∈ name, lowB b = true) :
    inlE E [⟨name, [], [], tx, true⟩] (91 :: (94 :: name ++ [93])) = [⟨10, 0, name, [], []⟩] := by
  rw [bracket_alone E _ (94 :: name) (name_word 94 (by decide +kernel) name [93] h (by simp; decide +kernel)) (by simp)]
  have hd := dnL_low (lowers_of h) hne (by omega)
  have hf := find_one ⟨name, [], [], tx, true⟩ name hd
  have ha : askedL [⟨name, [], [], tx, true⟩] false (94 :: name) [] = some (⟨10, 0, name, [], []⟩, 0) := by
    unfold askedL
    simp only [List.drop_succ_cons, List.drop_zero]
    rw [hf]
    simp [Lib.hasPrefix]
  rw [ha]
  simp only
  rw [if_neg (by decide), if_neg (by decide), group_one _ (by simp)]
theorem notes_none (E : Env) (name : List UInt8) (h : ∀ b ∈ name, lowB b = true) :
    inlE E [] (91 :: (94 :: name ++ [93])) = [wordsI 0 (91 :: (94 :: name ++ [93]))] := by
  rw [bracket_alone E _ (94 :: name) (name_word 94 (by decide +kernel) name [93] h (by simp; decide +kernel)) (by simp)]
  have ha : askedL [] false (94 :: name) [] = none := by
    unfold askedL
    rw [find_nil, inside_nil, found_nil]
    simp [Lib.hasPrefix, pairL]
  rw [ha]
theorem cross_plain (E : Env) (D : List Dfn) (name : List UInt8) (hne : name ≠ []) (h : ∀ b ∈ name, lowB b = true) :
    inlE E D (91 :: (35 :: name ++ [93])) = [⟨11, 0, name, [], []⟩] := by
  rw [bracket_alone E _ (35 :: name) (name_word 35 (by decide +kernel) name [93] h (by simp; decide +kernel)) (by simp)]
  have hn : anchorL name = true := by
    unfold anchorL
    rw [Bool.and_eq_true]
    refine ⟨by simp [hne], List.all_eq_true.2 fun b hb => ?_⟩
    have := h b hb
    unfold lowB at this
    unfold anchorB
    rw [this]; rfl
  have ha : askedL D false (35 :: name) [] = some (⟨11, 0, name, [], []⟩, 0) := by
    unfold askedL
    simp only [List.drop_succ_cons, List.drop_zero]
    rw [hn]
    simp [Lib.hasPrefix]
  rw [ha]
  simp only
  rw [if_neg (by decide), if_neg (by decide), group_one _ (by simp)]
theorem noBr_low {b : UInt8} (h : lowB b = true) : noBr b = true := by
  unfold noBr
  simp only [Bool.and_eq_true, bne_iff_ne, ne_eq]
  refine ⟨⟨?_, ?_⟩, ?_⟩ <;> (rintro rfl; revert h; decide)
theorem noBr_up {d : UInt8} (hd : 65 ≤ d.toNat ∧ d.toNat ≤ 90) : noBr d = true := by
  unfold noBr
  simp only [Bool.and_eq_true, bne_iff_ne, ne_eq]
  refine ⟨⟨?_, ?_⟩, ?_⟩ <;> (rintro rfl; revert hd; decide)
theorem dw_stop (p : UInt8 → Bool) : ∀ (a r : List UInt8), (∀ b ∈ a, p b = true) → (∀ b ∈ r.head?, p b = false) → (a ++ r).dropWhile p = r
  | [], [], _, _ => rfl
  | [], c :: r, _, h => by
    have := h c (by simp)
    simp [this]
  | b :: a, r, h, hr => by
    have hb := h b (by simp)
    rw [List.cons_append, List.dropWhile_cons, if_pos hb, dw_stop p a r (fun x hx => h x (by simp [hx])) hr]
theorem pair_at (y r : List UInt8) (h : ∀ b ∈ y, noBr b = true) : pairL (91 :: (y ++ 93 :: r)) = some (y, y.length + 2) := by
  unfold pairL
  simp only [List.drop_succ_cons, List.drop_zero]
  rw [dw_stop noBr y (93 :: r) h (by simp; decide), tw_stop noBr y (93 :: r) h (by simp; decide), if_pos]
  simp [Lib.hasPrefix]
theorem up_word {d : UInt8} (hd : 65 ≤ d.toNat ∧ d.toNat ≤ 90) : tkWord d = true := by
  revert d
  have : ∀ k : Fin 256, (65 ≤ (UInt8.ofNat k.val).toNat ∧ (UInt8.ofNat k.val).toNat ≤ 90) → tkWord (UInt8.ofNat k.val) = true := by decide +kernel
  intro d hd
  have h := this ⟨d.toNat, d.toNat_lt⟩
  simpa using h (by simpa using hd)
theorem inside_sq (r : List UInt8) : (insideL (91 :: r)).2.2.2 = false := by
  unfold insideL
  rw [if_neg (by simp [Lib.hasPrefix])]
/-- What words between brackets are, that begin with a letter. -/
theorem asked_letter (D : List Dfn) (c : UInt8) (t r : List UInt8) (h94 : c ≠ 94) (h35 : c ≠ 35) (hi : (insideL r).2.2.2 = false) : askedL D false (c :: t) r =
    match pairL r with
    | some (y, n) => if (findL D y false).2 then foundN false (findL D y false) n else if foldL y = [] then foundN false (findL D (c :: t) false) n else none
    | none => foundN false (findL D (c :: t) false) 0 := by
  unfold askedL
  rw [if_neg (by simp [Lib.hasPrefix, h94.symm]), if_neg (by simp [Lib.hasPrefix, h35.symm]), if_neg (by rw [hi]; simp)]
  rfl
theorem found_yes (x : Dfn) (s : List UInt8) (n : Nat) (h : dnL s = (x.nm, true)) (hn : x.nt = false) : foundN false (findL [x] s false) n = some (⟨5, 0, [], x.url, x.ttl⟩, n) := by
  have := find_one x s h
  rw [hn] at this
  unfold foundN
  rw [this]
  rfl
/-- [word], and what stands behind it, of which n bytes belong to it, as all that there is. -/
theorem bracket_word (E : Env) (D : List Dfn) (w r : List UInt8) (hw : nextL (w ++ 93 :: r) = (.word w, w.length)) (hne : w ≠ []) (l : List Ent) (p : List UInt8) :
    inlFrom E D (p ++ (91 :: (w ++ 93 :: r))) p.length l = match askedL D false w r with
      | none => inlFrom E D (p ++ (91 :: (w ++ 93 :: r))) (p ++ (91 :: (w ++ [93]))).length (.it (ndI [wordsI 0 [93]]) :: .it (ndI [wordsI 0 w]) :: .it (ndI [wordsI 0 [91]]) :: l)
      | some (x, n) => inlFrom E D (p ++ (91 :: (w ++ 93 :: r))) ((p ++ (91 :: (w ++ [93]))).length + n) (if x.kd = 6 then .it (ndI [{ x with txt := w }]) :: l else if x.kd = 5 then .it (ndI (x :: deepI [wordsI 0 w])) :: l.map shutE else .it (ndI [x]) :: l) := by
  have hc : Cuts [(w, Tk.word w)] (93 :: r) := ⟨hne, by simpa [flatP] using hw, rfl, trivial⟩
  have hb := bracket E D false [(w, Tk.word w)] p r l hc
  have em : mergeI (entT E (Tk.word w)).flatten = [wordsI 0 w] := by simp [entT, mergeI, mergeOne, wordsI, hne]
  simp only [markOf, flatP, List.flatMap_cons, List.flatMap_nil, List.append_nil, Bool.false_eq_true, if_false, em] at hb
  rw [show (91 :: (w ++ 93 :: r)) = [91] ++ (w ++ 93 :: r) from rfl, hb]
  cases ha : askedL D false w r with
  | none => simp only [ents, entT]; rfl
  | some xn =>
    obtain ⟨x, n⟩ := xn
    simp only
    have ht : textI [wordsI 0 w] = w := by simp [textI, ilText, wordsI]
    rw [ht]
    rfl
theorem link_end (E : Env) (D : List Dfn) (w r : List UInt8) (x : Iln) (n : Nat) (hw : nextL (w ++ 93 :: r) = (.word w, w.length)) (hne : w ≠ []) (ha : askedL D false w r = some (x, n)) (hn : n = r.length) (hk : x.kd = 5) :
    inlE E D (91 :: (w ++ 93 :: r)) = [x, wordsI 1 w] := by
  have hb := bracket_word E D w r hw hne [] []
  rw [ha] at hb
  simp only [List.nil_append, List.length_nil] at hb
  rw [inlE_from, hb, inlFrom_end _ _ _ _ _ (by simp; omega), if_neg (by rw [hk]; decide), if_pos hk]
  exact group_link x (by rw [hk]; decide) w hne
theorem words_ents (L : List (List UInt8)) (h : L.flatten ≠ []) : groupI ((L.map fun w => Ent.it (ndI [wordsI 0 w])).map entI) = [wordsI 0 L.flatten] := by
  rw [show ((L.map fun w => Ent.it (ndI [wordsI 0 w])).map entI) = (L.map fun w => [wordsI 0 w]).map ndI from by simp [entI], all_nds _ (fun x hx => by obtain ⟨y, _, rfl⟩ := List.mem_map.1 hx; rfl), allI_nds, all_words, if_neg h]
/-- Names that are known. -/
theorem names_known (E : Env) (d c : UInt8) (t : List UInt8) (hd : 65 ≤ d.toNat ∧ d.toNat ≤ 90) (hc : c.toNat = d.toNat + 32) (ht : ∀ b ∈ t, lowB b = true) (hl : (c :: t).length ≤ 20) (u v : List UInt8) (txt : List UInt8) (hx : txt ≠ []) (hxl : ∀ b ∈ txt, lowB b = true) :
    inlE E [⟨c :: t, u, v, [], false⟩] (91 :: ((d :: t) ++ [93])) = [⟨5, 0, [], u, v⟩, wordsI 1 (d :: t)] ∧
    inlE E [⟨c :: t, u, v, [], false⟩] (91 :: ((d :: t) ++ 93 :: [91, 93])) = [⟨5, 0, [], u, v⟩, wordsI 1 (d :: t)] ∧
    inlE E [⟨c :: t, u, v, [], false⟩] (91 :: (txt ++ 93 :: (91 :: ((d :: t) ++ [93])))) = [⟨5, 0, [], u, v⟩, wordsI 1 txt] := by
  have hdn := dnL_up d c t hd hc (lowers_of ht) (by omega)
  have h94 : d ≠ 94 := by rintro rfl; revert hd; decide
  have h35 : d ≠ 35 := by rintro rfl; revert hd; decide
  have hw : ∀ r, nextL ((d :: t) ++ 93 :: r) = (.word (d :: t), (d :: t).length) := fun r => name_word d (up_word hd) t (93 :: r) ht (by simp; decide +kernel)
  refine ⟨?_, ?_, ?_⟩
  · refine link_end E _ (d :: t) [] ⟨5, 0, [], u, v⟩ 0 (hw []) (by simp) ?_ rfl rfl
    rw [asked_letter _ d t [] h94 h35 inside_nil]
    exact found_yes ⟨c :: t, u, v, [], false⟩ (d :: t) 0 hdn rfl
  · refine link_end E _ (d :: t) [91, 93] ⟨5, 0, [], u, v⟩ 2 (hw [91, 93]) (by simp) ?_ rfl rfl
    rw [asked_letter _ d t [91, 93] h94 h35 (inside_sq _)]
    have hp : pairL [91, 93] = some ([], 2) := pair_at [] [] (by simp)
    have hf : (findL [(⟨c :: t, u, v, [], false⟩ : Dfn)] [] false).2 = false := by
      unfold findL
      rw [show dnL [] = ([], false) from rfl]
      rfl
    rw [hp]
    simp only [hf, Bool.false_eq_true, if_false]
    rw [if_pos (by rfl)]
    exact found_yes ⟨c :: t, u, v, [], false⟩ (d :: t) 2 hdn rfl
  · obtain ⟨e, t2, rfl⟩ : ∃ e t2, txt = e :: t2 := by cases txt with | nil => exact absurd rfl hx | cons e t2 => exact ⟨e, t2, rfl⟩
    have he := hxl e (by simp)
    have e94 : e ≠ 94 := by rintro rfl; revert he; decide
    have e35 : e ≠ 35 := by rintro rfl; revert he; decide
    have hw2 := name_word e (word_low e he) t2 (93 :: (91 :: ((d :: t) ++ [93]))) (fun b hb => hxl b (by simp [hb])) (by simp; decide +kernel)
    refine link_end E _ (e :: t2) (91 :: ((d :: t) ++ [93])) ⟨5, 0, [], u, v⟩ ((d :: t).length + 2) hw2 (by simp) ?_ (by simp) rfl
    rw [asked_letter _ e t2 _ e94 e35 (inside_sq _)]
    have hp : pairL (91 :: ((d :: t) ++ [93])) = some (d :: t, (d :: t).length + 2) := pair_at (d :: t) [] (by
      intro b hb
      rcases List.mem_cons.1 hb with rfl | hb
      · exact noBr_up hd
      · exact noBr_low (ht b hb))
    have hf : (findL [(⟨c :: t, u, v, [], false⟩ : Dfn)] (d :: t) false).2 = true := by
      have := find_one ⟨c :: t, u, v, [], false⟩ (d :: t) hdn
      rw [show (⟨c :: t, u, v, [], false⟩ : Dfn).nt = false from rfl] at this
      rw [this]
    rw [hp]
    simp only [hf, if_true]
    exact found_yes ⟨c :: t, u, v, [], false⟩ (d :: t) _ hdn rfl
theorem asked_empty (x r : List UInt8) (hi : (insideL r).2.2.2 = false) : askedL [] false x r = if Lib.hasPrefix x [35] && anchorL (x.drop 1) then some (⟨11, 0, x.drop 1, [], []⟩, 0) else none := by
  unfold askedL
  rw [find_nil]
  simp only [Bool.and_false, Bool.false_eq_true, if_false, Bool.not_false, Bool.true_and]
  split
  · rfl
  · rw [if_neg (by rw [hi]; simp)]
    split
    · rw [find_nil]
      simp only [Bool.false_eq_true, if_false]
      split
      · exact found_nil _ _ _ _
      · rfl
    · exact found_nil _ _ _ _
/-- Names that nobody knows. -/
theorem names_unknown (E : Env) (d : UInt8) (t : List UInt8) (hd : 65 ≤ d.toNat ∧ d.toNat ≤ 90) (ht : ∀ b ∈ t, lowB b = true) (txt : List UInt8) (hx : txt ≠ []) (hxl : ∀ b ∈ txt, lowB b = true) :
    inlE E [] (91 :: ((d :: t) ++ [93])) = [wordsI 0 (91 :: ((d :: t) ++ [93]))] ∧
    inlE E [] (91 :: ((d :: t) ++ 93 :: [91, 93])) = [wordsI 0 (91 :: ((d :: t) ++ 93 :: [91, 93]))] ∧
    inlE E [] (91 :: (txt ++ 93 :: (91 :: ((d :: t) ++ [93])))) = [wordsI 0 (91 :: (txt ++ 93 :: (91 :: ((d :: t) ++ [93]))))] := by
  have h35 : d ≠ 35 := by rintro rfl; revert hd; decide
  have hw : ∀ r, nextL ((d :: t) ++ 93 :: r) = (.word (d :: t), (d :: t).length) := fun r => name_word d (up_word hd) t (93 :: r) ht (by simp; decide +kernel)
  have ha : ∀ r, (insideL r).2.2.2 = false → askedL [] false (d :: t) r = none := fun r hi => by
    rw [asked_empty _ _ hi, if_neg (by simp [Lib.hasPrefix, h35.symm])]
  refine ⟨?_, ?_, ?_⟩
  · have hb := bracket_word E [] (d :: t) [] (hw []) (by simp) [] []
    rw [ha [] inside_nil] at hb
    simp only [List.nil_append, List.length_nil] at hb
    rw [inlE_from, hb, inlFrom_end _ _ _ _ _ (by simp)]
    have := words_ents [[91], d :: t, [93]] (by simp)
    simpa using this
  · have hb := bracket_word E [] (d :: t) [91, 93] (hw [91, 93]) (by simp) [] []
    rw [ha _ (inside_sq _)] at hb
    simp only [List.nil_append, List.length_nil] at hb
    rw [inlE_from, hb]
    have hb2 := bracket E [] false [] (91 :: ((d :: t) ++ [93])) [] [.it (ndI [wordsI 0 [93]]), .it (ndI [wordsI 0 (d :: t)]), .it (ndI [wordsI 0 [91]])] trivial
    rw [show askedL [] false (flatP []) [] = none from by rw [asked_empty _ _ inside_nil]; rfl] at hb2
    simp only [markOf, flatP, List.flatMap_nil, List.nil_append, Bool.false_eq_true, if_false] at hb2
    rw [show (91 :: ((d :: t) ++ [93])) ++ ([91] ++ [93]) = 91 :: ((d :: t) ++ 93 :: [91, 93]) from by simp] at hb2
    rw [hb2, inlFrom_end _ _ _ _ _ (by simp)]
    have := words_ents [[91], d :: t, [93], [91], [93]] (by simp)
    simpa [ents] using this
  · obtain ⟨e, t2, rfl⟩ : ∃ e t2, txt = e :: t2 := by cases txt with | nil => exact absurd rfl hx | cons e t2 => exact ⟨e, t2, rfl⟩
    have he := hxl e (by simp)
    have e35 : e ≠ 35 := by rintro rfl; revert he; decide
    have hw2 := name_word e (word_low e he) t2 (93 :: (91 :: ((d :: t) ++ [93]))) (fun b hb => hxl b (by simp [hb])) (by simp; decide +kernel)
    have hb := bracket_word E [] (e :: t2) (91 :: ((d :: t) ++ [93])) hw2 (by simp) [] []
    rw [show askedL [] false (e :: t2) (91 :: ((d :: t) ++ [93])) = none from by rw [asked_empty _ _ (inside_sq _), if_neg (by simp [Lib.hasPrefix, e35.symm])]] at hb
    simp only [List.nil_append, List.length_nil] at hb
    rw [inlE_from, hb]
    have hb2 := bracket_word E [] (d :: t) [] (hw []) (by simp) [.it (ndI [wordsI 0 [93]]), .it (ndI [wordsI 0 (e :: t2)]), .it (ndI [wordsI 0 [91]])] (91 :: ((e :: t2) ++ [93]))
    rw [ha [] inside_nil] at hb2
    simp only at hb2
    rw [show (91 :: ((e :: t2) ++ [93])) ++ (91 :: ((d :: t) ++ [93])) = 91 :: ((e :: t2) ++ 93 :: (91 :: ((d :: t) ++ [93]))) from by simp] at hb2
    rw [hb2, inlFrom_end _ _ _ _ _ (by simp)]
    have := words_ents [[91], e :: t2, [93], [91], d :: t, [93]] (by simp)
    simpa using this
end Go.Proofs.YtfbaknkmpilllaaGreatDoor

namespace Go.Proofs.YtfbaknkmpilllaaGreatDoor
open Go.RowKit
set_option linter.unusedSimpArgs false
set_option linter.unusedVariables false
def count5 (l : List Iln) : Nat := (l.map fun x => if x.kd = 5 then 1 else 0).sum
theorem count5_append (a b : List Iln) : count5 (a ++ b) = count5 a + count5 b := by simp [count5]
theorem count5_cons (a : Iln) (b : List Iln) : count5 (a :: b) = (if a.kd = 5 then 1 else 0) + count5 b := by simp [count5]
theorem count5_mergeOne (out : List Iln) (x : Iln) : count5 (mergeOne out x) = count5 out + (if x.kd = 5 then 1 else 0) := by
  rcases List.eq_nil_or_concat out with rfl | ⟨l', y, rfl⟩
  · rw [mergeOne_nil]
    split
    · next hk =>
      split
      · simp [count5, hk]
      · simp [count5, hk, wordsI]
    · simp [count5]
  · rw [List.concat_eq_append, mergeOne_snoc]
    split
    · next hk =>
      split
      · simp [hk]
      · split
        · next hy => simp [count5, hk, hy.1]
        · simp [count5, hk, wordsI]
    · simp [count5, Nat.add_assoc]
theorem count5_merge (l : List Iln) : count5 (mergeI l) = count5 l := by
  suffices ∀ (l p : List Iln), count5 (l.foldl mergeOne p) = count5 p + count5 l from by have := this l []; simpa [count5, mergeI] using this
  intro l
  induction l with
  | nil => intro p; simp [count5]
  | cons x l ih => intro p; rw [List.foldl_cons, ih, count5_mergeOne, count5_cons]; omega
/-- Nodes alone; openers that are shut: j of them; k links. -/
structure ShutSt (M : List Ent) (j k : Nat) : Prop where
  alone : ∀ x, Ent.it x ∈ M → x.sg = 0
  shut : ∀ img pos sh, Ent.mk img pos sh ∈ M → img = false ∧ sh = true
  marks : (M.filter fun e => match e with | .mk _ _ _ => true | _ => false).length = j
  links : (M.map fun e => count5 (leftI (entI e))).sum = k
theorem lastMk_some {M : List Ent} {m : List Itm} {o : Bool × Nat × Bool} {l : List Ent} (h : lastMk M = some (m, o, l)) : M = m.map Ent.it ++ .mk o.1 o.2.1 o.2.2 :: l := by
  induction M generalizing m with
  | nil => cases h
  | cons e M ih =>
    cases e with
    | mk img pos sh => cases h; rfl
    | it x =>
      unfold lastMk at h
      split at h
      · next m2 o2 l2 he => cases h; rw [ih he]; rfl
      · cases h
theorem lastMk_no {M : List Ent} (h : lastMk M = none) : ∀ img pos sh, Ent.mk img pos sh ∉ M := by
  induction M with
  | nil => simp
  | cons e M ih =>
    cases e with
    | mk img pos sh => cases h
    | it x =>
      unfold lastMk at h
      split at h
      · cases h
      · next he =>
        intro img pos sh hm
        rcases List.mem_cons.1 hm with e | hm
        · cases e
        · exact ih he img pos sh hm
theorem leftI_nd (l : List Iln) : leftI (ndI l) = l := rfl
theorem count5_words (d : Int) (s : List UInt8) : count5 [wordsI d s] = 0 := rfl
/-- One more sign that closes, and words behind it. -/
theorem shut_step (D : List Dfn) (s : List UInt8) (a b : Nat) (M : List Ent) (j k : Nat) (h : ShutSt M (j + 1) k) : ∃ M', closeI D s a b M = (M', 0) ∧ ShutSt M' j k := by
  cases hm : lastMk M with
  | none =>
    have := lastMk_no hm
    have hf : (M.filter fun e => match e with | .mk _ _ _ => true | _ => false) = [] := by
      rw [List.filter_eq_nil_iff]
      intro e he
      cases e with
      | mk img pos sh => exact absurd he (this img pos sh)
      | it x => simp
    have := h.marks
    rw [hf] at this
    simp at this
  | some y =>
    obtain ⟨m, ⟨img, pos, sh⟩, l⟩ := y
    have e := lastMk_some hm
    simp only at e
    have hs := h.shut img pos sh (by rw [e]; simp)
    obtain ⟨rfl, rfl⟩ := hs
    refine ⟨.it (ndI [wordsI 0 [93]]) :: m.map Ent.it ++ .it (ndI [wordsI 0 (markOf false)]) :: l, ?_, ?_, ?_, ?_, ?_⟩
    · unfold closeI
      rw [hm]
      rfl
    · intro x hx
      simp only [List.cons_append, List.mem_cons, List.mem_append, List.mem_map, Ent.it.injEq] at hx
      rcases hx with rfl | ⟨y, hy, rfl⟩ | rfl | hx
      · rfl
      · exact h.alone y (by rw [e]; simp [hy])
      · rfl
      · exact h.alone x (by rw [e]; simp [hx])
    · intro img pos sh hx
      simp only [List.cons_append, List.mem_cons, List.mem_append, List.mem_map, reduceCtorEq, and_false, exists_false, false_or] at hx
      exact h.shut img pos sh (by rw [e]; simp [hx])
    · have := h.marks
      rw [e] at this
      simp only [List.filter_append, List.filter_cons, List.cons_append, List.length_append, if_true, List.length_cons] at this ⊢
      simp only [Bool.false_eq_true, if_false, List.length_append] at this ⊢
      omega
    · have := h.links
      rw [e] at this
      simp only [List.map_append, List.map_cons, List.cons_append, List.sum_append, List.sum_cons, entI, leftI_nd, count5_words] at this ⊢
      omega
theorem shut_push (M : List Ent) (j k : Nat) (h : ShutSt M j k) (w : List UInt8) : ShutSt (.it (ndI [wordsI 0 w]) :: M) j k :=
  ⟨fun x hx => by
    rcases List.mem_cons.1 hx with e | hx
    · cases e; rfl
    · exact h.alone x hx,
   fun img pos sh hx => by
    rcases List.mem_cons.1 hx with e | hx
    · cases e
    · exact h.shut img pos sh hx,
   by have := h.marks; simpa using this,
   by rw [List.map_cons, List.sum_cons, show count5 (leftI (entI (.it (ndI [wordsI 0 w])))) = 0 from rfl, h.links, Nat.zero_add]⟩
def shutU (u : List UInt8) : List UInt8 := 93 :: (40 :: (u ++ [41]))
def shutsU (u : List UInt8) : Nat → List UInt8
  | 0 => []
  | n + 1 => shutU u ++ shutsU u n
theorem paren_word (u r : List UInt8) (hu : ∀ b ∈ u, lowB b = true) (hr : ∀ b ∈ r.head?, tkWord b = false) : nextL ((40 :: (u ++ [41])) ++ r) = (.word (40 :: (u ++ [41])), (40 :: (u ++ [41])).length) :=
  next_word _ r (by simp) (fun b hb => by
    simp only [List.mem_cons, List.mem_append, List.not_mem_nil, or_false] at hb
    rcases hb with rfl | hb | rfl
    · decide +kernel
    · exact word_low b (hu b hb)
    · decide +kernel) hr
theorem shutsU_head (u : List UInt8) (n : Nat) : ∀ b ∈ (shutsU u n).head?, tkWord b = false := by
  cases n with
  | zero => simp [shutsU]
  | succ n => simp [shutsU, shutU]; decide +kernel
theorem shut_run (E : Env) (D : List Dfn) (u : List UInt8) (hu : ∀ b ∈ u, lowB b = true) : ∀ (j : Nat) (p : List UInt8) (M : List Ent) (k : Nat), ShutSt M j k → ∃ M', inlFrom E D (p ++ shutsU u j) p.length M = M' ∧ ShutSt M' 0 k
  | 0, p, M, k, h => ⟨M, inlFrom_end _ _ _ _ _ (by simp [shutsU]), h⟩
  | j + 1, p, M, k, h => by
    generalize hs : p ++ shutsU u (j + 1) = s
    have hd : s.drop p.length = 93 :: ((40 :: (u ++ [41])) ++ shutsU u j) := by
      rw [← hs, List.drop_left' rfl]; simp [shutsU, shutU]
    have hlt : p.length < s.length := by rw [← hs]; simp [shutsU, shutU]
    rw [inlFrom_tok E D s p.length M hlt (t := .mark [93]) (n := 1) (by rw [hd]; exact next_qs _)]
    obtain ⟨M1, h1, h2⟩ := shut_step D s p.length (p.length + 1) M j k h
    have hc : stepI E D s p.length (p.length + 1) (.mark [93]) M = closeI D s p.length (p.length + 1) M := rfl
    rw [hc, h1]
    simp only [Nat.add_zero]
    have es : s = (p ++ [93]) ++ ((40 :: (u ++ [41])) ++ shutsU u j) := by rw [← hs]; simp [shutsU, shutU]
    have e2 := inlFrom_plain E D (p ++ [93]) (40 :: (u ++ [41])) (shutsU u j) M1 (by simp) (paren_word u _ hu (shutsU_head u j)) (fun m e => by cases e)
    have el : (p ++ [(93 : UInt8)]).length = p.length + 1 := by simp
    rw [← es, el] at e2
    rw [e2]
    have e3 : (stepI E D s (p.length + 1) (p ++ [93] ++ (40 :: (u ++ [41]))).length (.word (40 :: (u ++ [41]))) M1).1 = .it (ndI [wordsI 0 (40 :: (u ++ [41]))]) :: M1 := rfl
    rw [e3]
    have es2 : s = (p ++ [93] ++ (40 :: (u ++ [41]))) ++ shutsU u j := by rw [es]; simp
    obtain ⟨M', g1, g2⟩ := shut_run E D u hu j (p ++ [93] ++ (40 :: (u ++ [41]))) _ k (shut_push M1 j k h2 (40 :: (u ++ [41])))
    rw [← es2] at g1
    exact ⟨M', g1, g2⟩
theorem openers_run (E : Env) (D : List Dfn) : ∀ (n : Nat) (p r : List UInt8) (l : List Ent), (∀ img pos sh, Ent.mk img pos sh ∈ l → img = false ∧ sh = false) → (∀ x, Ent.it x ∉ l) →
    ∃ L : List Ent, inlFrom E D (p ++ (List.replicate n 91 ++ r)) p.length l = inlFrom E D (p ++ (List.replicate n 91 ++ r)) (p ++ List.replicate n 91).length L ∧ L.length = n + l.length ∧ (∀ img pos sh, Ent.mk img pos sh ∈ L → img = false ∧ sh = false) ∧ ∀ x, Ent.it x ∉ L
  | 0, p, r, l, h, h2 => ⟨l, by simp, by simp, h, h2⟩
  | n + 1, p, r, l, h, h2 => by
    have e1 := inlFrom_plain E D p [91] (List.replicate n 91 ++ r) l (by simp) (next_sq _) (fun m e => by cases e; exact Or.inl rfl)
    have e2 : (stepI E D (p ++ ([91] ++ (List.replicate n 91 ++ r))) p.length (p ++ [91]).length (.mark [91]) l).1 = .mk false (p ++ [91]).length false :: l := by simp [stepI]
    rw [e2] at e1
    obtain ⟨L, g1, g2, g3, g4⟩ := openers_run E D n (p ++ [91]) r (.mk false (p ++ [91]).length false :: l) (fun img pos sh hm => by
      rcases List.mem_cons.1 hm with e | hm
      · cases e; exact ⟨rfl, rfl⟩
      · exact h img pos sh hm) (fun x hm => by
      rcases List.mem_cons.1 hm with e | hm
      · cases e
      · exact h2 x hm)
    refine ⟨L, ?_, by rw [g2]; simp; omega, g3, g4⟩
    have es : p ++ (List.replicate (n + 1) 91 ++ r) = p ++ ([91] ++ (List.replicate n 91 ++ r)) := by rw [List.replicate_succ]; rfl
    have es2 : p ++ [91] ++ (List.replicate n 91 ++ r) = p ++ ([91] ++ (List.replicate n 91 ++ r)) := by simp
    have es3 : (p ++ List.replicate (n + 1) 91).length = (p ++ [91] ++ List.replicate n 91).length := by simp <;> omega
    rw [es2] at g1
    rw [es, es3, e1, g1]
/-- Links in one another: one link. -/
theorem shut_plain (E : Env) (u : List UInt8) (hne : u ≠ []) (hu : ∀ b ∈ u, lowB b = true) (n : Nat) : count5 (inlE E [] (List.replicate (n + 1) 91 ++ (120 :: shutsU u (n + 1)))) = 1 := by
  generalize hs : List.replicate (n + 1) 91 ++ (120 :: shutsU u (n + 1)) = s
  have es : s = [] ++ (List.replicate n 91 ++ (91 :: (120 :: shutsU u (n + 1)))) := by rw [← hs, List.replicate_succ']; simp
  obtain ⟨L, g1, g2, g3, g4⟩ := openers_run E [] n [] (91 :: (120 :: shutsU u (n + 1))) [] (by simp) (by simp)
  rw [← es] at g1
  simp only [List.nil_append, List.length_nil, Nat.add_zero] at g1 g2
  have es2 : s = List.replicate n 91 ++ (91 :: ([120] ++ 93 :: ((40 :: (u ++ [41])) ++ shutsU u n))) := by rw [es]; simp [shutsU, shutU]
  have hw : nextL ([120] ++ 93 :: ((40 :: (u ++ [41])) ++ shutsU u n)) = (.word [120], [120].length) := next_word [120] _ (by simp) (by simp; decide +kernel) (by simp; decide +kernel)
  have hb := bracket_word E [] [120] ((40 :: (u ++ [41])) ++ shutsU u n) hw (by simp) L (List.replicate n 91)
  rw [← es2] at hb
  have hin : insideL ((40 :: (u ++ [41])) ++ shutsU u n) = (u, [], 2 + u.length, true) := by
    have := rnd_plain (g1 := []) (g3 := []) (u := u) (by intro b hb; cases hb) (by intro b hb; cases hb) (lowers_of hu) hne (shutsU u n)
    simpa using this
  have ha : askedL [] false [120] ((40 :: (u ++ [41])) ++ shutsU u n) = some (⟨5, 0, [], u, []⟩, 2 + u.length) := by
    unfold askedL
    rw [if_neg (by simp [Lib.hasPrefix]), if_neg (by simp [Lib.hasPrefix]), hin]
    rfl
  rw [ha] at hb
  simp only at hb
  rw [if_neg (by decide), if_pos trivial] at hb
  have hst : ShutSt (.it (ndI (⟨5, 0, [], u, []⟩ :: deepI [wordsI 0 [120]])) :: L.map shutE) n 1 := by
    have hL : ∀ e ∈ L, ∃ pos, e = .mk false pos false := fun e he => by
      cases e with
      | it x => exact absurd he (g4 x)
      | mk img pos sh => obtain ⟨rfl, rfl⟩ := g3 img pos sh he; exact ⟨pos, rfl⟩
    refine ⟨fun x hx => ?_, fun img pos sh hx => ?_, ?_, ?_⟩
    · rcases List.mem_cons.1 hx with e | hx
      · cases e; rfl
      · obtain ⟨e, he, h⟩ := List.mem_map.1 hx
        obtain ⟨pos, rfl⟩ := hL e he
        cases h
    · rcases List.mem_cons.1 hx with e | hx
      · cases e
      · obtain ⟨e, he, h⟩ := List.mem_map.1 hx
        obtain ⟨pos2, rfl⟩ := hL e he
        cases h
        exact ⟨rfl, rfl⟩
    · rw [List.filter_cons, if_neg (by simp), List.filter_eq_self.2 (fun e he => by
        obtain ⟨e', he', rfl⟩ := List.mem_map.1 he
        obtain ⟨pos, rfl⟩ := hL e' he'
        rfl), List.length_map, g2]
    · rw [List.map_cons, List.sum_cons, List.map_map]
      have e0 : L.map ((fun e => count5 (leftI (entI e))) ∘ shutE) = L.map fun _ => 0 := List.map_congr_left fun e he => by
        obtain ⟨pos, rfl⟩ := hL e he
        rfl
      have e1 : (L.map fun _ => 0).sum = 0 := by
        clear g1 g2 g3 g4 hb e0 hL
        induction L with
        | nil => rfl
        | cons a L ih => simpa using ih
      rw [e0, e1]
      rfl
  have es3 : s = (List.replicate n 91 ++ (91 :: ([120] ++ [93])) ++ (40 :: (u ++ [41]))) ++ shutsU u n := by rw [es2]; simp
  obtain ⟨M', m1, m2⟩ := shut_run E [] u hu n (List.replicate n 91 ++ (91 :: ([120] ++ [93])) ++ (40 :: (u ++ [41]))) _ 1 hst
  have el : (List.replicate n (91 : UInt8) ++ (91 :: ([120] ++ [93])) ++ (40 :: (u ++ [41]))).length = (List.replicate n (91 : UInt8) ++ (91 :: ([120] ++ [93]))).length + (2 + u.length) := by simp <;> omega
  rw [← es3, el] at m1
  rw [inlE_from, g1, hb, m1]
  have hall : ∀ e ∈ M', ∃ x, e = .it x ∧ x.sg = 0 := fun e he => by
    cases e with
    | it x => exact ⟨x, rfl, m2.alone x he⟩
    | mk img pos sh =>
      have h0 := List.eq_nil_of_length_eq_zero m2.marks
      have : Ent.mk img pos sh ∈ (M'.filter fun e => match e with | .mk _ _ _ => true | _ => false) := List.mem_filter.2 ⟨he, rfl⟩
      rw [h0] at this
      cases this
  rw [all_nds _ (fun x hx => by
    obtain ⟨e, he, rfl⟩ := List.mem_map.1 hx
    obtain ⟨y, rfl, hy⟩ := hall e (List.mem_reverse.1 he)
    exact hy), count5_merge]
  have hc : ∀ M : List Ent, count5 (allI (M.reverse.map entI)) = (M.map fun e => count5 (leftI (entI e))).sum := by
    intro M
    induction M with
    | nil => rfl
    | cons e M ih =>
      have h1 : count5 (allI ([e].map entI)) = count5 (leftI (entI e)) := by simp [allI]
      rw [List.reverse_cons, List.map_append, allI_append, count5_append, ih, h1]
      simp only [List.map_cons, List.sum_cons]
      omega
  rw [hc, m2.links]
end Go.Proofs.YtfbaknkmpilllaaGreatDoor
