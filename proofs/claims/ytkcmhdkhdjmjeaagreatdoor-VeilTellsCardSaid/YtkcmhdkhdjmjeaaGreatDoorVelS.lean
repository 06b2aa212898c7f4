/-
  Plain facts of package veil: how long a document is that is emptied; that it is text still; a document that is emptied twice.
-/
import Derived.Test.YtkcmhdkhdjmjeaaGreatDoorPla
import Derived.Test.YtkcmhdkhdjmjeaaGreatDoorRepairE
import Derived.Test.YtkcmhdkhdjmjeaaGreatDoorLineJ
namespace Go.Proofs.YtkcmhdkhdjmjeaaGreatDoor
set_option linter.unusedSimpArgs false
set_option linter.unusedVariables false

/-! ### Lengths -/
def cost (ls : List Txt) : Nat := (joinL ls).length
theorem cost_nil : cost [] = 0 := rfl
theorem cost_app (a b : List Txt) : cost (a ++ b) = cost a + cost b := by unfold cost; rw [joinL_append, List.length_append]
theorem cost_cons (l : Txt) (ls : List Txt) : cost (l :: ls) = l.length + 1 + cost ls := by unfold cost; simp [joinL]; omega
theorem cost_ends (n : Nat) : cost (ends n) = 4 * n ∧ (ends n).length = n := by
  refine ⟨?_, by simp [ends]⟩
  induction n with
  | zero => rfl
  | succ n ih => rw [ends_succ, cost_app, ih]; rw [show cost [divE] = 4 from rfl]; omega
theorem cost_lines (p : Sv) : ∀ ls : List Txt, cost (ls.map (lineL p)) ≤ cost ls
  | [] => Nat.le_refl _
  | l :: ls => by
    have h1 := cost_lines p ls
    have h2 := lineL_len p l
    rw [List.map_cons, cost_cons, cost_cons]
    omega
/-- How the lines that are left stand to the lines. -/
def CSt (h : Option Int) (i i' : Int) (o o' : Nat) : Prop :=
  match h with
  | none => i' = i ∧ o' = o
  | some d => i' = d + 1 ∧ d + 1 ≤ i ∧ o' ≤ o ∧ (o' < o → d + 1 ≤ o')
theorem hideF_cost (p : Sv) : ∀ (xs : List Prt) (h : Option Int) (i i' : Int) (o o' : Nat) (last : Option Prt), CSt h i i' o o' → rightF last o xs = true →
    cost (writeF i' o' (hideF p h xs)) ≤ cost (writeF i o xs) ∧ (writeF i' o' (hideF p h xs)).length ≤ (writeF i o xs).length
  | [], h, i, i', o, o', _, hc, _ => by
    have e : (i' - o').toNat ≤ (i - o).toNat := by
      cases h with
      | none => obtain ⟨rfl, rfl⟩ := hc; exact Nat.le_refl _
      | some d =>
        obtain ⟨rfl, h1, h2, h3⟩ := hc
        by_cases e : o' < o
        · have := h3 e; omega
        · omega
    simp only [hideF, writeF, (cost_ends _).1, (cost_ends _).2]
    omega
  | x :: xs, h, i, i', o, o', last, hc, hr => by
    rw [rightF] at hr
    simp only [Bool.and_eq_true, Bool.not_eq_true', Bool.or_eq_false_iff, decide_eq_false_iff_not, Bool.and_eq_false_imp] at hr
    obtain ⟨⟨⟨h1, h2⟩, h3, h4⟩, h5⟩ := hr
    simp only [hideF]
    have kept : i' ≤ i → o' = o → cost (writeF i' o' (linesL p x :: hideF p (nextH p x) xs)) ≤ cost (writeF i o (x :: xs)) ∧ (writeF i' o' (linesL p x :: hideF p (nextH p x) xs)).length ≤ (writeF i o (x :: xs)).length := by
      intro hi e
      subst e
      have hst : CSt (nextH p x) (if x.dv then x.depth + 1 else x.depth) (if x.dv then x.depth + 1 else x.depth) (if x.opn then o' + 1 else o') (if x.opn then o' + 1 else o') := by
        unfold nextH
        split
        · rename_i hn
          rw [Bool.and_eq_true] at hn
          rw [if_pos hn.1]
          exact ⟨rfl, Int.le_refl _, Nat.le_refl _, fun e => absurd e (Nat.lt_irrefl _)⟩
        · exact ⟨rfl, rfl⟩
      obtain ⟨c1, c2⟩ := hideF_cost p xs _ _ _ _ _ (some x) hst h5
      rw [writeF, writeF]
      have e1 : (linesL p x).depth = x.depth := rfl
      have e2 : (linesL p x).dv = x.dv := rfl
      have e3 : (linesL p x).opn = x.opn := rfl
      have e4 : (linesL p x).lab = x.lab := rfl
      have e5 : (linesL p x).ls = x.ls.map (lineL p) := rfl
      rw [e1, e2, e3, e4, e5]
      have c3 := cost_lines p x.ls
      simp only [cost_app, List.length_append, (cost_ends _).1, (cost_ends _).2, List.length_map]
      omega
    cases h with
    | none =>
      rw [if_neg (by simp [hidB])]
      obtain ⟨rfl, rfl⟩ := hc
      exact kept (Int.le_refl _) rfl
    | some d =>
      obtain ⟨rfl, hc1, hc2, hc3⟩ := hc
      by_cases hx : hidB (some d) x.depth = true
      · rw [if_pos hx]
        have hx' : d < x.depth := by simpa [hidB] using hx
        obtain ⟨c1, c2⟩ := hideF_cost p xs (some d) (if x.dv then x.depth + 1 else x.depth) (d + 1) (if x.opn then o + 1 else o) o' (some x) ⟨rfl, by split <;> omega, by split <;> omega, by
          intro e
          split at e
          · rename_i hop
            have := h4 hop
            by_cases e2 : o' < o
            · exact hc3 e2
            · omega
          · exact hc3 e⟩ h5
        rw [show writeF i o (x :: xs) = ends (i - x.depth).toNat ++ (if x.dv then [divLine x.lab] else []) ++ x.ls ++ writeF (if x.dv then x.depth + 1 else x.depth) (if x.opn then o + 1 else o) xs from rfl]
        simp only [cost_app, List.length_append]
        omega
      · rw [if_neg hx]
        have hx' : ¬ d < x.depth := by simpa [hidB] using hx
        refine kept hc1 ?_
        by_cases e2 : o' < o
        · have := hc3 e2; omega
        · omega
theorem norm_cost : ∀ (ls : List Txt) (st : List Prt × List Nat), cost (normF st ls) ≤ cost ls ∧ (normF st ls).length = ls.length
  | [], st => ⟨Nat.le_refl _, rfl⟩
  | s :: ls, st => by
    obtain ⟨h1, h2⟩ := norm_cost ls (stepP st s)
    obtain ⟨k, hk⟩ := normLn_blanks st.2 s
    have h3 := congrArg List.length hk
    rw [List.length_append] at h3
    rw [normF, cost_cons, cost_cons, List.length_cons, List.length_cons]
    omega
theorem hide_cost (p : Sv) (ls : List Txt) (h : ∀ s ∈ ls, lfFree s = true) : cost (writeP (hideP p (parseL ls))) ≤ cost ls ∧ (writeP (hideP p (parseL ls))).length ≤ ls.length := by
  obtain ⟨h1, h2⟩ := parse_right ls h
  obtain ⟨h3, h4⟩ := hideF_cost p (parseL ls) none 0 0 0 0 none ⟨rfl, rfl⟩ h1
  obtain ⟨h5, h6⟩ := norm_cost ls ([], [])
  have e : writeF 0 0 (parseL ls) = normF ([], []) ls := h2
  rw [e] at h3 h4
  exact ⟨by show cost (writeF 0 0 (hideF p none (parseL ls))) ≤ _; omega, by show (writeF 0 0 (hideF p none (parseL ls))).length ≤ _; omega⟩
theorem splitFrom_cost : ∀ (l cur : Txt), cost (splitFrom cur l) ≤ cur.length + l.length + 1
  | [], cur => by
    unfold splitFrom
    split
    · simp [cost_nil]
    · rw [cost_cons, cost_nil]; simp
  | b :: l, cur => by
    unfold splitFrom
    split
    · have := splitFrom_cost l []
      rw [cost_cons]
      simp only [List.length_cons, List.length_nil] at this ⊢
      omega
    · have := splitFrom_cost l (cur ++ [b])
      simp only [List.length_append, List.length_cons, List.length_nil] at this ⊢
      omega
theorem split_cost (l : Txt) : cost (splitL l) ≤ l.length + 1 := by have := splitFrom_cost l []; rw [List.length_nil, Nat.zero_add] at this; exact this
theorem splitFrom_lines : ∀ (l cur : Txt), (∀ b ∈ cur, b ≠ 10) → ∀ s ∈ splitFrom cur l, ∀ b ∈ s, b ≠ 10
  | [], cur, h, s, hs => by
    unfold splitFrom at hs
    split at hs
    · cases hs
    · rw [List.mem_singleton] at hs; subst hs; exact h
  | b :: l, cur, h, s, hs => by
    unfold splitFrom at hs
    split at hs
    · rw [List.mem_cons] at hs
      rcases hs with rfl | hs
      · exact h
      · exact splitFrom_lines l [] (by simp) s hs
    · rename_i hb
      refine splitFrom_lines l (cur ++ [b]) ?_ s hs
      intro x hx
      rw [List.mem_append, List.mem_singleton] at hx
      rcases hx with hx | rfl
      · exact h x hx
      · exact hb
theorem split_lines (l : Txt) : ∀ s ∈ splitL l, ∀ b ∈ s, b ≠ 10 := splitFrom_lines l [] (by simp)
theorem lf_of {s : Txt} (h : ∀ b ∈ s, b ≠ 10) : lfFree s = true := by unfold lfFree; rw [List.all_eq_true]; intro b hb; simpa using h b hb
theorem split_lf (l : Txt) : ∀ s ∈ splitL l, lfFree s = true := fun s hs => lf_of (split_lines l s hs)
theorem split_len : ∀ (l cur : Txt), (splitFrom cur l).length ≤ l.length + 1
  | [], cur => by unfold splitFrom; split <;> simp
  | b :: l, cur => by
    unfold splitFrom
    split
    · have := split_len l []; simp only [List.length_cons]; omega
    · have := split_len l (cur ++ [b]); simp only [List.length_cons]; omega
theorem split_one (l : Txt) : ∀ s ∈ splitL l, s.length ≤ l.length := by
  have : ∀ (l cur : Txt), ∀ s ∈ splitFrom cur l, s.length ≤ cur.length + l.length := by
    intro l
    induction l with
    | nil =>
      intro cur s hs
      unfold splitFrom at hs
      split at hs
      · cases hs
      · rw [List.mem_singleton] at hs; subst hs; simp
    | cons b l ih =>
      intro cur s hs
      unfold splitFrom at hs
      split at hs
      · rw [List.mem_cons] at hs
        rcases hs with rfl | hs
        · simp only [List.length_cons]; omega
        · have := ih [] s hs
          simp only [List.length_cons, List.length_nil] at this ⊢; omega
      · have := ih _ s hs
        simp only [List.length_append, List.length_cons, List.length_nil] at this ⊢; omega
  intro s hs
  have := this l [] s hs
  simpa using this

/-! ### Text -/
def Good (l : Txt) : Prop := ∃ rs : List Nat, (∀ r ∈ rs, Utf8.valid r = true ∧ r ≠ 0 ∧ r ≠ 13) ∧ l = encs rs
theorem good_text (l : Txt) : Good (textL l) := ⟨_, textR_good _ 0 (runes_valid l), textL_R l⟩
theorem Good.text {l : Txt} (h : Good l) : textL l = l := by
  obtain ⟨rs, h1, rfl⟩ := h
  exact textL_encs rs h1
theorem good_nil : Good [] := ⟨[], by simp, rfl⟩
theorem Good.append {a b : Txt} (h : Good a) (k : Good b) : Good (a ++ b) := by
  obtain ⟨rs, h1, rfl⟩ := h
  obtain ⟨ss, h2, rfl⟩ := k
  refine ⟨rs ++ ss, ?_, (encs_append rs ss).symm⟩
  intro r hr
  rw [List.mem_append] at hr
  exact hr.elim (h1 r) (h2 r)
theorem enc_shape (n : Nat) (hv : Utf8.valid n = true) : (n < 128 ∧ Lib.encodeRune n = [n.toUInt8]) ∨ (∀ b ∈ Lib.encodeRune n, 128 ≤ b.toNat) := by
  have hv' := of_valid n hv
  by_cases h1 : n < 128
  · exact Or.inl ⟨h1, enc1 n h1⟩
  · right
    by_cases h2 : n < 2048
    · rw [enc2 n (by omega) h2]
      intro b hb
      simp only [List.mem_cons, List.not_mem_nil, or_false] at hb
      rcases hb with rfl | rfl
      · rw [u8 _ (by omega)]; omega
      · rw [u8 _ (by omega)]; omega
    · by_cases h3 : n < 65536
      · rw [enc3 n (by omega)]
        intro b hb
        simp only [List.mem_cons, List.not_mem_nil, or_false] at hb
        rcases hb with rfl | rfl | rfl
        · rw [u8 _ (by omega)]; omega
        · rw [u8 _ (by omega)]; omega
        · rw [u8 _ (by omega)]; omega
      · rw [enc4 n (by omega) (by omega)]
        intro b hb
        simp only [List.mem_cons, List.not_mem_nil, or_false] at hb
        rcases hb with rfl | rfl | rfl | rfl
        · rw [u8 _ (by omega)]; omega
        · rw [u8 _ (by omega)]; omega
        · rw [u8 _ (by omega)]; omega
        · rw [u8 _ (by omega)]; omega
theorem good_one {b : UInt8} (h1 : b.toNat < 128) (h2 : b ≠ 0) (h3 : b ≠ 13) : Good [b] := by
  refine ⟨[b.toNat], ?_, ?_⟩
  · intro r hr
    rw [List.mem_singleton] at hr
    subst hr
    refine ⟨valid_of _ (by omega), ?_, ?_⟩
    · intro e; apply h2; apply UInt8.toNat_inj.1; rw [e]; rfl
    · intro e; apply h3; apply UInt8.toNat_inj.1; rw [e]; rfl
  · show [b] = Lib.encodeRune (b.toNat : Int) ++ []
    rw [enc1 b.toNat h1]
    simp
theorem good_all : ∀ {l : Txt}, (∀ b ∈ l, b.toNat < 128 ∧ b ≠ 0 ∧ b ≠ 13) → Good l
  | [], _ => good_nil
  | b :: l, h => by
    have hb := h b (by simp)
    exact (good_one hb.1 hb.2.1 hb.2.2).append (good_all fun x hx => h x (by simp [hx]))
/-- Text falls at each sign of ASCII. -/
theorem good_split : ∀ (rs : List Nat) (a c : Txt) (b : UInt8), (∀ r ∈ rs, Utf8.valid r = true ∧ r ≠ 0 ∧ r ≠ 13) → b.toNat < 128 → encs rs = a ++ b :: c → Good a ∧ Good c
  | [], a, c, b, _, _, e => by
    have : a ++ b :: c = [] := e.symm
    simp at this
  | r :: rs, a, c, b, h, hb, e => by
    rw [encs_cons] at e
    have hr := h r (by simp)
    have hrs : ∀ x ∈ rs, Utf8.valid x = true ∧ x ≠ 0 ∧ x ≠ 13 := fun x hx => h x (by simp [hx])
    have one : Good (Lib.encodeRune r) := ⟨[r], by intro x hx; rw [List.mem_singleton] at hx; subst hx; exact hr, by show _ = Lib.encodeRune r ++ []; rw [List.append_nil]⟩
    rcases List.append_eq_append_iff.1 e with ⟨a', e1, e2⟩ | ⟨c', e1, e2⟩
    · obtain ⟨g1, g2⟩ := good_split rs a' c b hrs hb e2
      exact ⟨by rw [e1]; exact one.append g1, g2⟩
    · rcases enc_shape r hr.1 with ⟨h1, h2⟩ | h2
      · rw [h2] at e1
        cases c' with
        | nil =>
          rw [List.append_nil] at e1
          rw [List.nil_append] at e2
          obtain ⟨g1, g2⟩ := good_split rs [] c b hrs hb e2.symm
          exact ⟨by rw [← e1, ← h2]; exact one, g2⟩
        | cons x c' =>
          have h3 := congrArg List.length e1
          simp only [List.length_cons, List.length_nil, List.length_append] at h3
          have h4 : a = [] := List.eq_nil_of_length_eq_zero (by omega)
          have h5 : c' = [] := List.eq_nil_of_length_eq_zero (by omega)
          subst h4 h5
          rw [List.cons_append, List.nil_append] at e2
          injection e2 with e3 e4
          exact ⟨good_nil, ⟨rs, hrs, e4⟩⟩
      · cases c' with
        | nil =>
          rw [List.append_nil] at e1
          rw [List.nil_append] at e2
          obtain ⟨g1, g2⟩ := good_split rs [] c b hrs hb e2.symm
          exact ⟨by rw [← e1]; exact one, g2⟩
        | cons x c' =>
          rw [List.cons_append] at e2
          injection e2 with e3 _
          subst e3
          have := h2 b (by rw [e1]; simp)
          omega
theorem Good.split {a c : Txt} {b : UInt8} (h : Good (a ++ b :: c)) (hb : b.toNat < 128) : Good a ∧ Good c := by
  obtain ⟨rs, h1, e⟩ := h
  exact good_split rs a c b h1 hb e.symm
theorem good_lines : ∀ (l cur : Txt), Good (cur ++ l) → ∀ s ∈ splitFrom cur l, Good s
  | [], cur, h, s, hs => by
    unfold splitFrom at hs
    split at hs
    · cases hs
    · rw [List.mem_singleton] at hs
      subst hs
      rwa [List.append_nil] at h
  | b :: l, cur, h, s, hs => by
    unfold splitFrom at hs
    split at hs
    · rename_i hb
      subst hb
      obtain ⟨g1, g2⟩ := h.split (by decide)
      rw [List.mem_cons] at hs
      rcases hs with rfl | hs
      · exact g1
      · exact good_lines l [] g2 s hs
    · exact good_lines l (cur ++ [b]) (by rw [List.append_assoc]; exact h) s hs
theorem good_join : ∀ {ls : List Txt}, (∀ s ∈ ls, Good s) → Good (joinL ls)
  | [], _ => good_nil
  | l :: ls, h => by
    show Good (l ++ 10 :: joinL ls)
    rw [show l ++ 10 :: joinL ls = l ++ ([10] ++ joinL ls) from rfl]
    exact (h l (by simp)).append ((good_one (by decide) (by decide) (by decide)).append (good_join fun s hs => h s (by simp [hs])))
theorem good_spanTxt {lab txt : Txt} (h1 : Good lab) (h2 : Good txt) : Good (spanTxt lab txt) := by
  have g : ∀ l : Txt, (∀ b ∈ l, b.toNat < 128 ∧ b ≠ 0 ∧ b ≠ 13) → Good l := fun l h => good_all h
  unfold spanTxt
  exact ((((g spB (by simp [spB])).append h1).append (g [58] (by simp))).append h2).append (g spE (by simp [spE]))
theorem spanTxt_good {lab txt rest cur : Txt} (h : Good (cur ++ (spanTxt lab txt ++ rest))) : Good cur ∧ Good lab ∧ Good txt ∧ Good rest := by
  rw [show cur ++ (spanTxt lab txt ++ rest) = cur ++ 123 :: ([] ++ 124 :: (lab ++ 58 :: (txt ++ 124 :: ([] ++ 125 :: rest)))) from by simp [spanTxt, spB, spE]] at h
  obtain ⟨g1, h⟩ := h.split (by decide)
  obtain ⟨_, h⟩ := h.split (by decide)
  obtain ⟨g2, h⟩ := h.split (by decide)
  obtain ⟨g3, h⟩ := h.split (by decide)
  obtain ⟨_, g4⟩ := h.split (by decide)
  exact ⟨g1, g2, g3, g4⟩
theorem good_empL (p : Sv) (n : Nat) : ∀ (l cur : Txt), l.length ≤ n → Good (cur ++ l) → Good (cur ++ empL p l) := by
  induction n with
  | zero => intro l cur hn h; rw [List.eq_nil_of_length_eq_zero (l := l) (by omega)] at h ⊢; exact h
  | succ n ih =>
    intro l cur hn h
    rcases emp_cases p l with rfl | ⟨b, t, rfl, hs, e⟩ | ⟨lab, txt, rest, rfl, hs, e⟩
    · exact h
    · rw [e]
      have := ih t (cur ++ [b]) (by simpa using hn) (by rw [List.append_assoc]; exact h)
      rw [List.append_assoc] at this
      exact this
    · have hlen := spanTxt_len lab txt
      rw [List.length_append] at hn
      obtain ⟨g1, g2, g3, g4⟩ := spanTxt_good h
      rw [e]
      refine g1.append ((good_spanTxt g2 ?_).append (ih rest [] (by omega) g4))
      unfold empT
      split
      · exact g3
      · exact good_nil
theorem good_line (p : Sv) (l : Txt) (h : Good l) : Good (lineL p l) := by
  have h0 : Good (empL p l) := good_empL p _ l [] (Nat.le_refl _) h
  rcases line_cases l with ⟨_, hp⟩ | ⟨t, lab, k, e, h1, h2, _, hp⟩
  · rw [hp]; exact h0
  · rw [hp]
    split
    · exact h0
    · obtain ⟨_, a2, _, _⟩ := hdSign_shape h1
      refine Good.append (good_all fun b hb => ?_) ?_
      · rcases a2 b hb with rfl | rfl <;> decide
      · rw [e, show t ++ labTail lab k = t ++ 123 :: ([] ++ 61 :: (lab ++ 125 :: List.replicate k 32)) from by simp [labTail, headB]] at h
        obtain ⟨_, h⟩ := h.split (by decide)
        obtain ⟨_, h⟩ := h.split (by decide)
        obtain ⟨g, _⟩ := h.split (by decide)
        rw [show labTail lab 0 = headB ++ (lab ++ [125]) from rfl]
        exact (good_all (by simp [headB])).append (g.append (good_one (by decide) (by decide) (by decide)))
def GoodP (x : Prt) : Prop := Good x.lab ∧ ∀ l ∈ x.ls, Good l
theorem good_opens {s lab : Txt} (h : opensL s = some lab) (hs : Good s) : Good lab := by
  obtain ⟨_, k, e⟩ := opens_some h
  rw [e, show divLine lab ++ List.replicate k 32 = [58, 58, 58] ++ 123 :: (lab ++ 125 :: List.replicate k 32) from by simp [divLine, divB]] at hs
  obtain ⟨_, hs⟩ := hs.split (by decide)
  exact (hs.split (by decide)).1
theorem good_step {st : List Prt × List Nat} {s : Txt} (h : ∀ x ∈ st.1, GoodP x) (hs : Good s) : ∀ x ∈ (stepP st s).1, GoodP x := by
  unfold stepP
  split
  · rename_i lab ho
    intro x hx
    rw [List.mem_append, List.mem_singleton] at hx
    rcases hx with hx | rfl
    · exact h x hx
    · exact ⟨good_opens ho hs, by simp⟩
  · split
    · intro x hx
      unfold shut at hx
      obtain ⟨j, hj⟩ := List.getElem?_of_mem hx
      rw [List.getElem?_modify] at hj
      split at hj
      · cases hq : st.1[j]? with
        | none => rw [hq] at hj; cases hj
        | some y =>
          rw [hq] at hj
          cases hj
          exact h y (List.mem_of_getElem? hq)
      · have : st.1[j]? = some x := by simpa using hj
        exact h x (List.mem_of_getElem? this)
    · intro x hx
      unfold addLn at hx
      have new : ∀ x ∈ st.1 ++ [(⟨st.2.length, false, [], false, [s]⟩ : Prt)], GoodP x := by
        intro x hx
        rw [List.mem_append, List.mem_singleton] at hx
        rcases hx with hx | rfl
        · exact h x hx
        · exact ⟨good_nil, by intro l hl; rw [List.mem_singleton] at hl; subst hl; exact hs⟩
      split at hx
      · rename_i q hq
        split at hx
        · exact new x hx
        · rw [List.mem_append, List.mem_singleton] at hx
          rcases hx with hx | rfl
          · exact h x (List.dropLast_subset _ hx)
          · have hqm := h q (List.mem_of_getLast? hq)
            refine ⟨hqm.1, fun l hl => ?_⟩
            rw [List.mem_append, List.mem_singleton] at hl
            rcases hl with hl | rfl
            · exact hqm.2 l hl
            · exact hs
      · exact new x (List.mem_append.2 (Or.inr hx))
theorem good_parse : ∀ (ls : List Txt) (st : List Prt × List Nat), (∀ x ∈ st.1, GoodP x) → (∀ s ∈ ls, Good s) → ∀ x ∈ (parseF st ls).1, GoodP x
  | [], st, h, _ => h
  | s :: ls, st, h, hs => good_parse ls (stepP st s) (good_step h (hs s (by simp))) fun x hx => hs x (by simp [hx])
theorem good_hide (p : Sv) : ∀ (xs : List Prt) (h : Option Int), (∀ x ∈ xs, GoodP x) → ∀ x ∈ hideF p h xs, GoodP x
  | [], _, _, _, hx => by cases hx
  | y :: xs, h, hg, x, hx => by
    have rec' : ∀ h', ∀ x ∈ hideF p h' xs, GoodP x := fun h' => good_hide p xs h' fun x hx => hg x (by simp [hx])
    simp only [hideF] at hx
    split at hx
    · exact rec' _ x hx
    · rw [List.mem_cons] at hx
      rcases hx with rfl | hx
      · have := hg y (by simp)
        refine ⟨this.1, fun l hl => ?_⟩
        obtain ⟨l0, h0, rfl⟩ := List.mem_map.1 hl
        exact good_line p l0 (this.2 l0 h0)
      · exact rec' _ x hx
theorem good_write {P : List Prt} (h : ∀ x ∈ P, GoodP x) : ∀ l ∈ writeP P, Good l := by
  intro l hl
  rcases writeF_mem P 0 0 l hl with rfl | ⟨x, hx, _, rfl⟩ | ⟨x, hx, hx2⟩
  · exact good_all (by simp [divE])
  · unfold divLine divB
    exact ((good_all (by simp)).append (h x hx).1).append (good_all (by simp))
  · exact (h x hx).2 l hx2

/-! ### A document -/
def veilLs (p : Sv) (t : Txt) : List Txt := writeP (hideP p (parseL (splitL t)))
def veilL (p : Sv) (doc : Txt) : Txt := joinL (veilLs p (textL doc))
theorem veil_back (p : Sv) (doc : Txt) : textL (veilL p doc) = veilL p doc ∧ splitL (veilL p doc) = veilLs p (textL doc) ∧ parseL (veilLs p (textL doc)) = hideP p (parseL (splitL (textL doc))) := by
  have hr := hideP_right p (parse_right (splitL (textL doc)) (split_lf _)).1
  have hg : ∀ l ∈ veilLs p (textL doc), Good l := good_write (good_hide p _ none (good_parse _ _ (by simp) fun s hs => good_lines (textL doc) [] (good_text doc) s hs))
  exact ⟨(good_join hg).text, split_join _ (write_noLF hr), parse_write _ hr⟩
/-- A document that is emptied twice is emptied by both. -/
theorem veil_two (p q : Sv) (doc : Txt) : veilL q (veilL p doc) = veilL (andS p q) doc := by
  obtain ⟨h1, h2, h3⟩ := veil_back p doc
  have e : veilLs q (veilL p doc) = veilLs (andS p q) (textL doc) := by
    unfold veilLs
    unfold veilLs at h2 h3
    rw [h2, h3, hideP_two]
  unfold veilL at h1 ⊢
  rw [h1]
  unfold veilL at e
  rw [e]
theorem veil_len (p : Sv) (doc : Txt) : (veilL p doc).length ≤ (textL doc).length + 1 ∧ (veilLs p (textL doc)).length ≤ (splitL (textL doc)).length := by
  obtain ⟨h1, h2⟩ := hide_cost p (splitL (textL doc)) (split_lf _)
  have h3 := split_cost (textL doc)
  exact ⟨Nat.le_trans h1 h3, h2⟩
theorem joinL_last : ∀ ls : List Txt, joinL ls = [] ∨ (joinL ls).getLast? = some 10
  | [] => Or.inl rfl
  | l :: ls => by
    right
    show (l ++ 10 :: joinL ls).getLast? = some 10
    rcases joinL_last ls with h | h
    · rw [h]; simp
    · rw [List.getLast?_append, List.getLast?_cons, h]; rfl

end Go.Proofs.YtkcmhdkhdjmjeaaGreatDoor
