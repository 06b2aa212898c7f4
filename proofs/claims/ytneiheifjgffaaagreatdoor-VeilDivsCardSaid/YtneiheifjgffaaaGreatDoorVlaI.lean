/-
  VeilDivs, the plain part: what is left of a document whose first division is not seen.
-/
import Derived.Test.YtneiheifjgffaaaGreatDoorVlaG
namespace Go.Proofs.YtneiheifjgffaaaGreatDoor
set_option linter.unusedSimpArgs false
set_option linter.unusedVariables false

def NoLC (x : Txt) : Prop := ∀ b ∈ x, b ≠ 10 ∧ b ≠ 13
theorem textOne_no (r last : Int) (h : last ≠ 13) : textOne r last = textOne r 0 := by
  unfold textOne
  have h1 : ¬ (r = 10 ∧ last = 13) := fun e => h e.2
  have h2 : ¬ (r = 10 ∧ (0 : Int) = 13) := fun e => absurd e.2 (by decide)
  rw [if_neg h1, if_neg h2]
theorem textS_no (cs : List (Nat × List UInt8)) (last : Int) (h : last ≠ 13) : textS cs last = textS cs 0 := by
  cases cs with
  | nil => rfl
  | cons c cs => show textOne c.1 last ++ textS cs c.1 = textOne c.1 0 ++ textS cs c.1; rw [textOne_no _ _ h]
theorem textS_app : ∀ (cs ds : List (Nat × List UInt8)) (last : Int), last ≠ 13 → (∀ c ∈ cs, c.1 ≠ 13) → textS (cs ++ ds) last = textS cs 0 ++ textS ds 0
  | [], ds, last, h, _ => textS_no ds last h
  | c :: cs, ds, last, h, hc => by
    have h1 : (c.1 : Int) ≠ 13 := by have := hc c (by simp); omega
    show textOne c.1 last ++ textS (cs ++ ds) c.1 = (textOne c.1 0 ++ textS cs c.1) ++ textS ds 0
    rw [textS_app cs ds c.1 h1 (fun d hd => hc d (by simp [hd])), textOne_no _ _ h, textS_no cs _ h1, List.append_assoc]
theorem runes_no (x : Txt) (h : NoLC x) : ∀ c ∈ segs x, c.1 ≠ 10 ∧ c.1 ≠ 13 := segs_runes _ x (Nat.le_refl _) h
/-- Text, line by line. -/
theorem textL_line (x m : Txt) (h : NoLC x) : textL (x ++ 10 :: m) = textL x ++ 10 :: textL m := by
  unfold textL
  rw [segs_app x (fresh_cons 10 m (by decide)), textS_app _ _ 0 (by decide) (fun c hc => (runes_no x h c hc).2)]
  congr 1
  rw [segs_cons, dec_ascii 10 m (by decide)]
  show textOne 10 0 ++ textS (segs m) 10 = _
  rw [textS_no _ _ (by decide)]
  rfl
theorem textL_lines : ∀ (X : List Txt) (m : Txt), (∀ x ∈ X, NoLC x) → textL (joinL X ++ m) = joinL (X.map textL) ++ textL m
  | [], m, _ => rfl
  | x :: X, m, h => by
    show textL ((x ++ 10 :: joinL X) ++ m) = (textL x ++ 10 :: joinL (X.map textL)) ++ textL m
    rw [List.append_assoc, List.cons_append, textL_line x _ (h x (by simp)), textL_lines X m (fun y hy => h y (by simp [hy])), List.append_assoc, List.cons_append]
/-- A sign of ASCII that text begins with began what it was made of. -/
theorem textL_first {x r : Txt} {b : UInt8} (hx : NoLC x) (hb : b.toNat < 128) (h : textL x = b :: r) : ∃ x', x = b :: x' ∧ textL x' = r := by
  cases x with
  | nil => cases h
  | cons c t =>
    unfold textL at h
    have hs := runes_no _ hx
    rw [segs_cons] at h hs
    have h1 := hs _ (List.mem_cons_self ..)
    have hv := dec_valid (c :: t)
    have e : textS (((dec (c :: t)).1, (c :: t).take (dec (c :: t)).2) :: segs ((c :: t).drop (dec (c :: t)).2)) 0 = textOne (dec (c :: t)).1 0 ++ textS (segs ((c :: t).drop (dec (c :: t)).2)) (dec (c :: t)).1 := rfl
    rw [e, textS_no _ _ (by have := h1.2; simp only at this; omega)] at h
    simp only at h1
    have big : ∀ n : Nat, Utf8.valid n = true → 128 ≤ n → ∀ T : Txt, Lib.encodeRune n ++ T = b :: r → False := by
      intro n hn h128 T e
      rcases enc_shape n hn with ⟨h2, _⟩ | h2
      · omega
      · cases hE : Lib.encodeRune n with
        | nil =>
          have := congrArg List.length (segs_enc n hn [])
          rw [hE] at this
          simp [segs_nil] at this
        | cons d D =>
          rw [hE, List.cons_append] at e
          injection e with e1 _
          have := h2 d (by rw [hE]; simp)
          rw [e1] at this
          omega
    by_cases h0 : (dec (c :: t)).1 = 0
    · exfalso
      rw [h0] at h
      exact big 65533 (by decide) (by decide) _ h
    · have h3 : textOne (dec (c :: t)).1 0 = Lib.encodeRune (dec (c :: t)).1 := by
        unfold textOne
        rw [if_neg (by omega), if_neg (by omega), if_neg (by omega)]
      rw [h3] at h
      by_cases h128 : (dec (c :: t)).1 < 128
      · have hd := dec_small c t h128
        have hc : c.toNat < 128 := by omega
        rw [dec_ascii c t hc] at h
        simp only at h
        rw [enc1 _ hc] at h
        have h4 : c = b ∧ textL t = r := by
          have h5 : [c.toNat.toUInt8] ++ textL t = b :: r := h
          rw [List.singleton_append] at h5
          injection h5 with h6 h7
          exact ⟨by rw [← h6]; simp, h7⟩
        exact ⟨t, by rw [h4.1], h4.2⟩
      · exact (big _ hv (by omega) _ h).elim
theorem noLC_tail {b : UInt8} {x : Txt} (h : NoLC (b :: x)) : NoLC x := fun y hy => h y (by simp [hy])
theorem textL_divE {x : Txt} (hx : NoLC x) (h : divE.isPrefixOf (textL x) = true) : divE.isPrefixOf x = true := by
  have e := prefix_of h
  obtain ⟨x1, rfl, e1⟩ := textL_first hx (b := 58) (by decide) e
  obtain ⟨x2, rfl, e2⟩ := textL_first (noLC_tail hx) (b := 58) (by decide) e1
  obtain ⟨x3, rfl, e3⟩ := textL_first (noLC_tail (noLC_tail hx)) (b := 58) (by decide) e2
  simp [divE]
theorem noDiv {x : Txt} (h : divE.isPrefixOf x = false) : opensL x = none ∧ closesL x = false := by
  constructor
  · cases ho : opensL x with
    | none => rfl
    | some lab =>
      obtain ⟨_, k, e⟩ := opens_some ho
      rw [e] at h
      simp [divLine, divB, divE] at h
  · cases hc : closesL x with
    | false => rfl
    | true =>
      obtain ⟨k, e⟩ := closes_some hc
      rw [e] at h
      simp [divE] at h

/-! ### What the lines become -/
def divLow : Txt := divLine nLow
def DR (o : Bool) : Prt := ⟨0, true, nRight, o, []⟩
/-- In the division: its part lies first, all others are deeper; nobody but it has the number 0. -/
def InD (st : List Prt × List Nat) (n : Nat) : Prop :=
  ∃ cs op, st = (DR true :: cs, 0 :: op) ∧ (∀ c ∈ cs, 1 ≤ c.depth) ∧ (∀ i ∈ op, i ≠ 0) ∧ op.length = n
theorem ind_start : InD (stepP ([], []) (divLine nRight)) 0 := by
  have h : opensL (divLine nRight) = some nRight := opens_divLine _ (by decide)
  refine ⟨[], [], ?_, by simp, by simp, rfl⟩
  unfold stepP
  rw [h]
  rfl
theorem addLn_in {cs : List Prt} (d : Nat) (s : Txt) (hd : 1 ≤ d) (h : ∀ c ∈ cs, 1 ≤ c.depth) : ∃ cs', addLn (DR true :: cs) d s = DR true :: cs' ∧ ∀ c ∈ cs', 1 ≤ c.depth := by
  have hn : ∀ c ∈ cs ++ [⟨(d : Int), false, [], false, [s]⟩], 1 ≤ c.depth := by
    intro c hc
    rw [List.mem_append, List.mem_singleton] at hc
    rcases hc with hc | rfl
    · exact h c hc
    · show (1 : Int) ≤ (d : Int); omega
  rcases List.eq_nil_or_concat cs with rfl | ⟨cs, q, rfl⟩
  · exact ⟨[⟨(d : Int), false, [], false, [s]⟩], addLn_new d s rfl (Or.inl rfl), hn⟩
  · rw [List.concat_eq_append] at *
    by_cases hq : q.dv = true ∨ q.depth ≠ d
    · exact ⟨_, addLn_new (ps := DR true :: (cs ++ [q])) d s (List.getLast?_concat (l := DR true :: cs)) hq, hn⟩
    · have h1 : q.dv = false := by simpa using fun e => hq (Or.inl e)
      have h2 : q.depth = d := Classical.byContradiction fun e => hq (Or.inr e)
      refine ⟨cs ++ [{ q with ls := q.ls ++ [s] }], ?_, ?_⟩
      · have := addLn_same (ps := DR true :: cs) (p := q) d s h1 h2
        simpa using this
      · intro c hc
        rw [List.mem_append, List.mem_singleton] at hc
        rcases hc with hc | rfl
        · exact h c (by simp [hc])
        · show 1 ≤ q.depth; exact h q (by simp)
theorem ind_line {st : List Prt × List Nat} {n : Nat} (h : InD st n) (s : Txt) (h1 : opensL s = none) (h2 : closesL s = false) : InD (stepP st s) n := by
  obtain ⟨cs, op, rfl, hc, ho, hl⟩ := h
  obtain ⟨cs', e, hc'⟩ := addLn_in (0 :: op).length s (by simp) hc
  refine ⟨cs', op, ?_, hc', ho, hl⟩
  unfold stepP
  rw [h1]
  dsimp only
  rw [if_neg (by rw [h2]; rintro ⟨_, e⟩; cases e), e]
theorem ind_open {st : List Prt × List Nat} {n : Nat} (h : InD st n) : InD (stepP st divLow) (n + 1) := by
  obtain ⟨cs, op, rfl, hc, ho, hl⟩ := h
  have e : opensL divLow = some nLow := opens_divLine _ (by decide)
  refine ⟨cs ++ [⟨(0 :: op).length, true, nLow, true, []⟩], op ++ [(DR true :: cs).length], ?_, ?_, ?_, by simp [hl]⟩
  · unfold stepP; rw [e]; rfl
  · intro c hcm
    rw [List.mem_append, List.mem_singleton] at hcm
    rcases hcm with hcm | rfl
    · exact hc c hcm
    · show (1 : Int) ≤ ((0 :: op).length : Int); simp; omega
  · intro i hi
    rw [List.mem_append, List.mem_singleton] at hi
    rcases hi with hi | rfl
    · exact ho i hi
    · simp
theorem shut_in {cs : List Prt} {i : Nat} (hi : i ≠ 0) (h : ∀ c ∈ cs, 1 ≤ c.depth) : ∃ cs', shut (DR true :: cs) i = DR true :: cs' ∧ ∀ c ∈ cs', 1 ≤ c.depth := by
  obtain ⟨i, rfl⟩ := Nat.exists_eq_succ_of_ne_zero hi
  refine ⟨cs.modify i fun p => { p with opn := false }, rfl, ?_⟩
  intro c hc
  obtain ⟨j, hj, rfl⟩ := List.getElem_of_mem hc
  rw [List.getElem_modify]
  rw [List.length_modify] at hj
  split
  · exact h cs[j] (List.getElem_mem _)
  · exact h cs[j] (List.getElem_mem _)
theorem ind_shut {st : List Prt × List Nat} {n : Nat} (h : InD st (n + 1)) : InD (stepP st divE) n := by
  obtain ⟨cs, op, rfl, hc, ho, hl⟩ := h
  rcases List.eq_nil_or_concat op with rfl | ⟨op, i, rfl⟩
  · cases hl
  rw [List.concat_eq_append] at *
  obtain ⟨cs', e, hc'⟩ := shut_in (ho i (by simp)) hc
  refine ⟨cs', op, ?_, hc', fun j hj => ho j (by simp [hj]), by simp at hl; omega⟩
  unfold stepP
  rw [opens_divE]
  dsimp only
  rw [if_pos ⟨by simp, closes_divE⟩]
  have e1 : (0 :: (op ++ [i])).getLast?.getD 0 = i := by rw [← List.cons_append, List.getLast?_append]; rfl
  have e2 : (0 :: (op ++ [i])).dropLast = 0 :: op := by rw [← List.cons_append, List.dropLast_concat]
  rw [e1, e2, e]
theorem ind_shuts : ∀ (n : Nat) {st : List Prt × List Nat}, InD st n → InD (parseF st (ends n)) 0
  | 0, _, h => h
  | n + 1, st, h => ind_shuts n (st := stepP st divE) (ind_shut h)
theorem ind_out {st : List Prt × List Nat} (h : InD st 0) : ∃ cs, stepP st divE = (DR false :: cs, []) ∧ ∀ c ∈ cs, 1 ≤ c.depth := by
  obtain ⟨cs, op, rfl, hc, ho, hl⟩ := h
  obtain rfl := List.eq_nil_of_length_eq_zero hl
  refine ⟨cs, ?_, hc⟩
  unfold stepP
  rw [opens_divE]
  dsimp only
  rw [if_pos ⟨by simp, closes_divE⟩]
  rfl
/-- A line within: what the law makes of it. -/
def Within (y : Txt) : Prop := NoLC y ∧ (divE.isPrefixOf y = true → y = divLow)
theorem text_low : textL divLow = divLow := by decide +kernel
theorem ind_lines : ∀ (Y : List Txt) (n : Nat) {st : List Prt × List Nat}, (∀ y ∈ Y, Within y) → InD st n → InD (parseF st (Y.map textL)) (n + Y.countP (· == divLow))
  | [], n, _, _, h => h
  | y :: Y, n, st, hY, h => by
    have hy := hY y (by simp)
    show InD (parseF (stepP st (textL y)) (Y.map textL)) _
    by_cases hp : divE.isPrefixOf y = true
    · have e := hy.2 hp
      have h2 := ind_lines Y (n + 1) (st := stepP st divLow) (fun z hz => hY z (by simp [hz])) (ind_open h)
      rw [e, text_low, List.countP_cons_of_pos (by simp)]
      rw [show n + (Y.countP (· == divLow) + 1) = n + 1 + Y.countP (· == divLow) from by omega]
      exact h2
    · have hf : divE.isPrefixOf (textL y) = false := by
        cases hq : divE.isPrefixOf (textL y) with
        | false => rfl
        | true => exact absurd (textL_divE hy.1 hq) hp
      obtain ⟨h3, h4⟩ := noDiv hf
      rw [List.countP_cons_of_neg (by rintro e; rw [beq_iff_eq] at e; rw [e] at hp; exact hp (by decide))]
      exact ind_lines Y n (fun z hz => hY z (by simp [hz])) (ind_line h _ h3 h4)
theorem hide_deep (p : Sv) : ∀ (cs T : List Prt), (∀ c ∈ cs, 1 ≤ c.depth) → hideF p (some 0) (cs ++ T) = hideF p (some 0) T
  | [], _, _ => rfl
  | c :: cs, T, h => by
    show (if hidB (some 0) c.depth then hideF p (some 0) (cs ++ T) else _) = _
    rw [if_pos (by have := h c (by simp); simp [hidB]; omega)]
    exact hide_deep p cs T fun d hd => h d (by simp [hd])
theorem sv_right1 : svD 1 nRight = false := by decide +kernel
/-- What the law's document is, before it is made text. -/
def divsDoc (Y : List Txt) (t : Txt) : Txt := joinL (divLine nRight :: Y ++ ends (Y.countP (· == divLow)) ++ [divE]) ++ t
def endL (t : Txt) : Txt := if t = [] then [] else t ++ [10]
theorem split_join_more : ∀ (ls : List Txt) (m : Txt), (∀ l ∈ ls, ∀ b ∈ l, b ≠ 10) → splitFrom [] (joinL ls ++ m) = ls ++ splitFrom [] m
  | [], _, _ => rfl
  | l :: ls, m, h => by
    show splitFrom [] ((l ++ 10 :: joinL ls) ++ m) = _
    rw [List.append_assoc, List.cons_append, splitFrom_more l [] _ (h l (by simp)), splitFrom_lf, split_join_more ls m fun x hx => h x (by simp [hx])]
    rfl
theorem textL_lf (x : Txt) (h : NoLC x) : ∀ b ∈ textL x, b ≠ 10 := by
  exact textS_no10 (segs x) 0 fun c hc => ⟨segs_valid _ x (Nat.le_refl _) c hc, runes_no x h c hc⟩
theorem divs_veil (Y : List Txt) (t : Txt) (hY : ∀ y ∈ Y, Within y) (ht : ∀ b ∈ t, 97 ≤ b.toNat ∧ b.toNat ≤ 122) :
    veilL (svD 1) (divsDoc Y t) = joinL [divLine nRight, divE] ++ endL t := by
  have hn : ∀ y ∈ divLine nRight :: Y ++ ends (Y.countP (· == divLow)) ++ [divE], NoLC y := by
    intro y hy
    simp only [List.mem_append, List.mem_cons, List.not_mem_nil, or_false] at hy
    rcases hy with ((rfl | hy) | hy) | rfl
    · unfold NoLC; decide +kernel
    · exact (hY y hy).1
    · obtain rfl := List.eq_of_mem_replicate hy; unfold NoLC; decide +kernel
    · unfold NoLC; decide +kernel
  have htx : textL t = t := (good_all fun b hb => by
    obtain ⟨h1, h2⟩ := ht b hb
    refine ⟨by omega, ?_, ?_⟩
    · rintro rfl; exact absurd h1 (by decide)
    · rintro rfl; exact absurd h1 (by decide)).text
  have h10 : ∀ b ∈ t, b ≠ 10 := by
    intro b hb e; subst e; exact absurd (ht _ hb).1 (by decide)
  have hends : ∀ n, (ends n).map textL = ends n := by
    intro n; unfold ends; rw [List.map_replicate, show textL divE = divE from by decide +kernel]
  have hS : splitL (textL (divsDoc Y t)) = (divLine nRight :: Y.map textL ++ ends (Y.countP (· == divLow)) ++ [divE]) ++ splitL t := by
    unfold divsDoc splitL
    rw [textL_lines _ _ hn, split_join_more _ _ (by
      intro l hl
      obtain ⟨x, hx, rfl⟩ := List.mem_map.1 hl
      exact textL_lf x (hn x hx)), htx]
    rw [List.map_append, List.map_append, List.map_cons, hends, show textL (divLine nRight) = divLine nRight from by decide +kernel, show [divE].map textL = [divE] from by decide +kernel]
  have hP : ∃ cs, parseF ([], []) (divLine nRight :: Y.map textL ++ ends (Y.countP (· == divLow)) ++ [divE]) = (DR false :: cs, []) ∧ ∀ c ∈ cs, 1 ≤ c.depth := by
    rw [parseF_append, parseF_append, parseF_one]
    have h1 := ind_lines Y 0 hY ind_start
    rw [Nat.zero_add] at h1
    exact ind_out (ind_shuts _ h1)
  obtain ⟨cs, e, hc⟩ := hP
  have hT : splitL t = if t = [] then [] else [t] := by
    have := splitFrom_more t [] [] h10
    unfold splitL
    rw [List.append_nil] at this
    rw [this, List.nil_append]
    rfl
  have hrun : t ≠ [] → stepP (DR false :: cs, []) t = (DR false :: cs ++ [⟨0, false, [], false, [t]⟩], []) := by
    intro h0
    have hp : divE.isPrefixOf t = false := by
      cases hq : divE.isPrefixOf t with
      | false => rfl
      | true =>
        have := prefix_of hq
        have h3 : (58 : UInt8) ∈ t := by rw [this]; simp [divE]
        exact absurd (ht _ h3).1 (by decide)
    unfold stepP
    rw [(noDiv hp).1]
    dsimp only
    rw [if_neg (by rintro ⟨e, _⟩; exact e rfl)]
    have hl : ∃ q, (DR false :: cs).getLast? = some q ∧ (q.dv = true ∨ q.depth ≠ 0) := by
      rcases List.eq_nil_or_concat cs with rfl | ⟨cs, q, rfl⟩
      · exact ⟨_, rfl, Or.inl rfl⟩
      · rw [List.concat_eq_append] at *
        refine ⟨q, List.getLast?_concat (l := DR false :: cs), Or.inr ?_⟩
        have := hc q (by simp)
        omega
    obtain ⟨q, h1, h2⟩ := hl
    rw [show ([] : List Nat).length = 0 from rfl, addLn_new 0 t h1 h2]
    rfl
  have hline : lineL (svD 1) t = t := ok_line _ t (okL_iff t |>.2 fun m hm h => by
    have := (ht t[m] (List.getElem_mem _)).2
    rw [h.1] at this
    exact absurd this (by decide))
  have hnx : nextH (svD 1) (DR false) = some 0 := by
    unfold nextH DR
    rw [sv_right1]; rfl
  unfold veilL veilLs parseL
  rw [hS, parseF_append, e, hT]
  unfold hideP endL
  by_cases h0 : t = []
  · rw [if_pos h0, if_pos h0]
    have h1 : hideF (svD 1) none (parseF (DR false :: cs, []) []).1 = [linesL (svD 1) (DR false)] := by
      show linesL (svD 1) (DR false) :: hideF (svD 1) (nextH (svD 1) (DR false)) cs = _
      rw [hnx]
      have := hide_deep (svD 1) cs [] hc
      rw [List.append_nil] at this
      rw [this]
      rfl
    rw [h1]
    decide +kernel
  · rw [if_neg h0, if_neg h0, parseF_one, hrun h0]
    have h1 : hideF (svD 1) none (DR false :: cs ++ [⟨0, false, [], false, [t]⟩]) = [linesL (svD 1) (DR false), ⟨0, false, [], false, [t]⟩] := by
      show linesL (svD 1) (DR false) :: hideF (svD 1) (nextH (svD 1) (DR false)) (cs ++ [⟨0, false, [], false, [t]⟩]) = _
      rw [hnx, hide_deep _ _ _ hc]
      show [linesL (svD 1) (DR false), linesL (svD 1) ⟨0, false, [], false, [t]⟩] = _
      unfold linesL
      rw [List.map_singleton, hline]
    rw [h1]
    show joinL ([divLine nRight, divE] ++ [t]) = _
    rw [joinL_append]
    rfl
end Go.Proofs.YtneiheifjgffaaaGreatDoor
