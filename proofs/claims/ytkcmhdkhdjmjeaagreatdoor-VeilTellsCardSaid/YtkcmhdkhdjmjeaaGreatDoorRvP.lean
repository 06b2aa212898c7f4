/-
  Plain facts of the document's own frames (bowdlerref1): what opens a division, spans, labelled headings, asked byte by byte.
-/
import Derived.Test.YtkcmhdkhdjmjeaaGreatDoorPla
namespace Go.Proofs.YtkcmhdkhdjmjeaaGreatDoor
set_option linter.unusedSimpArgs false
set_option linter.unusedVariables false

/-! ### The document's own divisions -/
theorem trimR_divLine {lab : Txt} (k : Nat) : trimR (divLine lab ++ List.replicate k 32) = divLine lab := by
  rw [trimR_rep]
  unfold divLine
  exact trimR_snoc _ _ (by decide)
theorem opens_blanks {lab : Txt} (k : Nat) (h : isLab lab = true) : opensL (divLine lab ++ List.replicate k 32) = some lab := by
  have h0 := opens_divLine lab h
  have e : divLine lab = divB ++ (lab ++ [125]) := by simp [divLine]
  unfold opensL at h0 ⊢
  have p1 : divB.isPrefixOf (divLine lab ++ List.replicate k 32) = true := by
    rw [List.isPrefixOf_iff_prefix, e, List.append_assoc]; exact ⟨_, rfl⟩
  have p2 : divB.isPrefixOf (divLine lab) = true := by
    rw [List.isPrefixOf_iff_prefix, e]; exact ⟨_, rfl⟩
  rw [if_pos p2] at h0
  rw [if_pos p1]
  have d1 : (divLine lab ++ List.replicate k 32).drop 4 = (lab ++ [125]) ++ List.replicate k 32 := by rw [e]; rfl
  have d2 : (divLine lab).drop 4 = lab ++ [125] := by rw [e]; rfl
  rw [d1]
  rw [d2] at h0
  unfold lastLab at h0 ⊢
  rw [trimR_rep]
  exact h0
/-- What opens a division, asked of the line without the blanks at its end. -/
def dopenL (t : Txt) : Option Txt := if 6 ≤ t.length ∧ t.take 4 = divB ∧ t.getLast? = some 125 ∧ isLab ((t.drop 4).dropLast) = true then some ((t.drop 4).dropLast) else none
theorem dopen_eq (l : Txt) : dopenL (trimR l) = opensL l := by
  cases h : opensL l with
  | some lab =>
    obtain ⟨h1, k, rfl⟩ := opens_some h
    rw [trimR_divLine]
    have hl : 1 ≤ lab.length := by
      unfold isLab labOk at h1
      simp at h1
      omega
    have e : divLine lab = divB ++ (lab ++ [125]) := by simp [divLine]
    have d2 : ((divLine lab).drop 4).dropLast = lab := by rw [e]; show (lab ++ [125]).dropLast = lab; simp
    unfold dopenL
    rw [d2, if_pos ⟨by rw [e]; simp [divB]; omega, by rw [e]; rfl, by unfold divLine; simp, h1⟩]
  | none =>
    unfold dopenL
    rw [if_neg]
    rintro ⟨h1, h2, h3, h4⟩
    obtain ⟨k, hk⟩ := trimR_more l
    have e : trimR l = divLine ((trimR l).drop 4).dropLast := by
      generalize trimR l = t at *
      have e1 := List.take_append_drop 4 t
      rw [h2] at e1
      have e2 : t.drop 4 ≠ [] := by
        intro e
        have := congrArg List.length e
        rw [List.length_drop, List.length_nil] at this
        omega
      have e3 := List.dropLast_concat_getLast e2
      have e4 : (t.drop 4).getLast e2 = 125 := by
        rw [← e1, List.getLast?_append, List.getLast?_eq_some_getLast e2] at h3
        simpa using h3
      rw [e4] at e3
      unfold divLine
      rw [List.append_assoc, e3, e1]
    rw [e] at hk
    rw [hk, opens_blanks k h4] at h
    cases h
/-! ### The document's own spans -/
/-- Where a span's label ends: the first colon. -/
def colonL (l : Txt) : Nat := (l.takeWhile (· != 58)).length
/-- The end of a span, asked byte by byte. -/
theorem span_no {l : Txt} (h : spB.isPrefixOf l = false) : spanAtL l = none := by
  unfold spanAtL; rw [h]; rfl
theorem lab_noColon {lab : Txt} (h : isLab lab = true) : ∀ b ∈ lab, b ≠ 58 := by
  intro b hb e
  unfold isLab at h
  rw [Bool.and_eq_true, List.all_eq_true] at h
  have := h.1 b hb
  rw [e] at this
  exact absurd this (by decide)
theorem lab_noBrace {lab : Txt} (h : isLab lab = true) : ∀ b ∈ lab, b ≠ 123 := by
  intro b hb e
  unfold isLab at h
  rw [Bool.and_eq_true, List.all_eq_true] at h
  have := h.1 b hb
  rw [e] at this
  exact absurd this (by decide)
theorem colon_at {x r : Txt} (h : ∀ b ∈ x, b ≠ 58) : colonL (x ++ 58 :: r) = x.length := by
  unfold colonL
  rw [List.takeWhile_append_of_pos (by intro b hb; simpa using h b hb), List.takeWhile_cons]
  simp
/-- No colon, or no label ahead of the first one: no span. -/
theorem span_noColon {x : Txt} (h : ∀ b ∈ x, b ≠ 58) : spanAtL (spB ++ x) = none := by
  cases hs : spanAtL (spB ++ x) with
  | none => rfl
  | some p =>
    obtain ⟨lab, txt⟩ := p
    obtain ⟨_, r, rest, e, _⟩ := spanAt_iff.1 hs
    have e2 : x = lab ++ 58 :: r := by simpa [spB] using e
    exact absurd rfl (h 58 (by rw [e2]; simp))
theorem span_first {x r lab txt : Txt} (h : ∀ b ∈ x, b ≠ 58) (hs : spanAtL (spB ++ (x ++ 58 :: r)) = some (lab, txt)) : isLab x = true ∧ lab = x ∧ ∃ rest, cutE r = some (txt, rest) := by
  obtain ⟨h1, r2, rest, e, hc⟩ := spanAt_iff.1 hs
  have e2 : x ++ 58 :: r = lab ++ 58 :: r2 := by simpa [spB] using e
  have hl := colon_at (r := r) h
  rw [e2, colon_at (lab_noColon h1)] at hl
  obtain ⟨e3, e4⟩ := List.append_inj e2 hl.symm
  injection e4 with _ e5
  subst e3 e5
  exact ⟨h1, rfl, rest, hc⟩
theorem span_noLab {x r : Txt} (h : ∀ b ∈ x, b ≠ 58) (hl : isLab x = false) : spanAtL (spB ++ (x ++ 58 :: r)) = none := by
  cases hs : spanAtL (spB ++ (x ++ 58 :: r)) with
  | none => rfl
  | some p =>
    obtain ⟨lab, txt⟩ := p
    have := (span_first h hs).1
    rw [hl] at this
    cases this
theorem span_cut {x r : Txt} (h : ∀ b ∈ x, b ≠ 58) (hl : isLab x = true) : spanAtL (spB ++ (x ++ 58 :: r)) = (cutE r).map fun c => (x, c.1) := by
  cases hc : cutE r with
  | some c =>
    obtain ⟨txt, rest⟩ := c
    exact spanAt_iff.2 ⟨hl, r, rest, rfl, hc⟩
  | none =>
    cases hs : spanAtL (spB ++ (x ++ 58 :: r)) with
    | none => rfl
    | some p =>
      obtain ⟨lab, txt⟩ := p
      obtain ⟨_, _, rest, hc2⟩ := span_first h hs
      rw [hc] at hc2
      cases hc2
/-- Two bytes stand here. -/
def endAt (r : Txt) (j : Nat) : Bool := decide (r[j]? = some 124) && decide (r[j + 1]? = some 125)
theorem cutE_go : ∀ (r : Txt) (j : Nat), (∀ i, i < j → endAt r i = false) → cutE r = (cutE (r.drop j)).map fun c => (r.take j ++ c.1, c.2)
  | r, 0, _ => by rw [List.drop_zero]; cases cutE r <;> simp
  | [], j + 1, _ => by simp [cutE]
  | b :: t, j + 1, h => by
    have h0 := h 0 (by omega)
    have hn : ¬ (b = 124 ∧ t.head? = some 125) := by
      rintro ⟨rfl, h2⟩
      unfold endAt at h0
      rw [show ((124 : UInt8) :: t)[0 + 1]? = t.head? from by cases t <;> rfl, h2] at h0
      simp at h0
    have ih := cutE_go t j (fun i hi => by
      have := h (i + 1) (by omega)
      unfold endAt at this ⊢
      exact this)
    rw [cutE, if_neg hn, ih, List.drop_succ_cons]
    cases cutE (t.drop j) <;> simp
theorem cutE_at {r : Txt} {j : Nat} (h : ∀ i, i < j → endAt r i = false) (hj : endAt r j = true) : cutE r = some (r.take j, r.drop (j + 2)) := by
  rw [cutE_go r j h]
  unfold endAt at hj
  rw [Bool.and_eq_true, decide_eq_true_eq, decide_eq_true_eq] at hj
  obtain ⟨h1, h2⟩ := hj
  obtain ⟨hl, e1⟩ := List.getElem?_eq_some_iff.1 h1
  obtain ⟨hl2, e2⟩ := List.getElem?_eq_some_iff.1 h2
  rw [List.drop_eq_getElem_cons hl, e1, List.drop_eq_getElem_cons hl2, e2]
  simp [cutE]
theorem cutE_never {r : Txt} (h : ∀ i, i + 1 < r.length → endAt r i = false) : cutE r = none := by
  have h2 : ∀ i, i < r.length → endAt r i = false := by
    intro i hi
    by_cases h3 : i + 1 < r.length
    · exact h i h3
    · unfold endAt
      rw [List.getElem?_eq_none (show r.length ≤ i + 1 from by omega)]
      simp
  rw [cutE_go r r.length h2, List.drop_length]
  rfl
/-! ### The document's own headings -/
def cntL (c : UInt8) (l : Txt) : Nat := (l.takeWhile (· == c)).length
theorem cnt_rep (c : UInt8) (n : Nat) (l : Txt) : cntL c (List.replicate n c ++ l) = n + cntL c l := by
  induction n with
  | zero => simp
  | succ n ih =>
    rw [List.replicate_succ, List.cons_append]
    have : cntL c (c :: (List.replicate n c ++ l)) = cntL c (List.replicate n c ++ l) + 1 := by simp [cntL]
    rw [this, ih]; omega
theorem cnt_ne {c b : UInt8} {l : Txt} (h : b ≠ c) : cntL c (b :: l) = 0 := by
  have : (b == c) = false := by simpa using h
  simp [cntL, List.takeWhile_cons, this]
theorem cntL_le (c : UInt8) (l : Txt) : cntL c l ≤ l.length := (List.takeWhile_prefix _).length_le
theorem cnt_split (c : UInt8) (l : Txt) : l = List.replicate (cntL c l) c ++ l.drop (cntL c l) := by
  have h1 : l.takeWhile (· == c) = l.take (cntL c l) := List.prefix_iff_eq_take.1 (List.takeWhile_prefix (· == c))
  have h2 : l.takeWhile (· == c) = List.replicate (cntL c l) c := by
    apply List.eq_replicate_iff.2
    refine ⟨rfl, fun b hb => ?_⟩
    have := takeW_mem hb
    simpa using this
  have h3 := List.take_append_drop (cntL c l) l
  rw [← h1, h2] at h3
  exact h3.symm
/-- What a labelled heading's text begins with. -/
theorem begF_inv : ∀ (l : Txt) (bl sg : Nat), begF bl sg l = true → ∃ i j r, l = List.replicate i 32 ++ (List.replicate j 35 ++ 32 :: r) ∧ bl + i ≤ 3 ∧ 0 < sg + j ∧ sg + j ≤ 6 ∧ (0 < sg → i = 0)
  | [], _, _, h => by simp [begF] at h
  | b :: l, bl, sg, h => by
    unfold begF at h
    by_cases h32 : b = 32
    · subst h32
      rw [if_pos rfl] at h
      by_cases h0 : 0 < sg
      · rw [if_pos h0] at h
        simp at h
        exact ⟨0, 0, l, rfl, by omega, by omega, by omega, fun _ => rfl⟩
      · rw [if_neg h0] at h
        obtain ⟨i, j, r, rfl, h1, h2, h3, h4⟩ := begF_inv l (bl + 1) sg h
        exact ⟨i + 1, j, r, by rw [List.replicate_succ]; rfl, by omega, h2, h3, fun h => absurd h h0⟩
    · rw [if_neg h32] at h
      by_cases h35 : b = 35
      · subst h35
        rw [if_pos rfl] at h
        obtain ⟨i, j, r, rfl, h1, h2, h3, h4⟩ := begF_inv l bl (sg + 1) h
        obtain rfl := h4 (by omega)
        exact ⟨0, j + 1, r, by simp [List.replicate_succ], by omega, by omega, by omega, fun _ => rfl⟩
      · rw [if_neg h35] at h; cases h
/-- What a line must be to be a labelled heading; all that is asked of it. -/
theorem heading_shape {s t0 lab : Txt} (h : headingL s = some (t0, lab)) : ∃ i j r, t0 = List.replicate i 32 ++ (List.replicate j 35 ++ 32 :: r) ∧ i ≤ 3 ∧ 1 ≤ j ∧ j ≤ 6 ∧ isLab lab = true ∧ trimR s = t0 ++ (headB ++ (lab ++ [125])) := by
  obtain ⟨h1, h2, k, rfl⟩ := heading_iff.1 h
  obtain ⟨i, j, r, rfl, a1, a2, a3, _⟩ := begF_inv t0 0 0 h1
  refine ⟨i, j, r, rfl, by omega, by omega, by omega, h2, ?_⟩
  rw [show (List.replicate i 32 ++ (List.replicate j 35 ++ 32 :: r)) ++ labTail lab k = ((List.replicate i 32 ++ (List.replicate j 35 ++ 32 :: r)) ++ (headB ++ lab) ++ [125]) ++ List.replicate k 32 from by simp [labTail], trimR_rep, trimR_snoc _ _ (by decide)]
  simp
/-- The signs that a labelled heading begins with: blanks, and what stands behind them. -/
def bI (t : Txt) : Nat := cntL 32 t
def bN (t : Txt) : Nat := bI t + cntL 35 (t.drop (bI t))
theorem bI_le (t : Txt) : bI t ≤ t.length := cntL_le 32 t
theorem bN_le (t : Txt) : bN t ≤ t.length := by
  have h1 := bI_le t
  have h2 := cntL_le 35 (t.drop (bI t))
  rw [List.length_drop] at h2
  unfold bN
  omega
theorem b_made {i j : Nat} {r : Txt} (hj : 1 ≤ j) : bI (List.replicate i 32 ++ (List.replicate j 35 ++ 32 :: r)) = i ∧ bN (List.replicate i 32 ++ (List.replicate j 35 ++ 32 :: r)) = i + j ∧ (List.replicate i 32 ++ (List.replicate j 35 ++ 32 :: r))[i + j]? = some 32 := by
  have h1 : bI (List.replicate i 32 ++ (List.replicate j 35 ++ 32 :: r)) = i := by
    unfold bI
    rw [cnt_rep]
    obtain ⟨m, rfl⟩ : ∃ m, j = m + 1 := ⟨j - 1, by omega⟩
    rw [List.replicate_succ, List.cons_append, cnt_ne (by decide)]
    omega
  refine ⟨h1, ?_, ?_⟩
  · unfold bN
    rw [h1]
    have := List.drop_left (l₁ := List.replicate i (32 : UInt8)) (l₂ := List.replicate j 35 ++ 32 :: r)
    rw [List.length_replicate] at this
    rw [this, cnt_rep, cnt_ne (by decide)]
    omega
  · rw [List.getElem?_append_right (by simp), List.length_replicate, show i + j - i = j from by omega, List.getElem?_append_right (by simp), List.length_replicate, Nat.sub_self]
    rfl
/-- The last brace behind the signs. -/
structure LastBr (t : Txt) (n k : Nat) : Prop where
  ge : n ≤ k
  none : ∀ j, k < j → j + 2 ≤ t.length → t[j]? ≠ some 123
theorem last_brace {t0 lab : Txt} {n k : Nat} (hl : isLab lab = true) (hn : n < t0.length) (h : LastBr (t0 ++ (headB ++ (lab ++ [125]))) n k) (hk : k + 2 ≤ (t0 ++ (headB ++ (lab ++ [125]))).length) (hat : k = n ∨ (t0 ++ (headB ++ (lab ++ [125])))[k]? = some 123) : k = t0.length := by
  have hb : (t0 ++ (headB ++ (lab ++ [125])))[t0.length]? = some 123 := by
    rw [List.getElem?_append_right (Nat.le_refl _), Nat.sub_self]; rfl
  have h1 : t0.length ≤ k := by
    rcases Nat.lt_or_ge k t0.length with h2 | h2
    · exact absurd hb (h.none t0.length h2 (by simp [headB]))
    · exact h2
  rcases hat with rfl | hat
  · omega
  · rcases Nat.lt_or_ge t0.length k with h2 | h2
    · exfalso
      rw [List.getElem?_append_right (by omega)] at hat
      obtain ⟨m, hm⟩ : ∃ m, k - t0.length = m + 1 := ⟨k - t0.length - 1, by omega⟩
      rw [hm] at hat
      rw [List.length_append] at hk
      have hk2 : (headB ++ (lab ++ [125])).length = lab.length + 3 := by simp [headB]
      match m, hat with
      | 0, hat => simp [headB] at hat
      | m + 1, hat =>
        have e : (headB ++ (lab ++ [125]))[m + 1 + 1]? = (lab ++ [125])[m]? := rfl
        rw [e, List.getElem?_append_left (by omega)] at hat
        exact lab_noBrace hl 123 (List.mem_of_getElem? hat) rfl
    · omega
/-- A labelled heading, as it is found. -/
theorem heading_found {s : Txt} {k : Nat} (hI : bI (trimR s) ≤ 3) (hN : bI (trimR s) < bN (trimR s)) (h6 : bN (trimR s) - bI (trimR s) ≤ 6) (h32 : (trimR s)[bN (trimR s)]? = some 32)
    (hk : bN (trimR s) < k) (h123 : (trimR s)[k]? = some 123) (h61 : (trimR s)[k + 1]? = some 61) (hlast : (trimR s).getLast? = some 125) (hlab : isLab (((trimR s).drop (k + 2)).dropLast) = true) :
    headingL s = some ((trimR s).take k, ((trimR s).drop (k + 2)).dropLast) ∧ hdSign ((trimR s).take k) = s.take (bN (trimR s)) ++ [32] := by
  obtain ⟨m, hm⟩ := trimR_more s
  generalize trimR s = t at *
  obtain ⟨hkl, e123⟩ := List.getElem?_eq_some_iff.1 h123
  obtain ⟨hkl2, e61⟩ := List.getElem?_eq_some_iff.1 h61
  obtain ⟨hnl, e32⟩ := List.getElem?_eq_some_iff.1 h32
  have c1 := cnt_split 32 t
  have c2 := cnt_split 35 (t.drop (bI t))
  have e3 : t.drop (bN t) = 32 :: t.drop (bN t + 1) := by rw [List.drop_eq_getElem_cons hnl, e32]
  have et : t = List.replicate (bI t) 32 ++ (List.replicate (bN t - bI t) 35 ++ 32 :: t.drop (bN t + 1)) := by
    rw [← e3]
    have e4 : bN t - bI t = cntL 35 (t.drop (bI t)) := by unfold bN; omega
    rw [e4]
    have e5 : t.drop (bN t) = (t.drop (bI t)).drop (cntL 35 (t.drop (bI t))) := by rw [List.drop_drop]; rfl
    rw [e5, ← c2]
    exact c1
  have htk : t.take k = List.replicate (bI t) 32 ++ (List.replicate (bN t - bI t) 35 ++ 32 :: (t.drop (bN t + 1)).take (k - (bN t + 1))) := by
    have hlen : (List.replicate (bI t) (32 : UInt8) ++ (List.replicate (bN t - bI t) 35 ++ [32])).length = bN t + 1 := by simp; omega
    have e6 : t = (List.replicate (bI t) 32 ++ (List.replicate (bN t - bI t) 35 ++ [32])) ++ t.drop (bN t + 1) := by
      rw [List.append_assoc, List.append_assoc]; exact et
    calc t.take k = ((List.replicate (bI t) 32 ++ (List.replicate (bN t - bI t) 35 ++ [32])) ++ t.drop (bN t + 1)).take k := by rw [← e6]
      _ = _ := by
        rw [List.take_append, hlen, List.take_of_length_le (by rw [hlen]; omega)]
        simp
  have hbeg : begF 0 0 (t.take k) = true := by
    rw [htk, begF_heading _ _ _ (by omega)]
    simp; omega
  have hd2 : t.drop k = headB ++ (((t.drop (k + 2)).dropLast) ++ [125]) := by
    have hne : t.drop (k + 2) ≠ [] := by
      intro e
      unfold isLab labOk at hlab
      rw [e] at hlab
      simp at hlab
    have h7 : (t.drop (k + 2)).getLast hne = 125 := by
      rw [← List.take_append_drop (k + 2) t, List.getLast?_append, List.getLast?_eq_some_getLast hne] at hlast
      simpa using hlast
    have h8 := List.dropLast_concat_getLast hne
    rw [h7] at h8
    rw [List.drop_eq_getElem_cons hkl, e123, List.drop_eq_getElem_cons hkl2, e61, h8]
    rfl
  constructor
  · refine heading_iff.2 ⟨hbeg, hlab, m, ?_⟩
    have e9 := List.take_append_drop k t
    rw [hd2] at e9
    unfold labTail
    rw [hm]
    conv => lhs; rw [← e9]
    simp
  · have e10 : s.take (bN t) = List.replicate (bI t) 32 ++ List.replicate (bN t - bI t) 35 := by
      rw [hm, List.take_append_of_le_length (by omega)]
      calc t.take (bN t) = (List.replicate (bI t) 32 ++ (List.replicate (bN t - bI t) 35 ++ 32 :: t.drop (bN t + 1))).take (bN t) := by rw [← et]
        _ = _ := by rw [← List.append_assoc, List.take_append_of_le_length (by simp; omega), List.take_of_length_le (by simp; omega)]
    rw [e10, htk]
    have hs1 : ∀ (i : Nat) (l : Txt), hdSignF false (List.replicate i 32 ++ l) = List.replicate i 32 ++ hdSignF false l := by
      intro i l
      induction i with
      | zero => rfl
      | succ i ih => rw [List.replicate_succ, List.cons_append, hdSignF]; simp [ih]
    have hs2 : ∀ (j : Nat) (b : Bool) (l : Txt), hdSignF b (List.replicate (j + 1) 35 ++ l) = List.replicate (j + 1) 35 ++ hdSignF true l := by
      intro j
      induction j with
      | zero => intro b l; simp [hdSignF]
      | succ j ih => intro b l; rw [List.replicate_succ, List.cons_append, hdSignF, show ((35 : UInt8) == 35) = true from rfl, ih true l]; simp
    unfold hdSign
    rw [hs1]
    obtain ⟨q, hq⟩ : ∃ q, bN t - bI t = q + 1 := ⟨bN t - bI t - 1, by omega⟩
    rw [hq, hs2]
    simp [hdSignF]
/-- What a labelled heading's line must be, ahead of its label. -/
theorem heading_conds {s t0 lab : Txt} (h : headingL s = some (t0, lab)) : bI (trimR s) ≤ 3 ∧ bI (trimR s) < bN (trimR s) ∧ bN (trimR s) ≤ bI (trimR s) + 6 ∧ bN (trimR s) < t0.length ∧ (trimR s)[bN (trimR s)]? = some 32 ∧ (trimR s).getLast? = some 125 ∧ trimR s = t0 ++ (headB ++ (lab ++ [125])) ∧ isLab lab = true := by
  obtain ⟨i, j, r, e0, h1, h2, h3, h4, h5⟩ := heading_shape h
  have e : trimR s = List.replicate i 32 ++ (List.replicate j 35 ++ 32 :: (r ++ (headB ++ (lab ++ [125])))) := by rw [h5, e0]; simp
  obtain ⟨b1, b2, b3⟩ := b_made (i := i) (r := r ++ (headB ++ (lab ++ [125]))) h2
  rw [← e] at b1 b2 b3
  refine ⟨by omega, by omega, by omega, ?_, by rw [b2]; exact b3, ?_, h5, h4⟩
  · rw [b2, e0]; simp
  · rw [h5, show t0 ++ (headB ++ (lab ++ [125])) = (t0 ++ (headB ++ lab)) ++ [125] from by simp]
    simp
theorem heading_conds2 {s t0 lab : Txt} {k : Nat} (h : headingL s = some (t0, lab)) (hb : LastBr (trimR s) (bN (trimR s)) k) (hk : k + 2 ≤ (trimR s).length) (hat : k = bN (trimR s) ∨ (trimR s)[k]? = some 123) :
    k = t0.length ∧ bN (trimR s) < k ∧ (trimR s)[k]? = some 123 ∧ (trimR s)[k + 1]? = some 61 ∧ ((trimR s).drop (k + 2)).dropLast = lab ∧ isLab lab = true := by
  obtain ⟨_, _, _, h4, _, _, h7, h8⟩ := heading_conds h
  have hkt : k = t0.length := by
    generalize hn : bN (trimR s) = n at *
    rw [h7] at hb hk hat
    exact last_brace h8 h4 hb hk hat
  refine ⟨hkt, by omega, ?_, ?_, ?_, h8⟩
  · rw [h7, hkt, List.getElem?_append_right (Nat.le_refl _), Nat.sub_self]; rfl
  · rw [h7, hkt, List.getElem?_append_right (by omega), show t0.length + 1 - t0.length = 1 from by omega]; rfl
  · rw [h7, hkt, show t0 ++ (headB ++ (lab ++ [125])) = (t0 ++ headB) ++ (lab ++ [125]) from by simp]
    have := List.drop_left (l₁ := t0 ++ headB) (l₂ := lab ++ [125])
    rw [List.length_append, show headB.length = 2 from rfl] at this
    rw [this]; simp
theorem cnt_step {c : UInt8} {l : Txt} : cntL c (c :: l) = cntL c l + 1 := by simp [cntL]
theorem cnt_nil (c : UInt8) : cntL c [] = 0 := rfl

end Go.Proofs.YtkcmhdkhdjmjeaaGreatDoor
