/-
  Plain facts of package frame: spans of a line, a line of pieces, labelled headings.
-/
import Derived.Test.YtodnioihadpncaaDoorFrmP
import Derived.Lib.IndexMore
import Derived.Lib.LastIndexLaws
import Derived.Lib.Strings
namespace Go.Proofs.YtodnioihadpncaaDoor
set_option linter.unusedSimpArgs false
set_option linter.unusedVariables false

structure Pc where
  sp : Bool
  lab : Txt
  txt : Txt
deriving DecidableEq, Inhabited

def spB : Txt := [123, 124]
def spE : Txt := [124, 125]
def spanTxt (lab txt : Txt) : Txt := spB ++ lab ++ [58] ++ txt ++ spE
def pcTxt (p : Pc) : Txt := if p.sp then spanTxt p.lab p.txt else p.txt
def unspanL (ps : List Pc) : Txt := ps.flatMap pcTxt
def addT (ps : List Pc) (t : Txt) : List Pc := if t = [] then ps else ps ++ [⟨false, [], t⟩]
theorem addT_app (a b : List Pc) (t : Txt) : addT (a ++ b) t = a ++ addT b t := by unfold addT; split <;> simp

def spanAtL (l : Txt) : Option (Txt × Txt) :=
  if spB.isPrefixOf l then
    if labOk (labSize (l.drop 2)) && List.isPrefixOf [58] ((l.drop 2).drop (labSize (l.drop 2))) then
      if (Lib.cut ((l.drop 2).drop (labSize (l.drop 2) + 1)) spE).2.2 then some ((l.drop 2).take (labSize (l.drop 2)), (Lib.cut ((l.drop 2).drop (labSize (l.drop 2) + 1)) spE).1) else none
    else none
  else none
/-- What the cut finds. -/
theorem cut_some {l sep : Txt} (h : (Lib.cut l sep).2.2 = true) : ∃ rest, l = (Lib.cut l sep).1 ++ sep ++ rest := by
  unfold Lib.cut at h ⊢
  split at h
  · rename_i h0
    rw [if_pos h0]
    rcases Lib.index_spec l sep with ⟨h1, _⟩ | ⟨i, h1, h2, h3, _⟩
    · omega
    · refine ⟨l.drop (i + sep.length), ?_⟩
      rw [h1, Int.toNat_natCast]
      dsimp only
      unfold Lib.occAt at h3
      have h4 := prefix_of h3
      rw [List.drop_drop] at h4
      rw [List.append_assoc, ← h4, List.take_append_drop]
  · cases h
/-- A text in which the sign stands nowhere, and the sign behind it. -/
theorem cut_here {t rest : Txt} (h : ∀ b ∈ t, b ≠ 124) : Lib.cut (t ++ spE ++ rest) spE = (t, rest, true) := by
  have hi : Lib.index (t ++ spE ++ rest) spE = t.length := by
    apply Lib.index_first
    · simp
    · unfold Lib.occAt
      rw [List.append_assoc, List.drop_left]
      rw [List.isPrefixOf_iff_prefix]
      exact ⟨rest, rfl⟩
    · intro j hj
      cases ho : Lib.occAt (t ++ spE ++ rest) spE j with
      | false => rfl
      | true =>
        have := Lib.occAt_head (c := 124) (t := [125]) rfl ho
        rw [List.append_assoc, List.getElem?_append_left hj, List.getElem?_eq_getElem hj] at this
        exact absurd (Option.some.inj this) (h _ (List.getElem_mem hj))
  unfold Lib.cut
  rw [hi, if_pos (by omega), Int.toNat_natCast]
  have e1 : (t ++ spE ++ rest).take t.length = t := by rw [List.append_assoc, List.take_left]
  have e2 : (t ++ spE ++ rest).drop (t.length + spE.length) = rest := by
    rw [show t.length + spE.length = (t ++ spE).length from by simp, List.drop_left]
  rw [e1, e2]
theorem spanAt_some {l lab txt : Txt} (h : spanAtL l = some (lab, txt)) : ∃ rest, l = spanTxt lab txt ++ rest := by
  unfold spanAtL at h
  split at h
  · rename_i h1
    split at h
    · rename_i h2
      split at h
      · rename_i h3
        obtain ⟨rest, hr⟩ := cut_some h3
        cases h
        refine ⟨rest, ?_⟩
        rw [Bool.and_eq_true] at h2
        have e1 := prefix_of h1
        have e2 := prefix_of h2.2
        have e3 := List.take_append_drop (labSize (l.drop 2)) (l.drop 2)
        have e4 : spB.length = 2 := rfl
        rw [e4] at e1
        have e5 : ([58] : Txt).length = 1 := rfl
        rw [e5] at e2
        generalize Lib.cut ((l.drop 2).drop (labSize (l.drop 2) + 1)) spE = c at *
        rw [← List.drop_drop] at hr
        generalize (l.drop 2).drop (labSize (l.drop 2)) = q at *
        rw [hr] at e2
        rw [e2] at e3
        generalize (l.drop 2).take (labSize (l.drop 2)) = lb at *
        rw [← e3] at e1
        unfold spanTxt
        rw [e1]
        simp only [List.append_assoc]
      · cases h
    · cases h
  · cases h
theorem spanTxt_len (lab txt : Txt) : (spanTxt lab txt).length = lab.length + txt.length + 5 := by simp [spanTxt, spB, spE]; omega
theorem spanAt_no {b : UInt8} {l : Txt} (h : b ≠ 123) : spanAtL (b :: l) = none := by
  have : spB.isPrefixOf (b :: l) = false := by
    cases hp : spB.isPrefixOf (b :: l) with
    | false => rfl
    | true =>
      have := prefix_of hp
      simp [spB] at this
      exact absurd this.1 h
  unfold spanAtL
  rw [this]; rfl
/-- Without the sign of an end there is no span. -/
theorem spanAt_noEnd {l : Txt} (h : ∀ j, Lib.occAt l spE j = false) : spanAtL l = none := by
  cases hs : spanAtL l with
  | none => rfl
  | some p =>
    obtain ⟨lab, txt⟩ := p
    obtain ⟨rest, e⟩ := spanAt_some hs
    have := h (spB ++ lab ++ [58] ++ txt).length
    rw [e, show spanTxt lab txt ++ rest = (spB ++ lab ++ [58] ++ txt) ++ (spE ++ rest) from by simp [spanTxt]] at this
    unfold Lib.occAt at this
    rw [List.drop_left] at this
    exfalso
    have h2 : spE.isPrefixOf (spE ++ rest) = true := List.isPrefixOf_iff_prefix.2 ⟨rest, rfl⟩
    rw [h2] at this; cases this
/-- A label, and what stands behind it. -/
theorem spanAt_here {lab txt rest : Txt} (hl : isLab lab = true) (ht : ∀ b ∈ txt, b ≠ 124) : spanAtL (spanTxt lab txt ++ rest) = some (lab, txt) := by
  unfold isLab at hl
  rw [Bool.and_eq_true] at hl
  have e1 : spanTxt lab txt ++ rest = spB ++ (lab ++ 58 :: (txt ++ spE ++ rest)) := by simp [spanTxt]
  have e2 : (spB ++ (lab ++ 58 :: (txt ++ spE ++ rest))).drop 2 = lab ++ 58 :: (txt ++ spE ++ rest) := rfl
  have e3 : labSize (lab ++ 58 :: (txt ++ spE ++ rest)) = lab.length := by
    unfold labSize
    rw [List.takeWhile_append_of_pos (by simpa using hl.1), List.takeWhile_cons]
    simp [labSign]
  have e4 : (lab ++ 58 :: (txt ++ spE ++ rest)).drop lab.length = 58 :: (txt ++ spE ++ rest) := List.drop_left ..
  have e5 : (lab ++ 58 :: (txt ++ spE ++ rest)).drop (lab.length + 1) = txt ++ spE ++ rest := by
    rw [← List.drop_drop, e4]; rfl
  have e6 : (lab ++ 58 :: (txt ++ spE ++ rest)).take lab.length = lab := List.take_left ..
  unfold spanAtL
  rw [e1, e2, e3, e4, e5, e6, cut_here ht, hl.2]
  simp [spB]

/-! ### Spans -/
def spansF : Nat → Txt → Txt → List Pc
  | 0, cur, l => addT [] (cur ++ l)
  | _ + 1, cur, [] => addT [] cur
  | f + 1, cur, b :: l =>
    match spanAtL (b :: l) with
    | some (lab, txt) => addT [] cur ++ ⟨true, lab, txt⟩ :: spansF f [] ((b :: l).drop (lab.length + txt.length + 5))
    | none => spansF f (cur ++ [b]) l
def spansG (cur l : Txt) : List Pc := spansF l.length cur l
def spansL (l : Txt) : List Pc := spansG [] l
theorem spansF_more : ∀ (f g : Nat) (cur l : Txt), l.length ≤ f → l.length ≤ g → spansF f cur l = spansF g cur l
  | 0, 0, _, _, _, _ => rfl
  | 0, g + 1, cur, [], _, _ => by simp [spansF]
  | f + 1, 0, cur, [], _, _ => by simp [spansF]
  | f + 1, g + 1, cur, [], _, _ => rfl
  | f + 1, g + 1, cur, b :: l, hf, hg => by
    simp only [List.length_cons] at hf hg
    simp only [spansF]
    cases h : spanAtL (b :: l) with
    | none => exact spansF_more f g _ _ (by omega) (by omega)
    | some p =>
      obtain ⟨lab, txt⟩ := p
      dsimp only
      rw [spansF_more f g [] ((b :: l).drop (lab.length + txt.length + 5)) (by rw [List.length_drop, List.length_cons]; omega) (by rw [List.length_drop, List.length_cons]; omega)]
theorem spansG_nil (cur : Txt) : spansG cur [] = addT [] cur := by simp [spansG, spansF]
theorem spansG_none {cur l : Txt} {b : UInt8} (h : spanAtL (b :: l) = none) : spansG cur (b :: l) = spansG (cur ++ [b]) l := by
  unfold spansG
  rw [List.length_cons, spansF, h]
theorem spansG_some {cur l lab txt : Txt} (h : spanAtL l = some (lab, txt)) : spansG cur l = addT [] cur ++ ⟨true, lab, txt⟩ :: spansG [] (l.drop (lab.length + txt.length + 5)) := by
  obtain ⟨rest, e⟩ := spanAt_some h
  have hl : 5 ≤ l.length := by rw [e, List.length_append, spanTxt_len]; omega
  match l with
  | [] => simp at hl
  | b :: l =>
    unfold spansG
    rw [List.length_cons, spansF, h]
    dsimp only
    rw [spansF_more _ _ [] ((b :: l).drop (lab.length + txt.length + 5)) (by rw [List.length_drop, List.length_cons]; omega) (Nat.le_refl _)]
theorem spansG_noEnd : ∀ (l cur : Txt), (∀ j, Lib.occAt l spE j = false) → spansG cur l = addT [] (cur ++ l)
  | [], cur, _ => by rw [spansG_nil, List.append_nil]
  | b :: l, cur, h => by
    rw [spansG_none (spanAt_noEnd h), spansG_noEnd l (cur ++ [b]) (fun j => h (j + 1))]
    simp
theorem spansG_text : ∀ (t cur l : Txt), (∀ b ∈ t, b ≠ 123) → spansG cur (t ++ l) = spansG (cur ++ t) l
  | [], cur, l, _ => by simp
  | b :: t, cur, l, h => by
    rw [List.cons_append, spansG_none (spanAt_no (h b (by simp))), spansG_text t (cur ++ [b]) l (fun x hx => h x (by simp [hx]))]
    simp
theorem spansG_plain (t cur : Txt) (h : ∀ b ∈ t, b ≠ 123) : spansG cur t = addT [] (cur ++ t) := by
  have := spansG_text t cur [] h
  rw [List.append_nil] at this
  rw [this, spansG_nil]
theorem spansG_here {cur lab txt rest : Txt} (hl : isLab lab = true) (ht : ∀ b ∈ txt, b ≠ 124) : spansG cur (spanTxt lab txt ++ rest) = addT [] cur ++ ⟨true, lab, txt⟩ :: spansG [] rest := by
  rw [spansG_some (spanAt_here hl ht)]
  rw [← spanTxt_len, List.drop_left]
/-- One span in a line. -/
theorem spans_one (ahead lab txt behind : Txt) (h1 : ∀ b ∈ ahead, b ≠ 123) (hl : isLab lab = true) (h2 : ∀ b ∈ txt, b ≠ 124) (h3 : ∀ b ∈ behind, b ≠ 123) :
    spansL (ahead ++ (spanTxt lab txt ++ behind)) = addT [] ahead ++ ⟨true, lab, txt⟩ :: addT [] behind := by
  unfold spansL
  rw [spansG_text _ _ _ h1, spansG_here hl h2, spansG_plain _ _ h3]
  simp
/-- Pieces side by side, texts and spans by turns. -/
def turnPc : Bool → List Pc → Prop
  | _, [] => True
  | s, p :: ps => p.sp = s ∧ (if s then isLab p.lab = true ∧ ∀ b ∈ p.txt, b ≠ 124 else p.lab = [] ∧ p.txt ≠ [] ∧ ∀ b ∈ p.txt, b ≠ 123) ∧ turnPc (!s) ps
theorem spans_turn : ∀ (ps : List Pc), (turnPc true ps → ∀ cur, spansG cur (unspanL ps) = addT [] cur ++ ps) ∧ (turnPc false ps → spansG [] (unspanL ps) = ps)
  | [] => ⟨fun _ cur => by simp [unspanL, spansG_nil], fun _ => by simp [unspanL, spansG_nil, addT]⟩
  | p :: ps => by
    have ih := spans_turn ps
    have e : unspanL (p :: ps) = pcTxt p ++ unspanL ps := rfl
    refine ⟨fun h cur => ?_, fun h => ?_⟩
    · simp only [turnPc, if_true, Bool.not_true] at h
      rw [e, pcTxt, if_pos h.1, spansG_here h.2.1.1 h.2.1.2, ih.2 h.2.2]
      obtain ⟨a, b, c⟩ := p
      simp only at h
      rw [h.1]
    · simp only [turnPc, Bool.false_eq_true, if_false, Bool.not_false] at h
      rw [e, pcTxt, if_neg (by rw [h.1]; simp), spansG_text _ _ _ h.2.1.2.2, List.nil_append, ih.1 h.2.2]
      obtain ⟨a, b, c⟩ := p
      simp only at h
      unfold addT
      rw [if_neg h.2.1.2.1, h.1, h.2.1.1]
      rfl

/-! ### Headings -/
def begF : Nat → Nat → Txt → Bool
  | _, _, [] => false
  | bl, sg, b :: l => if b = 32 then (if 0 < sg then decide (bl ≤ 3) && decide (sg ≤ 6) else begF (bl + 1) sg l) else if b = 35 then begF bl (sg + 1) l else false
def headB : Txt := [123, 61]
def headingL (l : Txt) : Option (Txt × Txt) :=
  if 0 ≤ Lib.lastIndex l headB then
    if begF 0 0 (l.take (Lib.lastIndex l headB).toNat) then
      match lastLab (l.drop ((Lib.lastIndex l headB).toNat + 2)) with
      | some lab => some (l.take (Lib.lastIndex l headB).toNat, lab)
      | none => none
    else none
  else none
theorem lastOcc_ge (s sub : Txt) : ∀ k, -1 ≤ Lib.lastOcc s sub k
  | 0 => by simp [Lib.lastOcc]
  | k + 1 => by 
    unfold Lib.lastOcc
    split
    · omega
    · exact lastOcc_ge s sub k
theorem lastIndex_cases (s sub : Txt) : (Lib.lastIndex s sub = -1 ∧ ∀ j, j + sub.length ≤ s.length → Lib.occAt s sub j = false) ∨
    (∃ i : Nat, Lib.lastIndex s sub = i ∧ i + sub.length ≤ s.length ∧ Lib.occAt s sub i = true ∧ ∀ j, i < j → j + sub.length ≤ s.length → Lib.occAt s sub j = false) := by
  unfold Lib.lastIndex
  by_cases h : sub.length ≤ s.length
  · rw [if_pos h]
    rcases Lib.lastOcc_spec s sub (s.length - sub.length + 1) with ⟨h1, h2⟩ | ⟨i, h1, h2, h3, h4⟩
    · exact Or.inl ⟨h1, fun j hj => h2 j (by omega)⟩
    · exact Or.inr ⟨i, by first | exact h1 | exact h2, by omega, by assumption, fun j hj hj2 => by first | exact h4 j hj (by omega) | exact h4 j (by omega) hj⟩
  · rw [if_neg h]
    exact Or.inl ⟨rfl, fun j hj => by omega⟩
theorem begF_blanks : ∀ (k bl : Nat) (l : Txt), begF bl 0 (List.replicate k 32 ++ l) = begF (bl + k) 0 l
  | 0, bl, l => by simp
  | k + 1, bl, l => by
    rw [List.replicate_succ, List.cons_append, begF, if_pos rfl, if_neg (by omega), begF_blanks k (bl + 1) l]
    congr 1; omega
theorem begF_signs : ∀ (k bl sg : Nat) (l : Txt), begF bl sg (List.replicate k 35 ++ l) = begF bl (sg + k) l
  | 0, bl, sg, l => by simp
  | k + 1, bl, sg, l => by
    rw [List.replicate_succ, List.cons_append, begF, if_neg (by decide), if_pos rfl, begF_signs k bl (sg + 1) l]
    congr 1; omega
theorem begF_heading (bl sg : Nat) (l : Txt) (h : 0 < sg) : begF 0 0 (List.replicate bl 32 ++ (List.replicate sg 35 ++ 32 :: l)) = (decide (bl ≤ 3) && decide (sg ≤ 6)) := by
  rw [begF_blanks, begF_signs, begF, if_pos rfl, if_pos (by omega), Nat.zero_add, Nat.zero_add]
/-- Where the last sign of a label stands. -/
theorem last_here {s t : Txt} (h : ∀ j : Nat, t[j]? = some 123 → t[j + 1]? ≠ some 61) : Lib.lastIndex (s ++ headB ++ t) headB = s.length := by
  have hocc : ∀ j, s.length < j → Lib.occAt (s ++ headB ++ t) headB j = false := by
    intro j hj
    cases ho : Lib.occAt (s ++ headB ++ t) headB j with
    | false => rfl
    | true =>
      exfalso
      have h1 := Lib.occAt_head (c := 123) (t := [61]) rfl ho
      have h2 := Lib.occAt_second (c0 := 123) (c1 := 61) (t := []) rfl ho
      by_cases e : j = s.length + 1
      · subst e
        rw [List.append_assoc, List.getElem?_append_right (by omega), show s.length + 1 - s.length = 1 from by omega] at h1
        simp [headB] at h1
      · have e2 : (s ++ headB).length = s.length + 2 := by simp [headB]
        rw [List.getElem?_append_right (by omega), e2] at h1 h2
        have := h (j - (s.length + 2)) h1
        rw [show j - (s.length + 2) + 1 = j + 1 - (s.length + 2) from by omega] at this
        exact this h2
  have hat : Lib.occAt (s ++ headB ++ t) headB s.length = true := by
    unfold Lib.occAt
    rw [List.append_assoc, List.drop_left]
    exact List.isPrefixOf_iff_prefix.2 ⟨t, rfl⟩
  rcases lastIndex_cases (s ++ headB ++ t) headB with ⟨h1, h2⟩ | ⟨i, h1, h2, h3, h4⟩
  · rw [h2 s.length (by simp)] at hat; cases hat
  · rw [h1]
    by_cases e : i < s.length
    · rw [h4 s.length e (by simp)] at hat; cases hat
    · by_cases e2 : s.length < i
      · rw [hocc i e2] at h3; cases h3
      · omega
theorem heading_here {s t : Txt} (h : ∀ j : Nat, t[j]? = some 123 → t[j + 1]? ≠ some 61) :
    headingL (s ++ headB ++ t) = if begF 0 0 s then (match lastLab t with | some lab => some (s, lab) | none => none) else none := by
  unfold headingL
  rw [last_here h, if_pos (by omega), Int.toNat_natCast]
  have e1 : (s ++ headB ++ t).take s.length = s := by rw [List.append_assoc, List.take_left]
  have e2 : (s ++ headB ++ t).drop (s.length + 2) = t := by rw [show s.length + 2 = (s ++ headB).length from by simp [headB], List.drop_left]
  rw [e1, e2]

end Go.Proofs.YtodnioihadpncaaDoor
