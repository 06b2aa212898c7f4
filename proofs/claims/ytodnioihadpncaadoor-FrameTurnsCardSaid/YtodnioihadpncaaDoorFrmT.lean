/-
  Plain facts of package frame: parts that may be are the parts of their lines.
-/
import Derived.Test.YtodnioihadpncaaDoorFrmQ
namespace Go.Proofs.YtodnioihadpncaaDoor
set_option linter.unusedSimpArgs false
set_option linter.unusedVariables false

/-- Behind the lines of the parts q, o of which are open: where one reads on. -/
structure TOk (q : List Prt) (o : Nat) (st : List Prt × List Nat) : Prop where
  lt : ∀ j ∈ st.2, j < q.length
  nodup : st.2.Nodup
  parts : ∀ j, st.1[j]? = (q[j]?).map fun x : Prt => { x with opn := decide (j ∈ st.2) }
  opn : ∀ j x, q[j]? = some x → x.opn = decide (j ∈ st.2.take o)
  le : o ≤ st.2.length

theorem TOk.length {q : List Prt} {o : Nat} {st : List Prt × List Nat} (h : TOk q o st) : st.1.length = q.length := by
  have h1 := h.parts st.1.length
  have h2 := h.parts q.length
  rw [List.getElem?_eq_none (Nat.le_refl _)] at h1
  rw [List.getElem?_eq_none (l := q) (Nat.le_refl _)] at h2
  have h3 : q.length ≤ st.1.length := by
    cases e : q[st.1.length]? with
    | none => exact List.getElem?_eq_none_iff.1 e
    | some x => rw [e] at h1; simp at h1
  have h4 : st.1.length ≤ q.length := List.getElem?_eq_none_iff.1 h2
  omega
theorem TOk.done {q : List Prt} {o : Nat} {st : List Prt × List Nat} (h : TOk q o st) (he : st.2.length = o) : st.1 = q := by
  apply List.ext_getElem?
  intro j
  rw [h.parts j]
  cases e : q[j]? with
  | none => rfl
  | some x =>
    have := h.opn j x e
    rw [← he, List.take_length] at this
    simp only [Option.map_some]
    rw [← this]
theorem mem_dropLast {l : List Nat} (hne : l ≠ []) (hn : l.Nodup) (j : Nat) : (j ∈ l.dropLast) ↔ (j ∈ l ∧ j ≠ l.getLast hne) := by
  have e := List.dropLast_concat_getLast hne
  have hn2 := hn
  rw [← e, List.nodup_append] at hn2
  constructor
  · intro h
    refine ⟨List.dropLast_subset _ h, fun e1 => ?_⟩
    exact hn2.2.2 j h (l.getLast hne) (by simp) e1
  · rintro ⟨h, hj⟩
    rw [← e, List.mem_append, List.mem_singleton] at h
    rcases h with h | h
    · exact h
    · exact absurd h hj
theorem TOk.close {q : List Prt} {o : Nat} {st : List Prt × List Nat} (h : TOk q o st) (ho : o < st.2.length) : TOk q o (stepP st divE) ∧ (stepP st divE).2.length = st.2.length - 1 := by
  obtain ⟨ps, op⟩ := st
  obtain ⟨h1, h2, h3, h4, h5⟩ := h
  simp only at h1 h2 h3 h4 h5 ho
  have hne : op ≠ [] := by intro e; rw [e] at ho; simp at ho
  have hs : stepP (ps, op) divE = (shut ps (op.getLast?.getD 0), op.dropLast) := by
    unfold stepP
    rw [opens_divE]
    dsimp only
    rw [if_pos ⟨hne, closes_divE⟩]
  rw [hs]
  have hl : op.getLast?.getD 0 = op.getLast hne := by rw [List.getLast?_eq_some_getLast hne]; rfl
  rw [hl]
  refine ⟨⟨fun j hj => h1 j (List.dropLast_subset _ hj), h2.sublist (List.dropLast_sublist _), fun j => ?_, fun j x hx => ?_, ?_⟩, ?_⟩
  · show (shut ps (op.getLast hne))[j]? = _
    unfold shut
    rw [List.getElem?_modify, h3 j]
    cases e : q[j]? with
    | none => simp
    | some x =>
      have hm := mem_dropLast hne h2 j
      by_cases ej : op.getLast hne = j
      · have hf : ¬ j ∈ op.dropLast := fun hh => (hm.1 hh).2 ej.symm
        simp [ej, hf]
      · have hf : (j ∈ op.dropLast) ↔ j ∈ op := ⟨fun hh => (hm.1 hh).1, fun hh => hm.2 ⟨hh, fun e => ej e.symm⟩⟩
        simp [ej, hf]
  · show x.opn = decide (j ∈ op.dropLast.take o)
    rw [h4 j x hx, List.dropLast_eq_take, List.take_take, Nat.min_eq_left (by omega)]
  · show o ≤ op.dropLast.length
    rw [List.length_dropLast]; omega
  · show op.dropLast.length = _
    rw [List.length_dropLast]
theorem TOk.closes {q : List Prt} {o : Nat} : ∀ (n : Nat) {st : List Prt × List Nat}, TOk q o st → o + n ≤ st.2.length → TOk q o (parseF st (ends n)) ∧ (parseF st (ends n)).2.length = st.2.length - n
  | 0, st, h, _ => ⟨h, rfl⟩
  | n + 1, st, h, hn => by
    obtain ⟨a, b⟩ := h.close (by omega)
    obtain ⟨c, d⟩ := TOk.closes n a (by omega)
    have e : parseF st (ends (n + 1)) = parseF (stepP st divE) (ends n) := rfl
    rw [e]
    exact ⟨c, by rw [d, b]; omega⟩
theorem TOk.last {q : List Prt} {o : Nat} {st : List Prt × List Nat} (h : TOk q o st) {p : Prt} (hp : st.1.getLast? = some p) : ∃ p', q.getLast? = some p' ∧ p.dv = p'.dv ∧ p.depth = p'.depth := by
  have hl := h.length
  rw [List.getLast?_eq_getElem?, h.parts, hl] at hp
  rw [List.getLast?_eq_getElem?]
  cases e : q[q.length - 1]? with
  | none => rw [e] at hp; simp at hp
  | some x => rw [e] at hp; simp at hp; exact ⟨x, rfl, by rw [← hp], by rw [← hp]⟩
/-- A part more. -/
theorem TOk.snoc {q : List Prt} {o : Nat} {st : List Prt × List Nat} (h : TOk q o st) (P : Prt) (hd : P.dv = true) (ho : P.opn = true → st.2.length = o) :
    TOk (q ++ [P]) (if P.opn then o + 1 else o) (st.1 ++ [{ P with opn := true }], st.2 ++ [st.1.length]) := by
  have hl := h.length
  obtain ⟨ps, op⟩ := st
  obtain ⟨h1, h2, h3, h4, h5⟩ := h
  simp only at h1 h2 h3 h4 h5 hl ho
  rw [hl]
  have hq : q.length ∉ op := fun hh => Nat.lt_irrefl _ (h1 _ hh)
  have htk : (op ++ [q.length]).take (if P.opn then o + 1 else o) = op.take o ++ (if P.opn then [q.length] else []) := by
    cases hP : P.opn
    · simp only [Bool.false_eq_true, if_false, List.append_nil]
      rw [List.take_append_of_le_length h5]
    · simp only [if_true]
      rw [← ho hP, List.take_length, List.take_of_length_le (by simp)]
  refine ⟨fun j hj => ?_, ?_, fun j => ?_, fun j x hx => ?_, ?_⟩
  · rw [List.mem_append, List.mem_singleton] at hj
    rw [List.length_append]
    rcases hj with hj | hj
    · have := h1 j hj; simp; omega
    · simp; omega
  · rw [List.nodup_append]
    refine ⟨h2, by simp, fun a ha b hb => ?_⟩
    rw [List.mem_singleton] at hb
    subst hb
    intro e; subst e; exact hq ha
  · show (ps ++ _)[j]? = _
    by_cases hj : j < q.length
    · rw [List.getElem?_append_left (by omega), List.getElem?_append_left hj, h3 j]
      have : (j ∈ op ++ [q.length]) ↔ j ∈ op := by simp; omega
      simp [this]
    · rw [List.getElem?_append_right (by omega), List.getElem?_append_right (by omega), hl]
      by_cases e : j = q.length
      · subst e; simp
      · rw [List.getElem?_eq_none (by simp; omega), List.getElem?_eq_none (by simp; omega)]; rfl
  · show x.opn = decide (j ∈ (op ++ [q.length]).take _)
    rw [htk]
    by_cases hj : j < q.length
    · rw [List.getElem?_append_left hj] at hx
      rw [h4 j x hx]
      have : j ∉ (if P.opn = true then [q.length] else []) := by split <;> simp; omega
      simp [this]
    · rw [List.getElem?_append_right (by omega)] at hx
      by_cases e : j = q.length
      · subst e
        simp at hx
        subst hx
        have hn : q.length ∉ op.take o := fun hh => hq (List.mem_of_mem_take hh)
        cases hP : P.opn <;> simp [hn]
      · rw [List.getElem?_eq_none (by simp; omega)] at hx; cases hx
  · show _ ≤ (op ++ [q.length]).length
    rw [List.length_append]
    split <;> simp <;> omega
theorem TOk.run {q : List Prt} {o : Nat} {st : List Prt × List Nat} (h : TOk q o st) (P : Prt) (hd : P.opn = false) : TOk (q ++ [P]) o (st.1 ++ [P], st.2) := by
  have hl := h.length
  obtain ⟨ps, op⟩ := st
  obtain ⟨h1, h2, h3, h4, h5⟩ := h
  simp only at h1 h2 h3 h4 h5 hl
  have hq : q.length ∉ op := fun hh => Nat.lt_irrefl _ (h1 _ hh)
  refine ⟨fun j hj => ?_, h2, fun j => ?_, fun j x hx => ?_, h5⟩
  · have := h1 j hj
    rw [List.length_append]; simp; omega
  · show (ps ++ _)[j]? = _
    by_cases hj : j < q.length
    · rw [List.getElem?_append_left (by omega), List.getElem?_append_left hj, h3 j]
    · rw [List.getElem?_append_right (by omega), List.getElem?_append_right (by omega), hl]
      by_cases e : j = q.length
      · subst e
        simp [hq]
        obtain ⟨a, b, c, d, e⟩ := P
        simp only at hd
        rw [hd]
      · have e2 : ([P] : List Prt)[j - q.length]? = none := List.getElem?_eq_none (by simp; omega)
        rw [e2]; rfl
  · by_cases hj : j < q.length
    · rw [List.getElem?_append_left hj] at hx
      exact h4 j x hx
    · rw [List.getElem?_append_right (by omega)] at hx
      by_cases e : j = q.length
      · subst e
        simp at hx
        subst hx
        have hn : q.length ∉ op.take o := fun hh => hq (List.mem_of_mem_take hh)
        rw [hd]; simp [hn]
      · rw [List.getElem?_eq_none (by simp; omega)] at hx; cases hx

theorem step_line {ps : List Prt} {op : List Nat} {s : Txt} (h : lineOk op.length s = true) : stepP (ps, op) s = (addLn ps op.length s, op) := by
  unfold lineOk at h
  simp only [Bool.and_eq_true, Option.isNone_iff_eq_none, Bool.not_eq_true', Bool.and_eq_false_imp, decide_eq_true_eq] at h
  unfold stepP
  rw [h.1.1]
  dsimp only
  rw [if_neg]
  rintro ⟨a, b⟩
  have : 0 < op.length := List.length_pos_iff.2 a
  rw [h.1.2 (by omega)] at b
  cases b
theorem lines_more : ∀ (ls : List Txt) (ps : List Prt) (op : List Nat) (acc : List Txt), ls.all (lineOk op.length) = true →
    parseF (ps ++ [⟨op.length, false, [], false, acc⟩], op) ls = (ps ++ [⟨op.length, false, [], false, acc ++ ls⟩], op)
  | [], ps, op, acc, _ => by simp [parseF]
  | s :: ls, ps, op, acc, h => by
    simp only [List.all_cons, Bool.and_eq_true] at h
    have e : parseF (ps ++ [⟨op.length, false, [], false, acc⟩], op) (s :: ls) = parseF (stepP (ps ++ [⟨op.length, false, [], false, acc⟩], op) s) ls := rfl
    rw [e, step_line h.1, addLn_same _ _ rfl rfl]
    have := lines_more ls ps op (acc ++ [s]) h.2
    rw [List.append_assoc] at this
    exact this

theorem turns : ∀ (rest q : List Prt) (o : Nat) (st : List Prt × List Nat), TOk q o st → rightF q.getLast? o rest = true → (st.2.length : Int) = insOf q.getLast? →
    (parseF st (writeF (st.2.length : Int) o rest)).1 = q ++ rest
  | [], q, o, st, h, _, _ => by
    rw [writeF, show ((st.2.length : Int) - o).toNat = st.2.length - o from by omega]
    have hle := h.le
    obtain ⟨a, b⟩ := h.closes (st.2.length - o) (by omega)
    rw [a.done (by omega)]; simp
  | P :: rest, q, o, st, h, hr, hi => by
    rw [rightF] at hr
    simp only [Bool.and_eq_true, Bool.not_eq_true', Bool.or_eq_false_iff, decide_eq_false_iff_not, Bool.and_eq_false_imp] at hr
    obtain ⟨⟨⟨h1, h2⟩, h3, h4⟩, h5⟩ := hr
    have hdep : 0 ≤ P.depth ∧ P.depth ≤ st.2.length ∧ (P.dv = false → ∀ p, q.getLast? = some p → p.dv = true ∨ p.depth ≠ P.depth) := by
      unfold rightDepth at h2
      cases hg : q.getLast? with
      | none =>
        rw [hg] at h2
        simp at h2
        exact ⟨by omega, by omega, by simp⟩
      | some p =>
        rw [hg] at h2 hi
        unfold insOf at hi
        simp only [Bool.and_eq_true, decide_eq_true_eq] at h2 hi
        have h22 : P.depth ≤ if p.dv then p.depth + 1 else if P.dv then p.depth else p.depth - 1 := h2.2
        refine ⟨h2.1, ?_, fun hd p' hp' => ?_⟩
        · rw [hi]
          cases hpd : p.dv <;> cases hPd : P.dv <;> simp [hpd, hPd] at h22 ⊢ <;> omega
        · cases hp'
          cases hpd : p.dv
          · simp [hpd, hd] at h22
            right; omega
          · left; rfl
    obtain ⟨d0, d1, d2⟩ := hdep
    rw [writeF, show ((st.2.length : Int) - P.depth).toNat = st.2.length - P.depth.toNat from by omega, List.append_assoc, List.append_assoc, parseF_append]
    have hle := h.le
    obtain ⟨a, b⟩ := h.closes (st.2.length - P.depth.toNat) (by omega)
    generalize hst1 : parseF st (ends (st.2.length - P.depth.toNat)) = st1 at *
    have hlen : (st1.2.length : Int) = P.depth := by rw [b]; omega
    clear hst1 b h
    rw [parseF_append]
    unfold rightPart at h1
    cases hd : P.dv with
    | true =>
      rw [hd] at h1
      simp only [if_true, Bool.and_eq_true, List.isEmpty_iff] at h1
      obtain ⟨⟨l1, l2⟩, l3⟩ := h1
      have e : parseF st1 [divLine P.lab] = (st1.1 ++ [{ P with opn := true }], st1.2 ++ [st1.1.length]) := by
        rw [parseF_one]
        unfold stepP
        rw [opens_divLine _ l2]
        dsimp only
        rw [hlen]
        obtain ⟨p1, p2, p3, p4, p5⟩ := P
        simp only at hd l1
        subst hd l1
        rfl
      simp only [if_true]
      rw [e, show P.ls ++ writeF (P.depth + 1) (if P.opn = true then o + 1 else o) rest = writeF (P.depth + 1) (if P.opn = true then o + 1 else o) rest from by rw [l1]; rfl]
      have hn := a.snoc P hd (fun ho => by have := h4 ho; omega)
      have ih := turns rest (q ++ [P]) (if P.opn then o + 1 else o) _ hn (by rw [List.getLast?_concat]; exact h5) (by
        rw [List.getLast?_concat]
        show ((st1.2 ++ [st1.1.length]).length : Int) = _
        unfold insOf
        rw [List.length_append]
        simp [hd, hlen])
      rw [show (((st1.1 ++ [{ P with opn := true }], st1.2 ++ [st1.1.length]) : List Prt × List Nat).2.length : Int) = P.depth + 1 from by
        show ((st1.2 ++ [st1.1.length]).length : Int) = _
        rw [List.length_append]; simp [hlen]] at ih
      rw [ih]; simp
    | false =>
      rw [hd] at h1
      simp only [Bool.false_eq_true, if_false, Bool.and_eq_true, List.isEmpty_iff, Bool.not_eq_true'] at h1
      obtain ⟨⟨⟨l1, l2⟩, l3⟩, l4⟩ := h1
      simp only [Bool.false_eq_true, if_false]
      have e0 : parseF st1 [] = st1 := rfl
      rw [e0, parseF_append]
      rw [← hlen] at l4
      match hls : P.ls with
      | [] => rw [hls] at l1; simp at l1
      | s :: ls =>
        rw [hls] at l4
        have l5 := l4
        simp only [List.all_cons, Bool.and_eq_true] at l5
        have e : parseF st1 (s :: ls) = (st1.1 ++ [P], st1.2) := by
          have e1 : parseF st1 (s :: ls) = parseF (stepP (st1.1, st1.2) s) ls := rfl
          have e2 : addLn st1.1 st1.2.length s = st1.1 ++ [⟨st1.2.length, false, [], false, [s]⟩] := by
            cases hg : st1.1.getLast? with
            | none => exact addLn_none _ _ hg
            | some p =>
              refine addLn_new _ _ hg ?_
              obtain ⟨p', x1, x2, x3⟩ := a.last hg
              rw [x2, x3, hlen]
              exact d2 hd p' x1
          rw [e1, step_line l5.1, e2, lines_more ls st1.1 st1.2 [s] l5.2]
          obtain ⟨p1, p2, p3, p4, p5⟩ := P
          simp only at hd l1 l2 l3 hls hlen
          subst hd l2 l3 hls
          rw [hlen]; rfl
        rw [e]
        have hn := a.run P l3
        rw [l3] at h5 ⊢
        simp only [Bool.false_eq_true, if_false] at h5 ⊢
        have ih := turns rest (q ++ [P]) o _ hn (by rw [List.getLast?_concat]; exact h5) (by
          rw [List.getLast?_concat]
          show (st1.2.length : Int) = _
          unfold insOf
          simp [hd, hlen])
        rw [show (((st1.1 ++ [P], st1.2) : List Prt × List Nat).2.length : Int) = P.depth from hlen] at ih
        rw [ih]; simp
theorem parse_write (p : List Prt) (h : rightP p = true) : parseL (writeP p) = p := by
  have := turns p [] 0 ([], []) ⟨by simp, by simp, by simp, by simp, by simp⟩ h rfl
  exact this

end Go.Proofs.YtodnioihadpncaaDoor
