/-
  Plain facts of the document's own frames (bowdlerref1): the divisions one is in, as its writer and its veil keep them.
-/
import Derived.Test.YtkcmhdkhdjmjeaaGreatDoorRvP
import Derived.Test.YtkcmhdkhdjmjeaaGreatDoorRgtA
namespace Go.Proofs.YtkcmhdkhdjmjeaaGreatDoor
set_option linter.unusedSimpArgs false
set_option linter.unusedVariables false

theorem right_step {ps : List Prt} (h : rightP ps = true) {k : Nat} (hk : k < ps.length) : rightPart ps[k] = true ∧ rightDepth ps[k] (ps.take k).getLast? = true ∧ (cnt (ps.take k) : Int) ≤ ps[k].depth ∧ (ps[k].opn = true → ps[k].depth = cnt (ps.take k)) := by
  have e : ps.take k ++ (ps[k] :: ps.drop (k + 1)) = ps := by rw [← List.drop_eq_getElem_cons hk, List.take_append_drop]
  have h2 := rightF_append (ps.take k) (ps[k] :: ps.drop (k + 1)) none 0
  rw [e, show rightF none 0 ps = true from h, rightF, lastOr_none, Nat.zero_add] at h2
  have h3 := h2.symm
  simp only [Bool.and_eq_true, Bool.not_eq_true', Bool.or_eq_false_iff, decide_eq_false_iff_not, Bool.and_eq_false_imp] at h3
  obtain ⟨_, ⟨⟨h4, h5⟩, h6, h7⟩, _⟩ := h3
  refine ⟨h4, h5, by omega, fun ho => ?_⟩
  have := h7 ho
  omega
theorem depth_ins {p : Prt} {last : Option Prt} (h : rightDepth p last = true) : 0 ≤ p.depth ∧ p.depth ≤ insOf last := by
  cases last with
  | none => simp [rightDepth] at h; simp [insOf]; omega
  | some q =>
    simp only [rightDepth, Bool.and_eq_true, decide_eq_true_eq] at h
    refine ⟨h.1, ?_⟩
    have h2 : p.depth ≤ if q.dv then q.depth + 1 else if p.dv then q.depth else q.depth - 1 := h.2
    show p.depth ≤ if q.dv then q.depth + 1 else q.depth
    split at h2 <;> simp_all
    split at h2 <;> omega
theorem last_div {p : Prt} {last : Option Prt} (h : rightDepth p last = true) (hp : p.depth = insOf last) : p.dv = true ∨ ∀ q, last = some q → q.dv = true := by
  by_cases hd : p.dv = true
  · exact Or.inl hd
  · refine Or.inr fun q hq => ?_
    subst hq
    simp only [rightDepth, Bool.and_eq_true, decide_eq_true_eq] at h
    have h2 : p.depth ≤ if q.dv then q.depth + 1 else if p.dv then q.depth else q.depth - 1 := h.2
    have h3 : insOf (some q) = if q.dv then q.depth + 1 else q.depth := rfl
    rw [h3] at hp
    cases hq : q.dv
    · rw [hq] at h2 hp
      simp [hd] at h2 hp
      omega
    · rfl
/-- The divisions that one is in. -/
structure StkOk (ps : List Prt) (k : Nat) (O : List Prt) : Prop where
  len : (O.length : Int) = insOf (ps.take k).getLast?
  dep : ∀ j (h : j < O.length), O[j].depth = j
  opn : ∀ j (h : j < O.length), O[j].opn = decide (j < cnt (ps.take k))
  cnt : Go.Proofs.YtkcmhdkhdjmjeaaGreatDoor.cnt (ps.take k) ≤ O.length
theorem StkOk.nil (ps : List Prt) : StkOk ps 0 [] := ⟨by simp [insOf], by simp, by simp, by simp [Go.Proofs.YtkcmhdkhdjmjeaaGreatDoor.cnt]⟩
theorem StkOk.step {ps : List Prt} {k : Nat} {O : List Prt} (hr : rightP ps = true) (h : StkOk ps k O) (hk : k < ps.length) : 0 ≤ ps[k].depth ∧ ps[k].depth ≤ O.length ∧ (Go.Proofs.YtkcmhdkhdjmjeaaGreatDoor.cnt (ps.take k) : Int) ≤ ps[k].depth ∧
    StkOk ps (k + 1) (O.take ps[k].depth.toNat ++ if ps[k].dv then [ps[k]] else []) := by
  obtain ⟨h1, h2, h3, h4⟩ := right_step hr hk
  have h5 := depth_ins h2
  rw [← h.len] at h5
  have hc := cnt_take ps k hk
  have hi := insOf_take ps k hk
  refine ⟨h5.1, h5.2, h3, ?_⟩
  obtain ⟨d, hd⟩ : ∃ d : Nat, ps[k].depth = d := ⟨ps[k].depth.toNat, by omega⟩
  rw [hd, Int.toNat_natCast]
  rw [hd] at h3 h4 h5 hi
  have hl : (O.take d).length = d := by rw [List.length_take]; omega
  cases hv : ps[k].dv with
  | true =>
    simp only [if_true]
    rw [hv, if_pos rfl] at hi
    refine ⟨by rw [hi, List.length_append, hl]; rfl, fun j hj => ?_, fun j hj => ?_, ?_⟩
    · rw [List.length_append, hl] at hj
      simp only [List.length_singleton] at hj
      by_cases hj2 : j < d
      · rw [List.getElem_append_left (by omega), List.getElem_take]; exact h.dep j (by omega)
      · rw [List.getElem_append_right (by omega)]; simp; omega
    · rw [List.length_append, hl] at hj
      simp only [List.length_singleton] at hj
      rw [hc]
      by_cases hj2 : j < d
      · rw [List.getElem_append_left (by omega), List.getElem_take, h.opn j (by omega)]
        split
        · rename_i ho
          have := h4 ho
          congr 1; simp; omega
        · rfl
      · rw [List.getElem_append_right (by omega)]
        simp only [List.getElem_singleton]
        cases ho : ps[k].opn with
        | true => have := h4 ho; simp; omega
        | false => simp; omega
    · rw [hc, List.length_append, hl]
      split <;> simp <;> omega
  | false =>
    simp only [Bool.false_eq_true, if_false, List.append_nil]
    rw [hv, if_neg (by simp)] at hi
    have ho : ps[k].opn = false := by
      unfold rightPart at h1
      rw [hv] at h1
      simp only [Bool.false_eq_true, if_false, Bool.and_eq_true, Bool.not_eq_true'] at h1
      exact h1.1.2
    rw [ho] at hc
    simp only [Bool.false_eq_true, if_false, Nat.add_zero] at hc
    refine ⟨by rw [hi, hl], fun j hj => ?_, fun j hj => ?_, by rw [hc, hl]; omega⟩
    · rw [List.getElem_take]; exact h.dep j (by rw [hl] at hj; omega)
    · rw [List.getElem_take, hc]; exact h.opn j (by rw [hl] at hj; omega)
/-- What stands behind all parts. -/
theorem StkOk.done {ps : List Prt} {O : List Prt} (h : StkOk ps ps.length O) : writeP ps = bodyF 0 ps ++ ends (O.length - Go.Proofs.YtkcmhdkhdjmjeaaGreatDoor.cnt ps) := by
  have hl := h.len
  rw [List.take_length] at hl
  rw [writeP_eq]
  congr 2
  omega
/-- The lines, a part more. -/
theorem bodyF_step {ps : List Prt} {k : Nat} {O : List Prt} (h : StkOk ps k O) (hk : k < ps.length) (h0 : 0 ≤ ps[k].depth) : bodyF 0 (ps.take (k + 1)) = (bodyF 0 (ps.take k) ++ ends (O.length - ps[k].depth.toNat)) ++ ((if ps[k].dv then [divLine ps[k].lab] else []) ++ ps[k].ls) := by
  rw [bodyF_take ps k hk, ← h.len, show ((O.length : Int) - ps[k].depth).toNat = O.length - ps[k].depth.toNat from by omega]
  simp only [List.append_assoc]

/-! ### The veil -/
/-- The labels that one is in, of which all are seen, but for the last if one is in what is hidden. -/
structure UndOk (p : Sv) (ps : List Prt) (k : Nat) (h : Option Int) (U : List Txt) : Prop where
  non : h = none → (U.length : Int) = insOf (ps.take k).getLast? ∧ U.all p = true
  som : ∀ d, h = some d → (U.length : Int) = d + 1 ∧ 0 ≤ d ∧ (U.take d.toNat).all p = true
theorem UndOk.nil (p : Sv) (ps : List Prt) : UndOk p ps 0 none [] := ⟨fun _ => by simp [insOf], fun _ h => absurd h (by simp)⟩
theorem UndOk.skip {p : Sv} {ps : List Prt} {k : Nat} {hd : Option Int} {U : List Txt} (h : UndOk p ps k hd U) {d : Int} (hh : hidB hd d = true) : UndOk p ps (k + 1) hd U := by
  cases hd with
  | none => simp [hidB] at hh
  | some x => exact ⟨(fun e => absurd e (by simp)), h.som⟩
theorem all_take {p : Sv} {U : List Txt} (h : U.all p = true) (n : Nat) : (U.take n).all p = true := by
  rw [List.all_eq_true] at h ⊢
  exact fun x hx => h x (List.mem_of_mem_take hx)
theorem UndOk.take {p : Sv} {ps : List Prt} {k : Nat} {hd : Option Int} {U : List Txt} (hr : rightP ps = true) (h : UndOk p ps k hd U) (hk : k < ps.length) (hh : hidB hd ps[k].depth = false) :
    0 ≤ ps[k].depth ∧ ps[k].depth ≤ U.length ∧ (U.take ps[k].depth.toNat).all p = true := by
  obtain ⟨h1, h2, h3, h4⟩ := right_step hr hk
  have h5 := depth_ins h2
  refine ⟨h5.1, ?_⟩
  cases hd with
  | none =>
    obtain ⟨a, b⟩ := h.non rfl
    exact ⟨by omega, all_take b _⟩
  | some x =>
    obtain ⟨a, b, c⟩ := h.som x rfl
    simp only [hidB, decide_eq_false_iff_not] at hh
    refine ⟨by omega, ?_⟩
    have := all_take c ps[k].depth.toNat
    rw [List.take_take, Nat.min_eq_left (by omega)] at this
    exact this
theorem UndOk.div {p : Sv} {ps : List Prt} {k : Nat} {hd : Option Int} {U : List Txt} (hr : rightP ps = true) (h : UndOk p ps k hd U) (hk : k < ps.length) (hh : hidB hd ps[k].depth = false) (hv : ps[k].dv = true) :
    UndOk p ps (k + 1) (nextH p ps[k]) (U.take ps[k].depth.toNat ++ [ps[k].lab]) := by
  obtain ⟨h0, h1, h2⟩ := h.take hr hk hh
  have hi := insOf_take ps k hk
  rw [if_pos hv] at hi
  have hl : (U.take ps[k].depth.toNat).length = ps[k].depth.toNat := by rw [List.length_take]; omega
  unfold nextH
  rw [hv, Bool.true_and]
  cases hp : p ps[k].lab with
  | true => exact ⟨fun _ => ⟨by rw [hi, List.length_append, hl, List.length_singleton]; omega, by rw [List.all_append, h2]; simp [hp]⟩, fun d e => by simp at e⟩
  | false =>
    refine ⟨fun e => by simp at e, fun d e => ?_⟩
    simp at e
    subst e
    refine ⟨by rw [List.length_append, hl, List.length_singleton]; omega, h0, ?_⟩
    rw [List.take_left' hl]
    exact h2
theorem UndOk.run {p : Sv} {ps : List Prt} {k : Nat} {hd : Option Int} {U : List Txt} (hr : rightP ps = true) (h : UndOk p ps k hd U) (hk : k < ps.length) (hh : hidB hd ps[k].depth = false) (hv : ps[k].dv = false) :
    UndOk p ps (k + 1) none (U.take ps[k].depth.toNat) ∧ nextH p ps[k] = none := by
  obtain ⟨h0, h1, h2⟩ := h.take hr hk hh
  have hi := insOf_take ps k hk
  rw [if_neg (by rw [hv]; simp)] at hi
  have hl : (U.take ps[k].depth.toNat).length = ps[k].depth.toNat := by rw [List.length_take]; omega
  exact ⟨⟨fun _ => ⟨by rw [hi, hl]; omega, h2⟩, (fun d e => absurd e (by simp))⟩, by unfold nextH; rw [hv]; rfl⟩
theorem hide_drop (p : Sv) (ps : List Prt) (k : Nat) (hk : k < ps.length) (h : Option Int) : hideF p h (ps.drop k) = if hidB h ps[k].depth then hideF p h (ps.drop (k + 1)) else linesL p ps[k] :: hideF p (nextH p ps[k]) (ps.drop (k + 1)) := by
  rw [List.drop_eq_getElem_cons hk, hideF]

end Go.Proofs.YtkcmhdkhdjmjeaaGreatDoor
