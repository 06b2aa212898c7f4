/-
  Plain facts of package frame: the parts of lines may be, and their lines are these lines, but blanks behind signs; parts that may be are the parts of their lines.
-/
import Derived.Test.YtodnioihadpncaaDoorFrmP
namespace Go.Proofs.YtodnioihadpncaaDoor
set_option linter.unusedSimpArgs false
set_option linter.unusedVariables false

def cnt (ps : List Prt) : Nat := (ps.filter (·.opn)).length
def insOf (p : Option Prt) : Int := match p with | none => 0 | some p => if p.dv then p.depth + 1 else p.depth
def bodyF : Int → List Prt → List Txt
  | _, [] => []
  | inside, p :: ps => ends (inside - p.depth).toNat ++ (if p.dv then [divLine p.lab] else []) ++ p.ls ++ bodyF (if p.dv then p.depth + 1 else p.depth) ps
def lastOr (last : Option Prt) (ps : List Prt) : Option Prt := match ps.getLast? with | some p => some p | none => last
theorem lastOr_cons (last : Option Prt) (p : Prt) (ps : List Prt) : lastOr last (p :: ps) = lastOr (some p) ps := by
  unfold lastOr
  cases ps with
  | nil => rfl
  | cons q ps =>
    rw [List.getLast?_cons_cons]
    cases h : (q :: ps).getLast? with
    | none => simp at h
    | some x => rfl
theorem lastOr_none (ps : List Prt) : lastOr none ps = ps.getLast? := by unfold lastOr; cases ps.getLast? <;> rfl
theorem cnt_cons (p : Prt) (ps : List Prt) : cnt (p :: ps) = (if p.opn then 1 else 0) + cnt ps := by
  unfold cnt
  rw [List.filter_cons]
  split <;> simp <;> omega
theorem cnt_append (a b : List Prt) : cnt (a ++ b) = cnt a + cnt b := by simp [cnt]
theorem opn_add (p : Prt) (o : Nat) : (if p.opn then o + 1 else o) = o + (if p.opn then 1 else 0) := by split <;> rfl

theorem rightF_append : ∀ (a b : List Prt) (last : Option Prt) (o : Nat), rightF last o (a ++ b) = (rightF last o a && rightF (lastOr last a) (o + cnt a) b)
  | [], b, last, o => by simp [rightF, lastOr, cnt]
  | p :: a, b, last, o => by
    rw [List.cons_append, rightF, rightF, rightF_append a b _ _, lastOr_cons, cnt_cons, opn_add, Nat.add_assoc]
    simp only [Bool.and_assoc]
theorem writeF_body : ∀ (a : List Prt) (last : Option Prt) (o : Nat), writeF (insOf last) o a = bodyF (insOf last) a ++ ends (insOf (lastOr last a) - (o + cnt a : Nat)).toNat
  | [], last, o => by simp [writeF, bodyF, lastOr, cnt]
  | p :: a, last, o => by
    have ih := writeF_body a (some p) (if p.opn then o + 1 else o)
    have e : insOf (some p) = if p.dv then p.depth + 1 else p.depth := rfl
    rw [e] at ih
    rw [writeF, bodyF, ih, lastOr_cons, cnt_cons, opn_add, Nat.add_assoc]
    simp only [List.append_assoc]
theorem bodyF_append : ∀ (a b : List Prt) (last : Option Prt), bodyF (insOf last) (a ++ b) = bodyF (insOf last) a ++ bodyF (insOf (lastOr last a)) b
  | [], b, last => by simp [bodyF, lastOr]
  | p :: a, b, last => by
    have ih := bodyF_append a b (some p)
    have e : insOf (some p) = if p.dv then p.depth + 1 else p.depth := rfl
    rw [e] at ih
    rw [List.cons_append, bodyF, bodyF, ih, lastOr_cons]
    simp only [List.append_assoc]
theorem writeP_eq (ps : List Prt) : writeP ps = bodyF 0 ps ++ ends (insOf ps.getLast? - cnt ps).toNat := by
  have := writeF_body ps none 0
  rw [lastOr_none, Nat.zero_add] at this
  exact this

/-! ### The parts of lines may be -/
theorem rightF_ins : ∀ (ps : List Prt) (last : Option Prt) (o : Nat), (o : Int) ≤ insOf last → rightF last o ps = true → ((o + cnt ps : Nat) : Int) ≤ insOf (lastOr last ps)
  | [], last, o, h, _ => by simpa [lastOr, cnt] using h
  | p :: ps, last, o, h, hr => by
    rw [rightF] at hr
    simp only [Bool.and_eq_true, Bool.not_eq_true', Bool.or_eq_false_iff, decide_eq_false_iff_not, Bool.and_eq_false_imp] at hr
    obtain ⟨⟨⟨h1, h2⟩, h3, h4⟩, h5⟩ := hr
    have := rightF_ins ps (some p) _ ?_ h5
    · rw [lastOr_cons, cnt_cons]
      rw [opn_add, Nat.add_assoc] at this
      exact this
    · have e : insOf (some p) = if p.dv then p.depth + 1 else p.depth := rfl
      rw [e]
      unfold rightPart at h1
      cases hd : p.dv
      · rw [hd] at h1
        cases ho : p.opn
        · simp; omega
        · rw [ho] at h1; simp at h1
      · cases ho : p.opn
        · simp; omega
        · have := h4 ho; simp; omega
theorem right_ins {ps : List Prt} (h : rightP ps = true) : (cnt ps : Int) ≤ insOf ps.getLast? := by
  have := rightF_ins ps none 0 (by simp [insOf]) h
  rw [lastOr_none, Nat.zero_add] at this
  exact this

def idxF (k : Nat) : List Prt → List Nat
  | [] => []
  | p :: ps => if p.opn then k :: idxF (k + 1) ps else idxF (k + 1) ps
theorem idxF_append : ∀ (a b : List Prt) (k : Nat), idxF k (a ++ b) = idxF k a ++ idxF (k + a.length) b
  | [], b, k => by simp [idxF]
  | p :: a, b, k => by
    rw [List.cons_append, idxF, idxF, idxF_append a b (k + 1), List.length_cons, show k + 1 + a.length = k + (a.length + 1) from by omega]
    split <;> simp
theorem idxF_length : ∀ (a : List Prt) (k : Nat), (idxF k a).length = cnt a
  | [], k => rfl
  | p :: a, k => by
    rw [idxF, cnt_cons]
    have := idxF_length a (k + 1)
    split <;> simp <;> omega
theorem idxF_none : ∀ (a : List Prt) (k : Nat), (∀ p ∈ a, p.opn = false) → idxF k a = []
  | [], k, _ => rfl
  | p :: a, k, h => by
    rw [idxF, h p (by simp), idxF_none a (k + 1) (fun q hq => h q (by simp [hq]))]
    rfl
theorem last_open : ∀ (ps : List Prt), cnt ps ≠ 0 → ∃ a D b, ps = a ++ D :: b ∧ D.opn = true ∧ ∀ p ∈ b, p.opn = false
  | [], h => absurd rfl h
  | p :: ps, h => by
    by_cases hc : cnt ps = 0
    · have hp : p.opn = true := by
        cases hp : p.opn with
        | true => rfl
        | false => rw [cnt_cons, hp, hc] at h; simp at h
      refine ⟨[], p, ps, rfl, hp, fun q hq => ?_⟩
      have : ps.filter (·.opn) = [] := List.eq_nil_of_length_eq_zero hc
      have := List.filter_eq_nil_iff.1 this q hq
      simpa using this
    · obtain ⟨a, D, b, e, h1, h2⟩ := last_open ps hc
      exact ⟨p :: a, D, b, by rw [e]; rfl, h1, h2⟩
theorem rightDepth_opn (p q : Prt) (x : Bool) : rightDepth p (some { q with opn := x }) = rightDepth p (some q) := rfl
theorem rightF_less : ∀ (b : List Prt) (last : Option Prt) (o : Nat), (∀ p ∈ b, p.opn = false) → rightF last (o + 1) b = true → rightF last o b = true
  | [], _, _, _, _ => rfl
  | p :: b, last, o, hn, h => by
    have hp := hn p (by simp)
    rw [rightF] at h ⊢
    rw [hp] at h ⊢
    simp only [Bool.and_eq_true, Bool.not_eq_true', Bool.or_eq_false_iff, decide_eq_false_iff_not, Bool.false_and, Bool.false_eq_true, if_false] at h ⊢
    exact ⟨⟨h.1.1, by omega, trivial⟩, rightF_less b _ o (fun q hq => hn q (by simp [hq])) h.2⟩
theorem rightF_last (b : List Prt) (D : Prt) (x : Bool) (o : Nat) : rightF (some { D with opn := x }) o b = rightF (some D) o b := by
  cases b with
  | nil => rfl
  | cons p b => rw [rightF, rightF, rightDepth_opn]
theorem insOf_opn (p : Prt) (x : Bool) : insOf (some { p with opn := x }) = insOf (some p) := rfl
theorem shut_at : ∀ (a b : List Prt) (D : Prt), shut (a ++ D :: b) a.length = a ++ { D with opn := false } :: b
  | [], b, D => rfl
  | x :: a, b, D => by
    have := shut_at a b D
    unfold shut at this ⊢
    rw [List.length_cons, List.cons_append, List.modify_succ_cons, this]
    rfl
theorem insOf_last (a b : List Prt) (D : Prt) (x : Bool) : insOf (a ++ { D with opn := x } :: b).getLast? = insOf (a ++ D :: b).getLast? := by
  rw [List.getLast?_append, List.getLast?_append]
  cases b with
  | nil => simp [insOf]
  | cons c b => rw [List.getLast?_cons_cons, List.getLast?_cons_cons]
theorem bodyF_opn (inside : Int) (D : Prt) (b : List Prt) (x : Bool) : bodyF inside ({ D with opn := x } :: b) = bodyF inside (D :: b) := rfl

/-- The line as it comes back. -/
def normLn (open' : List Nat) (s : Txt) : Txt :=
  match opensL s with
  | some lab => divLine lab
  | none => if open' ≠ [] ∧ closesL s = true then divE else s
theorem normLn_blanks (o : List Nat) (s : Txt) : ∃ k, s = normLn o s ++ List.replicate k 32 := by
  unfold normLn
  cases h : opensL s with
  | some lab => exact (opens_some h).2
  | none =>
    dsimp only
    split
    · rename_i hc
      exact closes_some hc.2
    · exact ⟨0, by simp⟩
structure POk (st : List Prt × List Nat) (w : List Txt) : Prop where
  right : rightP st.1 = true
  idx : st.2 = idxF 0 st.1
  lines : writeP st.1 = w
theorem ends_zero : ends 0 = [] := rfl
theorem ends_succ (n : Nat) : ends (n + 1) = ends n ++ [divE] := by simp [ends, List.replicate_succ']
theorem lfFree_append (a b : Txt) : lfFree (a ++ b) = (lfFree a && lfFree b) := by simp [lfFree]
theorem lf_of_open {s lab : Txt} (h : opensL s = some lab) (hs : lfFree s = true) : lfFree lab = true := by
  obtain ⟨_, k, e⟩ := opens_some h
  rw [e, lfFree_append, Bool.and_eq_true] at hs
  have h2 := hs.1
  unfold divLine at h2
  rw [lfFree_append, lfFree_append, Bool.and_eq_true, Bool.and_eq_true] at h2
  exact h2.1.2

/-- A part more, at the depth that one is at. -/
theorem more_part {ps : List Prt} (p : Prt) (hr : rightP ps = true) (hp : rightPart p = true) (hd : p.depth = cnt ps) (hdep : rightDepth p ps.getLast? = true) (hdv : p.dv = p.opn) :
    rightP (ps ++ [p]) = true ∧ writeP (ps ++ [p]) = writeP ps ++ (if p.dv then [divLine p.lab] else []) ++ p.ls := by
  constructor
  · unfold rightP
    rw [rightF_append, Bool.and_eq_true]
    refine ⟨hr, ?_⟩
    rw [lastOr_none, Nat.zero_add, rightF, hp, hdep, hd]
    simp [rightF]
  · rw [writeP_eq, writeP_eq]
    have h1 := bodyF_append ps [p] none
    rw [lastOr_none] at h1
    have h1' : bodyF 0 (ps ++ [p]) = _ := h1
    have hi : insOf (some p) = p.depth + if p.dv then 1 else 0 := by unfold insOf; dsimp only; split <;> omega
    have hc : (cnt (ps ++ [p]) : Int) = cnt ps + if p.dv then 1 else 0 := by
      rw [cnt_append, cnt_cons, hdv]; cases p.opn <;> simp [cnt]
    rw [h1', List.getLast?_concat, hi, hc, hd]
    have e : ((cnt ps : Int) + (if p.dv = true then 1 else 0) - (cnt ps + if p.dv = true then 1 else 0)).toNat = 0 := by omega
    rw [e, ends_zero, List.append_nil]
    simp only [bodyF, List.append_nil, List.append_assoc, hd]
    rfl
/-- The last run, by a line more. -/
theorem more_line {ps : List Prt} {p : Prt} (s : Txt) (hr : rightP (ps ++ [p]) = true) (hd : p.depth = cnt (ps ++ [p])) (hdv : p.dv = false) (hs : lineOk p.depth s = true) :
    rightP (ps ++ [{ p with ls := p.ls ++ [s] }]) = true ∧ idxF 0 (ps ++ [{ p with ls := p.ls ++ [s] }]) = idxF 0 (ps ++ [p]) ∧ writeP (ps ++ [{ p with ls := p.ls ++ [s] }]) = writeP (ps ++ [p]) ++ [s] := by
  refine ⟨?_, ?_, ?_⟩
  · unfold rightP at hr ⊢
    rw [rightF_append, Bool.and_eq_true] at hr ⊢
    refine ⟨hr.1, ?_⟩
    have h2 := hr.2
    rw [rightF] at h2 ⊢
    simp only [Bool.and_eq_true] at h2 ⊢
    refine ⟨⟨⟨?_, ?_⟩, h2.1.2⟩, rfl⟩
    · have h3 := h2.1.1.1
      unfold rightPart at h3 ⊢
      rw [hdv] at h3
      simp only [hdv, Bool.false_eq_true, if_false, Bool.and_eq_true, List.all_append, List.all_cons, List.all_nil, Bool.and_true] at h3 ⊢
      exact ⟨⟨⟨by simp, h3.1.1.2⟩, h3.1.2⟩, h3.2, hs⟩
    · exact h2.1.1.2
  · rw [idxF_append, idxF_append]; rfl
  · rw [writeP_eq, writeP_eq]
    have h1 := bodyF_append ps [p] none
    have h1' : bodyF 0 (ps ++ [p]) = _ := h1
    have h2 := bodyF_append ps [{ p with ls := p.ls ++ [s] }] none
    have h2' : bodyF 0 (ps ++ [{ p with ls := p.ls ++ [s] }]) = _ := h2
    have hc : cnt (ps ++ [{ p with ls := p.ls ++ [s] }]) = cnt (ps ++ [p]) := by rw [cnt_append, cnt_append, cnt_cons, cnt_cons]
    rw [h1', h2', List.getLast?_concat, List.getLast?_concat, hc, ← hd]
    have hi : insOf (some p) = p.depth := by unfold insOf; simp [hdv]
    have hi2 : insOf (some { p with ls := p.ls ++ [s] }) = p.depth := by unfold insOf; simp [hdv]
    rw [hi, hi2, show (p.depth - p.depth).toNat = 0 from by omega, ends_zero]
    simp [bodyF, hdv]
theorem addLn_none {ps : List Prt} (d : Nat) (s : Txt) (h : ps.getLast? = none) : addLn ps d s = ps ++ [⟨d, false, [], false, [s]⟩] := by
  rw [List.getLast?_eq_none_iff] at h
  subst h; rfl
theorem addLn_new {ps : List Prt} {p : Prt} (d : Nat) (s : Txt) (h : ps.getLast? = some p) (hp : p.dv = true ∨ p.depth ≠ d) : addLn ps d s = ps ++ [⟨d, false, [], false, [s]⟩] := by
  unfold addLn
  rw [h]
  dsimp only
  rw [if_pos hp]
theorem addLn_same {ps : List Prt} {p : Prt} (d : Nat) (s : Txt) (h1 : p.dv = false) (h2 : p.depth = d) : addLn (ps ++ [p]) d s = ps ++ [{ p with ls := p.ls ++ [s] }] := by
  unfold addLn
  rw [List.getLast?_concat]
  dsimp only
  rw [if_neg (by simp [h1, h2]), List.dropLast_concat]
theorem step_ok {st : List Prt × List Nat} {w : List Txt} {s : Txt} (h : POk st w) (hs : lfFree s = true) : POk (stepP st s) (w ++ [normLn st.2 s]) := by
  obtain ⟨ps, op⟩ := st
  obtain ⟨hr, hi, hw⟩ := h
  simp only at hr hi hw
  have hl : op.length = cnt ps := by rw [hi, idxF_length]
  have hins := right_ins hr
  unfold stepP normLn
  cases ho : opensL s with
  | some lab =>
    dsimp only
    have hlab := (opens_some ho).1
    obtain ⟨a, b⟩ := more_part (ps := ps) ⟨op.length, true, lab, true, []⟩ hr (by simp [rightPart, hlab, lf_of_open ho hs]) (by simp [hl]) (by
      unfold rightDepth
      cases hg : ps.getLast? with
      | none => rw [List.getLast?_eq_none_iff] at hg; subst hg; simp [hl, cnt]
      | some q =>
        rw [hg] at hins
        simp only [insOf] at hins
        simp only [most, Bool.and_eq_true, decide_eq_true_eq]
        rw [hl]
        refine ⟨by omega, ?_⟩
        simpa using hins) rfl
    refine ⟨a, ?_, ?_⟩
    · rw [idxF_append, hi]; simp [idxF]
    · rw [b, hw]; simp
  | none =>
    dsimp only
    by_cases hc : op ≠ [] ∧ closesL s = true
    · rw [if_pos hc, if_pos hc]
      have h0 : cnt ps ≠ 0 := by rw [← hl]; intro e; exact hc.1 (List.eq_nil_of_length_eq_zero e)
      obtain ⟨a, D, b, e, hD, hb⟩ := last_open ps h0
      have ei : idxF 0 (a ++ D :: b) = idxF 0 a ++ [a.length] := by
        rw [idxF_append, idxF, if_pos hD, idxF_none _ _ hb, Nat.zero_add]
      subst e
      rw [ei] at hi
      rw [hi, List.getLast?_concat, List.dropLast_concat]
      simp only [Option.getD_some]
      rw [shut_at]
      have hr2 := hr
      unfold rightP at hr2
      rw [rightF_append, Bool.and_eq_true, lastOr_none, Nat.zero_add, rightF, hD] at hr2
      simp only [Bool.and_eq_true, Bool.not_eq_true', Bool.or_eq_false_iff, decide_eq_false_iff_not, Bool.true_and, if_true] at hr2
      refine ⟨?_, ?_, ?_⟩
      · show rightF _ _ _ = true
        rw [rightF_append, Bool.and_eq_true, lastOr_none, Nat.zero_add]
        refine ⟨hr2.1, ?_⟩
        rw [rightF, rightF_last]
        simp only [Bool.and_eq_true, Bool.not_eq_true', Bool.or_eq_false_iff, decide_eq_false_iff_not, Bool.false_and, Bool.false_eq_true, if_false]
        refine ⟨⟨⟨?_, hr2.2.1.1.2⟩, hr2.2.1.2.1, trivial⟩, rightF_less b _ _ hb hr2.2.2⟩
        have h3 := hr2.2.1.1.1
        unfold rightPart at h3 ⊢
        cases hdv : D.dv
        · rw [hdv, hD] at h3; simp at h3
        · rw [hdv] at h3; simpa [hdv] using h3
      · rw [idxF_append, idxF, idxF_none _ _ hb]; simp
      · rw [writeP_eq] at hw ⊢
        have q1 := bodyF_append a (D :: b) none
        have q1' : bodyF 0 (a ++ D :: b) = _ := q1
        have q2 := bodyF_append a ({ D with opn := false } :: b) none
        have q2' : bodyF 0 (a ++ { D with opn := false } :: b) = _ := q2
        rw [insOf_last, q2', bodyF_opn, ← q1']
        have c1 : cnt (a ++ D :: b) = cnt (a ++ { D with opn := false } :: b) + 1 := by
          rw [cnt_append, cnt_append, cnt_cons, cnt_cons, hD]; simp; omega
        rw [c1] at hw hins
        rw [show (insOf (a ++ D :: b).getLast? - (cnt (a ++ { D with opn := false } :: b) : Nat)).toNat = (insOf (a ++ D :: b).getLast? - ((cnt (a ++ { D with opn := false } :: b) + 1 : Nat))).toNat + 1 from by omega, ends_succ, ← List.append_assoc, hw]
    · rw [if_neg hc, if_neg hc]
      have hln : lineOk (op.length : Int) s = true := by
        unfold lineOk
        rw [ho, hs]
        simp only [Option.isNone_none, Bool.true_and, Bool.and_true, Bool.not_eq_true', Bool.and_eq_false_imp, decide_eq_true_eq]
        intro h1
        by_cases h2 : closesL s = true
        · exact absurd ⟨fun e => by rw [e] at h1; simp at h1, h2⟩ hc
        · simpa using h2
      have new : rightDepth ⟨op.length, false, [], false, [s]⟩ ps.getLast? = true → POk (ps ++ [⟨op.length, false, [], false, [s]⟩], op) (w ++ [s]) := by
        intro hdp
        obtain ⟨a, b⟩ := more_part (ps := ps) ⟨op.length, false, [], false, [s]⟩ hr (by simp [rightPart, hln]) (by simp [hl]) hdp rfl
        refine ⟨a, ?_, ?_⟩
        · rw [idxF_append, hi]; simp [idxF]
        · rw [b, hw]; simp
      cases hg : ps.getLast? with
      | none =>
        rw [addLn_none _ _ hg]
        refine new ?_
        rw [hg]
        rw [List.getLast?_eq_none_iff] at hg
        subst hg
        simp [rightDepth, hl, cnt]
      | some p =>
        by_cases hp : p.dv = true ∨ p.depth ≠ op.length
        · rw [addLn_new _ _ hg hp]
          refine new ?_
          rw [hg] at hins ⊢
          unfold insOf at hins
          simp only [rightDepth, most, Bool.and_eq_true, decide_eq_true_eq]
          simp only at hins
          refine ⟨by omega, ?_⟩
          rw [hl] at hp ⊢
          cases hd : p.dv
          · rw [hd] at hins hp
            simp at hins hp ⊢
            omega
          · rw [hd] at hins
            simp at hins ⊢
            omega
        · obtain ⟨ys, rfl⟩ := List.getLast?_eq_some_iff.1 hg
          have hp1 : p.dv = false := by cases h : p.dv <;> simp [h] at hp ⊢
          have hp2 : p.depth = op.length := by
            by_cases e : p.depth = op.length
            · exact e
            · exact absurd (Or.inr e) hp
          rw [addLn_same _ _ hp1 hp2]
          obtain ⟨a, b, c⟩ := more_line (ps := ys) (p := p) s hr (by rw [hp2, hl]) hp1 (by rw [hp2]; exact hln)
          exact ⟨a, by rw [b, hi], by rw [c, hw]⟩

/-- The lines as they come back. -/
def normF (st : List Prt × List Nat) : List Txt → List Txt
  | [] => []
  | s :: l => normLn st.2 s :: normF (stepP st s) l
theorem parse_ok : ∀ (l : List Txt) (st : List Prt × List Nat) (w : List Txt), POk st w → (∀ s ∈ l, lfFree s = true) → POk (parseF st l) (w ++ normF st l)
  | [], st, w, h, _ => by simpa [parseF, normF] using h
  | s :: l, st, w, h, hs => by
    have h1 := parse_ok l (stepP st s) _ (step_ok h (hs s (by simp))) (fun x hx => hs x (by simp [hx]))
    rw [normF, show w ++ (normLn st.2 s :: normF (stepP st s) l) = w ++ [normLn st.2 s] ++ normF (stepP st s) l from by simp]
    exact h1
theorem parse_right (l : List Txt) (hs : ∀ s ∈ l, lfFree s = true) : rightP (parseL l) = true ∧ writeP (parseL l) = normF ([], []) l := by
  have := parse_ok l ([], []) [] ⟨rfl, rfl, rfl⟩ hs
  exact ⟨this.right, by have h := this.lines; rw [List.nil_append] at h; exact h⟩
theorem normF_get : ∀ (l : List Txt) (st : List Prt × List Nat), (normF st l).length = l.length ∧ ∀ (i : Nat) (x y : Txt), l[i]? = some x → (normF st l)[i]? = some y → ∃ k, x = y ++ List.replicate k 32
  | [], st => ⟨rfl, by simp⟩
  | s :: l, st => by
    obtain ⟨a, b⟩ := normF_get l (stepP st s)
    refine ⟨by simp [normF, a], fun i x y hx hy => ?_⟩
    cases i with
    | zero =>
      simp [normF] at hx hy
      subst hx hy
      exact normLn_blanks _ _
    | succ i =>
      simp [normF] at hx hy
      exact b i x y hx hy

end Go.Proofs.YtodnioihadpncaaDoor
