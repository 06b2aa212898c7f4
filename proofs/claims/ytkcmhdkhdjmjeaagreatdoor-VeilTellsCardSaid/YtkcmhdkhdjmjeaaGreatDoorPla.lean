/-
  Plain facts of package frame: labels, what opens and what closes a division, parts of lines, lines of parts, which parts may be.
  Plain facts of package frame: the parts of lines may be, and their lines are these lines, but blanks behind signs; parts that may be are the parts of their lines.
  Plain facts of package frame: how deep parts lie, how many lines they stand for.
  Plain facts of package frame: parts that may be are the parts of their lines.
  Plain facts of package frame: spans of a line, a line of pieces, labelled headings.
  Plain facts of package veil: the spans of a line, emptied by what is seen: what is emptied twice is emptied by both.
  Plain facts of package veil: headings with a label, lines, emptied by what is seen.
  Plain facts of package veil: a document's parts, emptied: they may be, and what is emptied twice is emptied by both.
-/
import Derived.Lib.IndexMore
import Derived.Lib.LastIndexLaws
import Derived.Lib.Strings
namespace Go.Proofs.YtkcmhdkhdjmjeaaGreatDoor
set_option linter.unusedSimpArgs false
set_option linter.unusedVariables false

abbrev Txt := List UInt8
def labSign (b : UInt8) : Bool := !(b == 123 || b == 125 || b == 124 || b == 58 || b == 32 || b == 9)
def labSize (l : Txt) : Nat := (l.takeWhile labSign).length
def labOk (n : Nat) : Bool := decide (1 ≤ n) && decide (n ≤ 40)
def isLab (l : Txt) : Bool := l.all labSign && labOk l.length
/-- Without the blanks at its end. -/
def trimR (l : Txt) : Txt := (l.reverse.dropWhile (· == 32)).reverse
/-- The label behind which there is but its end, and blanks. -/
def lastLab (l : Txt) : Option Txt :=
  if (trimR l).getLast? = some 125 ∧ isLab (trimR l).dropLast = true then some (trimR l).dropLast else none
def divB : Txt := [58, 58, 58, 123]
def divE : Txt := [58, 58, 58]
def opensL (l : Txt) : Option Txt := if divB.isPrefixOf l then lastLab (l.drop 4) else none
def closesL (l : Txt) : Bool := decide (trimR l = divE)
def divLine (lab : Txt) : Txt := divB ++ lab ++ [125]

theorem takeW_mem {α : Type} {p : α → Bool} : ∀ {l : List α} {x : α}, x ∈ l.takeWhile p → p x = true
  | a :: l, x, h => by
    rw [List.takeWhile_cons] at h
    split at h
    · rename_i hp
      rw [List.mem_cons] at h
      rcases h with rfl | h
      · exact hp
      · exact takeW_mem h
    · cases h
theorem takeW_all {α : Type} {p : α → Bool} : ∀ {l : List α}, l.all p = true → l.takeWhile p = l
  | [], _ => rfl
  | a :: l, h => by
    simp only [List.all_cons, Bool.and_eq_true] at h
    rw [List.takeWhile_cons, if_pos h.1, takeW_all h.2]
theorem labSize_all {l : Txt} (h : l.all labSign = true) : labSize l = l.length := by
  unfold labSize
  rw [takeW_all h]
theorem labSize_le (l : Txt) : labSize l ≤ l.length := (List.takeWhile_prefix _).length_le
theorem all_labSize {l : Txt} : labSize l = l.length ↔ l.all labSign = true := by
  constructor
  · intro h
    have h1 := List.takeWhile_prefix (p := labSign) (l := l)
    have h2 := h1.eq_of_length h
    rw [← h2, List.all_eq_true]
    intro x hx
    exact takeW_mem hx
  · exact labSize_all
theorem isLab_size (l : Txt) : isLab l = (labOk (labSize l) && decide (labSize l = l.length)) := by
  rw [Bool.eq_iff_iff]
  simp only [isLab, Bool.and_eq_true, decide_eq_true_eq]
  constructor
  · rintro ⟨h1, h2⟩; rw [labSize_all h1]; exact ⟨h2, rfl⟩
  · rintro ⟨h1, h2⟩; exact ⟨all_labSize.1 h2, by rw [← h2]; exact h1⟩

theorem trimR_snoc (l : Txt) (b : UInt8) (h : b ≠ 32) : trimR (l ++ [b]) = l ++ [b] := by
  unfold trimR
  rw [List.reverse_append]
  simp [h]
theorem trimR_blank (l : Txt) : trimR (l ++ [32]) = trimR l := by
  unfold trimR
  rw [List.reverse_append]
  simp
/-- A text is its trimmed one, and blanks. -/
theorem trimR_more (l : Txt) : ∃ k, l = trimR l ++ List.replicate k 32 := by
  unfold trimR
  have h := List.takeWhile_append_dropWhile (p := (· == (32 : UInt8))) (l := l.reverse)
  have h2 : l = (l.reverse.dropWhile (· == 32)).reverse ++ (l.reverse.takeWhile (· == 32)).reverse := by
    rw [← List.reverse_append, h, List.reverse_reverse]
  refine ⟨(l.reverse.takeWhile (· == 32)).length, ?_⟩
  have h3 : (l.reverse.takeWhile (· == 32)).reverse = List.replicate (l.reverse.takeWhile (· == 32)).length 32 := by
    rw [List.eq_replicate_iff]
    refine ⟨by simp, fun b hb => ?_⟩
    have := takeW_mem (List.mem_reverse.1 hb)
    simpa using this
  rw [← h3]
  exact h2
theorem trimR_rep (l : Txt) : ∀ k, trimR (l ++ List.replicate k 32) = trimR l
  | 0 => by simp
  | k + 1 => by
    rw [List.replicate_succ', ← List.append_assoc, trimR_blank, trimR_rep l k]
theorem trimR_divE : trimR divE = divE := by decide
theorem closes_divE : closesL divE = true := by decide
theorem lastLab_line (lab : Txt) (h : isLab lab = true) : lastLab (lab ++ [125]) = some lab := by
  unfold lastLab
  rw [trimR_snoc _ _ (by decide)]
  simp [h]
theorem opens_divLine (lab : Txt) (h : isLab lab = true) : opensL (divLine lab) = some lab := by
  have e : divLine lab = 58 :: 58 :: 58 :: 123 :: (lab ++ [125]) := by simp [divLine, divB]
  unfold opensL
  rw [e, if_pos (by simp [divB])]
  exact lastLab_line lab h
theorem lastLab_some {l lab : Txt} (h : lastLab l = some lab) : isLab lab = true ∧ trimR l = lab ++ [125] := by
  unfold lastLab at h
  split at h
  · rename_i hc
    cases h
    refine ⟨hc.2, ?_⟩
    obtain ⟨ys, hys⟩ := List.getLast?_eq_some_iff.1 hc.1
    rw [hys]; simp
  · cases h
theorem prefix_of {p l : Txt} (h : p.isPrefixOf l = true) : l = p ++ l.drop p.length := by
  obtain ⟨m, rfl⟩ := List.isPrefixOf_iff_prefix.1 h
  simp
theorem opens_some {l lab : Txt} (h : opensL l = some lab) : isLab lab = true ∧ ∃ k, l = divLine lab ++ List.replicate k 32 := by
  unfold opensL at h
  split at h
  · rename_i hc
    obtain ⟨h1, h2⟩ := lastLab_some h
    refine ⟨h1, ?_⟩
    obtain ⟨k, hk⟩ := trimR_more (l.drop 4)
    refine ⟨k, ?_⟩
    have h3 := prefix_of hc
    rw [show divB.length = 4 from rfl] at h3
    rw [h3, hk, h2]
    simp [divLine]
  · cases h
theorem closes_some {l : Txt} (h : closesL l = true) : ∃ k, l = divE ++ List.replicate k 32 := by
  obtain ⟨k, hk⟩ := trimR_more l
  exact ⟨k, by rw [of_decide_eq_true h] at hk; exact hk⟩
theorem opens_divE : opensL divE = none := by decide

/-! ### Parts -/
structure Prt where
  depth : Int
  dv : Bool
  lab : Txt
  opn : Bool
  ls : List Txt
deriving DecidableEq, Inhabited

def lfFree (l : Txt) : Bool := l.all (· != 10)
def lineOk (d : Int) (l : Txt) : Bool := (opensL l).isNone && !(decide (0 < d) && closesL l) && lfFree l
def rightPart (p : Prt) : Bool :=
  if p.dv then p.ls.isEmpty && isLab p.lab && lfFree p.lab
  else !p.ls.isEmpty && p.lab.isEmpty && !p.opn && p.ls.all (lineOk p.depth)
/-- How deep a part may lie at most behind this one. -/
def most (last : Prt) (dv : Bool) : Int := if last.dv then last.depth + 1 else if dv then last.depth else last.depth - 1
def rightDepth (p : Prt) (last : Option Prt) : Bool :=
  match last with
  | none => decide (p.depth = 0)
  | some q => decide (0 ≤ p.depth) && decide (p.depth ≤ most q p.dv)
/-- The check, part by part: what came last, and how many are open. -/
def rightF : Option Prt → Nat → List Prt → Bool
  | _, _, [] => true
  | last, o, p :: ps => rightPart p && rightDepth p last && !(decide (p.depth < o) || p.opn && decide ((o : Int) < p.depth)) && rightF (some p) (if p.opn then o + 1 else o) ps
def rightP (ps : List Prt) : Bool := rightF none 0 ps

def ends (n : Nat) : List Txt := List.replicate n divE
/-- The lines, part by part: how deep one is, how many are open. -/
def writeF : Int → Nat → List Prt → List Txt
  | inside, o, [] => ends (inside - o).toNat
  | inside, o, p :: ps => ends (inside - p.depth).toNat ++ (if p.dv then [divLine p.lab] else []) ++ p.ls ++ writeF (if p.dv then p.depth + 1 else p.depth) (if p.opn then o + 1 else o) ps
def writeP (ps : List Prt) : List Txt := writeF 0 0 ps

def shut (ps : List Prt) (i : Nat) : List Prt := ps.modify i fun p => { p with opn := false }
def addLn (ps : List Prt) (d : Nat) (s : Txt) : List Prt :=
  match ps.getLast? with
  | some p => if p.dv ∨ p.depth ≠ d then ps ++ [⟨d, false, [], false, [s]⟩] else ps.dropLast ++ [{ p with ls := p.ls ++ [s] }]
  | none => [⟨d, false, [], false, [s]⟩]
def stepP (st : List Prt × List Nat) (s : Txt) : List Prt × List Nat :=
  match opensL s with
  | some lab => (st.1 ++ [⟨st.2.length, true, lab, true, []⟩], st.2 ++ [st.1.length])
  | none => if st.2 ≠ [] ∧ closesL s = true then (shut st.1 (st.2.getLast?.getD 0), st.2.dropLast) else (addLn st.1 st.2.length s, st.2)
def parseF (st : List Prt × List Nat) (ls : List Txt) : List Prt × List Nat := ls.foldl stepP st
def parseL (ls : List Txt) : List Prt := (parseF ([], []) ls).1
theorem parseF_append (st : List Prt × List Nat) (a b : List Txt) : parseF st (a ++ b) = parseF (parseF st a) b := by simp [parseF]
theorem parseF_one (st : List Prt × List Nat) (s : Txt) : parseF st [s] = stepP st s := rfl

end Go.Proofs.YtkcmhdkhdjmjeaaGreatDoor

namespace Go.Proofs.YtkcmhdkhdjmjeaaGreatDoor
set_option linter.unusedSimpArgs false
set_option linter.unusedVariables false

def cnt (ps : List Prt) : Nat := (ps.filter (·.opn)).length
def insOf (p : Option Prt) : Int := match p with | none => 0 | some p => if p.dv then p.depth + 1 else p.depth
def bodyF : Int → List Prt → List Txt
  | _, [] => []
  | inside, p :: ps => ends (inside - p.depth).toNat ++ (if p.dv then [divLine p.lab] else []) ++ p.ls ++ bodyF (if p.dv then p.depth + 1 else p.depth) ps
def lastOr (last : Option Prt) (ps : List Prt) : Option Prt := match ps.getLast? with | some p => some p | none => last
theorem lastOr_cons (last : Option Prt) (p : Prt) (ps : List Prt) : lastOr last (p :: ps) = lastOr (some p) ps := by
  unfold lastOr
  cases ps with
  | nil => rfl
  | cons q ps =>
    rw [List.getLast?_cons_cons]
    cases h : (q :: ps).getLast? with
    | none => simp at h
    | some x => rfl
theorem lastOr_none (ps : List Prt) : lastOr none ps = ps.getLast? := by unfold lastOr; cases ps.getLast? <;> rfl
theorem cnt_cons (p : Prt) (ps : List Prt) : cnt (p :: ps) = (if p.opn then 1 else 0) + cnt ps := by
  unfold cnt
  rw [List.filter_cons]
  split <;> simp <;> omega
theorem cnt_append (a b : List Prt) : cnt (a ++ b) = cnt a + cnt b := by simp [cnt]
theorem opn_add (p : Prt) (o : Nat) : (if p.opn then o + 1 else o) = o + (if p.opn then 1 else 0) := by split <;> rfl

theorem rightF_append : ∀ (a b : List Prt) (last : Option Prt) (o : Nat), rightF last o (a ++ b) = (rightF last o a && rightF (lastOr last a) (o + cnt a) b)
  | [], b, last, o => by simp [rightF, lastOr, cnt]
  | p :: a, b, last, o => by
    rw [List.cons_append, rightF, rightF, rightF_append a b _ _, lastOr_cons, cnt_cons, opn_add, Nat.add_assoc]
    simp only [Bool.and_assoc]
theorem writeF_body : ∀ (a : List Prt) (last : Option Prt) (o : Nat), writeF (insOf last) o a = bodyF (insOf last) a ++ ends (insOf (lastOr last a) - (o + cnt a : Nat)).toNat
  | [], last, o => by simp [writeF, bodyF, lastOr, cnt]
  | p :: a, last, o => by
    have ih := writeF_body a (some p) (if p.opn then o + 1 else o)
    have e : insOf (some p) = if p.dv then p.depth + 1 else p.depth := rfl
    rw [e] at ih
    rw [writeF, bodyF, ih, lastOr_cons, cnt_cons, opn_add, Nat.add_assoc]
    simp only [List.append_assoc]
theorem bodyF_append : ∀ (a b : List Prt) (last : Option Prt), bodyF (insOf last) (a ++ b) = bodyF (insOf last) a ++ bodyF (insOf (lastOr last a)) b
  | [], b, last => by simp [bodyF, lastOr]
  | p :: a, b, last => by
    have ih := bodyF_append a b (some p)
    have e : insOf (some p) = if p.dv then p.depth + 1 else p.depth := rfl
    rw [e] at ih
    rw [List.cons_append, bodyF, bodyF, ih, lastOr_cons]
    simp only [List.append_assoc]
theorem writeP_eq (ps : List Prt) : writeP ps = bodyF 0 ps ++ ends (insOf ps.getLast? - cnt ps).toNat := by
  have := writeF_body ps none 0
  rw [lastOr_none, Nat.zero_add] at this
  exact this

/-! ### The parts of lines may be -/
theorem rightF_ins : ∀ (ps : List Prt) (last : Option Prt) (o : Nat), (o : Int) ≤ insOf last → rightF last o ps = true → ((o + cnt ps : Nat) : Int) ≤ insOf (lastOr last ps)
  | [], last, o, h, _ => by simpa [lastOr, cnt] using h
  | p :: ps, last, o, h, hr => by
    rw [rightF] at hr
    simp only [Bool.and_eq_true, Bool.not_eq_true', Bool.or_eq_false_iff, decide_eq_false_iff_not, Bool.and_eq_false_imp] at hr
    obtain ⟨⟨⟨h1, h2⟩, h3, h4⟩, h5⟩ := hr
    have := rightF_ins ps (some p) _ ?_ h5
    · rw [lastOr_cons, cnt_cons]
      rw [opn_add, Nat.add_assoc] at this
      exact this
    · have e : insOf (some p) = if p.dv then p.depth + 1 else p.depth := rfl
      rw [e]
      unfold rightPart at h1
      cases hd : p.dv
      · rw [hd] at h1
        cases ho : p.opn
        · simp; omega
        · rw [ho] at h1; simp at h1
      · cases ho : p.opn
        · simp; omega
        · have := h4 ho; simp; omega
theorem right_ins {ps : List Prt} (h : rightP ps = true) : (cnt ps : Int) ≤ insOf ps.getLast? := by
  have := rightF_ins ps none 0 (by simp [insOf]) h
  rw [lastOr_none, Nat.zero_add] at this
  exact this

def idxF (k : Nat) : List Prt → List Nat
  | [] => []
  | p :: ps => if p.opn then k :: idxF (k + 1) ps else idxF (k + 1) ps
theorem idxF_append : ∀ (a b : List Prt) (k : Nat), idxF k (a ++ b) = idxF k a ++ idxF (k + a.length) b
  | [], b, k => by simp [idxF]
  | p :: a, b, k => by
    rw [List.cons_append, idxF, idxF, idxF_append a b (k + 1), List.length_cons, show k + 1 + a.length = k + (a.length + 1) from by omega]
    split <;> simp
theorem idxF_length : ∀ (a : List Prt) (k : Nat), (idxF k a).length = cnt a
  | [], k => rfl
  | p :: a, k => by
    rw [idxF, cnt_cons]
    have := idxF_length a (k + 1)
    split <;> simp <;> omega
theorem idxF_none : ∀ (a : List Prt) (k : Nat), (∀ p ∈ a, p.opn = false) → idxF k a = []
  | [], k, _ => rfl
  | p :: a, k, h => by
    rw [idxF, h p (by simp), idxF_none a (k + 1) (fun q hq => h q (by simp [hq]))]
    rfl
theorem last_open : ∀ (ps : List Prt), cnt ps ≠ 0 → ∃ a D b, ps = a ++ D :: b ∧ D.opn = true ∧ ∀ p ∈ b, p.opn = false
  | [], h => absurd rfl h
  | p :: ps, h => by
    by_cases hc : cnt ps = 0
    · have hp : p.opn = true := by
        cases hp : p.opn with
        | true => rfl
        | false => rw [cnt_cons, hp, hc] at h; simp at h
      refine ⟨[], p, ps, rfl, hp, fun q hq => ?_⟩
      have : ps.filter (·.opn) = [] := List.eq_nil_of_length_eq_zero hc
      have := List.filter_eq_nil_iff.1 this q hq
      simpa using this
    · obtain ⟨a, D, b, e, h1, h2⟩ := last_open ps hc
      exact ⟨p :: a, D, b, by rw [e]; rfl, h1, h2⟩
theorem rightDepth_opn (p q : Prt) (x : Bool) : rightDepth p (some { q with opn := x }) = rightDepth p (some q) := rfl
theorem rightF_less : ∀ (b : List Prt) (last : Option Prt) (o : Nat), (∀ p ∈ b, p.opn = false) → rightF last (o + 1) b = true → rightF last o b = true
  | [], _, _, _, _ => rfl
  | p :: b, last, o, hn, h => by
    have hp := hn p (by simp)
    rw [rightF] at h ⊢
    rw [hp] at h ⊢
    simp only [Bool.and_eq_true, Bool.not_eq_true', Bool.or_eq_false_iff, decide_eq_false_iff_not, Bool.false_and, Bool.false_eq_true, if_false] at h ⊢
    exact ⟨⟨h.1.1, by omega, trivial⟩, rightF_less b _ o (fun q hq => hn q (by simp [hq])) h.2⟩
theorem rightF_last (b : List Prt) (D : Prt) (x : Bool) (o : Nat) : rightF (some { D with opn := x }) o b = rightF (some D) o b := by
  cases b with
  | nil => rfl
  | cons p b => rw [rightF, rightF, rightDepth_opn]
theorem insOf_opn (p : Prt) (x : Bool) : insOf (some { p with opn := x }) = insOf (some p) := rfl
theorem shut_at : ∀ (a b : List Prt) (D : Prt), shut (a ++ D :: b) a.length = a ++ { D with opn := false } :: b
  | [], b, D => rfl
  | x :: a, b, D => by
    have := shut_at a b D
    unfold shut at this ⊢
    rw [List.length_cons, List.cons_append, List.modify_succ_cons, this]
    rfl
theorem insOf_last (a b : List Prt) (D : Prt) (x : Bool) : insOf (a ++ { D with opn := x } :: b).getLast? = insOf (a ++ D :: b).getLast? := by
  rw [List.getLast?_append, List.getLast?_append]
  cases b with
  | nil => simp [insOf]
  | cons c b => rw [List.getLast?_cons_cons, List.getLast?_cons_cons]
theorem bodyF_opn (inside : Int) (D : Prt) (b : List Prt) (x : Bool) : bodyF inside ({ D with opn := x } :: b) = bodyF inside (D :: b) := rfl

/-- The line as it comes back. -/
def normLn (open' : List Nat) (s : Txt) : Txt :=
  match opensL s with
  | some lab => divLine lab
  | none => if open' ≠ [] ∧ closesL s = true then divE else s
theorem normLn_blanks (o : List Nat) (s : Txt) : ∃ k, s = normLn o s ++ List.replicate k 32 := by
  unfold normLn
  cases h : opensL s with
  | some lab => exact (opens_some h).2
  | none =>
    dsimp only
    split
    · rename_i hc
      exact closes_some hc.2
    · exact ⟨0, by simp⟩
structure POk (st : List Prt × List Nat) (w : List Txt) : Prop where
  right : rightP st.1 = true
  idx : st.2 = idxF 0 st.1
  lines : writeP st.1 = w
theorem ends_zero : ends 0 = [] := rfl
theorem ends_succ (n : Nat) : ends (n + 1) = ends n ++ [divE] := by simp [ends, List.replicate_succ']
theorem lfFree_append (a b : Txt) : lfFree (a ++ b) = (lfFree a && lfFree b) := by simp [lfFree]
theorem lf_of_open {s lab : Txt} (h : opensL s = some lab) (hs : lfFree s = true) : lfFree lab = true := by
  obtain ⟨_, k, e⟩ := opens_some h
  rw [e, lfFree_append, Bool.and_eq_true] at hs
  have h2 := hs.1
  unfold divLine at h2
  rw [lfFree_append, lfFree_append, Bool.and_eq_true, Bool.and_eq_true] at h2
  exact h2.1.2

/-- A part more, at the depth that one is at. -/
theorem more_part {ps : List Prt} (p : Prt) (hr : rightP ps = true) (hp : rightPart p = true) (hd : p.depth = cnt ps) (hdep : rightDepth p ps.getLast? = true) (hdv : p.dv = p.opn) :
    rightP (ps ++ [p]) = true ∧ writeP (ps ++ [p]) = writeP ps ++ (if p.dv then [divLine p.lab] else []) ++ p.ls := by
  constructor
  · unfold rightP
    rw [rightF_append, Bool.and_eq_true]
    refine ⟨hr, ?_⟩
    rw [lastOr_none, Nat.zero_add, rightF, hp, hdep, hd]
    simp [rightF]
  · rw [writeP_eq, writeP_eq]
    have h1 := bodyF_append ps [p] none
    rw [lastOr_none] at h1
    have h1' : bodyF 0 (ps ++ [p]) = _ := h1
    have hi : insOf (some p) = p.depth + if p.dv then 1 else 0 := by unfold insOf; dsimp only; split <;> omega
    have hc : (cnt (ps ++ [p]) : Int) = cnt ps + if p.dv then 1 else 0 := by
      rw [cnt_append, cnt_cons, hdv]; cases p.opn <;> simp [cnt]
    rw [h1', List.getLast?_concat, hi, hc, hd]
    have e : ((cnt ps : Int) + (if p.dv = true then 1 else 0) - (cnt ps + if p.dv = true then 1 else 0)).toNat = 0 := by omega
    rw [e, ends_zero, List.append_nil]
    simp only [bodyF, List.append_nil, List.append_assoc, hd]
    rfl
/-- The last run, by a line more. -/
theorem more_line {ps : List Prt} {p : Prt} (s : Txt) (hr : rightP (ps ++ [p]) = true) (hd : p.depth = cnt (ps ++ [p])) (hdv : p.dv = false) (hs : lineOk p.depth s = true) :
    rightP (ps ++ [{ p with ls := p.ls ++ [s] }]) = true ∧ idxF 0 (ps ++ [{ p with ls := p.ls ++ [s] }]) = idxF 0 (ps ++ [p]) ∧ writeP (ps ++ [{ p with ls := p.ls ++ [s] }]) = writeP (ps ++ [p]) ++ [s] := by
  refine ⟨?_, ?_, ?_⟩
  · unfold rightP at hr ⊢
    rw [rightF_append, Bool.and_eq_true] at hr ⊢
    refine ⟨hr.1, ?_⟩
    have h2 := hr.2
    rw [rightF] at h2 ⊢
    simp only [Bool.and_eq_true] at h2 ⊢
    refine ⟨⟨⟨?_, ?_⟩, h2.1.2⟩, rfl⟩
    · have h3 := h2.1.1.1
      unfold rightPart at h3 ⊢
      rw [hdv] at h3
      simp only [hdv, Bool.false_eq_true, if_false, Bool.and_eq_true, List.all_append, List.all_cons, List.all_nil, Bool.and_true] at h3 ⊢
      exact ⟨⟨⟨by simp, h3.1.1.2⟩, h3.1.2⟩, h3.2, hs⟩
    · exact h2.1.1.2
  · rw [idxF_append, idxF_append]; rfl
  · rw [writeP_eq, writeP_eq]
    have h1 := bodyF_append ps [p] none
    have h1' : bodyF 0 (ps ++ [p]) = _ := h1
    have h2 := bodyF_append ps [{ p with ls := p.ls ++ [s] }] none
    have h2' : bodyF 0 (ps ++ [{ p with ls := p.ls ++ [s] }]) = _ := h2
    have hc : cnt (ps ++ [{ p with ls := p.ls ++ [s] }]) = cnt (ps ++ [p]) := by rw [cnt_append, cnt_append, cnt_cons, cnt_cons]
    rw [h1', h2', List.getLast?_concat, List.getLast?_concat, hc, ← hd]
    have hi : insOf (some p) = p.depth := by unfold insOf; simp [hdv]
    have hi2 : insOf (some { p with ls := p.ls ++ [s] }) = p.depth := by unfold insOf; simp [hdv]
    rw [hi, hi2, show (p.depth - p.depth).toNat = 0 from by omega, ends_zero]
    simp [bodyF, hdv]
theorem addLn_none {ps : List Prt} (d : Nat) (s : Txt) (h : ps.getLast? = none) : addLn ps d s = ps ++ [⟨d, false, [], false, [s]⟩] := by
  rw [List.getLast?_eq_none_iff] at h
  subst h; rfl
theorem addLn_new {ps : List Prt} {p : Prt} (d : Nat) (s : Txt) (h : ps.getLast? = some p) (hp : p.dv = true ∨ p.depth ≠ d) : addLn ps d s = ps ++ [⟨d, false, [], false, [s]⟩] := by
  unfold addLn
  rw [h]
  dsimp only
  rw [if_pos hp]
theorem addLn_same {ps : List Prt} {p : Prt} (d : Nat) (s : Txt) (h1 : p.dv = false) (h2 : p.depth = d) : addLn (ps ++ [p]) d s = ps ++ [{ p with ls := p.ls ++ [s] }] := by
  unfold addLn
  rw [List.getLast?_concat]
  dsimp only
  rw [if_neg (by simp [h1, h2]), List.dropLast_concat]
theorem step_ok {st : List Prt × List Nat} {w : List Txt} {s : Txt} (h : POk st w) (hs : lfFree s = true) : POk (stepP st s) (w ++ [normLn st.2 s]) := by
  obtain ⟨ps, op⟩ := st
  obtain ⟨hr, hi, hw⟩ := h
  simp only at hr hi hw
  have hl : op.length = cnt ps := by rw [hi, idxF_length]
  have hins := right_ins hr
  unfold stepP normLn
  cases ho : opensL s with
  | some lab =>
    dsimp only
    have hlab := (opens_some ho).1
    obtain ⟨a, b⟩ := more_part (ps := ps) ⟨op.length, true, lab, true, []⟩ hr (by simp [rightPart, hlab, lf_of_open ho hs]) (by simp [hl]) (by
      unfold rightDepth
      cases hg : ps.getLast? with
      | none => rw [List.getLast?_eq_none_iff] at hg; subst hg; simp [hl, cnt]
      | some q =>
        rw [hg] at hins
        simp only [insOf] at hins
        simp only [most, Bool.and_eq_true, decide_eq_true_eq]
        rw [hl]
        refine ⟨by omega, ?_⟩
        simpa using hins) rfl
    refine ⟨a, ?_, ?_⟩
    · rw [idxF_append, hi]; simp [idxF]
    · rw [b, hw]; simp
  | none =>
    dsimp only
    by_cases hc : op ≠ [] ∧ closesL s = true
    · rw [if_pos hc, if_pos hc]
      have h0 : cnt ps ≠ 0 := by rw [← hl]; intro e; exact hc.1 (List.eq_nil_of_length_eq_zero e)
      obtain ⟨a, D, b, e, hD, hb⟩ := last_open ps h0
      have ei : idxF 0 (a ++ D :: b) = idxF 0 a ++ [a.length] := by
        rw [idxF_append, idxF, if_pos hD, idxF_none _ _ hb, Nat.zero_add]
      subst e
      rw [ei] at hi
      rw [hi, List.getLast?_concat, List.dropLast_concat]
      simp only [Option.getD_some]
      rw [shut_at]
      have hr2 := hr
      unfold rightP at hr2
      rw [rightF_append, Bool.and_eq_true, lastOr_none, Nat.zero_add, rightF, hD] at hr2
      simp only [Bool.and_eq_true, Bool.not_eq_true', Bool.or_eq_false_iff, decide_eq_false_iff_not, Bool.true_and, if_true] at hr2
      refine ⟨?_, ?_, ?_⟩
      · show rightF _ _ _ = true
        rw [rightF_append, Bool.and_eq_true, lastOr_none, Nat.zero_add]
        refine ⟨hr2.1, ?_⟩
        rw [rightF, rightF_last]
        simp only [Bool.and_eq_true, Bool.not_eq_true', Bool.or_eq_false_iff, decide_eq_false_iff_not, Bool.false_and, Bool.false_eq_true, if_false]
        refine ⟨⟨⟨?_, hr2.2.1.1.2⟩, hr2.2.1.2.1, trivial⟩, rightF_less b _ _ hb hr2.2.2⟩
        have h3 := hr2.2.1.1.1
        unfold rightPart at h3 ⊢
        cases hdv : D.dv
        · rw [hdv, hD] at h3; simp at h3
        · rw [hdv] at h3; simpa [hdv] using h3
      · rw [idxF_append, idxF, idxF_none _ _ hb]; simp
      · rw [writeP_eq] at hw ⊢
        have q1 := bodyF_append a (D :: b) none
        have q1' : bodyF 0 (a ++ D :: b) = _ := q1
        have q2 := bodyF_append a ({ D with opn := false } :: b) none
        have q2' : bodyF 0 (a ++ { D with opn := false } :: b) = _ := q2
        rw [insOf_last, q2', bodyF_opn, ← q1']
        have c1 : cnt (a ++ D :: b) = cnt (a ++ { D with opn := false } :: b) + 1 := by
          rw [cnt_append, cnt_append, cnt_cons, cnt_cons, hD]; simp; omega
        rw [c1] at hw hins
        rw [show (insOf (a ++ D :: b).getLast? - (cnt (a ++ { D with opn := false } :: b) : Nat)).toNat = (insOf (a ++ D :: b).getLast? - ((cnt (a ++ { D with opn := false } :: b) + 1 : Nat))).toNat + 1 from by omega, ends_succ, ← List.append_assoc, hw]
    · rw [if_neg hc, if_neg hc]
      have hln : lineOk (op.length : Int) s = true := by
        unfold lineOk
        rw [ho, hs]
        simp only [Option.isNone_none, Bool.true_and, Bool.and_true, Bool.not_eq_true', Bool.and_eq_false_imp, decide_eq_true_eq]
        intro h1
        by_cases h2 : closesL s = true
        · exact absurd ⟨fun e => by rw [e] at h1; simp at h1, h2⟩ hc
        · simpa using h2
      have new : rightDepth ⟨op.length, false, [], false, [s]⟩ ps.getLast? = true → POk (ps ++ [⟨op.length, false, [], false, [s]⟩], op) (w ++ [s]) := by
        intro hdp
        obtain ⟨a, b⟩ := more_part (ps := ps) ⟨op.length, false, [], false, [s]⟩ hr (by simp [rightPart, hln]) (by simp [hl]) hdp rfl
        refine ⟨a, ?_, ?_⟩
        · rw [idxF_append, hi]; simp [idxF]
        · rw [b, hw]; simp
      cases hg : ps.getLast? with
      | none =>
        rw [addLn_none _ _ hg]
        refine new ?_
        rw [hg]
        rw [List.getLast?_eq_none_iff] at hg
        subst hg
        simp [rightDepth, hl, cnt]
      | some p =>
        by_cases hp : p.dv = true ∨ p.depth ≠ op.length
        · rw [addLn_new _ _ hg hp]
          refine new ?_
          rw [hg] at hins ⊢
          unfold insOf at hins
          simp only [rightDepth, most, Bool.and_eq_true, decide_eq_true_eq]
          simp only at hins
          refine ⟨by omega, ?_⟩
          rw [hl] at hp ⊢
          cases hd : p.dv
          · rw [hd] at hins hp
            simp at hins hp ⊢
            omega
          · rw [hd] at hins
            simp at hins ⊢
            omega
        · obtain ⟨ys, rfl⟩ := List.getLast?_eq_some_iff.1 hg
          have hp1 : p.dv = false := by cases h : p.dv <;> simp [h] at hp ⊢
          have hp2 : p.depth = op.length := by
            by_cases e : p.depth = op.length
            · exact e
            · exact absurd (Or.inr e) hp
          rw [addLn_same _ _ hp1 hp2]
          obtain ⟨a, b, c⟩ := more_line (ps := ys) (p := p) s hr (by rw [hp2, hl]) hp1 (by rw [hp2]; exact hln)
          exact ⟨a, by rw [b, hi], by rw [c, hw]⟩

/-- The lines as they come back. -/
def normF (st : List Prt × List Nat) : List Txt → List Txt
  | [] => []
  | s :: l => normLn st.2 s :: normF (stepP st s) l
theorem parse_ok : ∀ (l : List Txt) (st : List Prt × List Nat) (w : List Txt), POk st w → (∀ s ∈ l, lfFree s = true) → POk (parseF st l) (w ++ normF st l)
  | [], st, w, h, _ => by simpa [parseF, normF] using h
  | s :: l, st, w, h, hs => by
    have h1 := parse_ok l (stepP st s) _ (step_ok h (hs s (by simp))) (fun x hx => hs x (by simp [hx]))
    rw [normF, show w ++ (normLn st.2 s :: normF (stepP st s) l) = w ++ [normLn st.2 s] ++ normF (stepP st s) l from by simp]
    exact h1
theorem parse_right (l : List Txt) (hs : ∀ s ∈ l, lfFree s = true) : rightP (parseL l) = true ∧ writeP (parseL l) = normF ([], []) l := by
  have := parse_ok l ([], []) [] ⟨rfl, rfl, rfl⟩ hs
  exact ⟨this.right, by have h := this.lines; rw [List.nil_append] at h; exact h⟩
theorem normF_get : ∀ (l : List Txt) (st : List Prt × List Nat), (normF st l).length = l.length ∧ ∀ (i : Nat) (x y : Txt), l[i]? = some x → (normF st l)[i]? = some y → ∃ k, x = y ++ List.replicate k 32
  | [], st => ⟨rfl, by simp⟩
  | s :: l, st => by
    obtain ⟨a, b⟩ := normF_get l (stepP st s)
    refine ⟨by simp [normF, a], fun i x y hx hy => ?_⟩
    cases i with
    | zero =>
      simp [normF] at hx hy
      subst hx hy
      exact normLn_blanks _ _
    | succ i =>
      simp [normF] at hx hy
      exact b i x y hx hy

end Go.Proofs.YtkcmhdkhdjmjeaaGreatDoor

namespace Go.Proofs.YtkcmhdkhdjmjeaaGreatDoor
set_option linter.unusedSimpArgs false
set_option linter.unusedVariables false

/-! ### Depths -/
theorem rightF_at : ∀ (ps : List Prt) (last : Option Prt) (o : Nat), rightF last o ps = true → ∀ (i : Nat) (p : Prt), ps[i]? = some p → rightPart p = true ∧ rightDepth p (if i = 0 then last else ps[i - 1]?) = true
  | [], _, _, _, i, p, h => by simp at h
  | q :: ps, last, o, hr, i, p, h => by
    rw [rightF] at hr
    simp only [Bool.and_eq_true] at hr
    cases i with
    | zero =>
      simp at h
      subst h
      exact ⟨hr.1.1.1, by simpa using hr.1.1.2⟩
    | succ i =>
      have := rightF_at ps (some q) _ hr.2 i p (by simpa using h)
      refine ⟨this.1, ?_⟩
      have h2 := this.2
      cases i with
      | zero => simpa using h2
      | succ i => simpa using h2
theorem depth_le {ps : List Prt} (h : rightP ps = true) : ∀ (i : Nat) (p : Prt), ps[i]? = some p → 0 ≤ p.depth ∧ p.depth ≤ i
  | 0, p, hp => by
    have := (rightF_at ps none 0 h 0 p hp).2
    simp [rightDepth] at this
    omega
  | i + 1, p, hp => by
    have h1 := (rightF_at ps none 0 h (i + 1) p hp).2
    have hl : i < ps.length := by have := (List.getElem?_eq_some_iff.1 hp).1; omega
    have ih := depth_le h i ps[i] (List.getElem?_eq_getElem hl)
    rw [if_neg (by omega), Nat.add_sub_cancel, List.getElem?_eq_getElem hl] at h1
    simp only [rightDepth, Bool.and_eq_true, decide_eq_true_eq] at h1
    refine ⟨h1.1, ?_⟩
    have h2 : p.depth ≤ if ps[i].dv then ps[i].depth + 1 else if p.dv then ps[i].depth else ps[i].depth - 1 := h1.2
    split at h2
    · omega
    · split at h2 <;> omega
def numP (p : Prt) : Nat := p.ls.length + if p.dv then (if p.opn then 1 else 2) else 0
def numOf (ps : List Prt) : Nat := (ps.map numP).sum
theorem numOf_append (a b : List Prt) : numOf (a ++ b) = numOf a + numOf b := by simp [numOf]
theorem num_step {st : List Prt × List Nat} {w : List Txt} {s : Txt} (h : POk st w) : numOf (stepP st s).1 = numOf st.1 + 1 := by
  obtain ⟨ps, op⟩ := st
  obtain ⟨hr, hi, hw⟩ := h
  simp only at hr hi hw
  have hl : op.length = cnt ps := by rw [hi, idxF_length]
  unfold stepP
  cases ho : opensL s with
  | some lab =>
    dsimp only
    rw [numOf_append]
    rfl
  | none =>
    dsimp only
    by_cases hc : op ≠ [] ∧ closesL s = true
    · rw [if_pos hc]
      have h0 : cnt ps ≠ 0 := by rw [← hl]; intro e; exact hc.1 (List.eq_nil_of_length_eq_zero e)
      obtain ⟨a, D, b, e, hD, hb⟩ := last_open ps h0
      have ei : idxF 0 (a ++ D :: b) = idxF 0 a ++ [a.length] := by
        rw [idxF_append, idxF, if_pos hD, idxF_none _ _ hb, Nat.zero_add]
      subst e
      rw [ei] at hi
      rw [hi, List.getLast?_concat]
      simp only [Option.getD_some]
      rw [shut_at, numOf_append, numOf_append]
      have hdv : D.dv = true := by
        have := (rightF_at _ none 0 hr a.length D (by simp)).1
        unfold rightPart at this
        cases h : D.dv with
        | true => rfl
        | false => rw [h, hD] at this; simp at this
      simp [numOf, numP, hD, hdv]
      omega
    · rw [if_neg hc]
      cases hg : ps.getLast? with
      | none => rw [addLn_none _ _ hg, numOf_append]; rfl
      | some p =>
        by_cases hp : p.dv = true ∨ p.depth ≠ op.length
        · rw [addLn_new _ _ hg hp, numOf_append]; rfl
        · obtain ⟨ys, rfl⟩ := List.getLast?_eq_some_iff.1 hg
          have hp1 : p.dv = false := by cases h : p.dv <;> simp [h] at hp ⊢
          have hp2 : p.depth = op.length := by
            by_cases e : p.depth = op.length
            · exact e
            · exact absurd (Or.inr e) hp
          rw [addLn_same _ _ hp1 hp2, numOf_append, numOf_append]
          simp [numOf, numP, hp1]
          omega
theorem num_parse : ∀ (l : List Txt) (st : List Prt × List Nat) (w : List Txt), POk st w → (∀ s ∈ l, lfFree s = true) → numOf (parseF st l).1 = numOf st.1 + l.length
  | [], st, w, h, _ => rfl
  | s :: l, st, w, h, hs => by
    have h1 := num_parse l (stepP st s) _ (step_ok h (hs s (by simp))) (fun x hx => hs x (by simp [hx]))
    rw [show parseF st (s :: l) = parseF (stepP st s) l from rfl, h1, num_step h, List.length_cons]
    omega
theorem num_all (l : List Txt) (hs : ∀ s ∈ l, lfFree s = true) : numOf (parseL l) = l.length := by
  have := num_parse l ([], []) [] ⟨rfl, rfl, rfl⟩ hs
  rw [show numOf (([], []) : List Prt × List Nat).1 = 0 from rfl, Nat.zero_add] at this
  exact this
theorem num_take (ps : List Prt) (k : Nat) (hk : k < ps.length) : numOf (ps.take (k + 1)) = numOf (ps.take k) + numP ps[k] := by
  rw [List.take_succ_eq_append_getElem hk, numOf_append]; simp [numOf]
theorem num_le (ps : List Prt) (k : Nat) : numOf (ps.take k) ≤ numOf ps := by
  have := congrArg numOf (List.take_append_drop k ps)
  rw [numOf_append] at this
  omega
end Go.Proofs.YtkcmhdkhdjmjeaaGreatDoor

namespace Go.Proofs.YtkcmhdkhdjmjeaaGreatDoor
set_option linter.unusedSimpArgs false
set_option linter.unusedVariables false

/-- Behind the lines of the parts q, o of which are open: where one reads on. -/
structure TOk (q : List Prt) (o : Nat) (st : List Prt × List Nat) : Prop where
  lt : ∀ j ∈ st.2, j < q.length
  nodup : st.2.Nodup
  parts : ∀ j, st.1[j]? = (q[j]?).map fun x : Prt => { x with opn := decide (j ∈ st.2) }
  opn : ∀ j x, q[j]? = some x → x.opn = decide (j ∈ st.2.take o)
  le : o ≤ st.2.length

theorem TOk.length {q : List Prt} {o : Nat} {st : List Prt × List Nat} (h : TOk q o st) : st.1.length = q.length := by
  have h1 := h.parts st.1.length
  have h2 := h.parts q.length
  rw [List.getElem?_eq_none (Nat.le_refl _)] at h1
  rw [List.getElem?_eq_none (l := q) (Nat.le_refl _)] at h2
  have h3 : q.length ≤ st.1.length := by
    cases e : q[st.1.length]? with
    | none => exact List.getElem?_eq_none_iff.1 e
    | some x => rw [e] at h1; simp at h1
  have h4 : st.1.length ≤ q.length := List.getElem?_eq_none_iff.1 h2
  omega
theorem TOk.done {q : List Prt} {o : Nat} {st : List Prt × List Nat} (h : TOk q o st) (he : st.2.length = o) : st.1 = q := by
  apply List.ext_getElem?
  intro j
  rw [h.parts j]
  cases e : q[j]? with
  | none => rfl
  | some x =>
    have := h.opn j x e
    rw [← he, List.take_length] at this
    simp only [Option.map_some]
    rw [← this]
theorem mem_dropLast {l : List Nat} (hne : l ≠ []) (hn : l.Nodup) (j : Nat) : (j ∈ l.dropLast) ↔ (j ∈ l ∧ j ≠ l.getLast hne) := by
  have e := List.dropLast_concat_getLast hne
  have hn2 := hn
  rw [← e, List.nodup_append] at hn2
  constructor
  · intro h
    refine ⟨List.dropLast_subset _ h, fun e1 => ?_⟩
    exact hn2.2.2 j h (l.getLast hne) (by simp) e1
  · rintro ⟨h, hj⟩
    rw [← e, List.mem_append, List.mem_singleton] at h
    rcases h with h | h
    · exact h
    · exact absurd h hj
theorem TOk.close {q : List Prt} {o : Nat} {st : List Prt × List Nat} (h : TOk q o st) (ho : o < st.2.length) : TOk q o (stepP st divE) ∧ (stepP st divE).2.length = st.2.length - 1 := by
  obtain ⟨ps, op⟩ := st
  obtain ⟨h1, h2, h3, h4, h5⟩ := h
  simp only at h1 h2 h3 h4 h5 ho
  have hne : op ≠ [] := by intro e; rw [e] at ho; simp at ho
  have hs : stepP (ps, op) divE = (shut ps (op.getLast?.getD 0), op.dropLast) := by
    unfold stepP
    rw [opens_divE]
    dsimp only
    rw [if_pos ⟨hne, closes_divE⟩]
  rw [hs]
  have hl : op.getLast?.getD 0 = op.getLast hne := by rw [List.getLast?_eq_some_getLast hne]; rfl
  rw [hl]
  refine ⟨⟨fun j hj => h1 j (List.dropLast_subset _ hj), h2.sublist (List.dropLast_sublist _), fun j => ?_, fun j x hx => ?_, ?_⟩, ?_⟩
  · show (shut ps (op.getLast hne))[j]? = _
    unfold shut
    rw [List.getElem?_modify, h3 j]
    cases e : q[j]? with
    | none => simp
    | some x =>
      have hm := mem_dropLast hne h2 j
      by_cases ej : op.getLast hne = j
      · have hf : ¬ j ∈ op.dropLast := fun hh => (hm.1 hh).2 ej.symm
        simp [ej, hf]
      · have hf : (j ∈ op.dropLast) ↔ j ∈ op := ⟨fun hh => (hm.1 hh).1, fun hh => hm.2 ⟨hh, fun e => ej e.symm⟩⟩
        simp [ej, hf]
  · show x.opn = decide (j ∈ op.dropLast.take o)
    rw [h4 j x hx, List.dropLast_eq_take, List.take_take, Nat.min_eq_left (by omega)]
  · show o ≤ op.dropLast.length
    rw [List.length_dropLast]; omega
  · show op.dropLast.length = _
    rw [List.length_dropLast]
theorem TOk.closes {q : List Prt} {o : Nat} : ∀ (n : Nat) {st : List Prt × List Nat}, TOk q o st → o + n ≤ st.2.length → TOk q o (parseF st (ends n)) ∧ (parseF st (ends n)).2.length = st.2.length - n
  | 0, st, h, _ => ⟨h, rfl⟩
  | n + 1, st, h, hn => by
    obtain ⟨a, b⟩ := h.close (by omega)
    obtain ⟨c, d⟩ := TOk.closes n a (by omega)
    have e : parseF st (ends (n + 1)) = parseF (stepP st divE) (ends n) := rfl
    rw [e]
    exact ⟨c, by rw [d, b]; omega⟩
theorem TOk.last {q : List Prt} {o : Nat} {st : List Prt × List Nat} (h : TOk q o st) {p : Prt} (hp : st.1.getLast? = some p) : ∃ p', q.getLast? = some p' ∧ p.dv = p'.dv ∧ p.depth = p'.depth := by
  have hl := h.length
  rw [List.getLast?_eq_getElem?, h.parts, hl] at hp
  rw [List.getLast?_eq_getElem?]
  cases e : q[q.length - 1]? with
  | none => rw [e] at hp; simp at hp
  | some x => rw [e] at hp; simp at hp; exact ⟨x, rfl, by rw [← hp], by rw [← hp]⟩
/-- A part more. -/
theorem TOk.snoc {q : List Prt} {o : Nat} {st : List Prt × List Nat} (h : TOk q o st) (P : Prt) (hd : P.dv = true) (ho : P.opn = true → st.2.length = o) :
    TOk (q ++ [P]) (if P.opn then o + 1 else o) (st.1 ++ [{ P with opn := true }], st.2 ++ [st.1.length]) := by
  have hl := h.length
  obtain ⟨ps, op⟩ := st
  obtain ⟨h1, h2, h3, h4, h5⟩ := h
  simp only at h1 h2 h3 h4 h5 hl ho
  rw [hl]
  have hq : q.length ∉ op := fun hh => Nat.lt_irrefl _ (h1 _ hh)
  have htk : (op ++ [q.length]).take (if P.opn then o + 1 else o) = op.take o ++ (if P.opn then [q.length] else []) := by
    cases hP : P.opn
    · simp only [Bool.false_eq_true, if_false, List.append_nil]
      rw [List.take_append_of_le_length h5]
    · simp only [if_true]
      rw [← ho hP, List.take_length, List.take_of_length_le (by simp)]
  refine ⟨fun j hj => ?_, ?_, fun j => ?_, fun j x hx => ?_, ?_⟩
  · rw [List.mem_append, List.mem_singleton] at hj
    rw [List.length_append]
    rcases hj with hj | hj
    · have := h1 j hj; simp; omega
    · simp; omega
  · rw [List.nodup_append]
    refine ⟨h2, by simp, fun a ha b hb => ?_⟩
    rw [List.mem_singleton] at hb
    subst hb
    intro e; subst e; exact hq ha
  · show (ps ++ _)[j]? = _
    by_cases hj : j < q.length
    · rw [List.getElem?_append_left (by omega), List.getElem?_append_left hj, h3 j]
      have : (j ∈ op ++ [q.length]) ↔ j ∈ op := by simp; omega
      simp [this]
    · rw [List.getElem?_append_right (by omega), List.getElem?_append_right (by omega), hl]
      by_cases e : j = q.length
      · subst e; simp
      · rw [List.getElem?_eq_none (by simp; omega), List.getElem?_eq_none (by simp; omega)]; rfl
  · show x.opn = decide (j ∈ (op ++ [q.length]).take _)
    rw [htk]
    by_cases hj : j < q.length
    · rw [List.getElem?_append_left hj] at hx
      rw [h4 j x hx]
      have : j ∉ (if P.opn = true then [q.length] else []) := by split <;> simp; omega
      simp [this]
    · rw [List.getElem?_append_right (by omega)] at hx
      by_cases e : j = q.length
      · subst e
        simp at hx
        subst hx
        have hn : q.length ∉ op.take o := fun hh => hq (List.mem_of_mem_take hh)
        cases hP : P.opn <;> simp [hn]
      · rw [List.getElem?_eq_none (by simp; omega)] at hx; cases hx
  · show _ ≤ (op ++ [q.length]).length
    rw [List.length_append]
    split <;> simp <;> omega
theorem TOk.run {q : List Prt} {o : Nat} {st : List Prt × List Nat} (h : TOk q o st) (P : Prt) (hd : P.opn = false) : TOk (q ++ [P]) o (st.1 ++ [P], st.2) := by
  have hl := h.length
  obtain ⟨ps, op⟩ := st
  obtain ⟨h1, h2, h3, h4, h5⟩ := h
  simp only at h1 h2 h3 h4 h5 hl
  have hq : q.length ∉ op := fun hh => Nat.lt_irrefl _ (h1 _ hh)
  refine ⟨fun j hj => ?_, h2, fun j => ?_, fun j x hx => ?_, h5⟩
  · have := h1 j hj
    rw [List.length_append]; simp; omega
  · show (ps ++ _)[j]? = _
    by_cases hj : j < q.length
    · rw [List.getElem?_append_left (by omega), List.getElem?_append_left hj, h3 j]
    · rw [List.getElem?_append_right (by omega), List.getElem?_append_right (by omega), hl]
      by_cases e : j = q.length
      · subst e
        simp [hq]
        obtain ⟨a, b, c, d, e⟩ := P
        simp only at hd
        rw [hd]
      · have e2 : ([P] : List Prt)[j - q.length]? = none := List.getElem?_eq_none (by simp; omega)
        rw [e2]; rfl
  · by_cases hj : j < q.length
    · rw [List.getElem?_append_left hj] at hx
      exact h4 j x hx
    · rw [List.getElem?_append_right (by omega)] at hx
      by_cases e : j = q.length
      · subst e
        simp at hx
        subst hx
        have hn : q.length ∉ op.take o := fun hh => hq (List.mem_of_mem_take hh)
        rw [hd]; simp [hn]
      · rw [List.getElem?_eq_none (by simp; omega)] at hx; cases hx

theorem step_line {ps : List Prt} {op : List Nat} {s : Txt} (h : lineOk op.length s = true) : stepP (ps, op) s = (addLn ps op.length s, op) := by
  unfold lineOk at h
  simp only [Bool.and_eq_true, Option.isNone_iff_eq_none, Bool.not_eq_true', Bool.and_eq_false_imp, decide_eq_true_eq] at h
  unfold stepP
  rw [h.1.1]
  dsimp only
  rw [if_neg]
  rintro ⟨a, b⟩
  have : 0 < op.length := List.length_pos_iff.2 a
  rw [h.1.2 (by omega)] at b
  cases b
theorem lines_more : ∀ (ls : List Txt) (ps : List Prt) (op : List Nat) (acc : List Txt), ls.all (lineOk op.length) = true →
    parseF (ps ++ [⟨op.length, false, [], false, acc⟩], op) ls = (ps ++ [⟨op.length, false, [], false, acc ++ ls⟩], op)
  | [], ps, op, acc, _ => by simp [parseF]
  | s :: ls, ps, op, acc, h => by
    simp only [List.all_cons, Bool.and_eq_true] at h
    have e : parseF (ps ++ [⟨op.length, false, [], false, acc⟩], op) (s :: ls) = parseF (stepP (ps ++ [⟨op.length, false, [], false, acc⟩], op) s) ls := rfl
    rw [e, step_line h.1, addLn_same _ _ rfl rfl]
    have := lines_more ls ps op (acc ++ [s]) h.2
    rw [List.append_assoc] at this
    exact this

theorem turns : ∀ (rest q : List Prt) (o : Nat) (st : List Prt × List Nat), TOk q o st → rightF q.getLast? o rest = true → (st.2.length : Int) = insOf q.getLast? →
    (parseF st (writeF (st.2.length : Int) o rest)).1 = q ++ rest
  | [], q, o, st, h, _, _ => by
    rw [writeF, show ((st.2.length : Int) - o).toNat = st.2.length - o from by omega]
    have hle := h.le
    obtain ⟨a, b⟩ := h.closes (st.2.length - o) (by omega)
    rw [a.done (by omega)]; simp
  | P :: rest, q, o, st, h, hr, hi => by
    rw [rightF] at hr
    simp only [Bool.and_eq_true, Bool.not_eq_true', Bool.or_eq_false_iff, decide_eq_false_iff_not, Bool.and_eq_false_imp] at hr
    obtain ⟨⟨⟨h1, h2⟩, h3, h4⟩, h5⟩ := hr
    have hdep : 0 ≤ P.depth ∧ P.depth ≤ st.2.length ∧ (P.dv = false → ∀ p, q.getLast? = some p → p.dv = true ∨ p.depth ≠ P.depth) := by
      unfold rightDepth at h2
      cases hg : q.getLast? with
      | none =>
        rw [hg] at h2
        simp at h2
        exact ⟨by omega, by omega, by simp⟩
      | some p =>
        rw [hg] at h2 hi
        unfold insOf at hi
        simp only [Bool.and_eq_true, decide_eq_true_eq] at h2 hi
        have h22 : P.depth ≤ if p.dv then p.depth + 1 else if P.dv then p.depth else p.depth - 1 := h2.2
        refine ⟨h2.1, ?_, fun hd p' hp' => ?_⟩
        · rw [hi]
          cases hpd : p.dv <;> cases hPd : P.dv <;> simp [hpd, hPd] at h22 ⊢ <;> omega
        · cases hp'
          cases hpd : p.dv
          · simp [hpd, hd] at h22
            right; omega
          · left; rfl
    obtain ⟨d0, d1, d2⟩ := hdep
    rw [writeF, show ((st.2.length : Int) - P.depth).toNat = st.2.length - P.depth.toNat from by omega, List.append_assoc, List.append_assoc, parseF_append]
    have hle := h.le
    obtain ⟨a, b⟩ := h.closes (st.2.length - P.depth.toNat) (by omega)
    generalize hst1 : parseF st (ends (st.2.length - P.depth.toNat)) = st1 at *
    have hlen : (st1.2.length : Int) = P.depth := by rw [b]; omega
    clear hst1 b h
    rw [parseF_append]
    unfold rightPart at h1
    cases hd : P.dv with
    | true =>
      rw [hd] at h1
      simp only [if_true, Bool.and_eq_true, List.isEmpty_iff] at h1
      obtain ⟨⟨l1, l2⟩, l3⟩ := h1
      have e : parseF st1 [divLine P.lab] = (st1.1 ++ [{ P with opn := true }], st1.2 ++ [st1.1.length]) := by
        rw [parseF_one]
        unfold stepP
        rw [opens_divLine _ l2]
        dsimp only
        rw [hlen]
        obtain ⟨p1, p2, p3, p4, p5⟩ := P
        simp only at hd l1
        subst hd l1
        rfl
      simp only [if_true]
      rw [e, show P.ls ++ writeF (P.depth + 1) (if P.opn = true then o + 1 else o) rest = writeF (P.depth + 1) (if P.opn = true then o + 1 else o) rest from by rw [l1]; rfl]
      have hn := a.snoc P hd (fun ho => by have := h4 ho; omega)
      have ih := turns rest (q ++ [P]) (if P.opn then o + 1 else o) _ hn (by rw [List.getLast?_concat]; exact h5) (by
        rw [List.getLast?_concat]
        show ((st1.2 ++ [st1.1.length]).length : Int) = _
        unfold insOf
        rw [List.length_append]
        simp [hd, hlen])
      rw [show (((st1.1 ++ [{ P with opn := true }], st1.2 ++ [st1.1.length]) : List Prt × List Nat).2.length : Int) = P.depth + 1 from by
        show ((st1.2 ++ [st1.1.length]).length : Int) = _
        rw [List.length_append]; simp [hlen]] at ih
      rw [ih]; simp
    | false =>
      rw [hd] at h1
      simp only [Bool.false_eq_true, if_false, Bool.and_eq_true, List.isEmpty_iff, Bool.not_eq_true'] at h1
      obtain ⟨⟨⟨l1, l2⟩, l3⟩, l4⟩ := h1
      simp only [Bool.false_eq_true, if_false]
      have e0 : parseF st1 [] = st1 := rfl
      rw [e0, parseF_append]
      rw [← hlen] at l4
      match hls : P.ls with
      | [] => rw [hls] at l1; simp at l1
      | s :: ls =>
        rw [hls] at l4
        have l5 := l4
        simp only [List.all_cons, Bool.and_eq_true] at l5
        have e : parseF st1 (s :: ls) = (st1.1 ++ [P], st1.2) := by
          have e1 : parseF st1 (s :: ls) = parseF (stepP (st1.1, st1.2) s) ls := rfl
          have e2 : addLn st1.1 st1.2.length s = st1.1 ++ [⟨st1.2.length, false, [], false, [s]⟩] := by
            cases hg : st1.1.getLast? with
            | none => exact addLn_none _ _ hg
            | some p =>
              refine addLn_new _ _ hg ?_
              obtain ⟨p', x1, x2, x3⟩ := a.last hg
              rw [x2, x3, hlen]
              exact d2 hd p' x1
          rw [e1, step_line l5.1, e2, lines_more ls st1.1 st1.2 [s] l5.2]
          obtain ⟨p1, p2, p3, p4, p5⟩ := P
          simp only at hd l1 l2 l3 hls hlen
          subst hd l2 l3 hls
          rw [hlen]; rfl
        rw [e]
        have hn := a.run P l3
        rw [l3] at h5 ⊢
        simp only [Bool.false_eq_true, if_false] at h5 ⊢
        have ih := turns rest (q ++ [P]) o _ hn (by rw [List.getLast?_concat]; exact h5) (by
          rw [List.getLast?_concat]
          show (st1.2.length : Int) = _
          unfold insOf
          simp [hd, hlen])
        rw [show (((st1.1 ++ [P], st1.2) : List Prt × List Nat).2.length : Int) = P.depth from hlen] at ih
        rw [ih]; simp
theorem parse_write (p : List Prt) (h : rightP p = true) : parseL (writeP p) = p := by
  have := turns p [] 0 ([], []) ⟨by simp, by simp, by simp, by simp, by simp⟩ h rfl
  exact this

end Go.Proofs.YtkcmhdkhdjmjeaaGreatDoor

namespace Go.Proofs.YtkcmhdkhdjmjeaaGreatDoor
set_option linter.unusedSimpArgs false
set_option linter.unusedVariables false

structure Pc where
  sp : Bool
  lab : Txt
  txt : Txt
deriving DecidableEq, Inhabited

def spB : Txt := [123, 124]
def spE : Txt := [124, 125]
def spanTxt (lab txt : Txt) : Txt := spB ++ lab ++ [58] ++ txt ++ spE
def pcTxt (p : Pc) : Txt := if p.sp then spanTxt p.lab p.txt else p.txt
def unspanL (ps : List Pc) : Txt := ps.flatMap pcTxt
def addT (ps : List Pc) (t : Txt) : List Pc := if t = [] then ps else ps ++ [⟨false, [], t⟩]
theorem addT_app (a b : List Pc) (t : Txt) : addT (a ++ b) t = a ++ addT b t := by unfold addT; split <;> simp

def spanAtL (l : Txt) : Option (Txt × Txt) :=
  if spB.isPrefixOf l then
    if labOk (labSize (l.drop 2)) && List.isPrefixOf [58] ((l.drop 2).drop (labSize (l.drop 2))) then
      if (Lib.cut ((l.drop 2).drop (labSize (l.drop 2) + 1)) spE).2.2 then some ((l.drop 2).take (labSize (l.drop 2)), (Lib.cut ((l.drop 2).drop (labSize (l.drop 2) + 1)) spE).1) else none
    else none
  else none
/-- What the cut finds. -/
theorem cut_some {l sep : Txt} (h : (Lib.cut l sep).2.2 = true) : ∃ rest, l = (Lib.cut l sep).1 ++ sep ++ rest := by
  unfold Lib.cut at h ⊢
  split at h
  · rename_i h0
    rw [if_pos h0]
    rcases Lib.index_spec l sep with ⟨h1, _⟩ | ⟨i, h1, h2, h3, _⟩
    · omega
    · refine ⟨l.drop (i + sep.length), ?_⟩
      rw [h1, Int.toNat_natCast]
      dsimp only
      unfold Lib.occAt at h3
      have h4 := prefix_of h3
      rw [List.drop_drop] at h4
      rw [List.append_assoc, ← h4, List.take_append_drop]
  · cases h
/-- A text in which the sign stands nowhere, and the sign behind it. -/
theorem cut_here {t rest : Txt} (h : ∀ b ∈ t, b ≠ 124) : Lib.cut (t ++ spE ++ rest) spE = (t, rest, true) := by
  have hi : Lib.index (t ++ spE ++ rest) spE = t.length := by
    apply Lib.index_first
    · simp
    · unfold Lib.occAt
      rw [List.append_assoc, List.drop_left]
      rw [List.isPrefixOf_iff_prefix]
      exact ⟨rest, rfl⟩
    · intro j hj
      cases ho : Lib.occAt (t ++ spE ++ rest) spE j with
      | false => rfl
      | true =>
        have := Lib.occAt_head (c := 124) (t := [125]) rfl ho
        rw [List.append_assoc, List.getElem?_append_left hj, List.getElem?_eq_getElem hj] at this
        exact absurd (Option.some.inj this) (h _ (List.getElem_mem hj))
  unfold Lib.cut
  rw [hi, if_pos (by omega), Int.toNat_natCast]
  have e1 : (t ++ spE ++ rest).take t.length = t := by rw [List.append_assoc, List.take_left]
  have e2 : (t ++ spE ++ rest).drop (t.length + spE.length) = rest := by
    rw [show t.length + spE.length = (t ++ spE).length from by simp, List.drop_left]
  rw [e1, e2]
theorem spanAt_some {l lab txt : Txt} (h : spanAtL l = some (lab, txt)) : ∃ rest, l = spanTxt lab txt ++ rest := by
  unfold spanAtL at h
  split at h
  · rename_i h1
    split at h
    · rename_i h2
      split at h
      · rename_i h3
        obtain ⟨rest, hr⟩ := cut_some h3
        cases h
        refine ⟨rest, ?_⟩
        rw [Bool.and_eq_true] at h2
        have e1 := prefix_of h1
        have e2 := prefix_of h2.2
        have e3 := List.take_append_drop (labSize (l.drop 2)) (l.drop 2)
        have e4 : spB.length = 2 := rfl
        rw [e4] at e1
        have e5 : ([58] : Txt).length = 1 := rfl
        rw [e5] at e2
        generalize Lib.cut ((l.drop 2).drop (labSize (l.drop 2) + 1)) spE = c at *
        rw [← List.drop_drop] at hr
        generalize (l.drop 2).drop (labSize (l.drop 2)) = q at *
        rw [hr] at e2
        rw [e2] at e3
        generalize (l.drop 2).take (labSize (l.drop 2)) = lb at *
        rw [← e3] at e1
        unfold spanTxt
        rw [e1]
        simp only [List.append_assoc]
      · cases h
    · cases h
  · cases h
theorem spanTxt_len (lab txt : Txt) : (spanTxt lab txt).length = lab.length + txt.length + 5 := by simp [spanTxt, spB, spE]; omega
theorem spanAt_no {b : UInt8} {l : Txt} (h : b ≠ 123) : spanAtL (b :: l) = none := by
  have : spB.isPrefixOf (b :: l) = false := by
    cases hp : spB.isPrefixOf (b :: l) with
    | false => rfl
    | true =>
      have := prefix_of hp
      simp [spB] at this
      exact absurd this.1 h
  unfold spanAtL
  rw [this]; rfl
/-- Without the sign of an end there is no span. -/
theorem spanAt_noEnd {l : Txt} (h : ∀ j, Lib.occAt l spE j = false) : spanAtL l = none := by
  cases hs : spanAtL l with
  | none => rfl
  | some p =>
    obtain ⟨lab, txt⟩ := p
    obtain ⟨rest, e⟩ := spanAt_some hs
    have := h (spB ++ lab ++ [58] ++ txt).length
    rw [e, show spanTxt lab txt ++ rest = (spB ++ lab ++ [58] ++ txt) ++ (spE ++ rest) from by simp [spanTxt]] at this
    unfold Lib.occAt at this
    rw [List.drop_left] at this
    exfalso
    have h2 : spE.isPrefixOf (spE ++ rest) = true := List.isPrefixOf_iff_prefix.2 ⟨rest, rfl⟩
    rw [h2] at this; cases this
/-- A label, and what stands behind it. -/
theorem spanAt_here {lab txt rest : Txt} (hl : isLab lab = true) (ht : ∀ b ∈ txt, b ≠ 124) : spanAtL (spanTxt lab txt ++ rest) = some (lab, txt) := by
  unfold isLab at hl
  rw [Bool.and_eq_true] at hl
  have e1 : spanTxt lab txt ++ rest = spB ++ (lab ++ 58 :: (txt ++ spE ++ rest)) := by simp [spanTxt]
  have e2 : (spB ++ (lab ++ 58 :: (txt ++ spE ++ rest))).drop 2 = lab ++ 58 :: (txt ++ spE ++ rest) := rfl
  have e3 : labSize (lab ++ 58 :: (txt ++ spE ++ rest)) = lab.length := by
    unfold labSize
    rw [List.takeWhile_append_of_pos (by simpa using hl.1), List.takeWhile_cons]
    simp [labSign]
  have e4 : (lab ++ 58 :: (txt ++ spE ++ rest)).drop lab.length = 58 :: (txt ++ spE ++ rest) := List.drop_left ..
  have e5 : (lab ++ 58 :: (txt ++ spE ++ rest)).drop (lab.length + 1) = txt ++ spE ++ rest := by
    rw [← List.drop_drop, e4]; rfl
  have e6 : (lab ++ 58 :: (txt ++ spE ++ rest)).take lab.length = lab := List.take_left ..
  unfold spanAtL
  rw [e1, e2, e3, e4, e5, e6, cut_here ht, hl.2]
  simp [spB]

/-! ### Spans -/
def spansF : Nat → Txt → Txt → List Pc
  | 0, cur, l => addT [] (cur ++ l)
  | _ + 1, cur, [] => addT [] cur
  | f + 1, cur, b :: l =>
    match spanAtL (b :: l) with
    | some (lab, txt) => addT [] cur ++ ⟨true, lab, txt⟩ :: spansF f [] ((b :: l).drop (lab.length + txt.length + 5))
    | none => spansF f (cur ++ [b]) l
def spansG (cur l : Txt) : List Pc := spansF l.length cur l
def spansL (l : Txt) : List Pc := spansG [] l
theorem spansF_more : ∀ (f g : Nat) (cur l : Txt), l.length ≤ f → l.length ≤ g → spansF f cur l = spansF g cur l
  | 0, 0, _, _, _, _ => rfl
  | 0, g + 1, cur, [], _, _ => by simp [spansF]
  | f + 1, 0, cur, [], _, _ => by simp [spansF]
  | f + 1, g + 1, cur, [], _, _ => rfl
  | f + 1, g + 1, cur, b :: l, hf, hg => by
    simp only [List.length_cons] at hf hg
    simp only [spansF]
    cases h : spanAtL (b :: l) with
    | none => exact spansF_more f g _ _ (by omega) (by omega)
    | some p =>
      obtain ⟨lab, txt⟩ := p
      dsimp only
      rw [spansF_more f g [] ((b :: l).drop (lab.length + txt.length + 5)) (by rw [List.length_drop, List.length_cons]; omega) (by rw [List.length_drop, List.length_cons]; omega)]
theorem spansG_nil (cur : Txt) : spansG cur [] = addT [] cur := by simp [spansG, spansF]
theorem spansG_none {cur l : Txt} {b : UInt8} (h : spanAtL (b :: l) = none) : spansG cur (b :: l) = spansG (cur ++ [b]) l := by
  unfold spansG
  rw [List.length_cons, spansF, h]
theorem spansG_some {cur l lab txt : Txt} (h : spanAtL l = some (lab, txt)) : spansG cur l = addT [] cur ++ ⟨true, lab, txt⟩ :: spansG [] (l.drop (lab.length + txt.length + 5)) := by
  obtain ⟨rest, e⟩ := spanAt_some h
  have hl : 5 ≤ l.length := by rw [e, List.length_append, spanTxt_len]; omega
  match l with
  | [] => simp at hl
  | b :: l =>
    unfold spansG
    rw [List.length_cons, spansF, h]
    dsimp only
    rw [spansF_more _ _ [] ((b :: l).drop (lab.length + txt.length + 5)) (by rw [List.length_drop, List.length_cons]; omega) (Nat.le_refl _)]
theorem spansG_noEnd : ∀ (l cur : Txt), (∀ j, Lib.occAt l spE j = false) → spansG cur l = addT [] (cur ++ l)
  | [], cur, _ => by rw [spansG_nil, List.append_nil]
  | b :: l, cur, h => by
    rw [spansG_none (spanAt_noEnd h), spansG_noEnd l (cur ++ [b]) (fun j => h (j + 1))]
    simp
theorem spansG_text : ∀ (t cur l : Txt), (∀ b ∈ t, b ≠ 123) → spansG cur (t ++ l) = spansG (cur ++ t) l
  | [], cur, l, _ => by simp
  | b :: t, cur, l, h => by
    rw [List.cons_append, spansG_none (spanAt_no (h b (by simp))), spansG_text t (cur ++ [b]) l (fun x hx => h x (by simp [hx]))]
    simp
theorem spansG_plain (t cur : Txt) (h : ∀ b ∈ t, b ≠ 123) : spansG cur t = addT [] (cur ++ t) := by
  have := spansG_text t cur [] h
  rw [List.append_nil] at this
  rw [this, spansG_nil]
theorem spansG_here {cur lab txt rest : Txt} (hl : isLab lab = true) (ht : ∀ b ∈ txt, b ≠ 124) : spansG cur (spanTxt lab txt ++ rest) = addT [] cur ++ ⟨true, lab, txt⟩ :: spansG [] rest := by
  rw [spansG_some (spanAt_here hl ht)]
  rw [← spanTxt_len, List.drop_left]
/-- One span in a line. -/
theorem spans_one (ahead lab txt behind : Txt) (h1 : ∀ b ∈ ahead, b ≠ 123) (hl : isLab lab = true) (h2 : ∀ b ∈ txt, b ≠ 124) (h3 : ∀ b ∈ behind, b ≠ 123) :
    spansL (ahead ++ (spanTxt lab txt ++ behind)) = addT [] ahead ++ ⟨true, lab, txt⟩ :: addT [] behind := by
  unfold spansL
  rw [spansG_text _ _ _ h1, spansG_here hl h2, spansG_plain _ _ h3]
  simp
/-- Pieces side by side, texts and spans by turns. -/
def turnPc : Bool → List Pc → Prop
  | _, [] => True
  | s, p :: ps => p.sp = s ∧ (if s then isLab p.lab = true ∧ ∀ b ∈ p.txt, b ≠ 124 else p.lab = [] ∧ p.txt ≠ [] ∧ ∀ b ∈ p.txt, b ≠ 123) ∧ turnPc (!s) ps
theorem spans_turn : ∀ (ps : List Pc), (turnPc true ps → ∀ cur, spansG cur (unspanL ps) = addT [] cur ++ ps) ∧ (turnPc false ps → spansG [] (unspanL ps) = ps)
  | [] => ⟨fun _ cur => by simp [unspanL, spansG_nil], fun _ => by simp [unspanL, spansG_nil, addT]⟩
  | p :: ps => by
    have ih := spans_turn ps
    have e : unspanL (p :: ps) = pcTxt p ++ unspanL ps := rfl
    refine ⟨fun h cur => ?_, fun h => ?_⟩
    · simp only [turnPc, if_true, Bool.not_true] at h
      rw [e, pcTxt, if_pos h.1, spansG_here h.2.1.1 h.2.1.2, ih.2 h.2.2]
      obtain ⟨a, b, c⟩ := p
      simp only at h
      rw [h.1]
    · simp only [turnPc, Bool.false_eq_true, if_false, Bool.not_false] at h
      rw [e, pcTxt, if_neg (by rw [h.1]; simp), spansG_text _ _ _ h.2.1.2.2, List.nil_append, ih.1 h.2.2]
      obtain ⟨a, b, c⟩ := p
      simp only at h
      unfold addT
      rw [if_neg h.2.1.2.1, h.1, h.2.1.1]
      rfl

/-! ### Headings -/
def begF : Nat → Nat → Txt → Bool
  | _, _, [] => false
  | bl, sg, b :: l => if b = 32 then (if 0 < sg then decide (bl ≤ 3) && decide (sg ≤ 6) else begF (bl + 1) sg l) else if b = 35 then begF bl (sg + 1) l else false
def headB : Txt := [123, 61]
def headingL (l : Txt) : Option (Txt × Txt) :=
  if 0 ≤ Lib.lastIndex l headB then
    if begF 0 0 (l.take (Lib.lastIndex l headB).toNat) then
      match lastLab (l.drop ((Lib.lastIndex l headB).toNat + 2)) with
      | some lab => some (l.take (Lib.lastIndex l headB).toNat, lab)
      | none => none
    else none
  else none
theorem lastOcc_ge (s sub : Txt) : ∀ k, -1 ≤ Lib.lastOcc s sub k
  | 0 => by simp [Lib.lastOcc]
  | k + 1 => by 
    unfold Lib.lastOcc
    split
    · omega
    · exact lastOcc_ge s sub k
theorem lastIndex_cases (s sub : Txt) : (Lib.lastIndex s sub = -1 ∧ ∀ j, j + sub.length ≤ s.length → Lib.occAt s sub j = false) ∨
    (∃ i : Nat, Lib.lastIndex s sub = i ∧ i + sub.length ≤ s.length ∧ Lib.occAt s sub i = true ∧ ∀ j, i < j → j + sub.length ≤ s.length → Lib.occAt s sub j = false) := by
  unfold Lib.lastIndex
  by_cases h : sub.length ≤ s.length
  · rw [if_pos h]
    rcases Lib.lastOcc_spec s sub (s.length - sub.length + 1) with ⟨h1, h2⟩ | ⟨i, h1, h2, h3, h4⟩
    · exact Or.inl ⟨h1, fun j hj => h2 j (by omega)⟩
    · exact Or.inr ⟨i, by first | exact h1 | exact h2, by omega, by assumption, fun j hj hj2 => by first | exact h4 j hj (by omega) | exact h4 j (by omega) hj⟩
  · rw [if_neg h]
    exact Or.inl ⟨rfl, fun j hj => by omega⟩
theorem begF_blanks : ∀ (k bl : Nat) (l : Txt), begF bl 0 (List.replicate k 32 ++ l) = begF (bl + k) 0 l
  | 0, bl, l => by simp
  | k + 1, bl, l => by
    rw [List.replicate_succ, List.cons_append, begF, if_pos rfl, if_neg (by omega), begF_blanks k (bl + 1) l]
    congr 1; omega
theorem begF_signs : ∀ (k bl sg : Nat) (l : Txt), begF bl sg (List.replicate k 35 ++ l) = begF bl (sg + k) l
  | 0, bl, sg, l => by simp
  | k + 1, bl, sg, l => by
    rw [List.replicate_succ, List.cons_append, begF, if_neg (by decide), if_pos rfl, begF_signs k bl (sg + 1) l]
    congr 1; omega
theorem begF_heading (bl sg : Nat) (l : Txt) (h : 0 < sg) : begF 0 0 (List.replicate bl 32 ++ (List.replicate sg 35 ++ 32 :: l)) = (decide (bl ≤ 3) && decide (sg ≤ 6)) := by
  rw [begF_blanks, begF_signs, begF, if_pos rfl, if_pos (by omega), Nat.zero_add, Nat.zero_add]
/-- Where the last sign of a label stands. -/
theorem last_here {s t : Txt} (h : ∀ j : Nat, t[j]? = some 123 → t[j + 1]? ≠ some 61) : Lib.lastIndex (s ++ headB ++ t) headB = s.length := by
  have hocc : ∀ j, s.length < j → Lib.occAt (s ++ headB ++ t) headB j = false := by
    intro j hj
    cases ho : Lib.occAt (s ++ headB ++ t) headB j with
    | false => rfl
    | true =>
      exfalso
      have h1 := Lib.occAt_head (c := 123) (t := [61]) rfl ho
      have h2 := Lib.occAt_second (c0 := 123) (c1 := 61) (t := []) rfl ho
      by_cases e : j = s.length + 1
      · subst e
        rw [List.append_assoc, List.getElem?_append_right (by omega), show s.length + 1 - s.length = 1 from by omega] at h1
        simp [headB] at h1
      · have e2 : (s ++ headB).length = s.length + 2 := by simp [headB]
        rw [List.getElem?_append_right (by omega), e2] at h1 h2
        have := h (j - (s.length + 2)) h1
        rw [show j - (s.length + 2) + 1 = j + 1 - (s.length + 2) from by omega] at this
        exact this h2
  have hat : Lib.occAt (s ++ headB ++ t) headB s.length = true := by
    unfold Lib.occAt
    rw [List.append_assoc, List.drop_left]
    exact List.isPrefixOf_iff_prefix.2 ⟨t, rfl⟩
  rcases lastIndex_cases (s ++ headB ++ t) headB with ⟨h1, h2⟩ | ⟨i, h1, h2, h3, h4⟩
  · rw [h2 s.length (by simp)] at hat; cases hat
  · rw [h1]
    by_cases e : i < s.length
    · rw [h4 s.length e (by simp)] at hat; cases hat
    · by_cases e2 : s.length < i
      · rw [hocc i e2] at h3; cases h3
      · omega
theorem heading_here {s t : Txt} (h : ∀ j : Nat, t[j]? = some 123 → t[j + 1]? ≠ some 61) :
    headingL (s ++ headB ++ t) = if begF 0 0 s then (match lastLab t with | some lab => some (s, lab) | none => none) else none := by
  unfold headingL
  rw [last_here h, if_pos (by omega), Int.toNat_natCast]
  have e1 : (s ++ headB ++ t).take s.length = s := by rw [List.append_assoc, List.take_left]
  have e2 : (s ++ headB ++ t).drop (s.length + 2) = t := by rw [show s.length + 2 = (s ++ headB).length from by simp [headB], List.drop_left]
  rw [e1, e2]

end Go.Proofs.YtkcmhdkhdjmjeaaGreatDoor

namespace Go.Proofs.YtkcmhdkhdjmjeaaGreatDoor
set_option linter.unusedSimpArgs false
set_option linter.unusedVariables false

/-! ### The end of a span -/
def cutE : Txt → Option (Txt × Txt)
  | [] => none
  | b :: t => if b = 124 ∧ t.head? = some 125 then some ([], t.tail) else (cutE t).map fun c => (b :: c.1, c.2)
theorem cutE_some : ∀ {l x y : Txt}, cutE l = some (x, y) → l = x ++ (spE ++ y)
  | [], _, _, h => by simp [cutE] at h
  | b :: t, x, y, h => by
    unfold cutE at h
    split at h
    · rename_i hc
      obtain ⟨rfl, h2⟩ := hc
      cases h
      cases t with
      | nil => simp at h2
      | cons c t => simp at h2; subst h2; rfl
    · cases hq : cutE t with
      | none => rw [hq] at h; cases h
      | some c =>
        obtain ⟨u, v⟩ := c
        rw [hq] at h
        cases h
        rw [cutE_some hq]; rfl
theorem cutE_again : ∀ {l x y : Txt} (z : Txt), cutE l = some (x, y) → cutE (x ++ (spE ++ z)) = some (x, z)
  | [], _, _, _, h => by simp [cutE] at h
  | b :: t, x, y, z, h => by
    have h0 := h
    unfold cutE at h
    split at h
    · cases h
      simp [cutE, spE]
    · rename_i hc
      cases hq : cutE t with
      | none => rw [hq] at h; cases h
      | some c =>
        obtain ⟨u, v⟩ := c
        rw [hq] at h
        cases h
        have e := cutE_some hq
        have hh : (u ++ (spE ++ z)).head? = t.head? := by rw [e]; cases u <;> simp [spE]
        rw [List.cons_append]
        unfold cutE
        rw [hh, if_neg hc, cutE_again z hq]; rfl
theorem cutE_suffix : ∀ (a : Txt) {t : Txt}, cutE (a ++ t) = none → cutE t = none
  | [], _, h => h
  | b :: a, t, h => by
    rw [List.cons_append] at h
    unfold cutE at h
    split at h
    · cases h
    · apply cutE_suffix a
      cases hq : cutE (a ++ t) with
      | none => rfl
      | some c => rw [hq] at h; cases h
theorem cutE_in (a y : Txt) : cutE (a ++ (spE ++ y)) ≠ none := by
  intro h
  have := cutE_suffix a h
  simp [cutE, spE] at this
theorem spE_pre (b : UInt8) (t : Txt) : spE.isPrefixOf (b :: t) = decide (b = 124 ∧ t.head? = some 125) := by
  cases t with
  | nil => simp [spE, List.isPrefixOf]
  | cons c t =>
    rw [Bool.eq_iff_iff]
    simp [spE]
    constructor
    · rintro ⟨rfl, rfl⟩; exact ⟨rfl, rfl⟩
    · rintro ⟨rfl, rfl⟩; exact ⟨rfl, rfl⟩
theorem index_cutE : ∀ l : Txt, Lib.index l spE = match cutE l with | none => -1 | some c => (c.1.length : Int)
  | [] => rfl
  | b :: t => by
    unfold Lib.index cutE
    rw [spE_pre]
    by_cases h : b = 124 ∧ t.head? = some 125
    · rw [if_pos (by simpa using h), if_pos h]; rfl
    · rw [if_neg (by simpa using h), if_neg h, index_cutE t]
      cases cutE t with
      | none => rfl
      | some c =>
        have : (((c.1.length : Nat) : Int) == -1) = false := by rw [beq_eq_false_iff_ne]; omega
        simp [this]
theorem cut_cutE (l : Txt) : Lib.cut l spE = match cutE l with | none => (l, [], false) | some c => (c.1, c.2, true) := by
  unfold Lib.cut
  rw [index_cutE]
  cases h : cutE l with
  | none => rfl
  | some c =>
    obtain ⟨x, y⟩ := c
    dsimp only
    have e := cutE_some h
    rw [if_pos (Int.natCast_nonneg _), Int.toNat_natCast, e, List.take_left, show x.length + spE.length = (x ++ spE).length from by simp, ← List.append_assoc, List.drop_left]

/-! ### A span at a text's beginning -/
theorem takeW_split (p : UInt8 → Bool) : ∀ (a : Txt) (x : UInt8) (r : Txt), a.all p = true → p x = false → (a ++ x :: r).takeWhile p = a
  | [], x, r, _, h => by simp [h]
  | b :: a, x, r, h1, h => by
    simp only [List.all_cons, Bool.and_eq_true] at h1
    rw [List.cons_append, List.takeWhile_cons, if_pos h1.1, takeW_split p a x r h1.2 h]
theorem spanAt_iff {l lab txt : Txt} : spanAtL l = some (lab, txt) ↔ isLab lab = true ∧ ∃ r rest, l = spB ++ (lab ++ 58 :: r) ∧ cutE r = some (txt, rest) := by
  constructor
  · intro h
    unfold spanAtL at h
    split at h
    · rename_i h1
      split at h
      · rename_i h2
        split at h
        · rename_i h3
          rw [Bool.and_eq_true] at h2
          have e1 := prefix_of h1
          have e2 := prefix_of h2.2
          have e4 : spB.length = 2 := rfl
          rw [e4] at e1
          generalize l.drop 2 = m at *
          have e5 : ([58] : Txt).length = 1 := rfl
          rw [e5, List.drop_drop] at e2
          have e3 := List.take_append_drop (labSize m) m
          have hT : m.take (labSize m) = m.takeWhile labSign := (List.prefix_iff_eq_take.1 (List.takeWhile_prefix labSign)).symm
          rw [cut_cutE] at h h3
          cases hc : cutE (m.drop (labSize m + 1)) with
          | none => rw [hc] at h3; cases h3
          | some c =>
            obtain ⟨x, y⟩ := c
            rw [hc] at h
            dsimp only at h
            cases h
            refine ⟨?_, m.drop (labSize m + 1), y, ?_, hc⟩
            · unfold isLab
              rw [Bool.and_eq_true, hT]
              exact ⟨List.all_eq_true.2 fun b hb => takeW_mem hb, h2.1⟩
            · rw [e1]
              congr 1
              rw [e2] at e3
              exact e3.symm
        · cases h
      · cases h
    · cases h
  · rintro ⟨hl, r, rest, rfl, hc⟩
    have hl2 := hl
    unfold isLab at hl
    rw [Bool.and_eq_true] at hl
    have hs : labSize (lab ++ 58 :: r) = lab.length := by unfold labSize; rw [takeW_split _ _ _ _ hl.1 (by decide)]
    unfold spanAtL
    have e1 : (spB ++ (lab ++ 58 :: r)).drop 2 = lab ++ 58 :: r := rfl
    have e2 : spB.isPrefixOf (spB ++ (lab ++ 58 :: r)) = true := List.isPrefixOf_iff_prefix.2 ⟨_, rfl⟩
    have e3 : (lab ++ 58 :: r).drop (lab.length + 1) = r := by
      rw [show lab ++ 58 :: r = (lab ++ [58]) ++ r from by simp, show lab.length + 1 = (lab ++ [58]).length from by simp, List.drop_left]
    rw [e1, e2, if_pos rfl, hs, List.drop_left, List.take_left, e3, hl.2, cut_cutE, hc]
    rfl
theorem spanAt_lab {l lab txt : Txt} (h : spanAtL l = some (lab, txt)) : isLab lab = true := (spanAt_iff.1 h).1
theorem spanAt_shape {l lab txt : Txt} (h : spanAtL l = some (lab, txt)) : ∃ rest, l = spanTxt lab txt ++ rest ∧ (∀ z, spanAtL (spanTxt lab txt ++ z) = some (lab, txt)) ∧ ∀ z, spanAtL (spanTxt lab [] ++ z) = some (lab, []) := by
  obtain ⟨hl, r, rest, rfl, hc⟩ := spanAt_iff.1 h
  have e := cutE_some hc
  refine ⟨rest, by rw [e]; simp [spanTxt], fun z => ?_, fun z => ?_⟩
  · refine spanAt_iff.2 ⟨hl, txt ++ (spE ++ z), z, by simp [spanTxt], cutE_again z hc⟩
  · refine spanAt_iff.2 ⟨hl, spE ++ z, z, by simp [spanTxt], by simp [cutE, spE]⟩
theorem lab_no {lab : Txt} (h : isLab lab = true) : ∀ b ∈ lab, labSign b = true := by
  unfold isLab at h
  rw [Bool.and_eq_true] at h
  exact List.all_eq_true.1 h.1
theorem lab_not {lab : Txt} (h : isLab lab = true) {b : UInt8} (hb : b ∈ lab) : b ≠ 123 ∧ b ≠ 125 ∧ b ≠ 124 ∧ b ≠ 58 ∧ b ≠ 32 ∧ b ≠ 9 := by
  have := lab_no h b hb
  simp [labSign] at this
  simpa [and_assoc] using this

/-! ### Pieces and lines, emptied -/
abbrev Sv := Txt → Bool
def empPc (p : Sv) (x : Pc) : Pc := if x.sp && !p x.lab then { x with txt := [] } else x
def empT (p : Sv) (lab txt : Txt) : Txt := if p lab then txt else []
def empL (p : Sv) (l : Txt) : Txt := unspanL ((spansL l).map (empPc p))
theorem unspan_app (a b : List Pc) : unspanL (a ++ b) = unspanL a ++ unspanL b := by simp [unspanL]
theorem empPc_text (p : Sv) (t : Txt) : empPc p ⟨false, [], t⟩ = ⟨false, [], t⟩ := by simp [empPc]
theorem empPc_span (p : Sv) (lab txt : Txt) : empPc p ⟨true, lab, txt⟩ = ⟨true, lab, empT p lab txt⟩ := by
  unfold empPc empT
  cases p lab <;> simp
theorem addT_map (p : Sv) (t : Txt) : (addT [] t).map (empPc p) = addT [] t := by
  unfold addT; split
  · rfl
  · simp [empPc_text]
theorem unspan_addT (t : Txt) : unspanL (addT [] t) = t := by
  unfold addT; split
  · rename_i h; rw [h]; rfl
  · simp [unspanL, pcTxt]
theorem unspan_cons (x : Pc) (P : List Pc) : unspanL (x :: P) = pcTxt x ++ unspanL P := by simp [unspanL]
theorem emp_cur (p : Sv) : ∀ (n : Nat) (l cur : Txt), l.length ≤ n → unspanL ((spansG cur l).map (empPc p)) = cur ++ empL p l
  | _, [], cur, _ => by
    rw [spansG_nil, addT_map, unspan_addT]
    show cur = cur ++ unspanL ((spansG [] []).map (empPc p))
    rw [spansG_nil, addT_map, unspan_addT, List.append_nil]
  | n + 1, b :: l, cur, hn => by
    simp only [List.length_cons] at hn
    cases h : spanAtL (b :: l) with
    | none =>
      unfold empL spansL
      rw [spansG_none h, spansG_none h, emp_cur p n l _ (by omega), emp_cur p n l _ (by omega)]
      simp
    | some c =>
      obtain ⟨lab, txt⟩ := c
      unfold empL spansL
      rw [spansG_some h, spansG_some h, List.map_append, unspan_app, addT_map, unspan_addT]
      rfl
theorem empL_none {p : Sv} {b : UInt8} {l : Txt} (h : spanAtL (b :: l) = none) : empL p (b :: l) = b :: empL p l := by
  have := emp_cur p l.length l [b] (Nat.le_refl _)
  unfold empL spansL
  rw [spansG_none h]
  exact this
theorem empL_some {p : Sv} {l lab txt : Txt} (h : spanAtL l = some (lab, txt)) : empL p l = spanTxt lab (empT p lab txt) ++ empL p (l.drop (lab.length + txt.length + 5)) := by
  unfold empL spansL
  rw [spansG_some h, List.map_append, List.map_cons, empPc_span, unspan_app, unspan_cons, addT_map, unspan_addT]
  rfl
theorem empL_nil (p : Sv) : empL p [] = [] := rfl
theorem empL_span {p : Sv} {lab txt rest : Txt} (h : spanAtL (spanTxt lab txt ++ rest) = some (lab, txt)) : empL p (spanTxt lab txt ++ rest) = spanTxt lab (empT p lab txt) ++ empL p rest := by
  rw [empL_some h, ← spanTxt_len, List.drop_left]
/-- The three ways that a text begins. -/
theorem emp_cases (p : Sv) (l : Txt) : l = [] ∨ (∃ b t, l = b :: t ∧ spanAtL l = none ∧ empL p l = b :: empL p t) ∨
    ∃ lab txt rest, l = spanTxt lab txt ++ rest ∧ spanAtL l = some (lab, txt) ∧ empL p l = spanTxt lab (empT p lab txt) ++ empL p rest := by
  cases l with
  | nil => exact Or.inl rfl
  | cons b t =>
    cases h : spanAtL (b :: t) with
    | none => exact Or.inr (Or.inl ⟨b, t, rfl, rfl, empL_none h⟩)
    | some c =>
      obtain ⟨lab, txt⟩ := c
      obtain ⟨rest, e, _⟩ := spanAt_shape h
      refine Or.inr (Or.inr ⟨lab, txt, rest, e, rfl, ?_⟩)
      rw [e] at h ⊢
      exact empL_span h
theorem empL_keep (p : Sv) : ∀ (n : Nat) (l : Txt), l.length ≤ n → cutE l = none → empL p l = l
  | _, [], _, _ => rfl
  | n + 1, b :: t, hn, h => by
    have hs : spanAtL (b :: t) = none := by
      cases hs : spanAtL (b :: t) with
      | none => rfl
      | some c =>
        obtain ⟨lab, txt⟩ := c
        obtain ⟨rest, e, _⟩ := spanAt_shape hs
        rw [e, show spanTxt lab txt ++ rest = (spB ++ lab ++ [58] ++ txt) ++ (spE ++ rest) from by simp [spanTxt]] at h
        exact absurd h (cutE_in _ _)
    rw [empL_none hs, empL_keep p n t (by simpa using hn) (cutE_suffix [b] h)]
theorem cutE_no : ∀ {l : Txt}, (∀ b ∈ l, b ≠ 124) → cutE l = none
  | [], _ => rfl
  | b :: t, h => by
    unfold cutE
    rw [if_neg (fun e => h b (by simp) e.1), cutE_no fun x hx => h x (by simp [hx])]
    rfl
theorem empL_no {p : Sv} {l : Txt} (h : ∀ b ∈ l, b ≠ 124) : empL p l = l := empL_keep p _ l (Nat.le_refl _) (cutE_no h)
theorem spanTxt_head (lab txt : Txt) : ∃ u, spanTxt lab txt = 123 :: 124 :: u := ⟨lab ++ [58] ++ txt ++ spE, by simp [spanTxt, spB]⟩
/-- What stands in the emptied text without a sign of a span's begin stood there. -/
theorem empL_inv (p : Sv) : ∀ (a l X : Txt), (∀ b ∈ a, b ≠ 123) → empL p l = a ++ X → ∃ l2, l = a ++ l2 ∧ empL p l2 = X
  | [], l, X, _, h => ⟨l, rfl, h⟩
  | b :: a, l, X, hb, h => by
    rcases emp_cases p l with rfl | ⟨c, t, rfl, hs, e⟩ | ⟨lab, txt, rest, rfl, hs, e⟩
    · cases h
    · rw [e, List.cons_append] at h
      injection h with h1 h2
      subst h1
      obtain ⟨l2, rfl, e2⟩ := empL_inv p a t X (fun x hx => hb x (by simp [hx])) h2
      exact ⟨l2, rfl, e2⟩
    · rw [e] at h
      obtain ⟨u, hu⟩ := spanTxt_head lab (empT p lab txt)
      rw [hu] at h
      simp only [List.cons_append] at h
      injection h with h1 _
      exact absurd h1.symm (hb b (by simp))
theorem empL_stable (p : Sv) {b : UInt8} {l : Txt} (h : spanAtL (b :: l) = none) : spanAtL (b :: empL p l) = none := by
  cases hs : spanAtL (b :: empL p l) with
  | none => rfl
  | some c =>
    exfalso
    obtain ⟨lab, txt⟩ := c
    obtain ⟨hl, r, rest, e, hc⟩ := spanAt_iff.1 hs
    simp only [spB, List.cons_append, List.nil_append] at e
    injection e with e1 e2
    subst e1
    have e3 : empL p l = (124 :: (lab ++ [58])) ++ r := by rw [e2]; simp
    obtain ⟨l2, rfl, e4⟩ := empL_inv p _ _ _ (by
      intro x hx
      simp at hx
      rcases hx with rfl | hx | rfl
      · decide
      · exact (lab_not hl hx).1
      · decide) e3
    cases hq : cutE l2 with
    | none =>
      rw [empL_keep p _ l2 (Nat.le_refl _) hq] at e4
      rw [← e4, hq] at hc
      cases hc
    | some c =>
      obtain ⟨x, y⟩ := c
      have : spanAtL (123 :: ((124 :: (lab ++ [58])) ++ l2)) = some (lab, x) := spanAt_iff.2 ⟨hl, l2, y, by simp [spB], hq⟩
      rw [this] at h
      cases h
/-- The pieces of an emptied line are its pieces, emptied. -/
theorem spans_emp (p : Sv) (n : Nat) : ∀ (l cur : Txt), l.length ≤ n → spansG cur (empL p l) = (spansG cur l).map (empPc p) := by
  induction n with
  | zero => intro l cur hn; rw [List.eq_nil_of_length_eq_zero (l := l) (by omega), empL_nil, spansG_nil, addT_map]
  | succ n ih =>
    intro l cur hn
    rcases emp_cases p l with rfl | ⟨b, t, rfl, hs, e⟩ | ⟨lab, txt, rest, rfl, hs, e⟩
    · rw [empL_nil, spansG_nil, addT_map]
    · simp only [List.length_cons] at hn
      rw [e, spansG_none (empL_stable p hs), spansG_none hs]
      exact ih t _ (by omega)
    · have hlen := spanTxt_len lab txt
      rw [List.length_append] at hn
      · have hs2 : spanAtL (spanTxt lab (empT p lab txt) ++ empL p rest) = some (lab, empT p lab txt) := by
          obtain ⟨_, _, h1, h2⟩ := spanAt_shape hs
          unfold empT
          split
          · exact h1 _
          · exact h2 _
        rw [e, spansG_some hs2, spansG_some hs, List.map_append, List.map_cons, addT_map, empPc_span, ← spanTxt_len, ← spanTxt_len, List.drop_left, List.drop_left]
        rw [ih rest [] (by omega)]
theorem spansL_emp (p : Sv) (l : Txt) : spansL (empL p l) = (spansL l).map (empPc p) := spans_emp p _ l [] (Nat.le_refl _)
def andS (p q : Sv) : Sv := fun x => p x && q x
theorem empPc_two (p q : Sv) (x : Pc) : empPc q (empPc p x) = empPc (andS p q) x := by
  obtain ⟨sp, lab, txt⟩ := x
  cases sp with
  | false => simp [empPc]
  | true =>
    rw [empPc_span, empPc_span, empPc_span]
    unfold empT andS
    cases p lab <;> cases q lab <;> rfl
theorem empL_two (p q : Sv) (l : Txt) : empL q (empL p l) = empL (andS p q) l := by
  show unspanL ((spansL (empL p l)).map (empPc q)) = _
  rw [spansL_emp, List.map_map]
  show _ = unspanL ((spansL l).map (empPc (andS p q)))
  congr 1
  apply List.map_congr_left
  intro x _
  exact empPc_two p q x
theorem unspan_spans (l : Txt) : unspanL (spansL l) = l := by
  have h : empL (fun _ => true) l = unspanL (spansL l) := by
    unfold empL
    congr 1
    have : ∀ x : Pc, empPc (fun _ => true) x = x := fun x => by simp [empPc]
    rw [List.map_congr_left (g := id) (fun x _ => this x), List.map_id]
  rw [← h]
  have : ∀ (n : Nat) (l : Txt), l.length ≤ n → empL (fun _ => true) l = l := by
    intro n
    induction n with
    | zero => intro l hl; rw [List.eq_nil_of_length_eq_zero (l := l) (by omega)]; rfl
    | succ n ih =>
      intro l hl
      rcases emp_cases (fun _ => true) l with rfl | ⟨b, t, rfl, hs, e⟩ | ⟨lab, txt, rest, rfl, hs, e⟩
      · rfl
      · rw [e, ih t (by simpa using hl)]
      · have hlen := spanTxt_len lab txt
        rw [List.length_append] at hl
        rw [e, ih rest (by omega)]; rfl
  exact this _ l (Nat.le_refl _)
theorem empL_true (l : Txt) : empL (fun _ => true) l = l := by
  have h : empL (fun _ => true) l = unspanL (spansL l) := by
    unfold empL
    congr 1
    have : ∀ x : Pc, empPc (fun _ => true) x = x := fun x => by simp [empPc]
    rw [List.map_congr_left (g := id) (fun x _ => this x), List.map_id]
  rw [h, unspan_spans]
/-- Each byte of the emptied line stood in it; it is no longer. -/
theorem empL_mem (p : Sv) (n : Nat) : ∀ (l : Txt), l.length ≤ n → ∀ b ∈ empL p l, b ∈ l := by
  induction n with
  | zero => intro l hn x hx; rw [List.eq_nil_of_length_eq_zero (l := l) (by omega)] at hx ⊢; exact hx
  | succ n ih =>
    intro l hn x hx
    rcases emp_cases p l with rfl | ⟨b, t, rfl, hs, e⟩ | ⟨lab, txt, rest, rfl, hs, e⟩
    · exact hx
    · rw [e] at hx
      simp only [List.length_cons] at hn
      rw [List.mem_cons] at hx ⊢
      exact hx.imp id fun h => ih t (by omega) x h
    · have hlen := spanTxt_len lab txt
      rw [List.length_append] at hn
      · rw [e, List.mem_append] at hx
        rw [List.mem_append]
        refine hx.imp (fun h => ?_) fun h => ih rest (by omega) x h
        unfold empT at h
        split at h
        · exact h
        · simp only [spanTxt, List.append_nil, List.mem_append] at h ⊢
          rcases h with ((h | h) | h) | h
          · exact Or.inl (Or.inl (Or.inl (Or.inl h)))
          · exact Or.inl (Or.inl (Or.inl (Or.inr h)))
          · exact Or.inl (Or.inl (Or.inr h))
          · exact Or.inr h
theorem empL_len (p : Sv) (n : Nat) : ∀ (l : Txt), l.length ≤ n → (empL p l).length ≤ l.length := by
  induction n with
  | zero => intro l hn; rw [List.eq_nil_of_length_eq_zero (l := l) (by omega)]; exact Nat.le_refl _
  | succ n ih =>
    intro l hn
    rcases emp_cases p l with rfl | ⟨b, t, rfl, hs, e⟩ | ⟨lab, txt, rest, rfl, hs, e⟩
    · exact Nat.le_refl _
    · simp only [List.length_cons] at hn
      have := ih t (by omega)
      rw [e]
      simp only [List.length_cons]; omega
    · have hlen := spanTxt_len lab txt
      have hlen2 := spanTxt_len lab (empT p lab txt)
      have ht : (empT p lab txt).length ≤ txt.length := by unfold empT; split <;> simp
      rw [List.length_append] at hn
      have := ih rest (by omega)
      rw [e, List.length_append, List.length_append]; omega
/-- An emptied line without the sign of an end has no span. -/
theorem empL_noBar (p : Sv) (n : Nat) : ∀ (l : Txt), l.length ≤ n → (∀ b ∈ empL p l, b ≠ 124) → empL p l = l := by
  induction n with
  | zero => intro l hn h; rw [List.eq_nil_of_length_eq_zero (l := l) (by omega)]; rfl
  | succ n ih =>
    intro l hn h
    rcases emp_cases p l with rfl | ⟨b, t, rfl, hs, e⟩ | ⟨lab, txt, rest, rfl, hs, e⟩
    · rfl
    · simp only [List.length_cons] at hn
      rw [e, ih t (by omega) fun x hx => h x (by rw [e]; simp [hx])]
    · obtain ⟨u, hu⟩ := spanTxt_head lab (empT p lab txt)
      exact absurd rfl (h 124 (by rw [e, hu]; simp))

end Go.Proofs.YtkcmhdkhdjmjeaaGreatDoor

namespace Go.Proofs.YtkcmhdkhdjmjeaaGreatDoor
set_option linter.unusedSimpArgs false
set_option linter.unusedVariables false

/-! ### A heading's label -/
def labTail (lab : Txt) (k : Nat) : Txt := headB ++ (lab ++ 125 :: List.replicate k 32)
theorem labTail_no {lab : Txt} (h : isLab lab = true) (k : Nat) : ∀ b ∈ labTail lab k, b ≠ 124 := by
  intro b hb
  unfold labTail headB at hb
  simp only [List.mem_append, List.mem_cons, List.not_mem_nil, or_false, List.mem_replicate] at hb
  rcases hb with (rfl | rfl) | hb | rfl | ⟨_, rfl⟩
  · decide
  · decide
  · exact (lab_not h hb).2.2.1
  · decide
  · decide
theorem labTail_head (lab : Txt) (k : Nat) : (labTail lab k).head? = some 123 := rfl
theorem behind_no {lab : Txt} (h : isLab lab = true) (k : Nat) : ∀ b ∈ lab ++ 125 :: List.replicate k 32, b ≠ 123 := by
  intro b hb
  simp only [List.mem_append, List.mem_cons, List.mem_replicate] at hb
  rcases hb with hb | rfl | ⟨_, rfl⟩
  · exact (lab_not h hb).1
  · decide
  · decide
theorem lastLab_rep (x : Txt) (k : Nat) : lastLab (x ++ List.replicate k 32) = lastLab x := by unfold lastLab; rw [trimR_rep]
theorem heading_iff {l t lab : Txt} : headingL l = some (t, lab) ↔ begF 0 0 t = true ∧ isLab lab = true ∧ ∃ k, l = t ++ labTail lab k := by
  constructor
  · intro h
    unfold headingL at h
    split at h
    · rename_i h0
      split at h
      · rename_i h1
        rcases lastIndex_cases l headB with ⟨e, _⟩ | ⟨i, e, hi, hat, _⟩
        · rw [e] at h0; omega
        · rw [e, Int.toNat_natCast] at h h1
          cases hl : lastLab (l.drop (i + 2)) with
          | none => rw [hl] at h; cases h
          | some lb =>
            rw [hl] at h
            cases h
            obtain ⟨h2, h3⟩ := lastLab_some hl
            refine ⟨h1, h2, ?_⟩
            obtain ⟨k, hk⟩ := trimR_more (l.drop (i + 2))
            rw [h3] at hk
            unfold Lib.occAt at hat
            have h4 := prefix_of hat
            rw [List.drop_drop, show i + headB.length = i + 2 from rfl, hk] at h4
            refine ⟨k, ?_⟩
            have h5 := List.take_append_drop i l
            rw [h4] at h5
            rw [← h5, List.take_left' (by rw [List.length_take]; have : headB.length = 2 := rfl; omega)]
            simp [labTail]
      · cases h
    · cases h
  · rintro ⟨h1, h2, k, rfl⟩
    unfold labTail
    rw [← List.append_assoc, heading_here (fun j hj => absurd rfl (behind_no h2 k _ (List.mem_of_getElem? hj))), h1, if_pos rfl]
    rw [show lab ++ 125 :: List.replicate k 32 = (lab ++ [125]) ++ List.replicate k 32 from by simp, lastLab_rep, lastLab_line lab h2]

/-! ### Behind the last span -/
theorem end_bar {lab txt u a T r : Txt} (h : spanTxt lab txt = u ++ a) (ha : a ≠ []) (hT : T = a ++ r) (h1 : ∀ b ∈ T, b ≠ 124) (h2 : T.head? ≠ some 125) : False := by
  have e : spanTxt lab txt = (spB ++ lab ++ [58] ++ txt ++ [124]) ++ [125] := by simp [spanTxt, spE]
  obtain ⟨a2, x, rfl⟩ : ∃ a2 x, a = a2 ++ [x] := ⟨a.dropLast, a.getLast ha, (List.dropLast_concat_getLast ha).symm⟩
  rw [e, ← List.append_assoc] at h
  obtain ⟨h3, h4⟩ := List.append_inj' h rfl
  cases h4
  by_cases h5 : a2 = []
  · subst h5
    rw [hT] at h2
    exact h2 rfl
  · obtain ⟨a3, y, rfl⟩ : ∃ a3 y, a2 = a3 ++ [y] := ⟨a2.dropLast, a2.getLast h5, (List.dropLast_concat_getLast h5).symm⟩
    rw [← List.append_assoc] at h3
    obtain ⟨_, h6⟩ := List.append_inj' h3 rfl
    cases h6
    exact h1 124 (by rw [hT]; simp) rfl
theorem emp_tail (p : Sv) {T : Txt} (h1 : ∀ b ∈ T, b ≠ 124) (h2 : T.head? ≠ some 125) (n : Nat) : ∀ t : Txt, t.length ≤ n → empL p (t ++ T) = empL p t ++ T := by
  induction n with
  | zero => intro t hn; rw [List.eq_nil_of_length_eq_zero (l := t) (by omega)]; exact empL_no h1
  | succ n ih =>
    intro t hn
    rcases emp_cases p t with rfl | ⟨b, t0, rfl, hs, e⟩ | ⟨lab, txt, rest, rfl, hs, e⟩
    · exact empL_no h1
    · have hn2 : spanAtL (b :: (t0 ++ T)) = none := by
        cases hq : spanAtL (b :: (t0 ++ T)) with
        | none => rfl
        | some c =>
          exfalso
          obtain ⟨lab, txt⟩ := c
          obtain ⟨rest, e3, ha, _⟩ := spanAt_shape hq
          rw [← List.cons_append] at e3
          rcases List.append_eq_append_iff.1 e3 with ⟨a, e4, e5⟩ | ⟨c, e4, e5⟩
          · by_cases h0 : a = []
            · rw [h0, List.append_nil] at e4
              have := ha []
              rw [List.append_nil, e4, hs] at this
              cases this
            · exact end_bar e4 h0 e5 h1 h2
          · have := ha c
            rw [← e4, hs] at this
            cases this
      rw [List.cons_append, empL_none hn2, e, ih t0 (by simpa using hn)]
      rfl
    · have hlen := spanTxt_len lab txt
      rw [List.length_append] at hn
      obtain ⟨_, _, ha, _⟩ := spanAt_shape hs
      rw [List.append_assoc, empL_span (ha _), e, ih rest (by omega), List.append_assoc]
theorem emp_tail' (p : Sv) {T : Txt} (h1 : ∀ b ∈ T, b ≠ 124) (h2 : T.head? ≠ some 125) (t : Txt) : empL p (t ++ T) = empL p t ++ T := emp_tail p h1 h2 _ t (Nat.le_refl _)
theorem emp_tail_inv (p : Sv) {T : Txt} (h1 : ∀ b ∈ T, b ≠ 124) (h2 : T.head? ≠ some 125) (n : Nat) : ∀ (l t' : Txt), l.length ≤ n → empL p l = t' ++ T → ∃ t, l = t ++ T ∧ empL p t = t' := by
  have done : ∀ (l t t' : Txt), l = t ++ T → empL p l = t' ++ T → ∃ t, l = t ++ T ∧ empL p t = t' := by
    intro l t t' e h
    refine ⟨t, e, ?_⟩
    rw [e, emp_tail' p h1 h2] at h
    exact List.append_cancel_right h
  induction n with
  | zero =>
    intro l t' hn h
    rw [List.eq_nil_of_length_eq_zero (l := l) (by omega)] at h ⊢
    rw [empL_nil] at h
    obtain ⟨rfl, rfl⟩ := List.append_eq_nil_iff.1 h.symm
    exact ⟨[], rfl, rfl⟩
  | succ n ih =>
    intro l t' hn h
    rcases emp_cases p l with rfl | ⟨b, l0, rfl, hs, e⟩ | ⟨lab, txt, rest, rfl, hs, e⟩
    · rw [empL_nil] at h
      obtain ⟨rfl, rfl⟩ := List.append_eq_nil_iff.1 h.symm
      exact ⟨[], rfl, rfl⟩
    · cases t' with
      | nil =>
        rw [List.nil_append] at h
        have := empL_noBar p _ (b :: l0) (Nat.le_refl _) (by rw [h]; exact h1)
        exact done _ [] _ (by rw [← this, h]; rfl) h
      | cons c t' =>
        have h' := h
        rw [e, List.cons_append] at h'
        injection h' with h3 h4
        subst h3
        obtain ⟨t0, rfl, _⟩ := ih l0 t' (by simpa using hn) h4
        exact done _ (b :: t0) _ rfl h
    · have hlen := spanTxt_len lab txt
      rw [List.length_append] at hn
      have h' := h
      rw [e] at h'
      rcases List.append_eq_append_iff.1 h' with ⟨a, e4, e5⟩ | ⟨c, e4, e5⟩
      · obtain ⟨t0, rfl, _⟩ := ih rest a (by omega) e5
        exact done _ (spanTxt lab txt ++ t0) _ (by rw [List.append_assoc]) h
      · by_cases h0 : c = []
        · rw [h0, List.nil_append] at e5
          obtain ⟨t0, rfl, _⟩ := ih rest [] (by omega) e5.symm
          exact done _ (spanTxt lab txt ++ t0) _ (by rw [List.append_assoc]) h
        · exact absurd (end_bar e4 h0 e5 h1 h2) id

/-! ### What a heading begins with -/
theorem begF_emp (p : Sv) (n : Nat) : ∀ (t : Txt) (bl sg : Nat), t.length ≤ n → begF bl sg (empL p t) = begF bl sg t := by
  induction n with
  | zero => intro t bl sg hn; rw [List.eq_nil_of_length_eq_zero (l := t) (by omega)]; rfl
  | succ n ih =>
    intro t bl sg hn
    rcases emp_cases p t with rfl | ⟨b, t0, rfl, hs, e⟩ | ⟨lab, txt, rest, rfl, hs, e⟩
    · rfl
    · rw [e, begF, begF, ih t0 _ _ (by simpa using hn), ih t0 _ _ (by simpa using hn)]
    · obtain ⟨u, hu⟩ := spanTxt_head lab (empT p lab txt)
      obtain ⟨v, hv⟩ := spanTxt_head lab txt
      rw [e, hu, hv]
      simp [begF]
def hdSignF : Bool → Txt → Txt
  | _, [] => []
  | row, b :: l => if row && b == 32 then [b] else b :: hdSignF (b == 35) l
def hdSign (l : Txt) : Txt := hdSignF false l
theorem hdSign_emp (p : Sv) (n : Nat) : ∀ (t : Txt) (bl sg : Nat), t.length ≤ n → begF bl sg t = true → hdSignF (decide (0 < sg)) (empL p t) = hdSignF (decide (0 < sg)) t := by
  induction n with
  | zero => intro t bl sg hn _; rw [List.eq_nil_of_length_eq_zero (l := t) (by omega)]; rfl
  | succ n ih =>
    intro t bl sg hn h
    rcases emp_cases p t with rfl | ⟨b, t0, rfl, hs, e⟩ | ⟨lab, txt, rest, rfl, hs, e⟩
    · rfl
    · rw [e]
      have hn' : t0.length ≤ n := by simpa using hn
      unfold begF at h
      by_cases h32 : b = 32
      · subst h32
        by_cases h0 : 0 < sg
        · simp [hdSignF, h0]
        · rw [if_pos rfl, if_neg h0] at h
          have hz : sg = 0 := by omega
          subst hz
          have := ih t0 (bl + 1) 0 hn' h
          simp only [Nat.lt_irrefl, decide_false] at this
          simp [hdSignF, this]
      · rw [if_neg h32] at h
        by_cases h35 : b = 35
        · subst h35
          rw [if_pos rfl] at h
          have := ih t0 bl (sg + 1) hn' h
          simp only [Nat.zero_lt_succ, decide_true] at this
          simp [hdSignF, this]
        · rw [if_neg h35] at h; cases h
    · obtain ⟨v, hv⟩ := spanTxt_head lab txt
      rw [hv] at h
      simp [begF] at h
theorem hd_shape : ∀ (t : Txt) (bl sg : Nat), begF bl sg t = true → begF bl sg (hdSignF (decide (0 < sg)) t) = true ∧ (∀ b ∈ hdSignF (decide (0 < sg)) t, b = 32 ∨ b = 35) ∧
    (∃ r, t = hdSignF (decide (0 < sg)) t ++ r) ∧ hdSignF (decide (0 < sg)) (hdSignF (decide (0 < sg)) t) = hdSignF (decide (0 < sg)) t
  | [], _, _, h => by simp [begF] at h
  | b :: t, bl, sg, h => by
    unfold begF at h
    by_cases h32 : b = 32
    · subst h32
      by_cases h0 : 0 < sg
      · rw [if_pos rfl, if_pos h0] at h
        have e : hdSignF (decide (0 < sg)) (32 :: t) = [32] := by simp [hdSignF, h0]
        rw [e]
        refine ⟨?_, by simp, ⟨t, rfl⟩, by simp [hdSignF, h0]⟩
        unfold begF
        rw [if_pos rfl, if_pos h0]
        exact h
      · rw [if_pos rfl, if_neg h0] at h
        have hz : sg = 0 := by omega
        subst hz
        obtain ⟨a1, a2, ⟨r, a3⟩, a4⟩ := hd_shape t (bl + 1) 0 h
        simp only [Nat.lt_irrefl, decide_false] at a1 a2 a3 a4 ⊢
        have e : hdSignF false (32 :: t) = 32 :: hdSignF false t := by simp [hdSignF]
        rw [e]
        refine ⟨?_, ?_, ⟨r, ?_⟩, ?_⟩
        · unfold begF
          rw [if_pos rfl, if_neg (by omega)]
          exact a1
        · intro x hx
          rw [List.mem_cons] at hx
          rcases hx with rfl | hx
          · exact Or.inl rfl
          · exact a2 x hx
        · rw [List.cons_append, ← a3]
        · simp [hdSignF, a4]
    · rw [if_neg h32] at h
      by_cases h35 : b = 35
      · subst h35
        rw [if_pos rfl] at h
        obtain ⟨a1, a2, ⟨r, a3⟩, a4⟩ := hd_shape t bl (sg + 1) h
        simp only [Nat.zero_lt_succ, decide_true] at a1 a2 a3 a4
        have e : ∀ (d : Bool) (x : Txt), hdSignF d (35 :: x) = 35 :: hdSignF true x := fun d x => by simp [hdSignF]
        rw [e]
        refine ⟨?_, ?_, ⟨r, ?_⟩, ?_⟩
        · unfold begF
          rw [if_neg (by decide), if_pos rfl]
          exact a1
        · intro x hx
          rw [List.mem_cons] at hx
          rcases hx with rfl | hx
          · exact Or.inr rfl
          · exact a2 x hx
        · rw [List.cons_append, ← a3]
        · rw [e, a4]
      · rw [if_neg h35] at h; cases h
theorem hdSign_shape {t : Txt} (h : begF 0 0 t = true) : begF 0 0 (hdSign t) = true ∧ (∀ b ∈ hdSign t, b = 32 ∨ b = 35) ∧ (∃ r, t = hdSign t ++ r) ∧ hdSign (hdSign t) = hdSign t := by
  have := hd_shape t 0 0 h
  simp only [Nat.lt_irrefl, decide_false] at this
  exact this
theorem heading_emp (p : Sv) (l : Txt) : headingL (empL p l) = (headingL l).map fun c => (empL p c.1, c.2) := by
  cases hA : headingL l with
  | some c =>
    obtain ⟨t, lab⟩ := c
    obtain ⟨h1, h2, k, rfl⟩ := heading_iff.1 hA
    rw [emp_tail' p (labTail_no h2 k) (by rw [labTail_head]; decide)]
    exact heading_iff.2 ⟨by rw [begF_emp p _ t 0 0 (Nat.le_refl _)]; exact h1, h2, k, rfl⟩
  | none =>
    cases hB : headingL (empL p l) with
    | none => rfl
    | some c =>
      obtain ⟨t', lab⟩ := c
      obtain ⟨h1, h2, k, e⟩ := heading_iff.1 hB
      obtain ⟨t, rfl, rfl⟩ := emp_tail_inv p (labTail_no h2 k) (by rw [labTail_head]; decide) _ l t' (Nat.le_refl _) e
      rw [begF_emp p _ t 0 0 (Nat.le_refl _)] at h1
      rw [heading_iff.2 ⟨h1, h2, k, rfl⟩] at hA
      cases hA

/-! ### A line -/
def lineL (p : Sv) (l : Txt) : Txt :=
  match headingL l with
  | some c => if p c.2 then empL p l else hdSign c.1 ++ trimR (l.drop c.1.length)
  | none => empL p l
theorem trimR_tail (lab : Txt) (k : Nat) : trimR (labTail lab k) = labTail lab 0 := by
  rw [show labTail lab k = (headB ++ lab ++ [125]) ++ List.replicate k 32 from by simp [labTail], trimR_rep, show labTail lab 0 = (headB ++ lab) ++ [125] from by simp [labTail]]
  exact trimR_snoc _ _ (by decide)
theorem line_cases (l : Txt) : (headingL l = none ∧ ∀ p, lineL p l = empL p l) ∨
    ∃ t lab k, l = t ++ labTail lab k ∧ begF 0 0 t = true ∧ isLab lab = true ∧ headingL l = some (t, lab) ∧ ∀ p : Sv, lineL p l = if p lab then empL p l else hdSign t ++ labTail lab 0 := by
  cases h : headingL l with
  | none => exact Or.inl ⟨rfl, fun p => by unfold lineL; rw [h]⟩
  | some c =>
    obtain ⟨t, lab⟩ := c
    obtain ⟨h1, h2, k, e⟩ := heading_iff.1 h
    refine Or.inr ⟨t, lab, k, e, h1, h2, rfl, fun p => ?_⟩
    unfold lineL
    rw [h]
    dsimp only
    rw [show l.drop t.length = labTail lab k from by rw [e, List.drop_left], trimR_tail]
theorem head_hidden {t lab : Txt} (h1 : begF 0 0 t = true) (h2 : isLab lab = true) (q : Sv) : lineL q (hdSign t ++ labTail lab 0) = hdSign t ++ labTail lab 0 := by
  obtain ⟨a1, a2, _, a4⟩ := hdSign_shape h1
  have hh : headingL (hdSign t ++ labTail lab 0) = some (hdSign t, lab) := heading_iff.2 ⟨a1, h2, 0, rfl⟩
  unfold lineL
  rw [hh]
  dsimp only
  split
  · apply empL_no
    intro b hb
    rw [List.mem_append] at hb
    rcases hb with hb | hb
    · rcases a2 b hb with rfl | rfl <;> decide
    · exact labTail_no h2 0 b hb
  · rw [List.drop_left, trimR_tail, a4]
/-- A line that is emptied twice is emptied by both. -/
theorem lineL_two (p q : Sv) (l : Txt) : lineL q (lineL p l) = lineL (andS p q) l := by
  rcases line_cases l with ⟨hn, hp⟩ | ⟨t, lab, k, e, h1, h2, hh, hp⟩
  · have hq : headingL (empL p l) = none := by rw [heading_emp, hn]; rfl
    rw [hp, hp]
    show lineL q (empL p l) = _
    unfold lineL
    rw [hq]
    exact empL_two p q l
  · rw [hp, hp]
    cases hpl : p lab with
    | false =>
      rw [if_neg (by simp), if_neg (by simp [andS, hpl])]
      exact head_hidden h1 h2 q
    | true =>
      rw [if_pos rfl]
      have hq : headingL (empL p l) = some (empL p t, lab) := by rw [heading_emp, hh]; rfl
      unfold lineL
      rw [hq]
      dsimp only
      have ea : andS p q lab = q lab := by simp [andS, hpl]
      rw [ea]
      cases hql : q lab with
      | true => rw [if_pos rfl, if_pos rfl]; exact empL_two p q l
      | false =>
        rw [if_neg (by simp), if_neg (by simp)]
        have e1 : empL p l = empL p t ++ labTail lab k := by rw [e]; exact emp_tail' p (labTail_no h2 k) (by rw [labTail_head]; decide) t
        rw [e1, List.drop_left, trimR_tail]
        congr 1
        have := hdSign_emp p _ t 0 0 (Nat.le_refl _) h1
        simp only [Nat.lt_irrefl, decide_false] at this
        exact this
theorem lineL_true (l : Txt) : lineL (fun _ => true) l = l := by
  unfold lineL
  split <;> simp [empL_true]
theorem lineL_mem (p : Sv) (l : Txt) : ∀ b ∈ lineL p l, b ∈ l := by
  intro b hb
  rcases line_cases l with ⟨_, hp⟩ | ⟨t, lab, k, e, h1, h2, _, hp⟩
  · rw [hp] at hb
    exact empL_mem p _ l (Nat.le_refl _) b hb
  · rw [hp] at hb
    split at hb
    · exact empL_mem p _ l (Nat.le_refl _) b hb
    · obtain ⟨_, _, ⟨r, a3⟩, _⟩ := hdSign_shape h1
      rw [e, List.mem_append]
      rw [List.mem_append] at hb
      rcases hb with hb | hb
      · left; rw [a3, List.mem_append]; exact Or.inl hb
      · right
        simp only [labTail, List.replicate_zero, List.mem_append, List.mem_cons, List.not_mem_nil, or_false] at hb ⊢
        rcases hb with hb | hb | hb
        · exact Or.inl hb
        · exact Or.inr (Or.inl hb)
        · exact Or.inr (Or.inr (Or.inl hb))
theorem lineL_len (p : Sv) (l : Txt) : (lineL p l).length ≤ l.length := by
  have h0 := empL_len p _ l (Nat.le_refl _)
  rcases line_cases l with ⟨_, hp⟩ | ⟨t, lab, k, e, h1, h2, _, hp⟩
  · rw [hp]; exact h0
  · rw [hp]
    split
    · exact h0
    · obtain ⟨_, _, ⟨r, a3⟩, _⟩ := hdSign_shape h1
      have a5 := congrArg List.length a3
      rw [List.length_append] at a5
      rw [e, List.length_append, List.length_append]
      simp only [labTail, List.length_append, List.length_cons, List.length_replicate]
      omega
/-- A line that neither opens nor closes does so emptied. -/
theorem begin_not {t : Txt} (h : begF 0 0 t = true) (x : Txt) : ∃ b r, t ++ x = b :: r ∧ (b = 32 ∨ b = 35) := by
  cases t with
  | nil => simp [begF] at h
  | cons b t =>
    refine ⟨b, t ++ x, rfl, ?_⟩
    unfold begF at h
    by_cases h32 : b = 32
    · exact Or.inl h32
    · rw [if_neg h32] at h
      by_cases h35 : b = 35
      · exact Or.inr h35
      · rw [if_neg h35] at h; cases h
theorem lineL_same (p : Sv) (l : Txt) (h1 : ∀ b ∈ lineL p l, b ≠ 124) (h2 : (lineL p l).head? = some 58) : lineL p l = l := by
  rcases line_cases l with ⟨_, hp⟩ | ⟨t, lab, k, e, hb, hl, _, hp⟩
  · rw [hp] at h1 ⊢
    exact empL_noBar p _ l (Nat.le_refl _) h1
  · rw [hp] at h1 h2 ⊢
    split at h1
    · rename_i hc
      rw [if_pos hc]
      exact empL_noBar p _ l (Nat.le_refl _) h1
    · rename_i hc
      rw [if_neg hc] at h2
      exfalso
      obtain ⟨a1, _⟩ := hdSign_shape hb
      obtain ⟨b, r, e2, hb2⟩ := begin_not a1 (labTail lab 0)
      rw [e2] at h2
      simp at h2
      subst h2
      rcases hb2 with h | h <;> exact absurd h (by decide)
theorem opens_line (p : Sv) (l : Txt) (h : opensL l = none) : opensL (lineL p l) = none := by
  cases ho : opensL (lineL p l) with
  | none => rfl
  | some lab =>
    exfalso
    obtain ⟨hl, k, e⟩ := opens_some ho
    have e2 : lineL p l = l := by
      apply lineL_same
      · rw [e]
        intro b hb
        simp only [divLine, divB, List.mem_append, List.mem_cons, List.not_mem_nil, or_false, List.mem_replicate] at hb
        rcases hb with ((hb | hb) | rfl) | ⟨_, rfl⟩
        · rcases hb with rfl | rfl | rfl | rfl <;> decide
        · exact (lab_not hl hb).2.2.1
        · decide
        · decide
      · rw [e]; rfl
    rw [e2, h] at ho
    cases ho
theorem closes_line (p : Sv) (l : Txt) (h : closesL l = false) : closesL (lineL p l) = false := by
  cases ho : closesL (lineL p l) with
  | false => rfl
  | true =>
    exfalso
    obtain ⟨k, e⟩ := closes_some ho
    have e2 : lineL p l = l := by
      apply lineL_same
      · rw [e]
        intro b hb
        simp only [divE, List.mem_append, List.mem_cons, List.not_mem_nil, or_false, List.mem_replicate] at hb
        rcases hb with (rfl | rfl | rfl) | ⟨_, rfl⟩ <;> decide
      · rw [e]; rfl
    rw [e2, h] at ho
    cases ho
theorem lineOk_line (p : Sv) (d : Int) (l : Txt) (h : lineOk d l = true) : lineOk d (lineL p l) = true := by
  unfold lineOk at h ⊢
  simp only [Bool.and_eq_true, Bool.not_eq_true', Bool.and_eq_false_imp, decide_eq_true_eq] at h ⊢
  obtain ⟨⟨h1, h2⟩, h3⟩ := h
  refine ⟨⟨?_, fun hd => closes_line p l (h2 hd)⟩, ?_⟩
  · rw [Option.isNone_iff_eq_none] at h1 ⊢
    exact opens_line p l h1
  · unfold lfFree at h3 ⊢
    rw [List.all_eq_true] at h3 ⊢
    exact fun b hb => h3 b (lineL_mem p l b hb)

end Go.Proofs.YtkcmhdkhdjmjeaaGreatDoor

namespace Go.Proofs.YtkcmhdkhdjmjeaaGreatDoor
set_option linter.unusedSimpArgs false
set_option linter.unusedVariables false

def hidB (h : Option Int) (d : Int) : Bool := match h with | some x => decide (x < d) | none => false
def linesL (p : Sv) (x : Prt) : Prt := { x with ls := x.ls.map (lineL p) }
def nextH (p : Sv) (x : Prt) : Option Int := if x.dv && !p x.lab then some x.depth else none
/-- The parts that are left. -/
def hideF (p : Sv) : Option Int → List Prt → List Prt
  | _, [] => []
  | h, x :: xs => if hidB h x.depth then hideF p h xs else linesL p x :: hideF p (nextH p x) xs
def hideP (p : Sv) (P : List Prt) : List Prt := hideF p none P

theorem linesL_two (p q : Sv) (x : Prt) : linesL q (linesL p x) = linesL (andS p q) x := by
  unfold linesL
  rw [List.map_map]
  congr 1
  apply List.map_congr_left
  intro l _
  exact lineL_two p q l
theorem nextH_hid (p q : Sv) (x : Prt) (d : Int) : hidB (nextH (andS p q) x) d = (hidB (nextH p x) d || hidB (nextH q (linesL p x)) d) := by
  unfold nextH andS linesL
  dsimp only
  cases x.dv <;> cases p x.lab <;> cases q x.lab <;> simp [hidB]
theorem hideF_two (p q : Sv) : ∀ (xs : List Prt) (hp hq h : Option Int), (∀ d, hidB h d = (hidB hp d || hidB hq d)) → hideF q hq (hideF p hp xs) = hideF (andS p q) h xs
  | [], _, _, _, _ => rfl
  | x :: xs, hp, hq, h, hh => by
    have hx := hh x.depth
    simp only [hideF]
    by_cases h1 : hidB hp x.depth = true
    · rw [if_pos h1, if_pos (by rw [hx, h1]; rfl)]
      exact hideF_two p q xs hp hq h hh
    · rw [if_neg h1]
      have h1' : hidB hp x.depth = false := by simpa using h1
      simp only [hideF]
      have hdep : (linesL p x).depth = x.depth := rfl
      rw [hdep]
      by_cases h2 : hidB hq x.depth = true
      · rw [if_pos h2, if_pos (by rw [hx, h2]; simp)]
        refine hideF_two p q xs _ hq h fun d => ?_
        rw [hh d]
        cases hq with
        | none => simp [hidB] at h2
        | some y =>
          have hy : y < x.depth := by simpa [hidB] using h2
          have e1 : hidB hp d = true → hidB (some y) d = true := by
            intro e
            cases hp with
            | none => simp [hidB] at e
            | some z =>
              simp [hidB] at e h1' ⊢
              omega
          have e2 : hidB (nextH p x) d = true → hidB (some y) d = true := by
            intro e
            unfold nextH at e
            split at e
            · simp [hidB] at e ⊢; omega
            · simp [hidB] at e
          cases ha : hidB hp d <;> cases hb : hidB (nextH p x) d
          · rfl
          · rw [e2 hb]; rfl
          · rw [e1 ha]; rfl
          · rfl
      · rw [if_neg h2, if_neg (by rw [hx, h1']; simpa using h2), linesL_two]
        congr 1
        exact hideF_two p q xs _ _ _ fun d => nextH_hid p q x d
theorem hideP_two (p q : Sv) (P : List Prt) : hideP q (hideP p P) = hideP (andS p q) P := hideF_two p q P none none none fun d => rfl
theorem linesL_true (x : Prt) : linesL (fun _ => true) x = x := by
  unfold linesL
  rw [List.map_congr_left (g := id) (fun l _ => lineL_true l), List.map_id]
theorem hideF_true : ∀ (xs : List Prt), hideF (fun _ => true) none xs = xs
  | [] => rfl
  | x :: xs => by
    have e : nextH (fun _ => true) x = none := by simp [nextH]
    simp only [hideF]
    rw [e, linesL_true, if_neg (by simp [hidB]), hideF_true xs]

/-! ### They may be -/
theorem rightPart_lines (p : Sv) (x : Prt) (h : rightPart x = true) : rightPart (linesL p x) = true := by
  unfold rightPart at h ⊢
  have e1 : (linesL p x).dv = x.dv := rfl
  have e2 : (linesL p x).lab = x.lab := rfl
  have e3 : (linesL p x).opn = x.opn := rfl
  have e4 : (linesL p x).ls.isEmpty = x.ls.isEmpty := by unfold linesL; simp
  rw [e1, e2, e3, e4]
  split
  · rename_i hd; rw [if_pos hd] at h; exact h
  · rename_i hd
    rw [if_neg hd] at h
    simp only [Bool.and_eq_true] at h ⊢
    refine ⟨h.1, ?_⟩
    unfold linesL
    dsimp only
    rw [List.all_map, List.all_eq_true]
    have h2 := List.all_eq_true.1 h.2
    exact fun l hl => lineOk_line p x.depth l (h2 l hl)
/-- How the last part that is left stands to the last one. -/
def HSt (h : Option Int) (last : Option Prt) (o : Nat) (last' : Option Prt) (o' : Nat) : Prop :=
  match h with
  | none => o' = o ∧ ((last = none ∧ last' = none) ∨ ∃ L L', last = some L ∧ last' = some L' ∧ L'.depth = L.depth ∧ L'.dv = L.dv)
  | some d => ∃ D, last' = some D ∧ last ≠ none ∧ D.dv = true ∧ D.depth = d ∧ o' ≤ o ∧ (o' < o → d < o)
theorem rightDepth_like {x y : Prt} {L L' : Prt} (h1 : x.depth = y.depth) (h2 : x.dv = y.dv) (h3 : L'.depth = L.depth) (h4 : L'.dv = L.dv) : rightDepth x (some L') = rightDepth y (some L) := by
  unfold rightDepth most
  dsimp only
  rw [h1, h2, h3, h4]
theorem hideF_right (p : Sv) : ∀ (xs : List Prt) (h : Option Int) (last last' : Option Prt) (o o' : Nat), HSt h last o last' o' → rightF last o xs = true → rightF last' o' (hideF p h xs) = true
  | [], _, _, _, _, _, _, _ => rfl
  | x :: xs, h, last, last', o, o', hs, hr => by
    rw [rightF] at hr
    simp only [Bool.and_eq_true, Bool.not_eq_true', Bool.or_eq_false_iff, decide_eq_false_iff_not, Bool.and_eq_false_imp] at hr
    obtain ⟨⟨⟨h1, h2⟩, h3, h4⟩, h5⟩ := hr
    have hdp : 0 ≤ x.depth := by
      cases last with
      | none => simp [rightDepth] at h2; omega
      | some L => simp [rightDepth] at h2; omega
    simp only [hideF]
    have next : ∀ (o1 : Nat), HSt (nextH p x) (some x) (if x.opn then o + 1 else o) (some (linesL p x)) (if x.opn then o + 1 else o) := by
      intro o1
      unfold nextH
      split
      · rename_i hc
        rw [Bool.and_eq_true] at hc
        exact ⟨linesL p x, rfl, by simp, hc.1, rfl, Nat.le_refl _, fun e => absurd e (Nat.lt_irrefl _)⟩
      · exact ⟨rfl, Or.inr ⟨x, linesL p x, rfl, rfl, rfl, rfl⟩⟩
    have kept : o' = o → rightDepth (linesL p x) last' = true → rightF last' o' (linesL p x :: hideF p (nextH p x) xs) = true := by
      intro e hd
      subst e
      rw [rightF]
      simp only [Bool.and_eq_true, Bool.not_eq_true', Bool.or_eq_false_iff, decide_eq_false_iff_not, Bool.and_eq_false_imp]
      exact ⟨⟨⟨rightPart_lines p x h1, hd⟩, h3, h4⟩, hideF_right p xs _ _ _ _ _ (next 0) h5⟩
    cases h with
    | none =>
      rw [if_neg (by simp [hidB])]
      obtain ⟨e, hl⟩ := hs
      refine kept e ?_
      rcases hl with ⟨rfl, rfl⟩ | ⟨L, L', rfl, rfl, e1, e2⟩
      · exact h2
      · rw [rightDepth_like (x := linesL p x) (y := x) rfl rfl e1 e2]; exact h2
    | some d =>
      obtain ⟨D, rfl, hne, hD1, hD2, ho, ho2⟩ := hs
      by_cases hx : hidB (some d) x.depth = true
      · rw [if_pos hx]
        have hx' : d < x.depth := by simpa [hidB] using hx
        refine hideF_right p xs (some d) (some x) (some D) _ o' ⟨D, rfl, by simp, hD1, hD2, ?_, ?_⟩ h5
        · split <;> omega
        · intro e
          split
          · rename_i hop
            have := h4 hop
            simp
            omega
          · rename_i hop
            rw [if_neg hop] at e
            exact ho2 e
      · rw [if_neg hx]
        have hx' : ¬ d < x.depth := by simpa [hidB] using hx
        refine kept ?_ ?_
        · by_cases e : o' < o
          · have := ho2 e; omega
          · omega
        · simp only [rightDepth, most, hD1, if_true, hD2, Bool.and_eq_true, decide_eq_true_eq]
          exact ⟨hdp, by show x.depth ≤ d + 1; omega⟩
theorem hideP_right (p : Sv) {P : List Prt} (h : rightP P = true) : rightP (hideP p P) = true :=
  hideF_right p P none none none 0 0 ⟨rfl, Or.inl ⟨rfl, rfl⟩⟩ h

/-! ### Lines that are written -/
/-- What each line that is written is. -/
theorem writeF_mem : ∀ (ps : List Prt) (i : Int) (o : Nat) (l : Txt), l ∈ writeF i o ps → l = divE ∨ (∃ x ∈ ps, x.dv = true ∧ l = divLine x.lab) ∨ ∃ x ∈ ps, l ∈ x.ls
  | [], i, o, l, h => by
    simp only [writeF, ends, List.mem_replicate] at h
    exact Or.inl h.2
  | x :: ps, i, o, l, h => by
    rw [writeF] at h
    simp only [List.mem_append, ends, List.mem_replicate] at h
    rcases h with ((h | h) | h) | h
    · exact Or.inl h.2
    · split at h
      · rename_i hd
        rw [List.mem_singleton] at h
        exact Or.inr (Or.inl ⟨x, by simp, hd, h⟩)
      · cases h
    · exact Or.inr (Or.inr ⟨x, by simp, h⟩)
    · rcases writeF_mem ps _ _ l h with h | ⟨y, hy, h⟩ | ⟨y, hy, h⟩
      · exact Or.inl h
      · exact Or.inr (Or.inl ⟨y, by simp [hy], h⟩)
      · exact Or.inr (Or.inr ⟨y, by simp [hy], h⟩)
theorem rightF_part : ∀ (ps : List Prt) (last : Option Prt) (o : Nat), rightF last o ps = true → ∀ x ∈ ps, rightPart x = true
  | [], _, _, _, _, hx => by cases hx
  | y :: ps, last, o, h, x, hx => by
    rw [rightF] at h
    simp only [Bool.and_eq_true] at h
    rw [List.mem_cons] at hx
    rcases hx with rfl | hx
    · exact h.1.1.1
    · exact rightF_part ps _ _ h.2 x hx
theorem divLine_mem (lab : Txt) : ∀ b ∈ divLine lab, b = 58 ∨ b = 123 ∨ b = 125 ∨ b ∈ lab := by
  intro b hb
  simp only [divLine, divB, List.mem_append, List.mem_cons, List.not_mem_nil, or_false] at hb
  rcases hb with (hb | hb) | hb
  · rcases hb with h | h | h | h
    · exact Or.inl h
    · exact Or.inl h
    · exact Or.inl h
    · exact Or.inr (Or.inl h)
  · exact Or.inr (Or.inr (Or.inr hb))
  · exact Or.inr (Or.inr (Or.inl hb))
theorem write_noLF {P : List Prt} (h : rightP P = true) : ∀ l ∈ writeP P, ∀ b ∈ l, b ≠ 10 := by
  intro l hl b hb
  rcases writeF_mem P 0 0 l hl with rfl | ⟨x, hx, hd, rfl⟩ | ⟨x, hx, hx2⟩
  · simp only [divE, List.mem_cons, List.not_mem_nil, or_false] at hb
    rcases hb with rfl | rfl | rfl <;> decide
  · have hp := rightF_part P none 0 h x hx
    unfold rightPart at hp
    rw [if_pos hd] at hp
    simp only [Bool.and_eq_true, lfFree, List.all_eq_true] at hp
    rcases divLine_mem x.lab b hb with rfl | rfl | rfl | hb
    · decide
    · decide
    · decide
    · simpa using hp.2 b hb
  · have hp := rightF_part P none 0 h x hx
    unfold rightPart at hp
    split at hp
    · rw [Bool.and_eq_true, Bool.and_eq_true, List.isEmpty_iff] at hp
      rw [hp.1.1] at hx2
      cases hx2
    · simp only [Bool.and_eq_true, List.all_eq_true] at hp
      have := hp.2 l hx2
      unfold lineOk at this
      simp only [Bool.and_eq_true, lfFree, List.all_eq_true] at this
      simpa using this.2 b hb

end Go.Proofs.YtkcmhdkhdjmjeaaGreatDoor
