/-
  Plain facts of package frame: labels, what opens and what closes a division, parts of lines, lines of parts, which parts may be.
-/
namespace Go.Proofs.YtodnioihadpncaaDoor
set_option linter.unusedSimpArgs false
set_option linter.unusedVariables false

abbrev Txt := List UInt8
def labSign (b : UInt8) : Bool := !(b == 123 || b == 125 || b == 124 || b == 58 || b == 32 || b == 9)
def labSize (l : Txt) : Nat := (l.takeWhile labSign).length
def labOk (n : Nat) : Bool := decide (1 ≤ n) && decide (n ≤ 40)
def isLab (l : Txt) : Bool := l.all labSign && labOk l.length
/-- Without the blanks at its end. -/
def trimR (l : Txt) : Txt := (l.reverse.dropWhile (· == 32)).reverse
/-- The label behind which there is but its end, and blanks. -/
def lastLab (l : Txt) : Option Txt :=
  if (trimR l).getLast? = some 125 ∧ isLab (trimR l).dropLast = true then some (trimR l).dropLast else none
def divB : Txt := [58, 58, 58, 123]
def divE : Txt := [58, 58, 58]
def opensL (l : Txt) : Option Txt := if divB.isPrefixOf l then lastLab (l.drop 4) else none
def closesL (l : Txt) : Bool := decide (trimR l = divE)
def divLine (lab : Txt) : Txt := divB ++ lab ++ [125]

theorem takeW_mem {α : Type} {p : α → Bool} : ∀ {l : List α} {x : α}, x ∈ l.takeWhile p → p x = true
  | a :: l, x, h => by
    rw [List.takeWhile_cons] at h
    split at h
    · rename_i hp
      rw [List.mem_cons] at h
      rcases h with rfl | h
      · exact hp
      · exact takeW_mem h
    · cases h
theorem takeW_all {α : Type} {p : α → Bool} : ∀ {l : List α}, l.all p = true → l.takeWhile p = l
  | [], _ => rfl
  | a :: l, h => by
    simp only [List.all_cons, Bool.and_eq_true] at h
    rw [List.takeWhile_cons, if_pos h.1, takeW_all h.2]
theorem labSize_all {l : Txt} (h : l.all labSign = true) : labSize l = l.length := by
  unfold labSize
  rw [takeW_all h]
theorem labSize_le (l : Txt) : labSize l ≤ l.length := (List.takeWhile_prefix _).length_le
theorem all_labSize {l : Txt} : labSize l = l.length ↔ l.all labSign = true := by
  constructor
  · intro h
    have h1 := List.takeWhile_prefix (p := labSign) (l := l)
    have h2 := h1.eq_of_length h
    rw [← h2, List.all_eq_true]
    intro x hx
    exact takeW_mem hx
  · exact labSize_all
theorem isLab_size (l : Txt) : isLab l = (labOk (labSize l) && decide (labSize l = l.length)) := by
  rw [Bool.eq_iff_iff]
  simp only [isLab, Bool.and_eq_true, decide_eq_true_eq]
  constructor
  · rintro ⟨h1, h2⟩; rw [labSize_all h1]; exact ⟨h2, rfl⟩
  · rintro ⟨h1, h2⟩; exact ⟨all_labSize.1 h2, by rw [← h2]; exact h1⟩

theorem trimR_snoc (l : Txt) (b : UInt8) (h : b ≠ 32) : trimR (l ++ [b]) = l ++ [b] := by
  unfold trimR
  rw [List.reverse_append]
  simp [h]
theorem trimR_blank (l : Txt) : trimR (l ++ [32]) = trimR l := by
  unfold trimR
  rw [List.reverse_append]
  simp
/-- A text is its trimmed one, and blanks. -/
theorem trimR_more (l : Txt) : ∃ k, l = trimR l ++ List.replicate k 32 := by
  unfold trimR
  have h := List.takeWhile_append_dropWhile (p := (· == (32 : UInt8))) (l := l.reverse)
  have h2 : l = (l.reverse.dropWhile (· == 32)).reverse ++ (l.reverse.takeWhile (· == 32)).reverse := by
    rw [← List.reverse_append, h, List.reverse_reverse]
  refine ⟨(l.reverse.takeWhile (· == 32)).length, ?_⟩
  have h3 : (l.reverse.takeWhile (· == 32)).reverse = List.replicate (l.reverse.takeWhile (· == 32)).length 32 := by
    rw [List.eq_replicate_iff]
    refine ⟨by simp, fun b hb => ?_⟩
    have := takeW_mem (List.mem_reverse.1 hb)
    simpa using this
  rw [← h3]
  exact h2
theorem trimR_rep (l : Txt) : ∀ k, trimR (l ++ List.replicate k 32) = trimR l
  | 0 => by simp
  | k + 1 => by
    rw [List.replicate_succ', ← List.append_assoc, trimR_blank, trimR_rep l k]
theorem trimR_divE : trimR divE = divE := by decide
theorem closes_divE : closesL divE = true := by decide
theorem lastLab_line (lab : Txt) (h : isLab lab = true) : lastLab (lab ++ [125]) = some lab := by
  unfold lastLab
  rw [trimR_snoc _ _ (by decide)]
  simp [h]
theorem opens_divLine (lab : Txt) (h : isLab lab = true) : opensL (divLine lab) = some lab := by
  have e : divLine lab = 58 :: 58 :: 58 :: 123 :: (lab ++ [125]) := by simp [divLine, divB]
  unfold opensL
  rw [e, if_pos (by simp [divB])]
  exact lastLab_line lab h
theorem lastLab_some {l lab : Txt} (h : lastLab l = some lab) : isLab lab = true ∧ trimR l = lab ++ [125] := by
  unfold lastLab at h
  split at h
  · rename_i hc
    cases h
    refine ⟨hc.2, ?_⟩
    obtain ⟨ys, hys⟩ := List.getLast?_eq_some_iff.1 hc.1
    rw [hys]; simp
  · cases h
theorem prefix_of {p l : Txt} (h : p.isPrefixOf l = true) : l = p ++ l.drop p.length := by
  obtain ⟨m, rfl⟩ := List.isPrefixOf_iff_prefix.1 h
  simp
theorem opens_some {l lab : Txt} (h : opensL l = some lab) : isLab lab = true ∧ ∃ k, l = divLine lab ++ List.replicate k 32 := by
  unfold opensL at h
  split at h
  · rename_i hc
    obtain ⟨h1, h2⟩ := lastLab_some h
    refine ⟨h1, ?_⟩
    obtain ⟨k, hk⟩ := trimR_more (l.drop 4)
    refine ⟨k, ?_⟩
    have h3 := prefix_of hc
    rw [show divB.length = 4 from rfl] at h3
    rw [h3, hk, h2]
    simp [divLine]
  · cases h
theorem closes_some {l : Txt} (h : closesL l = true) : ∃ k, l = divE ++ List.replicate k 32 := by
  obtain ⟨k, hk⟩ := trimR_more l
  exact ⟨k, by rw [of_decide_eq_true h] at hk; exact hk⟩
theorem opens_divE : opensL divE = none := by decide

/-! ### Parts -/
structure Prt where
  depth : Int
  dv : Bool
  lab : Txt
  opn : Bool
  ls : List Txt
deriving DecidableEq, Inhabited

def lfFree (l : Txt) : Bool := l.all (· != 10)
def lineOk (d : Int) (l : Txt) : Bool := (opensL l).isNone && !(decide (0 < d) && closesL l) && lfFree l
def rightPart (p : Prt) : Bool :=
  if p.dv then p.ls.isEmpty && isLab p.lab && lfFree p.lab
  else !p.ls.isEmpty && p.lab.isEmpty && !p.opn && p.ls.all (lineOk p.depth)
/-- How deep a part may lie at most behind this one. -/
def most (last : Prt) (dv : Bool) : Int := if last.dv then last.depth + 1 else if dv then last.depth else last.depth - 1
def rightDepth (p : Prt) (last : Option Prt) : Bool :=
  match last with
  | none => decide (p.depth = 0)
  | some q => decide (0 ≤ p.depth) && decide (p.depth ≤ most q p.dv)
/-- The check, part by part: what came last, and how many are open. -/
def rightF : Option Prt → Nat → List Prt → Bool
  | _, _, [] => true
  | last, o, p :: ps => rightPart p && rightDepth p last && !(decide (p.depth < o) || p.opn && decide ((o : Int) < p.depth)) && rightF (some p) (if p.opn then o + 1 else o) ps
def rightP (ps : List Prt) : Bool := rightF none 0 ps

def ends (n : Nat) : List Txt := List.replicate n divE
/-- The lines, part by part: how deep one is, how many are open. -/
def writeF : Int → Nat → List Prt → List Txt
  | inside, o, [] => ends (inside - o).toNat
  | inside, o, p :: ps => ends (inside - p.depth).toNat ++ (if p.dv then [divLine p.lab] else []) ++ p.ls ++ writeF (if p.dv then p.depth + 1 else p.depth) (if p.opn then o + 1 else o) ps
def writeP (ps : List Prt) : List Txt := writeF 0 0 ps

def shut (ps : List Prt) (i : Nat) : List Prt := ps.modify i fun p => { p with opn := false }
def addLn (ps : List Prt) (d : Nat) (s : Txt) : List Prt :=
  match ps.getLast? with
  | some p => if p.dv ∨ p.depth ≠ d then ps ++ [⟨d, false, [], false, [s]⟩] else ps.dropLast ++ [{ p with ls := p.ls ++ [s] }]
  | none => [⟨d, false, [], false, [s]⟩]
def stepP (st : List Prt × List Nat) (s : Txt) : List Prt × List Nat :=
  match opensL s with
  | some lab => (st.1 ++ [⟨st.2.length, true, lab, true, []⟩], st.2 ++ [st.1.length])
  | none => if st.2 ≠ [] ∧ closesL s = true then (shut st.1 (st.2.getLast?.getD 0), st.2.dropLast) else (addLn st.1 st.2.length s, st.2)
def parseF (st : List Prt × List Nat) (ls : List Txt) : List Prt × List Nat := ls.foldl stepP st
def parseL (ls : List Txt) : List Prt := (parseF ([], []) ls).1
theorem parseF_append (st : List Prt × List Nat) (a b : List Txt) : parseF st (a ++ b) = parseF (parseF st a) b := by simp [parseF]
theorem parseF_one (st : List Prt × List Nat) (s : Txt) : parseF st [s] = stepP st s := rfl

end Go.Proofs.YtodnioihadpncaaDoor
