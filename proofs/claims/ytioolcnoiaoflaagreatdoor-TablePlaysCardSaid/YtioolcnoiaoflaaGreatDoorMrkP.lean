/-
  Plain facts of the layer mark: what a line begins, byte by byte.
-/
import Derived.Test.YtioolcnoiaoflaaGreatDoorLineP
import Derived.Lib.SlTrimSet
import Derived.Lib.Bytealg
import Derived.Lib.Strings
namespace Go.Proofs.YtioolcnoiaoflaaGreatDoor
set_option linter.unusedSimpArgs false
set_option linter.unusedVariables false

/-- What stands behind a line's blanks; nothing, if these are four or more. -/
def mkBegin (l : List UInt8) : List UInt8 := if mCols l 0 ≤ 3 then l.drop (mSize l) else []
theorem mkBegin_le (l : List UInt8) : (mkBegin l).length ≤ l.length := by
  unfold mkBegin
  split
  · rw [List.length_drop]; omega
  · simp
theorem mCols_rep (k : Nat) (l : List UInt8) : ∀ c, mCols (List.replicate k 32 ++ l) c = mCols l (c + k) := by
  induction k with
  | zero => intro c; rfl
  | succ k ih =>
    intro c
    rw [List.replicate_succ, List.cons_append]
    simp only [mCols, beq_self_eq_true, if_true]
    rw [ih]; congr 1; omega
theorem mSize_rep (k : Nat) (l : List UInt8) : mSize (List.replicate k 32 ++ l) = k + mSize l := by
  induction k with
  | zero => simp
  | succ k ih =>
    rw [List.replicate_succ, List.cons_append]
    show (if isGap 32 then mSize (List.replicate k 32 ++ l) + 1 else 0) = _
    rw [ih]; simp [isGap]; omega
/-- Behind at most three blanks. -/
theorem mkBegin_few {k : Nat} {b : UInt8} {l : List UInt8} (hk : k ≤ 3) (hb : isGap b = false) : mkBegin (List.replicate k 32 ++ b :: l) = b :: l := by
  unfold mkBegin
  rw [mCols_rep, mSize_rep, mCols_other hb, mSize_other hb, if_pos (by omega)]
  simp
theorem mkBegin_here {b : UInt8} {l : List UInt8} (hb : isGap b = false) : mkBegin (b :: l) = b :: l := mkBegin_few (k := 0) (by omega) hb
theorem mkBegin_four {k : Nat} {l : List UInt8} (hk : 4 ≤ k) : mkBegin (List.replicate k 32 ++ l) = [] := by
  unfold mkBegin
  rw [mCols_rep, if_neg]
  have := mCols_ge l (0 + k)
  omega

/-- How many c a text begins with. -/
def mkRow (c : UInt8) (l : List UInt8) : Nat := (l.takeWhile (· == c)).length
theorem mkRow_le (c : UInt8) (l : List UInt8) : mkRow c l ≤ l.length := (List.takeWhile_prefix _).length_le
theorem mkRow_nil (c : UInt8) : mkRow c [] = 0 := rfl
theorem mkRow_cons {c b : UInt8} {l : List UInt8} (h : b = c) : mkRow c (b :: l) = mkRow c l + 1 := by
  unfold mkRow; rw [List.takeWhile_cons, if_pos (by simpa using h)]; rfl
theorem mkRow_other {c b : UInt8} {l : List UInt8} (h : b ≠ c) : mkRow c (b :: l) = 0 := by
  unfold mkRow; rw [List.takeWhile_cons, if_neg (by simpa using h)]; rfl
theorem mkRow_rep (c : UInt8) (n : Nat) (l : List UInt8) : mkRow c (List.replicate n c ++ l) = n + mkRow c l := by
  induction n with
  | zero => simp
  | succ n ih => rw [List.replicate_succ, List.cons_append, mkRow_cons rfl, ih]; omega

/-- The blanks at both ends go. -/
abbrev gapB : List UInt8 := [32, 9]
theorem gapB_is (b : UInt8) : gapB.contains b = isGap b := by
  simp only [gapB, List.contains, List.elem, isGap]
  cases (b == 32) <;> cases (b == 9) <;> rfl
def trimG (l : List UInt8) : List UInt8 := Lib.trimS l gapB
def trimGR (l : List UInt8) : List UInt8 := Lib.trimRightS l gapB
theorem trimGR_def (l : List UInt8) : trimGR l = (l.reverse.dropWhile isGap).reverse := by
  unfold trimGR Lib.trimRightS
  congr 2
  funext b; exact gapB_is b
theorem trimG_def (l : List UInt8) : trimG l = (trimGR l).dropWhile isGap := by
  unfold trimG Lib.trimS Lib.trimLeftS
  rw [show Lib.trimRightS l gapB = trimGR l from rfl]
  congr 1
  funext b; exact gapB_is b
theorem trimGR_le (l : List UInt8) : (trimGR l).length ≤ l.length := by
  rw [trimGR_def, List.length_reverse]
  have := (List.dropWhile_suffix isGap (l := l.reverse)).length_le
  simpa using this
theorem trimG_le (l : List UInt8) : (trimG l).length ≤ l.length := by
  rw [trimG_def]
  have h1 := (List.dropWhile_suffix isGap (l := trimGR l)).length_le
  have h2 := trimGR_le l
  omega
theorem trimGR_nil : trimGR [] = [] := rfl
theorem trimG_nil : trimG [] = [] := rfl
theorem trimGR_blank (l : List UInt8) (b : UInt8) (h : isGap b = true) : trimGR (l ++ [b]) = trimGR l := by
  rw [trimGR_def, trimGR_def, List.reverse_append]
  simp [List.dropWhile, h]
theorem trimGR_snoc (l : List UInt8) (b : UInt8) (h : isGap b = false) : trimGR (l ++ [b]) = l ++ [b] := by
  rw [trimGR_def, List.reverse_append]
  simp [List.dropWhile, h]
theorem trimRB_same (l : List UInt8) (c : UInt8) (n : Nat) : Lib.trimRightB (l ++ List.replicate n c) c = Lib.trimRightB l c := by
  induction n with
  | zero => simp
  | succ n ih =>
    rw [List.replicate_succ', ← List.append_assoc]
    unfold Lib.trimRightB at ih ⊢
    rw [List.reverse_append]
    simp [List.dropWhile]
theorem trimRB_snoc (l : List UInt8) (b c : UInt8) (h : b ≠ c) : Lib.trimRightB (l ++ [b]) c = l ++ [b] := by
  unfold Lib.trimRightB
  rw [List.reverse_append]
  have : (b == c) = false := by simpa using h
  simp [List.dropWhile, this]
theorem trimRB_le (l : List UInt8) (c : UInt8) : (Lib.trimRightB l c).length ≤ l.length := by
  unfold Lib.trimRightB
  rw [List.length_reverse]
  have := (List.dropWhile_suffix (· == c) (l := l.reverse)).length_le
  simpa using this

/-- A heading's text without the row of # at its end. -/
def mkLess (t : List UInt8) : List UInt8 :=
  if trimGR (Lib.trimRightB t 35) = Lib.trimRightB t 35 ∧ Lib.trimRightB t 35 ≠ [] then t else trimGR (Lib.trimRightB t 35)
theorem mkLess_le (t : List UInt8) : (mkLess t).length ≤ t.length := by
  unfold mkLess
  split
  · exact Nat.le_refl _
  · have h1 := trimGR_le (Lib.trimRightB t 35)
    have h2 := trimRB_le t 35
    omega
/-- What stands behind a row of a heading's signs may be its text. -/
def mkApart : List UInt8 → Bool
  | [] => true
  | b :: _ => isGap b
def mkHead (l : List UInt8) : Option (Nat × List UInt8) :=
  if 1 ≤ mkRow 35 (mkBegin l) ∧ mkRow 35 (mkBegin l) ≤ 6 ∧ mkApart ((mkBegin l).drop (mkRow 35 (mkBegin l))) = true then some (mkRow 35 (mkBegin l), mkLess (trimG ((mkBegin l).drop (mkRow 35 (mkBegin l))))) else none

/-- Whether a text is a break, from where it goes on. -/
def isRS (b : UInt8) : Bool := b == 45 || b == 42 || b == 95
def ruleH : Bool → UInt8 → Nat → List UInt8 → Bool
  | _, _, n, [] => decide (3 ≤ n)
  | first, c, n, b :: t => if first && isRS b then ruleH false b 1 t else if !first && b == c then ruleH false c (n + 1) t else if isGap b then ruleH false c n t else false
def mkRule (l : List UInt8) : Bool := ruleH true 0 0 (mkBegin l)
theorem ruleH_rs {c b : UInt8} {n : Nat} {t : List UInt8} (h : isRS b = true) : ruleH true c n (b :: t) = ruleH false b 1 t := by simp [ruleH, h]
theorem ruleH_same {c : UInt8} {n : Nat} {t : List UInt8} : ruleH false c n (c :: t) = ruleH false c (n + 1) t := by simp [ruleH]
theorem ruleH_gap {f : Bool} {c b : UInt8} {n : Nat} {t : List UInt8} (h1 : f = true → isRS b = false) (h2 : f = false → b ≠ c) (h : isGap b = true) : ruleH f c n (b :: t) = ruleH false c n t := by
  cases f with
  | true => simp [ruleH, h1 rfl, h]
  | false => simp [ruleH, h2 rfl, h]
theorem ruleH_no {f : Bool} {c b : UInt8} {n : Nat} {t : List UInt8} (h1 : f = true → isRS b = false) (h2 : f = false → b ≠ c) (h : isGap b = false) : ruleH f c n (b :: t) = false := by
  cases f with
  | true => simp [ruleH, h1 rfl, h]
  | false => simp [ruleH, h2 rfl, h]
theorem ruleH_all (c : UInt8) (n : Nat) (l : List UInt8) (hc : isGap c = false) : ruleH false c n l = (l.all (fun b => b == c || isGap b) && decide (3 ≤ n + l.count c)) := by
  induction l generalizing n with
  | nil => simp only [ruleH, List.all_nil, List.count_nil, Nat.add_zero, Bool.true_and]; rfl
  | cons b t ih =>
    simp only [ruleH, Bool.false_and, Bool.false_eq_true, if_false, Bool.not_false, Bool.true_and, List.all_cons]
    by_cases h : b = c
    · subst h
      rw [if_pos (by simp), ih, List.count_cons_self]
      simp only [beq_self_eq_true, Bool.true_or, Bool.true_and]
      congr 2
      rw [eq_iff_iff]; constructor <;> omega
    · have h1 : (b == c) = false := by simpa using h
      rw [h1, if_neg (by simp), Bool.false_or, List.count_cons_of_ne h]
      cases h2 : isGap b with
      | true => rw [if_pos rfl, ih, Bool.true_and]
      | false => rw [if_neg (by simp), Bool.false_and, Bool.false_and]

def mkFence (l : List UInt8) : Option (UInt8 × Nat × List UInt8) :=
  let x := mkBegin l
  let c : UInt8 := if Lib.hasPrefix x [126] then 126 else 96
  let info := trimG (x.drop (mkRow c x))
  if mkRow c x < 3 ∨ (c = 96 ∧ 0 ≤ Lib.indexByte info 96) then none else some (c, mkRow c x, info)
def mkCloses (l : List UInt8) (c : UInt8) (n : Int) : Bool := decide (max n 1 ≤ (mkRow c (mkBegin l) : Int)) && ((mkBegin l).drop (mkRow c (mkBegin l))).all isGap
def mkQuote (l : List UInt8) : Option (List UInt8) := if Lib.hasPrefix (mkBegin l) [62] then some (Lib.trimPrefix (Lib.trimPrefix (mkBegin l) [62]) [32]) else none
def isDig (b : UInt8) : Bool := decide (48 ≤ b.toNat) && decide (b.toNat ≤ 57)
/-- The sign of an item, its number, how many bytes both are. -/
def itemF : Nat → Nat → List UInt8 → UInt8 × Int × Nat
  | _, _, [] => (0, 0, 0)
  | i, n, b :: t => if decide (i = 0) && (b == 45 || b == 43 || b == 42) then (b, -1, 1) else if decide (0 < i) && (b == 46 || b == 41) then (b, n, i + 1)
    else if decide (i < 9) && isDig b then itemF (i + 1) (n * 10 + (b.toNat - 48)) t else (0, 0, 0)
theorem itemF_size : ∀ (l : List UInt8) (i n : Nat), (itemF i n l).2.2 ≤ i + l.length
  | [], _, _ => by simp [itemF]
  | b :: t, i, n => by
    simp only [itemF]
    split
    · simp <;> omega
    · split
      · simp <;> omega
      · split
        · have := itemF_size t (i + 1) (n * 10 + (b.toNat - 48))
          simp only [List.length_cons]; omega
        · simp
theorem itemF_sign {n : Nat} {b : UInt8} {t : List UInt8} (hb : b = 45 ∨ b = 43 ∨ b = 42) : itemF 0 n (b :: t) = (b, -1, 1) := by
  rcases hb with rfl | rfl | rfl <;> rfl
theorem itemF_end {i n : Nat} {b : UInt8} {t : List UInt8} (hi : 0 < i) (hb : b = 46 ∨ b = 41) : itemF i n (b :: t) = (b, (n : Int), i + 1) := by
  have h0 : ¬ i = 0 := by omega
  rcases hb with rfl | rfl <;> simp [itemF, hi, h0]
theorem itemF_dig {i n : Nat} {b : UInt8} {t : List UInt8} (hi : i < 9) (hb : isDig b = true) : itemF i n (b :: t) = itemF (i + 1) (n * 10 + (b.toNat - 48)) t := by
  have h : ∀ c : UInt8, c.toNat < 48 → (b == c) = false := by
    intro c hc
    simp only [beq_eq_false_iff_ne, ne_eq]
    rintro rfl
    simp [isDig] at hb
    omega
  simp only [itemF, h 45 (by decide), h 43 (by decide), h 42 (by decide), h 46 (by decide), h 41 (by decide), hb, hi, decide_true, Bool.or_false, Bool.and_false, Bool.false_eq_true, if_false, Bool.and_true, if_true]
theorem itemF_none {i n : Nat} {b : UInt8} {t : List UInt8} (h1 : i = 0 → b ≠ 45 ∧ b ≠ 43 ∧ b ≠ 42) (h2 : 0 < i → b ≠ 46 ∧ b ≠ 41) (h3 : i < 9 → isDig b = false) : itemF i n (b :: t) = (0, 0, 0) := by
  have a1 : (decide (i = 0) && (b == 45 || b == 43 || b == 42)) = false := by
    by_cases h : i = 0
    · have := h1 h; simp [this.1, this.2.1, this.2.2]
    · simp [h]
  have a2 : (decide (0 < i) && (b == 46 || b == 41)) = false := by
    by_cases h : 0 < i
    · have := h2 h; simp [this.1, this.2]
    · simp [h]
  have a3 : (decide (i < 9) && isDig b) = false := by
    by_cases h : i < 9
    · rw [h3 h, Bool.and_false]
    · simp [h]
  simp only [itemF, a1, a2, a3, Bool.false_eq_true, if_false]
def itemSg (l : List UInt8) : UInt8 × Int × Nat := itemF 0 0 l
/-- How many of the blanks behind an item's sign belong to it. -/
def mkGap (rest : List UInt8) : Nat := if 4 < mkRow 32 rest ∨ mkRow 32 rest = rest.length then 1 else mkRow 32 rest
def mkItem (l : List UInt8) : Option (UInt8 × Int × Nat × List UInt8) :=
  let x := mkBegin l
  let s := itemSg x
  let rest := x.drop s.2.2
  if s.2.2 = 0 ∨ (mkRow 32 rest = 0 ∧ rest ≠ []) ∨ mkRule l = true then none
  else some (s.1, s.2.1, mCols l 0 + s.2.2 + mkGap rest, rest.drop (min (mkGap rest) rest.length))
def mkUnder (l : List UInt8) : Nat := if mkCloses l 61 1 then 1 else if mkCloses l 45 1 then 2 else 0
def isHtm (b : UInt8) : Bool := b == 47 || b == 33 || b == 63 || (decide (97 ≤ b.toNat) && decide (b.toNat ≤ 122)) || (decide (65 ≤ b.toNat) && decide (b.toNat ≤ 90))
def mkHtml (l : List UInt8) : Bool := match mkBegin l with
  | 60 :: b :: _ => isHtm b
  | _ => false

/-- Behind four blanks a line begins nothing. -/
theorem mk_nothing {l : List UInt8} (h : mkBegin l = []) : mkHead l = none ∧ mkRule l = false ∧ mkFence l = none ∧ (∀ c n, mkCloses l c n = false) ∧ mkQuote l = none ∧ mkItem l = none ∧ mkUnder l = 0 ∧ mkHtml l = false := by
  have hc : ∀ c n, mkCloses l c n = false := by
    intro c n
    unfold mkCloses
    rw [h, mkRow_nil]
    simp; omega
  refine ⟨?_, ?_, ?_, hc, ?_, ?_, ?_, ?_⟩
  · unfold mkHead; rw [h]; simp [mkRow_nil]
  · unfold mkRule; rw [h]; rfl
  · unfold mkFence; rw [h]; simp [mkRow_nil]
  · unfold mkQuote; rw [h]; rfl
  · unfold mkItem; rw [h]; simp [itemSg, itemF]
  · unfold mkUnder; rw [hc, hc]; rfl
  · unfold mkHtml; rw [h]

def noBegin (l : List UInt8) : List UInt8 := l.dropWhile isGap
theorem trimGR_cons (b : UInt8) (m : List UInt8) : trimGR (b :: m) = if isGap b && (trimGR m).isEmpty then [] else b :: trimGR m := by
  rw [trimGR_def, trimGR_def, List.reverse_cons, List.dropWhile_append]
  cases h : (m.reverse.dropWhile isGap) with
  | nil =>
    cases hb : isGap b <;> simp [hb]
  | cons x r => simp
/-- Blanks at the beginning may go first. -/
theorem trim_first : ∀ l : List UInt8, trimGR (l.dropWhile isGap) = trimG l
  | [] => rfl
  | b :: m => by
    have ih := trim_first m
    rw [trimG_def] at ih ⊢
    rw [List.dropWhile_cons, trimGR_cons]
    cases hb : isGap b
    · simp only [Bool.false_eq_true, if_false, Bool.false_and]
      rw [List.dropWhile_cons, if_neg (by rw [hb]; simp), trimGR_cons, hb]
      simp
    · simp only [if_true, Bool.true_and]
      rw [ih]
      cases ht : trimGR m with
      | nil => simp
      | cons x r =>
        simp only [List.isEmpty_cons, Bool.false_eq_true, if_false]
        rw [List.dropWhile_cons (x := b), if_pos hb]

end Go.Proofs.YtioolcnoiaoflaaGreatDoor
