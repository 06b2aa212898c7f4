/-
  Plain facts of the layer token: what each token is, where it ends.
-/
import Derived.Test.YtggdpmaomhmobaaGreatDoorEntP
namespace Go.Proofs.YtggdpmaomhmobaaGreatDoor
open Go.RowKit
set_option linter.unusedSimpArgs false
set_option linter.unusedVariables false

/-- A token, plainly. -/
inductive Tk where
  | no
  | word (l : List UInt8)
  | code (l : List UInt8)
  | tag (l : List UInt8)
  | auto (u t : List UInt8)
  | run (b : UInt8) (n : Nat)
  | mark (l : List UInt8)
  | brk (h : Bool)
  | atom (n : Int)
deriving DecidableEq

def tkLetterI (x : Int) : Bool := inR x 65 90 || inR x 97 122
def tkDigitI (x : Int) : Bool := inR x 48 57
def tkSchemeI (x : Int) : Bool := tkLetterI x || tkDigitI x || x == 43 || x == 46 || x == 45
def tkUrlI (x : Int) : Bool := decide (32 < x) && x != 60 && x != 62 && x != 127
def tkTagNameI (x : Int) : Bool := tkLetterI x || tkDigitI x || x == 45
def tkHostI (x : Int) : Bool := tkTagNameI x || x == 46
def tkMailI (x : Int) : Bool := tkHostI x || x == 95 || x == 43
def tkInTagI (x : Int) : Bool := x != 60 && x != 62 && x != 0
def tkBlankI (x : Int) : Bool := x == 32 || x == 9
def tkStops : List UInt8 := [0, 92, 38, 96, 60, 42, 95, 33, 91, 93, 10, 32]
def tkWord (b : UInt8) : Bool := decide (Lib.indexByte tkStops b < 0)
def tkLetter (b : UInt8) : Bool := tkLetterI b.toNat
def tkDigit (b : UInt8) : Bool := tkDigitI b.toNat
def tkScheme (b : UInt8) : Bool := tkSchemeI b.toNat
def tkUrl (b : UInt8) : Bool := tkUrlI b.toNat
def tkTagName (b : UInt8) : Bool := tkTagNameI b.toNat
def tkHost (b : UInt8) : Bool := tkHostI b.toNat
def tkMail (b : UInt8) : Bool := tkMailI b.toNat
def tkInTag (b : UInt8) : Bool := tkInTagI b.toNat
def tkBlank (b : UInt8) : Bool := tkBlankI b.toNat

/-- Where, from k on, the bytes end that are of a kind. -/
def pastL (p : UInt8 → Bool) (l : List UInt8) (k : Nat) : Nat := k + ((l.drop k).takeWhile p).length
def hasL (l : List UInt8) (k : Nat) (b : UInt8) : Bool := l[k]? == some b
/-- How many bytes like its first one a text begins with. -/
def rowL (l : List UInt8) : Nat := pastL (fun b => b == l.headD 0) l 1

def atomL (l : List UInt8) : Tk × Nat :=
  let e := pastL tkDigit l 1
  if e = 1 ∨ 5 < e ∨ hasL l e 0 = false then (.atom 0, 0) else (.atom ((Lib.atoi ((l.take e).drop 1)).getD 0), e + 1)
def tkAscii (b : UInt8) : Bool := inR b.toNat 33 47 || inR b.toNat 58 64 || inR b.toNat 91 96 || inR b.toNat 123 126
def escapedL (l : List UInt8) : Tk × Nat :=
  if hasL l 1 10 then (.brk true, pastL tkBlank l 2)
  else match l[1]? with
    | some c => if tkAscii c then (.word [c], 2) else (.no, 0)
    | none => (.no, 0)
def namedTk (l : List UInt8) : Tk × Nat := (.word (atL l).1.data.toList, (atL l).2)
/-- What is shown of code. -/
def shownL (l : List UInt8) : List UInt8 :=
  let m := l.map fun b => if b == 10 then 32 else b
  if hasL m 0 32 && hasL m (m.length - 1) 32 && decide (rowL m < m.length) then (m.take (m.length - 1)).drop 1 else m
/-- The code that l begins with: n backquotes; from k on a row of just as many is looked for. -/
def codeGo (l : List UInt8) (n : Nat) : Nat → Nat → Tk × Nat
  | 0, _ => (.word (l.take n), n)
  | f + 1, k =>
    if Lib.index (l.drop k) (l.take n) < 0 then (.word (l.take n), n)
    else
      let e := k + (Lib.index (l.drop k) (l.take n)).toNat
      let z := e + rowL (l.drop e)
      if z - e = n then (.code (shownL ((l.take e).drop n)), z) else codeGo l n f z
def codeL (l : List UInt8) : Tk × Nat := codeGo l (rowL l) (l.length + 1) (rowL l)

def betweenL (l : List UInt8) (e : Nat) : List UInt8 × Nat :=
  if e = 0 ∨ hasL l e 62 = false then ([], 0) else ((l.take e).drop 1, e + 1)
def addressL (l : List UInt8) : Nat :=
  let c := pastL tkScheme l 1
  if c < 3 ∨ 33 < c ∨ ((l[1]?).map tkLetter).getD false = false ∨ hasL l c 58 = false then 0 else pastL tkUrl l (c + 1)
def mailboxL (l : List UInt8) : Nat :=
  let a := pastL tkMail l 1
  if a = 1 ∨ hasL l a 64 = false then 0
  else
    let e := pastL tkHost l (a + 1)
    if e = a + 1 then 0 else e
def tagL (l : List UInt8) : Nat :=
  let f := if hasL l 1 47 then 2 else 1
  if f = l.length ∨ ((l[f]?).map tkLetter).getD false = false then 0
  else
    let e := pastL tkTagName l f
    if hasL l e 32 || hasL l e 10 || hasL l e 47 then pastL tkInTag l e else e
def tkMailto : List UInt8 := [109, 97, 105, 108, 116, 111, 58]
def pointedL (l : List UInt8) : Tk × Nat :=
  let a := betweenL l (addressL l)
  if 0 < a.2 then (.auto a.1 a.1, a.2)
  else
    let m := betweenL l (mailboxL l)
    if 0 < m.2 then (.auto (tkMailto ++ m.1) m.1, m.2)
    else
      let t := betweenL l (tagL l)
      (.tag (l.take t.2), t.2)
def markTk (l : List UInt8) : Tk × Nat :=
  if Lib.hasPrefix l [33, 91] then (.mark [33, 91], 2)
  else if Lib.hasPrefix l [91] then (.mark [91], 1)
  else if Lib.hasPrefix l [93] then (.mark [93], 1)
  else (.mark [], 0)
def lineTk (l : List UInt8) : Tk × Nat :=
  let e := pastL (fun b => b == 32) l 0
  if hasL l e 10 = false then (.brk false, 0) else (.brk (decide (2 ≤ e)), pastL tkBlank l (e + 1))
def firstTk (l : List UInt8) : Tk × Nat :=
  let c := l.headD 1
  if c = 0 then atomL l
  else if c = 92 then escapedL l
  else if c = 38 then namedTk l
  else if c = 96 then codeL l
  else if c = 60 then pointedL l
  else if c = 42 ∨ c = 95 then (.run c (rowL l), rowL l)
  else if c = 33 ∨ c = 91 ∨ c = 93 then markTk l
  else if c = 32 ∨ c = 10 then lineTk l
  else (.no, 0)
def wordTk (l : List UInt8) : Tk × Nat :=
  let n := if l.headD 1 = 32 then rowL l else pastL tkWord l 1
  (.word (l.take n), n)
/-- The token that a text begins with, and how many bytes it has. -/
def nextL (l : List UInt8) : Tk × Nat := if (firstTk l).2 = 0 then wordTk l else firstTk l
def allTk : Nat → List UInt8 → List Tk
  | 0, _ => []
  | f + 1, l => if l = [] then [] else (nextL l).1 :: allTk f (l.drop (nextL l).2)
def tokensL (l : List UInt8) : List Tk := allTk l.length l

theorem pastL_ge (p : UInt8 → Bool) (l : List UInt8) (k : Nat) : k ≤ pastL p l k := by unfold pastL; omega
theorem takeWhile_le (p : UInt8 → Bool) (l : List UInt8) : (l.takeWhile p).length ≤ l.length := (List.takeWhile_prefix p).length_le
theorem pastL_le (p : UInt8 → Bool) (l : List UInt8) (k : Nat) (h : k ≤ l.length) : pastL p l k ≤ l.length := by
  unfold pastL
  have := takeWhile_le p (l.drop k)
  rw [List.length_drop] at this
  omega
theorem rowL_pos (l : List UInt8) : 1 ≤ rowL l := pastL_ge _ _ _
theorem rowL_le (l : List UInt8) (h : l ≠ []) : rowL l ≤ l.length := pastL_le _ _ _ (by cases l with | nil => exact absurd rfl h | cons a b => simp)
theorem pastL_step (p : UInt8 → Bool) (l : List UInt8) (k : Nat) (h : k < l.length) (hp : p l[k] = true) : pastL p l k = pastL p l (k + 1) := by
  unfold pastL
  rw [List.drop_eq_getElem_cons h, List.takeWhile_cons, if_pos hp]
  simp; omega
theorem pastL_stop (p : UInt8 → Bool) (l : List UInt8) (k : Nat) (h : k < l.length) (hp : p l[k] = false) : pastL p l k = k := by
  unfold pastL
  rw [List.drop_eq_getElem_cons h, List.takeWhile_cons, if_neg (by simp [hp])]
  simp
theorem pastL_end (p : UInt8 → Bool) (l : List UInt8) (k : Nat) (h : l.length ≤ k) : pastL p l k = k := by
  unfold pastL
  rw [List.drop_eq_nil_of_le h]
  simp
theorem hasL_no {l : List UInt8} {k : Nat} {b : UInt8} (h : l.length ≤ k) : hasL l k b = false := by
  unfold hasL
  rw [List.getElem?_eq_none h]
  rfl
theorem hasL_lt {l : List UInt8} {k : Nat} {b : UInt8} (h : hasL l k b = true) : k < l.length := by
  unfold hasL at h
  have := eq_of_beq h
  exact (List.getElem?_eq_some_iff.1 this).1
end Go.Proofs.YtggdpmaomhmobaaGreatDoor
