/- Texts joined: EntP TkP Spc RepairA RepairC RepairE RepairF TgtP LineP Dfn DefP FndP InP TkL EmQ InQ InR TgLo. -/
import Derived.Test.YteihmgcphbijhaaGreatDoorQAA
import Derived.Lib.ReplaceLaws
import Derived.Lib.IndexMore
import Derived.WalkKit
import Derived.BigCall
import Derived.BigQuiet
import Derived.Deep.QuietTactic
import Derived.Lib.Hide
import Derived.Outline
import Derived.Laws.Cover4
import Derived.Lib.RuneBytes
import Derived.Laws.RangeAny
import Derived.Laws.AppendOwn
import Derived.Below
import Derived.Lib.OthersKept
import Derived.Lib.SlTrimSet
import Derived.Lib.Bytealg
import Derived.Lib.Strings
namespace Go.Proofs.YteihmgcphbijhaaGreatDoor
open Go.RowKit
set_option linter.unusedSimpArgs false
set_option linter.unusedVariables false
def namedL : List (List UInt8 × List UInt8) := [
  ([97, 109, 112], [38]),
  ([108, 116], [60]),
  ([103, 116], [62]),
  ([113, 117, 111, 116], [34]),
  ([97, 112, 111, 115], [39]),
  ([110, 98, 115, 112], [194, 160]),
  ([99, 111, 112, 121], [194, 169]),
  ([114, 101, 103], [194, 174]),
  ([100, 101, 103], [194, 176]),
  ([115, 101, 99, 116], [194, 167]),
  ([112, 97, 114, 97], [194, 182]),
  ([109, 105, 100, 100, 111, 116], [194, 183]),
  ([101, 97, 99, 117, 116, 101], [195, 169]),
  ([97, 117, 109, 108], [195, 164]),
  ([111, 117, 109, 108], [195, 182]),
  ([117, 117, 109, 108], [195, 188]),
  ([115, 122, 108, 105, 103], [195, 159]),
  ([110, 100, 97, 115, 104], [226, 128, 147]),
  ([109, 100, 97, 115, 104], [226, 128, 148]),
  ([104, 101, 108, 108, 105, 112], [226, 128, 166]),
  ([101, 117, 114, 111], [226, 130, 172]),
  ([108, 97, 114, 114], [226, 134, 144]),
  ([114, 97, 114, 114], [226, 134, 146])]
def lookL (l : List UInt8) : Option (List UInt8) := (namedL.find? fun e => e.1 == l).map (·.2)
def nmB (k : Nat) : ByteArray := ⟨(namedL.getD k ([], [])).1.toArray⟩
def txB (k : Nat) : ByteArray := ⟨(namedL.getD k ([], [])).2.toArray⟩
theorem namedL_length : namedL.length = 23 := by decide +kernel
def inR (x a b : Int) : Bool := decide (a ≤ x) && decide (x ≤ b)
theorem inR_iff (x a b : Int) : inR x a b = true ↔ a ≤ x ∧ x ≤ b := by simp [inR]
theorem inR_f (x a b : Int) : inR x a b = false ↔ ¬ (a ≤ x ∧ x ≤ b) := by rw [← inR_iff]; simp
def digOk (base r : Int) : Bool := inR r 48 57 || (base == 16 && (inR r 97 102 || inR r 65 70))
def digV (base r : Int) : Int := if inR r 48 57 then r - 48 else if base == 16 && inR r 97 102 then r - 87 else if base == 16 && inR r 65 70 then r - 55 else 0
theorem digV_bd (base r : Int) (h : digOk base r = true) (hb : base = 10 ∨ base = 16) : 0 ≤ digV base r ∧ digV base r < base := by
  unfold digOk at h
  unfold digV
  by_cases h1 : inR r 48 57 = true
  · rw [if_pos h1]
    have := (inR_iff _ _ _).1 h1
    omega
  · rw [if_neg h1]
    simp only [Bool.eq_false_iff.2 h1, Bool.false_or, Bool.and_eq_true, beq_iff_eq, Bool.or_eq_true] at h
    obtain ⟨h2, h3⟩ := h
    subst h2
    rcases h3 with h3 | h3
    · have := (inR_iff _ _ _).1 h3
      simp [h3]; omega
    · have := (inR_iff _ _ _).1 h3
      have h4 : inR r 97 102 = false := (inR_f _ _ _).2 (by omega)
      simp [h3, h4]; omega
/-- The number that a row of digits is, and how many they are, if a ';' stands behind them. -/
def numGo (base : Int) (most : Nat) : List UInt8 → Nat → Int → Option (Int × Nat)
  | [], _, _ => none
  | b :: l, i, v => if b.toNat = 59 ∧ 0 < i then some (v, i) else if digOk base b.toNat = false ∨ i = most then none else numGo base most l (i + 1) (v * base + digV base b.toNat)
def okRune (v : Int) : Bool := inR v 1 55295 || inR v 57344 1114111
def chrB (v : Int) : ByteArray := if okRune v then Utf8.encode v else Utf8.encode 65533
def numAt (base : Int) (from' most : Nat) (l : List UInt8) : ByteArray × Nat :=
  match numGo base most (l.drop from') 0 0 with
  | none => (ByteArray.empty, 0)
  | some (v, i) => (chrB v, from' + i + 1)
def isLow (b : UInt8) : Bool := inR b.toNat 97 122
/-- How many small letters stand ahead of a ';'. -/
def nameGo : List UInt8 → Nat → Option Nat
  | [], _ => none
  | b :: l, i => if b.toNat = 59 then some i else if isLow b then nameGo l (i + 1) else none
def nameOf (l : List UInt8) (i : Nat) : ByteArray × Nat :=
  match lookL (l.take i) with
  | none => (ByteArray.empty, 0)
  | some t => (⟨t.toArray⟩, 1 + i + 1)
def nameAt (l : List UInt8) : ByteArray × Nat :=
  match nameGo (l.drop 1) 0 with
  | none => (ByteArray.empty, 0)
  | some i => nameOf (l.drop 1) i
/-- The entity that a text begins with, and its length. -/
def atL (l : List UInt8) : ByteArray × Nat :=
  if Lib.hasPrefix l [38, 35, 120] then numAt 16 3 6 l
  else if Lib.hasPrefix l [38, 35, 88] then numAt 16 3 6 l
  else if Lib.hasPrefix l [38, 35] then numAt 10 2 7 l
  else if Lib.hasPrefix l [38] then nameAt l
  else (ByteArray.empty, 0)
theorem numGo_end {base : Int} {most : Nat} {b : UInt8} {l : List UInt8} {i : Nat} {v : Int} (h : b.toNat = 59) (hi : 0 < i) : numGo base most (b :: l) i v = some (v, i) := by
  rw [numGo, if_pos ⟨h, hi⟩]
theorem numGo_more {base : Int} {most : Nat} {b : UInt8} {l : List UInt8} {i : Nat} {v : Int} (h : digOk base b.toNat = true) (hi : i ≠ most) : numGo base most (b :: l) i v = numGo base most l (i + 1) (v * base + digV base b.toNat) := by
  have h59 : b.toNat ≠ 59 := by
    intro e
    rw [e] at h
    unfold digOk at h
    simp [inR] at h
  rw [numGo, if_neg (fun e => h59 e.1), if_neg (by simp [h, hi])]
theorem numGo_none {base : Int} {most : Nat} {b : UInt8} {l : List UInt8} {i : Nat} {v : Int} (h : ¬ (b.toNat = 59 ∧ 0 < i)) (h2 : digOk base b.toNat = false ∨ i = most) : numGo base most (b :: l) i v = none := by
  rw [numGo, if_neg h, if_pos h2]
end Go.Proofs.YteihmgcphbijhaaGreatDoor

namespace Go.Proofs.YteihmgcphbijhaaGreatDoor
open Go.RowKit
set_option linter.unusedSimpArgs false
set_option linter.unusedVariables false
/-- A token, plainly. -/
inductive Tk where
  | no
  | word (l : List UInt8)
  | code (l : List UInt8)
  | tag (l : List UInt8)
  | auto (u t : List UInt8)
  | run (b : UInt8) (n : Nat)
  | mark (l : List UInt8)
  | brk (h : Bool)
  | atom (n : Int)
deriving DecidableEq
def tkLetterI (x : Int) : Bool := inR x 65 90 || inR x 97 122
def tkDigitI (x : Int) : Bool := inR x 48 57
def tkSchemeI (x : Int) : Bool := tkLetterI x || tkDigitI x || x == 43 || x == 46 || x == 45
def tkUrlI (x : Int) : Bool := decide (32 < x) && x != 60 && x != 62 && x != 127
def tkTagNameI (x : Int) : Bool := tkLetterI x || tkDigitI x || x == 45
def tkHostI (x : Int) : Bool := tkTagNameI x || x == 46
def tkMailI (x : Int) : Bool := tkHostI x || x == 95 || x == 43
def tkInTagI (x : Int) : Bool := x != 60 && x != 62 && x != 0
def tkBlankI (x : Int) : Bool := x == 32 || x == 9
def tkStops : List UInt8 := [0, 92, 38, 96, 60, 42, 95, 33, 91, 93, 10, 32]
def tkWord (b : UInt8) : Bool := decide (Lib.indexByte tkStops b < 0)
def tkLetter (b : UInt8) : Bool := tkLetterI b.toNat
def tkDigit (b : UInt8) : Bool := tkDigitI b.toNat
def tkScheme (b : UInt8) : Bool := tkSchemeI b.toNat
def tkUrl (b : UInt8) : Bool := tkUrlI b.toNat
def tkTagName (b : UInt8) : Bool := tkTagNameI b.toNat
def tkHost (b : UInt8) : Bool := tkHostI b.toNat
def tkMail (b : UInt8) : Bool := tkMailI b.toNat
def tkInTag (b : UInt8) : Bool := tkInTagI b.toNat
def tkBlank (b : UInt8) : Bool := tkBlankI b.toNat
/-- Where, from k on, the bytes end that are of a kind. -/
def pastL (p : UInt8 → Bool) (l : List UInt8) (k : Nat) : Nat := k + ((l.drop k).takeWhile p).length
def hasL (l : List UInt8) (k : Nat) (b : UInt8) : Bool := l[k]? == some b
/-- How many bytes like its first one a text begins with. -/
def rowL (l : List UInt8) : Nat := pastL (fun b => b == l.headD 0) l 1
def atomL (l : List UInt8) : Tk × Nat :=
  let e := pastL tkDigit l 1
  if e = 1 ∨ 5 < e ∨ hasL l e 0 = false then (.atom 0, 0) else (.atom ((Lib.atoi ((l.take e).drop 1)).getD 0), e + 1)
def tkAscii (b : UInt8) : Bool := inR b.toNat 33 47 || inR b.toNat 58 64 || inR b.toNat 91 96 || inR b.toNat 123 126
def escapedL (l : List UInt8) : Tk × Nat :=
  if hasL l 1 10 then (.brk true, pastL tkBlank l 2)
  else match l[1]? with
    | some c => if tkAscii c then (.word [c], 2) else (.no, 0)
    | none => (.no, 0)
def namedTk (l : List UInt8) : Tk × Nat := (.word (atL l).1.data.toList, (atL l).2)
/-- What is shown of code. -/
def shownL (l : List UInt8) : List UInt8 :=
  let m := l.map fun b => if b == 10 then 32 else b
  if hasL m 0 32 && hasL m (m.length - 1) 32 && decide (rowL m < m.length) then (m.take (m.length - 1)).drop 1 else m
/-- The code that l begins with: n backquotes; from k on a row of just as many is looked for. -/
def codeGo (l : List UInt8) (n : Nat) : Nat → Nat → Tk × Nat
  | 0, _ => (.word (l.take n), n)
  | f + 1, k =>
    if Lib.index (l.drop k) (l.take n) < 0 then (.word (l.take n), n)
    else
      let e := k + (Lib.index (l.drop k) (l.take n)).toNat
      let z := e + rowL (l.drop e)
      if z - e = n then (.code (shownL ((l.take e).drop n)), z) else codeGo l n f z
def codeL (l : List UInt8) : Tk × Nat := codeGo l (rowL l) (l.length + 1) (rowL l)
def betweenL (l : List UInt8) (e : Nat) : List UInt8 × Nat :=
  if e = 0 ∨ hasL l e 62 = false then ([], 0) else ((l.take e).drop 1, e + 1)
def addressL (l : List UInt8) : Nat :=
  let c := pastL tkScheme l 1
  if c < 3 ∨ 33 < c ∨ ((l[1]?).map tkLetter).getD false = false ∨ hasL l c 58 = false then 0 else pastL tkUrl l (c + 1)
def mailboxL (l : List UInt8) : Nat :=
  let a := pastL tkMail l 1
  if a = 1 ∨ hasL l a 64 = false then 0
  else
    let e := pastL tkHost l (a + 1)
    if e = a + 1 then 0 else e
def tagL (l : List UInt8) : Nat :=
  let f := if hasL l 1 47 then 2 else 1
  if f = l.length ∨ ((l[f]?).map tkLetter).getD false = false then 0
  else
    let e := pastL tkTagName l f
    if hasL l e 32 || hasL l e 10 || hasL l e 47 then pastL tkInTag l e else e
def tkMailto : List UInt8 := [109, 97, 105, 108, 116, 111, 58]
def pointedL (l : List UInt8) : Tk × Nat :=
  let a := betweenL l (addressL l)
  if 0 < a.2 then (.auto a.1 a.1, a.2)
  else
    let m := betweenL l (mailboxL l)
    if 0 < m.2 then (.auto (tkMailto ++ m.1) m.1, m.2)
    else
      let t := betweenL l (tagL l)
      (.tag (l.take t.2), t.2)
def markTk (l : List UInt8) : Tk × Nat :=
  if Lib.hasPrefix l [33, 91] then (.mark [33, 91], 2)
  else if Lib.hasPrefix l [91] then (.mark [91], 1)
  else if Lib.hasPrefix l [93] then (.mark [93], 1)
  else (.mark [], 0)
def lineTk (l : List UInt8) : Tk × Nat :=
  let e := pastL (fun b => b == 32) l 0
  if hasL l e 10 = false then (.brk false, 0) else (.brk (decide (2 ≤ e)), pastL tkBlank l (e + 1))
def firstTk (l : List UInt8) : Tk × Nat :=
  let c := l.headD 1
  if c = 0 then atomL l
  else if c = 92 then escapedL l
  else if c = 38 then namedTk l
  else if c = 96 then codeL l
  else if c = 60 then pointedL l
  else if c = 42 ∨ c = 95 then (.run c (rowL l), rowL l)
  else if c = 33 ∨ c = 91 ∨ c = 93 then markTk l
  else if c = 32 ∨ c = 10 then lineTk l
  else (.no, 0)
def wordTk (l : List UInt8) : Tk × Nat :=
  let n := if l.headD 1 = 32 then rowL l else pastL tkWord l 1
  (.word (l.take n), n)
/-- The token that a text begins with, and how many bytes it has. -/
def nextL (l : List UInt8) : Tk × Nat := if (firstTk l).2 = 0 then wordTk l else firstTk l
theorem pastL_ge (p : UInt8 → Bool) (l : List UInt8) (k : Nat) : k ≤ pastL p l k := by unfold pastL; omega
theorem takeWhile_le (p : UInt8 → Bool) (l : List UInt8) : (l.takeWhile p).length ≤ l.length := (List.takeWhile_prefix p).length_le
theorem pastL_le (p : UInt8 → Bool) (l : List UInt8) (k : Nat) (h : k ≤ l.length) : pastL p l k ≤ l.length := by
  unfold pastL
  have := takeWhile_le p (l.drop k)
  rw [List.length_drop] at this
  omega
theorem rowL_pos (l : List UInt8) : 1 ≤ rowL l := pastL_ge _ _ _
theorem rowL_le (l : List UInt8) (h : l ≠ []) : rowL l ≤ l.length := pastL_le _ _ _ (by cases l with | nil => exact absurd rfl h | cons a b => simp)
theorem pastL_step (p : UInt8 → Bool) (l : List UInt8) (k : Nat) (h : k < l.length) (hp : p l[k] = true) : pastL p l k = pastL p l (k + 1) := by
  unfold pastL
  rw [List.drop_eq_getElem_cons h, List.takeWhile_cons, if_pos hp]
  simp; omega
theorem pastL_stop (p : UInt8 → Bool) (l : List UInt8) (k : Nat) (h : k < l.length) (hp : p l[k] = false) : pastL p l k = k := by
  unfold pastL
  rw [List.drop_eq_getElem_cons h, List.takeWhile_cons, if_neg (by simp [hp])]
  simp
theorem pastL_end (p : UInt8 → Bool) (l : List UInt8) (k : Nat) (h : l.length ≤ k) : pastL p l k = k := by
  unfold pastL
  rw [List.drop_eq_nil_of_le h]
  simp
theorem hasL_no {l : List UInt8} {k : Nat} {b : UInt8} (h : l.length ≤ k) : hasL l k b = false := by
  unfold hasL
  rw [List.getElem?_eq_none h]
  rfl
theorem hasL_lt {l : List UInt8} {k : Nat} {b : UInt8} (h : hasL l k b = true) : k < l.length := by
  unfold hasL at h
  have := eq_of_beq h
  exact (List.getElem?_eq_some_iff.1 this).1
end Go.Proofs.YteihmgcphbijhaaGreatDoor
namespace Go.Proofs.YteihmgcphbijhaaGreatDoor
open Go.RowKit
set_option linter.unusedSimpArgs false
set_option linter.unusedVariables false
def tkFlat (l : List UInt8) : List UInt8 := l.map fun b => if b == 10 then 32 else b
theorem replaceK_other (b : UInt8) (l : List UInt8) (h : ¬ b = 10) : ∀ k, Lib.replaceK [10] [32] k (b :: l) = b :: Lib.replaceK [10] [32] k l
  | 0 => rfl
  | k + 1 => by
    have e : Lib.index (b :: l) [10] = if Lib.index l [10] == -1 then -1 else Lib.index l [10] + 1 := by
      rw [Lib.index, if_neg]
      simp [List.isPrefixOf, Ne.symm h]
    unfold Lib.replaceK
    rw [e]
    by_cases hi : Lib.index l [10] = -1
    · simp [hi]
    · have := Lib.index_ge l [10]
      have e1 : (Lib.index l [10] == -1) = false := by simp [hi]
      have e2 : ((Lib.index l [10] + 1) == -1) = false := by simp; omega
      simp only [e1, Bool.false_eq_true, if_false, e2]
      have e3 : (Lib.index l [10] + 1).toNat = (Lib.index l [10]).toNat + 1 := by omega
      rw [e3]
      have e4 : (Lib.index l [10]).toNat + 1 + [(10 : UInt8)].length = ((Lib.index l [10]).toNat + [(10 : UInt8)].length) + 1 := by simp
      rw [e4, List.take_succ_cons, List.drop_succ_cons]
      simp
theorem replaceK_lf (l : List UInt8) (k : Nat) : Lib.replaceK [10] [32] (k + 1) (10 :: l) = 32 :: Lib.replaceK [10] [32] k l := by
  have e : Lib.index (10 :: l) [10] = ((0 : Nat) : Int) := by rw [Lib.index, if_pos (by simp [List.isPrefixOf])]; rfl
  rw [Lib.replaceK_hit _ _ _ _ _ e]
  simp
theorem replace_flat : ∀ l : List UInt8, Lib.replaceK [10] [32] (l.count 10) l = tkFlat l
  | [] => rfl
  | b :: l => by
    by_cases h : b = 10
    · subst h
      rw [List.count_cons_self, replaceK_lf, replace_flat l]
      rfl
    · rw [List.count_cons_of_ne (by exact h), replaceK_other b l h, replace_flat l]
      simp [tkFlat, h]
theorem replaceAll_flat (l : List UInt8) : Lib.replaceAll l [10] [32] = tkFlat l := by
  unfold Lib.replaceAll Lib.replace
  rw [if_neg (by decide)]
  have e : Lib.replaceNum l [10] (-1) = l.count 10 := by
    unfold Lib.replaceNum
    rw [if_pos (Or.inl (by decide)), Lib.count_one]
  rw [e, replace_flat]
theorem tkFlat_length (l : List UInt8) : (tkFlat l).length = l.length := by simp [tkFlat]
theorem dec_digits : ∀ (l : List UInt8) (acc : Nat), (∀ b ∈ l, tkDigit b = true) → ∃ n, Lib.decFrom acc l = some n ∧ n < (acc + 1) * 10 ^ l.length
  | [], acc, _ => ⟨acc, rfl, by simp⟩
  | b :: l, acc, h => by
    have hb := h b (by simp)
    have hb' : 48 ≤ b.toNat ∧ b.toNat ≤ 57 := by
      have := (inR_iff _ _ _).1 (show inR b.toNat 48 57 = true from hb)
      omega
    obtain ⟨n, h1, h2⟩ := dec_digits l (acc * 10 + (b.toNat - 48)) (fun x hx => h x (by simp [hx]))
    refine ⟨n, ?_, ?_⟩
    · rw [Lib.decFrom]
      unfold Lib.digitVal
      rw [if_pos hb']
      exact h1
    · rw [List.length_cons, Nat.pow_succ]
      have : (acc * 10 + (b.toNat - 48) + 1) ≤ (acc + 1) * 10 := by omega
      calc n < _ := h2
        _ ≤ (acc + 1) * 10 * 10 ^ l.length := Nat.mul_le_mul_right _ this
        _ = (acc + 1) * (10 ^ l.length * 10) := by rw [Nat.mul_assoc, Nat.mul_comm 10]
theorem atoi_digits (l : List UInt8) (h : ∀ b ∈ l, tkDigit b = true) (hne : l ≠ []) : ∃ n : Nat, Lib.atoi l = some (n : Int) ∧ n < 10 ^ l.length := by
  cases l with
  | nil => exact absurd rfl hne
  | cons b r =>
    have hb := h b (by simp)
    have hb' : 48 ≤ b.toNat ∧ b.toNat ≤ 57 := by
      have := (inR_iff _ _ _).1 (show inR b.toNat 48 57 = true from hb)
      omega
    obtain ⟨n, h1, h2⟩ := dec_digits (b :: r) 0 h
    refine ⟨n, ?_, by simpa using h2⟩
    have n1 : (b == 45) = false := by
      rw [beq_eq_false_iff_ne]; intro e; subst e; simp at hb'
    have n2 : (b == 43) = false := by
      rw [beq_eq_false_iff_ne]; intro e; subst e; simp at hb'
    have e : Lib.atoi (b :: r) = (Lib.decNat (b :: r)).map fun (m : Nat) => (m : Int) := by
      unfold Lib.atoi
      simp only [n1, n2, Bool.false_eq_true, if_false]
    rw [e]
    unfold Lib.decNat
    rw [show (b :: r).isEmpty = false from rfl]
    simp [h1]
theorem takeWhile_all (p : UInt8 → Bool) : ∀ (l : List UInt8), ∀ b ∈ l.takeWhile p, p b = true
  | [], _, h => by simp at h
  | a :: l, b, h => by
    rw [List.takeWhile_cons] at h
    split at h
    · rcases List.mem_cons.1 h with rfl | h
      · assumption
      · exact takeWhile_all p l b h
    · simp at h
theorem past_part (p : UInt8 → Bool) (l : List UInt8) (k : Nat) : (l.take (pastL p l k)).drop k = (l.drop k).takeWhile p := by
  unfold pastL
  rw [List.drop_take, Nat.add_sub_cancel_left]
  exact (List.prefix_iff_eq_take.1 (List.takeWhile_prefix p)).symm
end Go.Proofs.YteihmgcphbijhaaGreatDoor
namespace Go.Proofs.YteihmgcphbijhaaGreatDoor
open Go.RowKit
set_option linter.unusedSimpArgs false
set_option linter.unusedVariables false
theorem numGo_i {base : Int} {most : Nat} : ∀ (l : List UInt8) (i : Nat) (v : Int) (x : Int) (j : Nat), numGo base most l i v = some (x, j) → j + 1 ≤ i + l.length
  | [], i, v, x, j, h => by cases h
  | b :: l, i, v, x, j, h => by
    rw [numGo] at h
    split at h
    · cases h; simp
    · split at h
      · cases h
      · have := numGo_i l (i + 1) _ x j h
        simp; omega
theorem numAt_i (base : Int) (f most : Nat) (l : List UInt8) (hf : f ≤ l.length) : (numAt base f most l).2 ≤ l.length := by
  unfold numAt
  split
  · simp
  · rename_i v i h
    have := numGo_i _ _ _ _ _ h
    rw [List.length_drop] at this
    simp only
    omega
theorem nameGo_i : ∀ (l : List UInt8) (i j : Nat), nameGo l i = some j → j + 1 ≤ i + l.length
  | [], i, j, h => by cases h
  | b :: l, i, j, h => by
    rw [nameGo] at h
    split at h
    · cases h; simp
    · split at h
      · have := nameGo_i l (i + 1) j h
        simp; omega
      · cases h
theorem prefix_len {l p : List UInt8} (h : Lib.hasPrefix l p = true) : p.length ≤ l.length := (List.isPrefixOf_iff_prefix.1 h).length_le
theorem atL_len (l : List UInt8) : (atL l).2 ≤ l.length := by
  unfold atL
  split
  · rename_i h; exact numAt_i _ _ _ _ (prefix_len h)
  · split
    · rename_i h; exact numAt_i _ _ _ _ (prefix_len h)
    · split
      · rename_i h; exact numAt_i _ _ _ _ (prefix_len h)
      · split
        · rename_i h
          have hl := prefix_len h
          unfold nameAt
          split
          · simp
          · rename_i i hi
            have := nameGo_i _ _ _ hi
            rw [List.length_drop] at this
            unfold nameOf
            split
            · simp
            · simp only; simp at hl; omega
        · simp
theorem between_len (l : List UInt8) (k : Nat) : (betweenL l k).2 ≤ l.length := by
  unfold betweenL
  split
  · simp
  · rename_i h
    simp only [not_or, Bool.not_eq_false] at h
    have := hasL_lt h.2
    simp only
    omega
theorem code_len (l : List UInt8) (n : Nat) (hn : n ≤ l.length) (hn1 : 1 ≤ n) : ∀ (f k : Nat), k ≤ l.length → (codeGo l n f k).2 ≤ l.length
  | 0, k, _ => by rw [codeGo]; exact hn
  | f + 1, k, hk => by
    rw [codeGo]
    split
    · exact hn
    · rename_i h
      have hr := Lib.index_room (l.drop k) (l.take n) (by omega)
      rw [List.length_drop, List.length_take, Nat.min_eq_left hn] at hr
      have hlt : k + (Lib.index (l.drop k) (l.take n)).toNat < l.length := by omega
      have hz := rowL_le (l.drop (k + (Lib.index (l.drop k) (l.take n)).toNat)) (by
        intro e
        have := congrArg List.length e
        rw [List.length_drop] at this
        simp at this; omega)
      rw [List.length_drop] at hz
      simp only
      split
      · simp only; omega
      · exact code_len l n hn hn1 f _ (by omega)
theorem first_len (l : List UInt8) (hl : l ≠ []) : (firstTk l).2 ≤ l.length := by
  have h1 : 1 ≤ l.length := List.length_pos_iff.2 hl
  unfold firstTk
  simp only
  split
  · unfold atomL
    simp only
    split
    · simp
    · rename_i h
      simp only [not_or, Bool.not_eq_false] at h
      exact hasL_lt h.2.2
  · split
    · unfold escapedL
      split
      · rename_i h
        exact pastL_le _ _ _ (by have := hasL_lt h; omega)
      · split
        · rename_i c hc
          have := (List.getElem?_eq_some_iff.1 hc).1
          split
          · simp only; omega
          · simp
        · simp
    · split
      · exact atL_len l
      · split
        · exact code_len l _ (rowL_le l hl) (rowL_pos l) _ _ (rowL_le l hl)
        · split
          · unfold pointedL
            simp only
            split
            · exact between_len _ _
            · split
              · exact between_len _ _
              · exact between_len _ _
          · split
            · exact rowL_le l hl
            · split
              · unfold markTk
                split
                · rename_i h; exact prefix_len h
                · split
                  · rename_i h; exact prefix_len h
                  · split
                    · rename_i h; exact prefix_len h
                    · simp
              · split
                · unfold lineTk
                  simp only
                  split
                  · simp
                  · rename_i h
                    simp only [Bool.not_eq_false] at h
                    exact pastL_le _ _ _ (by have := hasL_lt h; omega)
                · simp
theorem word_len (l : List UInt8) (hl : l ≠ []) : 1 ≤ (wordTk l).2 ∧ (wordTk l).2 ≤ l.length := by
  have h1 : 1 ≤ l.length := List.length_pos_iff.2 hl
  unfold wordTk
  simp only
  split
  · exact ⟨rowL_pos l, rowL_le l hl⟩
  · exact ⟨pastL_ge _ _ _, pastL_le _ _ _ h1⟩
theorem next_len (l : List UInt8) (hl : l ≠ []) : 1 ≤ (nextL l).2 ∧ (nextL l).2 ≤ l.length := by
  unfold nextL
  split
  · exact word_len l hl
  · exact ⟨by omega, first_len l hl⟩
end Go.Proofs.YteihmgcphbijhaaGreatDoor

namespace Go.Proofs.YteihmgcphbijhaaGreatDoor
open Go.RowKit
theorem within32 (x a b : Int) (w : World) :
    Calls Tryz.prog 86 #[.int .i32 x, .int .i32 a, .int .i32 b] w fun e w' => e = .returned (.bool (inB x a b)) ∧ w = w' := by
  by_cases h1 : a ≤ x
  · go_enter Tryz.func86, Tryz.ntmps86
    go_wp2
    go_ret
    exact ⟨ret_bool (by simp [inB, h1]), rfl⟩
  · go_enter Tryz.func86, Tryz.ntmps86
    go_wp2
    go_ret
    exact ⟨ret_bool (inB_f (by omega)).symm, rfl⟩
theorem space_any (r : Int) (w : World) :
    Calls Tryz.prog 85 #[.int .i32 r] w fun e w' => e = .returned (.bool (spaceB r)) ∧ w = w' := by
  go_enter Tryz.func85, Tryz.ntmps85
  go_wp2_with (go_at_call 86; refine (within32 _ _ _ _).mono ?_; rintro e w' ⟨rfl, rfl⟩)
  all_goals (go_ret; exact ⟨ret_bool (by simp [spaceB, *]), rfl⟩)
end Go.Proofs.YteihmgcphbijhaaGreatDoor

namespace Go.Proofs.YteihmgcphbijhaaGreatDoor
open Go.RowKit
theorem stray_any (s : ByteArray) (r : Int) (w : World) :
    Calls Tryz.prog 146 #[.string s, .int .i32 r] w fun e w' => e = .returned (.bool (r == 65533 && !Lib.hasPrefix s.data.toList [239, 191, 189])) ∧ w = w' := by
  go_enter Tryz.func146, Tryz.ntmps146
  go_wp2_with (go_at_call 76; refine (Tryz.strings_HasPrefix _ _ _).mono ?_; rintro e w' ⟨rfl, rfl⟩)
  all_goals (go_ret; exact ⟨ret_bool (by simp [*]), rfl⟩)
theorem small_any (r : Int) (w : World) :
    Calls Tryz.prog 148 #[.int .i32 r] w fun e w' => e = .returned (.int .i32 (smallI r)) ∧ w = w' := by
  go_enter Tryz.func148, Tryz.ntmps148
  go_wp2_with (go_at_call 86; refine (within32 _ _ _ _).mono ?_; rintro e w' ⟨rfl, rfl⟩)
  · have := (inB_iff r 65 90).1 (by assumption)
    go_ret
    exact ⟨ret_i32 (by rw [IntWalk.wrap32_in _ ⟨by omega, by omega⟩]; simp [smallI, *]), rfl⟩
  · have := (inB_iff r 192 222).1 (by assumption)
    go_ret
    exact ⟨ret_i32 (by rw [IntWalk.wrap32_in _ ⟨by omega, by omega⟩]; simp [smallI, *]), rfl⟩
  all_goals (go_ret; exact ⟨ret_i32 (by simp [smallI, *]), rfl⟩)
end Go.Proofs.YteihmgcphbijhaaGreatDoor

namespace Go.Proofs.YteihmgcphbijhaaGreatDoor
open Go.RowKit
set_option linter.unusedSimpArgs false
set_option linter.unusedVariables false
def strayB (s : ByteArray) (pos : Nat) : Bool := ((Utf8.decode s pos).1 : Int) == 65533 && !Lib.hasPrefix (s.data.toList.drop pos) [239, 191, 189]
/-- What one rune that is no blank adds. -/
def foldOne (s : ByteArray) (pos : Nat) : List UInt8 :=
  if strayB s pos then [s.data.toList.getD pos 0] else Lib.encodeRune (smallI (Utf8.decode s pos).1)
def foldFrom (s : ByteArray) : Nat → Nat → Bool → Bool → List UInt8
  | 0, _, _, _ => []
  | fuel + 1, pos, gap, any =>
    if pos < s.size then
      if spaceB (Utf8.decode s pos).1 then foldFrom s fuel (pos + (Utf8.decode s pos).2) true any
      else ((if gap && any then [32] else []) ++ foldOne s pos) ++ foldFrom s fuel (pos + (Utf8.decode s pos).2) false true
    else []
def foldB (s : ByteArray) : List UInt8 := foldFrom s s.size 0 false false
theorem foldFrom_end (s : ByteArray) (fuel pos : Nat) (g a : Bool) (h : ¬ pos < s.size) : foldFrom s fuel pos g a = [] := by
  cases fuel with
  | zero => rfl
  | succ f => simp [foldFrom, h]
theorem foldOne_pos (s : ByteArray) (pos : Nat) : 1 ≤ (foldOne s pos).length ∧ (foldOne s pos).length ≤ 4 := by
  unfold foldOne
  have h2 := Lib.encodeRuneZ_length (smallI (Utf8.decode s pos).1)
  split
  · simp
  · simpa [Lib.encodeRune] using h2
theorem foldFrom_space {s : ByteArray} {f pos : Nat} {g a : Bool} {acc out : List UInt8} (hp : pos < s.size) (hb : spaceB (Utf8.decode s pos).1 = true) (h : acc ++ foldFrom s (f + 1) pos g a = out) :
    acc ++ foldFrom s f (pos + (Utf8.decode s pos).2) true a = out := by
  rw [← h]; simp [foldFrom, hp, hb]
theorem foldFrom_other {s : ByteArray} {f pos : Nat} {g a : Bool} {acc out : List UInt8} (hp : pos < s.size) (hb : spaceB (Utf8.decode s pos).1 = false) (h : acc ++ foldFrom s (f + 1) pos g a = out) :
    (acc ++ ((if g && a then [32] else []) ++ foldOne s pos)) ++ foldFrom s f (pos + (Utf8.decode s pos).2) false true = out := by
  rw [← h]; simp [foldFrom, hp, hb]
theorem smallI_le (r : Int) (h0 : 0 ≤ r) (h1 : r ≤ 2147483647) : 0 ≤ smallI r ∧ smallI r ≤ 2147483647 := by
  unfold smallI
  split
  · rename_i h
    simp [inB] at h
    omega
  · omega
theorem extract_drop (s : ByteArray) (pos : Nat) : (s.extract pos s.size).data.toList = s.data.toList.drop pos := by
  simp only [ByteArray.data_extract, Array.toList_extract, List.extract]
  exact List.take_of_length_le (by simp)
theorem stray_at (s : ByteArray) (pos : Nat) (w : World) :
    Calls Tryz.prog 146 #[.string (s.extract pos s.size), .int .i32 (Utf8.decode s pos).1] w fun e w' => e = .returned (.bool (strayB s pos)) ∧ w = w' := by
  have h := stray_any (s.extract pos s.size) (Utf8.decode s pos).1 w
  rw [extract_drop] at h
  exact h
theorem getD_byte (s : ByteArray) (pos : Nat) (hp : pos < s.size) : s.data.toList.getD pos 0 = s[pos] := by
  have : pos < s.data.toList.length := by simpa using hp
  rw [List.getD_eq_getElem?_getD, List.getElem?_eq_getElem this]
  rfl
/-- The loop's relation. -/
def FoldRel (s : ByteArray) (w : World) (B : Nat) (k : Nat) (gap : Value) (wr : World) : Prop :=
  ∃ (pos fuel : Nat) (acc : List UInt8) (g : Bool), gap = .bool g ∧ wr.heap[k]? = some (.stringIter s pos) ∧ Lib.IsBuilderF 39 5 B B (Lib.byteCells acc) wr ∧ Below B w wr ∧ acc ++ foldFrom s fuel pos g (!acc.isEmpty) = foldB s ∧ s.size ≤ pos + fuel ∧ acc.length ≤ 5 * pos
set_option maxHeartbeats 4000000 in
set_option maxRecDepth 1000000 in
theorem fold_any (s : ByteArray) (w : World) (hs : s.size ≤ 17592186044416) :
    Calls Tryz.prog 115 #[.string s] w fun e w' => e = .returned (.string ⟨(foldB s).toArray⟩) ∧ Below w.heap.size w w' := by
  go_enter Tryz.func115, Tryz.ntmps115
  go_wp2_with fail
  go_loopw [4] (fun gap wr => FoldRel s w w.heap.size (w.heap.size + 1) gap wr) (fun _ wr => s.size - wr.iterPos (w.heap.size + 1))
  case atStart =>
    refine ⟨0, s.size, [], false, rfl, ?_, (Lib.IsBuilderF.of (Lib.fresh_isBuilder 39 5 w)).alloc _, ((Below.refl _ w).alloc (Nat.le_refl _) _).alloc (by simp) _, rfl, by omega, by simp⟩
    have := World.iter_heap (w.alloc (.cells #[.pointer none, .slice none 0 0] 39)) s 0
    simpa using this
  case round =>
    obtain ⟨pos, fuel, acc, g, rfl, hit, hI, hbw, hacc, hfu, hal⟩ := hrel
    have hsz : w.heap.size + 1 < wr.heap.size := (Array.getElem?_eq_some_iff.1 hit).1
    by_cases hp : pos < s.size
    · have hnx : ∀ ty, (Instr.next (.pointer (some ⟨w.heap.size + 1, 0, none⟩)) true ty).run Tryz.prog wr = _ := fun ty => Lib.run_next_any_at wr (w.heap.size + 1) s pos ty hit hp
      have hwd := width_pos s pos hp
      have hd1 := decode_le s pos
      have hI2 := hI.iterAt hit (pos + (Utf8.decode s pos).2)
      have hit2 := Lib.iterAt_heap wr (w.heap.size + 1) s pos (pos + (Utf8.decode s pos).2) hit
      have hbw2 := Lib.below_iterAt hbw (k := w.heap.size + 1) (by omega) s (pos + (Utf8.decode s pos).2)
      have hsz2 : w.heap.size ≤ (wr.iterAt (w.heap.size + 1) s (pos + (Utf8.decode s pos).2)).heap.size := by rw [Lib.iterAt_size]; omega
      obtain ⟨f, rfl⟩ : ∃ f, fuel = f + 1 := ⟨fuel - 1, by omega⟩
      have Hit := Lib.hid hit
      clear hI hbw hit
      cases hb : spaceB (Utf8.decode s pos).1 with
      | true =>
        have HS := Lib.hid (foldFrom_space hp hb hacc)
        have sp := space_any (Utf8.decode s pos).1 (wr.iterAt (w.heap.size + 1) s (pos + (Utf8.decode s pos).2))
        rw [hb] at sp
        clear hb hacc
        go_wp2_with (go_at_call 85; refine sp.mono ?_; rintro e w' ⟨rfl, rfl⟩)
        go_roundw
        case rel => exact ⟨_, f, acc, _, rfl, hit2, hI2, hbw2, HS.out, by omega, by omega⟩
        case measure => simp only [World.iterPos, hit2, Hit.out]; omega
      | false =>
        have HS := Lib.hid (foldFrom_other hp hb hacc)
        have sp := space_any (Utf8.decode s pos).1 (wr.iterAt (w.heap.size + 1) s (pos + (Utf8.decode s pos).2))
        rw [hb] at sp
        clear hb hacc
        cases g with
        | false =>
          go_wp2_with (go_at_call 85; refine sp.mono ?_; rintro e w' ⟨rfl, rfl⟩)
          have HS2 := Lib.hid (show acc ++ foldOne s pos ++ foldFrom s f (pos + (Utf8.decode s pos).2) false true = foldB s from by have := HS.out; simpa [] using this)
          cases hst : strayB s pos with
          | true =>
            have E1 := Lib.hid (show Lib.byteCells (acc ++ foldOne s pos) = Lib.byteCells (acc) ++ [.int .u8 s[pos].toNat] from by rw [Lib.byteCells_append]; unfold foldOne; rw [if_pos hst, getD_byte s pos hp]; rfl)
            have hone := foldOne_pos s pos
            have stp := fun w1 => stray_at s pos w1
            simp only [hst] at stp
            clear hst
            go_wp2_with fail
            refine (stp _).mono ?_
            rintro e w' ⟨rfl, rfl⟩
            go_wp2_with (go_at_call 145; refine (Tryz.Builder_WriteByte_k w.heap.size w.heap.size _ _ _ hI2 (by rw [Lib.byteCells_length]; first | omega | (rw [List.length_append]; simp; omega)) (by exact hsz2)).mono ?_)
            rintro e W9 ⟨rfl, g9, b9, k9⟩
            have hit9 := k9.iter hit2 (by omega)
            go_wp2
            go_roundw
            case rel =>
              have hl : (acc ++ foldOne s pos).length ≤ 5 * (pos + (Utf8.decode s pos).2) := by simp only [List.length_append, List.length_cons, List.length_nil]; omega
              have he : (acc ++ foldOne s pos).isEmpty = false := by rw [List.isEmpty_eq_false_iff_exists_mem]; exact ⟨_, List.mem_append_right _ (List.getElem_mem (n := 0) (by omega))⟩
              exact ⟨_, f, acc ++ foldOne s pos, _, rfl, hit9, by rw [E1.out]; exact (Or.inr g9), hbw2.trans b9, by rw [he]; exact HS2.out, by omega, hl⟩
            case measure => simp only [World.iterPos, hit9, Hit.out]; omega
          | false =>
            have E1 := Lib.hid (show Lib.byteCells (acc ++ foldOne s pos) = Lib.byteCells (acc) ++ Lib.runeCells (smallI (Utf8.decode s pos).1) from by unfold foldOne; rw [if_neg (by rw [hst]; simp), cells_rune])
            have hone := foldOne_pos s pos
            have stp := fun w1 => stray_at s pos w1
            simp only [hst] at stp
            clear hst
            have hsm := smallI_le (Utf8.decode s pos).1 (by omega) (by omega)
            go_wp2_with fail
            refine (stp _).mono ?_
            rintro e w' ⟨rfl, rfl⟩
            go_wp2_with (first | (go_at_call 148; refine (small_any _ _).mono ?_; rintro e w' ⟨rfl, rfl⟩) | (go_at_call 147; refine (Tryz.Builder_WriteRune_k w.heap.size w.heap.size _ _ (by omega) (by omega) _ hI2 (by rw [Lib.byteCells_length]; first | omega | (rw [List.length_append]; simp; omega)) (by exact hsz2)).mono ?_))
            rintro e W9 ⟨rfl, g9, b9, k9⟩
            have hit9 := k9.iter hit2 (by omega)
            go_wp2
            go_roundw
            case rel =>
              have hl : (acc ++ foldOne s pos).length ≤ 5 * (pos + (Utf8.decode s pos).2) := by simp only [List.length_append, List.length_cons, List.length_nil]; omega
              have he : (acc ++ foldOne s pos).isEmpty = false := by rw [List.isEmpty_eq_false_iff_exists_mem]; exact ⟨_, List.mem_append_right _ (List.getElem_mem (n := 0) (by omega))⟩
              exact ⟨_, f, acc ++ foldOne s pos, _, rfl, hit9, by rw [E1.out]; exact (Or.inr g9), hbw2.trans b9, by rw [he]; exact HS2.out, by omega, hl⟩
            case measure => simp only [World.iterPos, hit9, Hit.out]; omega
        | true =>
          have hlen := Tryz.Builder_Len_f w.heap.size w.heap.size _ _ hI2
          rw [Lib.byteCells_length] at hlen
          by_cases hne : acc = []
          · subst hne
            simp only [List.length_nil] at hlen
            go_wp2_with (go_at_call 85; refine sp.mono ?_; rintro e w' ⟨rfl, rfl⟩)
            go_wp2_with (go_at_call 120; refine hlen.mono ?_; rintro e w' ⟨rfl, rfl⟩)
            have HS2 := Lib.hid (show [] ++ foldOne s pos ++ foldFrom s f (pos + (Utf8.decode s pos).2) false true = foldB s from by have := HS.out; simpa [] using this)
            cases hst : strayB s pos with
            | true =>
              have E1 := Lib.hid (show Lib.byteCells ([] ++ foldOne s pos) = Lib.byteCells ([]) ++ [.int .u8 s[pos].toNat] from by rw [Lib.byteCells_append]; unfold foldOne; rw [if_pos hst, getD_byte s pos hp]; rfl)
              have hone := foldOne_pos s pos
              have stp := fun w1 => stray_at s pos w1
              simp only [hst] at stp
              clear hst
              go_wp2_with fail
              refine (stp _).mono ?_
              rintro e w' ⟨rfl, rfl⟩
              go_wp2_with (go_at_call 145; refine (Tryz.Builder_WriteByte_k w.heap.size w.heap.size _ _ _ hI2 (by rw [Lib.byteCells_length]; first | omega | (rw [List.length_append]; simp; omega)) (by exact hsz2)).mono ?_)
              rintro e W9 ⟨rfl, g9, b9, k9⟩
              have hit9 := k9.iter hit2 (by omega)
              go_wp2
              go_roundw
              case rel =>
                have hl : ([] ++ foldOne s pos).length ≤ 5 * (pos + (Utf8.decode s pos).2) := by simp only [List.length_append, List.length_cons, List.length_nil]; omega
                have he : ([] ++ foldOne s pos).isEmpty = false := by rw [List.isEmpty_eq_false_iff_exists_mem]; exact ⟨_, List.mem_append_right _ (List.getElem_mem (n := 0) (by omega))⟩
                exact ⟨_, f, [] ++ foldOne s pos, _, rfl, hit9, by rw [E1.out]; exact (Or.inr g9), hbw2.trans b9, by rw [he]; exact HS2.out, by omega, hl⟩
              case measure => simp only [World.iterPos, hit9, Hit.out]; omega
            | false =>
              have E1 := Lib.hid (show Lib.byteCells ([] ++ foldOne s pos) = Lib.byteCells ([]) ++ Lib.runeCells (smallI (Utf8.decode s pos).1) from by unfold foldOne; rw [if_neg (by rw [hst]; simp), cells_rune])
              have hone := foldOne_pos s pos
              have stp := fun w1 => stray_at s pos w1
              simp only [hst] at stp
              clear hst
              have hsm := smallI_le (Utf8.decode s pos).1 (by omega) (by omega)
              go_wp2_with fail
              refine (stp _).mono ?_
              rintro e w' ⟨rfl, rfl⟩
              go_wp2_with (first | (go_at_call 148; refine (small_any _ _).mono ?_; rintro e w' ⟨rfl, rfl⟩) | (go_at_call 147; refine (Tryz.Builder_WriteRune_k w.heap.size w.heap.size _ _ (by omega) (by omega) _ hI2 (by rw [Lib.byteCells_length]; first | omega | (rw [List.length_append]; simp; omega)) (by exact hsz2)).mono ?_))
              rintro e W9 ⟨rfl, g9, b9, k9⟩
              have hit9 := k9.iter hit2 (by omega)
              go_wp2
              go_roundw
              case rel =>
                have hl : ([] ++ foldOne s pos).length ≤ 5 * (pos + (Utf8.decode s pos).2) := by simp only [List.length_append, List.length_cons, List.length_nil]; omega
                have he : ([] ++ foldOne s pos).isEmpty = false := by rw [List.isEmpty_eq_false_iff_exists_mem]; exact ⟨_, List.mem_append_right _ (List.getElem_mem (n := 0) (by omega))⟩
                exact ⟨_, f, [] ++ foldOne s pos, _, rfl, hit9, by rw [E1.out]; exact (Or.inr g9), hbw2.trans b9, by rw [he]; exact HS2.out, by omega, hl⟩
              case measure => simp only [World.iterPos, hit9, Hit.out]; omega
          · have hpos : 0 < acc.length := List.length_pos_iff.2 hne
            have hem : acc.isEmpty = false := by simpa using hne
            go_wp2_with (go_at_call 85; refine sp.mono ?_; rintro e w' ⟨rfl, rfl⟩)
            go_wp2_with (go_at_call 120; refine hlen.mono ?_; rintro e w' ⟨rfl, rfl⟩)
            go_wp2_with (go_at_call 145; refine (Tryz.Builder_WriteByte_k w.heap.size w.heap.size _ _ _ hI2 (by rw [Lib.byteCells_length]; omega) hsz2).mono ?_)
            rintro e W2 ⟨rfl, g1, b1, k1⟩
            have hit3 := k1.iter hit2 (by omega)
            have hI3 : Lib.IsBuilderF 39 5 w.heap.size w.heap.size (Lib.byteCells (acc ++ [32])) W2 := by rw [Lib.byteCells_append]; exact Or.inr g1
            have hbw3 := hbw2.trans b1
            have hsz3 : w.heap.size ≤ W2.heap.size := Nat.le_trans hsz2 b1.size
            have HS2 := Lib.hid (show acc ++ [32] ++ foldOne s pos ++ foldFrom s f (pos + (Utf8.decode s pos).2) false true = foldB s from by have := HS.out; simpa [hem] using this)
            cases hst : strayB s pos with
            | true =>
              have E1 := Lib.hid (show Lib.byteCells (acc ++ [32] ++ foldOne s pos) = Lib.byteCells (acc ++ [32]) ++ [.int .u8 s[pos].toNat] from by rw [Lib.byteCells_append]; unfold foldOne; rw [if_pos hst, getD_byte s pos hp]; rfl)
              have hone := foldOne_pos s pos
              have stp := fun w1 => stray_at s pos w1
              simp only [hst] at stp
              clear hst
              go_wp2_with fail
              refine (stp _).mono ?_
              rintro e w' ⟨rfl, rfl⟩
              go_wp2_with (go_at_call 145; refine (Tryz.Builder_WriteByte_k w.heap.size w.heap.size _ _ _ hI3 (by rw [Lib.byteCells_length]; first | omega | (rw [List.length_append]; simp; omega)) (by exact hsz3)).mono ?_)
              rintro e W9 ⟨rfl, g9, b9, k9⟩
              have hit9 := k9.iter hit3 (by omega)
              go_wp2
              go_roundw
              case rel =>
                have hl : (acc ++ [32] ++ foldOne s pos).length ≤ 5 * (pos + (Utf8.decode s pos).2) := by simp only [List.length_append, List.length_cons, List.length_nil]; omega
                have he : (acc ++ [32] ++ foldOne s pos).isEmpty = false := by rw [List.isEmpty_eq_false_iff_exists_mem]; exact ⟨_, List.mem_append_right _ (List.getElem_mem (n := 0) (by omega))⟩
                exact ⟨_, f, acc ++ [32] ++ foldOne s pos, _, rfl, hit9, by rw [E1.out]; exact (Or.inr g9), hbw3.trans b9, by rw [he]; exact HS2.out, by omega, hl⟩
              case measure => simp only [World.iterPos, hit9, Hit.out]; omega
            | false =>
              have E1 := Lib.hid (show Lib.byteCells (acc ++ [32] ++ foldOne s pos) = Lib.byteCells (acc ++ [32]) ++ Lib.runeCells (smallI (Utf8.decode s pos).1) from by unfold foldOne; rw [if_neg (by rw [hst]; simp), cells_rune])
              have hone := foldOne_pos s pos
              have stp := fun w1 => stray_at s pos w1
              simp only [hst] at stp
              clear hst
              have hsm := smallI_le (Utf8.decode s pos).1 (by omega) (by omega)
              go_wp2_with fail
              refine (stp _).mono ?_
              rintro e w' ⟨rfl, rfl⟩
              go_wp2_with (first | (go_at_call 148; refine (small_any _ _).mono ?_; rintro e w' ⟨rfl, rfl⟩) | (go_at_call 147; refine (Tryz.Builder_WriteRune_k w.heap.size w.heap.size _ _ (by omega) (by omega) _ hI3 (by rw [Lib.byteCells_length]; first | omega | (rw [List.length_append]; simp; omega)) (by exact hsz3)).mono ?_))
              rintro e W9 ⟨rfl, g9, b9, k9⟩
              have hit9 := k9.iter hit3 (by omega)
              go_wp2
              go_roundw
              case rel =>
                have hl : (acc ++ [32] ++ foldOne s pos).length ≤ 5 * (pos + (Utf8.decode s pos).2) := by simp only [List.length_append, List.length_cons, List.length_nil]; omega
                have he : (acc ++ [32] ++ foldOne s pos).isEmpty = false := by rw [List.isEmpty_eq_false_iff_exists_mem]; exact ⟨_, List.mem_append_right _ (List.getElem_mem (n := 0) (by omega))⟩
                exact ⟨_, f, acc ++ [32] ++ foldOne s pos, _, rfl, hit9, by rw [E1.out]; exact (Or.inr g9), hbw3.trans b9, by rw [he]; exact HS2.out, by omega, hl⟩
              case measure => simp only [World.iterPos, hit9, Hit.out]; omega
    · have hnx : ∀ ty, (Instr.next (.pointer (some ⟨w.heap.size + 1, 0, none⟩)) true ty).run Tryz.prog wr = _ := fun ty => Lib.run_next_end_at wr (w.heap.size + 1) s pos ty hit hp
      go_wp2_with (go_at_call 11; refine (Tryz.Builder_String_any_k w.heap.size w.heap.size acc _ hI (by omega)).mono ?_)
      rintro e W2 ⟨rfl, _, b1, _⟩
      go_wp2
      go_ret
      rw [foldFrom_end s fuel pos _ _ hp, List.append_nil] at hacc
      subst hacc
      exact ⟨rfl, hbw.trans b1⟩
end Go.Proofs.YteihmgcphbijhaaGreatDoor

namespace Go.Proofs.YteihmgcphbijhaaGreatDoor
open Go.RowKit
set_option linter.unusedSimpArgs false
set_option linter.unusedVariables false
theorem drop_cons (s : ByteArray) (pos : Nat) (h : pos < s.size) : ∃ b l, s.data.toList.drop pos = b :: l := by
  have : pos < s.data.toList.length := by simpa using h
  exact ⟨_, _, List.drop_eq_getElem_cons this⟩
def encs (rs : List Nat) : List UInt8 := rs.flatMap fun r : Nat => Lib.encodeRune r
end Go.Proofs.YteihmgcphbijhaaGreatDoor

namespace Go.Proofs.YteihmgcphbijhaaGreatDoor
open Go.RowKit
set_option linter.unusedSimpArgs false
set_option linter.unusedVariables false
def stray (c : Nat × List UInt8) : Bool := c.1 == 65533 && c.2.length == 1
def chunkOut (c : Nat × List UInt8) : List UInt8 := if stray c then c.2 else Lib.encodeRune (smallI c.1)
def foldS : List (Nat × List UInt8) → Bool → Bool → List UInt8
  | [], _, _ => []
  | c :: cs, gap, any => if spaceB c.1 then foldS cs true any else ((if gap && any then [32] else []) ++ chunkOut c) ++ foldS cs false true
theorem enc_fffd : Lib.encodeRune 65533 = [239, 191, 189] := by decide +kernel
theorem dec_fffd (m : List UInt8) : dec (239 :: 191 :: 189 :: m) = (65533, 3) := by
  have := dec_enc 65533 (by decide) m
  rw [show ((65533 : Nat) : Int) = 65533 from rfl, enc_fffd] at this
  exact this
theorem u8_eq (b : UInt8) (n : Nat) (h : b.toNat = n) : b = n.toUInt8 := by
  subst h; simp
theorem dec_stray (b : UInt8) (l : List UInt8) (hr : (dec (b :: l)).1 = 65533) : (!Lib.hasPrefix (b :: l) [239, 191, 189]) = ((dec (b :: l)).2 == 1) := by
  by_cases hp : Lib.hasPrefix (b :: l) [239, 191, 189] = true
  · rw [hp]
    have hp' : [239, 191, 189] <+: b :: l := by simpa [Lib.hasPrefix] using hp
    obtain ⟨m, hm⟩ := hp'
    rw [← hm]
    show _ = ((dec (239 :: 191 :: 189 :: m)).2 == 1)
    rw [dec_fffd]
    rfl
  · have hp2 : Lib.hasPrefix (b :: l) [239, 191, 189] = false := by simpa using hp
    rw [hp2]
    simp only [Bool.not_false]
    symm
    rw [beq_iff_eq]
    unfold dec at hr ⊢
    dsimp only at hr ⊢
    split at hr
    · dsimp only at hr; omega
    · rename_i h1
      rw [if_neg h1]
      split at hr
      · rename_i h2
        rw [if_pos h2]
        split at hr
        · dsimp only at hr; simp at h2; omega
        · rename_i h3; rw [if_neg h3]
      · rename_i h2
        rw [if_neg h2]
        split at hr
        · rename_i h3
          rw [if_pos h3]
          split at hr
          · exfalso
            apply hp
            dsimp only at hr
            rcases l with _ | ⟨x, _ | ⟨y, m⟩⟩
            · simp at h3
            · simp at h3
            · simp only [List.getD_cons_zero, List.getD_cons_succ] at h3 hr
              simp at h3
              have a1 := u8_eq b 239 (by omega)
              have a2 := u8_eq x 191 (by omega)
              have a3 := u8_eq y 189 (by omega)
              rw [a1, a2, a3]
              simp [Lib.hasPrefix]
          · rename_i h4; rw [if_neg h4]
        · rename_i h3
          rw [if_neg h3]
          split at hr
          · rename_i h4
            rw [if_pos h4]
            split at hr
            · rename_i h5; dsimp only at hr; simp only [Bool.and_eq_true, decide_eq_true_eq] at h5; omega
            · rename_i h5; rw [if_neg h5]
          · rename_i h4; rw [if_neg h4]
theorem foldFrom_segs (s : ByteArray) : ∀ (fuel pos : Nat) (g a : Bool), s.size ≤ pos + fuel → foldFrom s fuel pos g a = foldS (segs (s.data.toList.drop pos)) g a
  | 0, pos, g, a, h => by
    rw [List.drop_eq_nil_of_le (by simpa using h)]; rfl
  | f + 1, pos, g, a, h => by
    by_cases hp : pos < s.size
    · have hw := width_pos s pos hp
      have ih := fun g a => foldFrom_segs s f (pos + (Utf8.decode s pos).2) g a (by omega)
      obtain ⟨b, l, e⟩ := drop_cons s pos hp
      have ho : foldOne s pos = chunkOut ((Utf8.decode s pos).1, (b :: l).take (Utf8.decode s pos).2) := by
        have hw2 := dec_width b l
        have hd := decode_dec s pos
        rw [e] at hd
        have hlen : ((b :: l).take (Utf8.decode s pos).2).length = (Utf8.decode s pos).2 := by rw [List.length_take, List.length_cons, hd]; omega
        have hst : strayB s pos = stray ((Utf8.decode s pos).1, (b :: l).take (Utf8.decode s pos).2) := by
          unfold strayB stray
          rw [e, hlen]
          by_cases h1 : (Utf8.decode s pos).1 = 65533
          · have := dec_stray b l (by rw [← hd]; exact h1)
            rw [this, h1, hd]; rfl
          · have h2 : (((Utf8.decode s pos).1 : Int) == 65533) = false := by simp; omega
            have h3 : ((Utf8.decode s pos).1 == 65533) = false := by simpa using h1
            rw [h2, h3]; rfl
        unfold foldOne chunkOut
        rw [← hst]
        by_cases h1 : strayB s pos = true
        · rw [if_pos h1, if_pos h1]
          rw [hst] at h1
          simp only [stray, hlen] at h1
          simp at h1
          rw [h1.2, getD_byte s pos hp]
          have : pos < s.data.toList.length := by simpa using hp
          have e2 := List.drop_eq_getElem_cons this
          rw [e] at e2
          injection e2 with e3 _
          simp only [List.take_succ_cons, List.take_zero]
          rw [e3]; rfl
        · rw [if_neg h1, if_neg h1]
      have hsg : segs (s.data.toList.drop pos) = ((Utf8.decode s pos).1, (b :: l).take (Utf8.decode s pos).2) :: segs (s.data.toList.drop (pos + (Utf8.decode s pos).2)) := by
        rw [e, segs_cons, ← e, ← decode_dec, List.drop_drop]
      rw [hsg]
      simp only [foldFrom, if_pos hp, foldS, ho, ih]
    · rw [foldFrom_end s _ _ _ _ hp, List.drop_eq_nil_of_le (by simpa using hp)]; rfl
def foldL (l : List UInt8) : List UInt8 := foldS (segs l) false false
theorem foldB_segs (s : ByteArray) : foldB s = foldL s.data.toList := by
  unfold foldB foldL
  rw [foldFrom_segs s _ _ _ _ (by omega)]
  rfl
end Go.Proofs.YteihmgcphbijhaaGreatDoor
namespace Go.Proofs.YteihmgcphbijhaaGreatDoor
open Go.RowKit
set_option linter.unusedSimpArgs false
set_option linter.unusedVariables false
end Go.Proofs.YteihmgcphbijhaaGreatDoor
namespace Go.Proofs.YteihmgcphbijhaaGreatDoor
open Go.RowKit
set_option linter.unusedSimpArgs false
set_option linter.unusedVariables false
end Go.Proofs.YteihmgcphbijhaaGreatDoor

namespace Go.Proofs.YteihmgcphbijhaaGreatDoor
open Go.RowKit
set_option linter.unusedSimpArgs false
set_option linter.unusedVariables false
def tgHid (r : Int) : Bool := decide (r ≤ 32) || r == 127
def blkB (r : Int) : Bool := r == 32 || r == 9 || r == 10
def hasB (l : List UInt8) (r : Int) : Bool := l.any fun b => (b.toNat : Int) == r
/-- What a text begins with by a backslash, or as an entity, and how many bytes it has. -/
def escL (l : List UInt8) : List UInt8 × Nat :=
  if 1 < l.length ∧ (l.getD 0 0).toNat = 92 ∧ asciiB (l.getD 1 0).toNat = true then ([l.getD 1 0], 2) else ((atL l).1.data.toList, (atL l).2)
def unF : Nat → List UInt8 → List UInt8
  | 0, _ => []
  | _ + 1, [] => []
  | f + 1, b :: l => if 0 < (escL (b :: l)).2 then (escL (b :: l)).1 ++ unF f ((b :: l).drop (escL (b :: l)).2) else b :: unF f l
def unL (l : List UInt8) : List UInt8 := unF l.length l
/-- Where the sign c stands that closes. -/
def btwGo (c : UInt8) (never : List UInt8) : List UInt8 → Bool → Nat → Option Nat
  | [], _, _ => none
  | b :: l, bh, i => if b.toNat = 0 then none else if bh then btwGo c never l false (i + 1) else if b.toNat = 92 then btwGo c never l true (i + 1) else if b = c then some i else if b ∈ never then none else btwGo c never l false (i + 1)
def btwL (c : UInt8) (never : List UInt8) (l : List UInt8) : List UInt8 × Nat × Bool :=
  match btwGo c never (l.drop 1) false 1 with
  | none => ([], 0, false)
  | some i => (unL ((l.take i).drop 1), i + 1, true)
/-- How many bytes a destination has, and how many brackets are left open. -/
def bareGo : List UInt8 → Nat → Bool → Nat → Nat × Nat
  | [], o, _, i => (i, o)
  | b :: l, o, bh, i =>
    if tgHid b.toNat || (b.toNat == 41 && o == 0 && !bh) then (i, o)
    else if bh then bareGo l o false (i + 1) else if b.toNat = 92 then bareGo l o true (i + 1) else if b.toNat = 40 then bareGo l (o + 1) false (i + 1) else if b.toNat = 41 then bareGo l (o - 1) false (i + 1) else bareGo l o false (i + 1)
def bareL (l : List UInt8) : Nat := if 0 < (bareGo l 0 false 0).2 then 0 else (bareGo l 0 false 0).1
def destL (l : List UInt8) : List UInt8 × Nat × Bool :=
  if Lib.hasPrefix l [60] then btwL 62 [60, 10] l else (unL (l.take (bareL l)), bareL l, decide (0 < bareL l))
def titleL (l : List UInt8) : List UInt8 × Nat × Bool :=
  if Lib.hasPrefix l [34] then btwL 34 [] l else if Lib.hasPrefix l [39] then btwL 39 [] l else if Lib.hasPrefix l [40] then btwL 41 [40] l else ([], 0, false)
/-- Where blanks end that stand in a text from a byte on. -/
def behL (l : List UInt8) (k : Nat) : Nat := k + ((l.drop k).takeWhile fun b => blkB b.toNat).length
def shutL (l url title : List UInt8) (k : Nat) : List UInt8 × List UInt8 × Nat × Bool :=
  if Lib.hasPrefix (l.drop k) [41] then (url, title, k + 1, true) else ([], [], 0, false)
def insL2 (l url : List UInt8) (k : Nat) : List UInt8 × List UInt8 × Nat × Bool :=
  if blkB (l.getD (k - 1) 0).toNat then shutL l url (titleL (l.drop k)).1 (behL l (k + (titleL (l.drop k)).2.1)) else shutL l url [] k
def insideL (l : List UInt8) : List UInt8 × List UInt8 × Nat × Bool :=
  if Lib.hasPrefix l [40] then insL2 l (destL (l.drop (behL l 1))).1 (behL l (behL l 1 + (destL (l.drop (behL l 1))).2.1)) else ([], [], 0, false)
theorem numGo_at {base : Int} {most : Nat} : ∀ (l : List UInt8) (i : Nat) (v u : Int) (j : Nat), numGo base most l i v = some (u, j) → ∃ d, j = i + d ∧ d < l.length ∧ (l.getD d 0).toNat = 59
  | [], _, _, _, _, h => by simp [numGo] at h
  | b :: l, i, v, u, j, h => by
    rw [numGo] at h
    split at h
    · rename_i h1
      simp at h
      exact ⟨0, by omega, by simp, by simpa using h1.1⟩
    · split at h
      · cases h
      · obtain ⟨d, e1, e2, e3⟩ := numGo_at l _ _ _ _ h
        exact ⟨d + 1, by omega, by simpa using e2, by simpa using e3⟩
theorem nameGo_at : ∀ (l : List UInt8) (i j : Nat), nameGo l i = some j → ∃ d, j = i + d ∧ d < l.length ∧ (l.getD d 0).toNat = 59
  | [], _, _, h => by simp [nameGo] at h
  | b :: l, i, j, h => by
    rw [nameGo] at h
    split at h
    · rename_i h1
      simp at h
      exact ⟨0, by omega, by simp, by simpa using h1⟩
    · split at h
      · obtain ⟨d, e1, e2, e3⟩ := nameGo_at l _ _ h
        exact ⟨d + 1, by omega, by simpa using e2, by simpa using e3⟩
      · cases h
theorem encode_le (v : Int) : (Utf8.encode v).data.toList.length ≤ 4 := by
  have := encode_size_le v
  simpa using this
theorem getD_drop (l : List UInt8) (f d : Nat) : (l.drop f).getD d 0 = l.getD (f + d) 0 := by
  simp [List.getD_eq_getElem?_getD]
/-- What is so of the entity that a text begins with. -/
def EntOk (l : List UInt8) (x : ByteArray × Nat) : Prop := x.1.data.toList.length ≤ 4 ∧ (0 < x.2 → x.2 ≤ l.length ∧ (l.getD (x.2 - 1) 0).toNat = 59)
theorem numAt_ok (base : Int) (f most : Nat) (l : List UInt8) : EntOk l (numAt base f most l) := by
  unfold numAt
  split
  · exact ⟨by simp, by simp⟩
  · rename_i v i h
    obtain ⟨d, rfl, e2, e3⟩ := numGo_at _ _ _ _ _ h
    rw [List.length_drop] at e2
    refine ⟨?_, fun _ => ⟨by simp; omega, ?_⟩⟩
    · unfold chrB
      split <;> exact encode_le _
    · rw [getD_drop] at e3
      rw [show f + (0 + d) + 1 - 1 = f + d from by omega]
      exact e3
theorem named_short : ∀ e ∈ namedL, e.2.length ≤ 4 := by decide +kernel
theorem lookL_short {l t : List UInt8} (h : lookL l = some t) : t.length ≤ 4 := by
  unfold lookL at h
  rw [Option.map_eq_some_iff] at h
  obtain ⟨e, h1, rfl⟩ := h
  exact named_short e (List.mem_of_find?_eq_some h1)
theorem nameAt_ok (l : List UInt8) : EntOk l (nameAt l) := by
  unfold nameAt
  split
  · exact ⟨by simp, by simp⟩
  · rename_i i h
    obtain ⟨d, rfl, e2, e3⟩ := nameGo_at _ _ _ h
    rw [List.length_drop] at e2
    unfold nameOf
    split
    · exact ⟨by simp, by simp⟩
    · rename_i t ht
      refine ⟨by simpa using lookL_short ht, fun _ => ⟨by simp; omega, ?_⟩⟩
      rw [getD_drop] at e3
      rw [show 1 + (0 + d) + 1 - 1 = 1 + d from by omega]
      exact e3
theorem atL_ok (l : List UInt8) : EntOk l (atL l) := by
  unfold atL
  split
  · exact numAt_ok _ _ _ _
  · split
    · exact numAt_ok _ _ _ _
    · split
      · exact numAt_ok _ _ _ _
      · split
        · exact nameAt_ok _
        · exact ⟨by simp, by simp⟩
theorem atL_none {b : UInt8} {l : List UInt8} (h : b.toNat ≠ 38) : atL (b :: l) = (ByteArray.empty, 0) := by
  have hb : b ≠ 38 := by intro e; subst e; exact h rfl
  have hb2 : ¬ (38 : UInt8) = b := fun e => hb e.symm
  unfold atL
  simp [Lib.hasPrefix, hb2]
theorem asciiB_low {r : Int} (h : asciiB r = true) : r < 128 := by
  simp [asciiB, inB] at h; omega
theorem escL_ok (l : List UInt8) : (escL l).1.length ≤ 4 ∧ (0 < (escL l).2 → (escL l).2 ≤ l.length ∧ (l.getD ((escL l).2 - 1) 0).toNat < 128) := by
  unfold escL
  split
  · rename_i h
    refine ⟨by simp, fun _ => ⟨by show 2 ≤ _; omega, ?_⟩⟩
    have := asciiB_low h.2.2
    show (l.getD 1 0).toNat < 128
    omega
  · have h := atL_ok l
    refine ⟨h.1, fun h0 => ⟨(h.2 h0).1, ?_⟩⟩
    have := (h.2 h0).2
    show (l.getD ((atL l).2 - 1) 0).toNat < 128
    omega
theorem escL_none {b : UInt8} {l : List UInt8} (h1 : b.toNat ≠ 92) (h2 : b.toNat ≠ 38) : (escL (b :: l)).2 = 0 := by
  unfold escL
  rw [if_neg (by simp [h1]), atL_none h2]
theorem unF_more : ∀ (f g : Nat) (l : List UInt8), l.length ≤ f → l.length ≤ g → unF f l = unF g l
  | 0, 0, _, _, _ => rfl
  | 0, g + 1, [], _, _ => rfl
  | f + 1, 0, [], _, _ => rfl
  | f + 1, g + 1, [], _, _ => rfl
  | f + 1, g + 1, b :: l, hf, hg => by
    simp only [List.length_cons] at hf hg
    simp only [unF]
    split
    · rename_i h0
      rw [unF_more f g _ (by rw [List.length_drop, List.length_cons]; omega) (by rw [List.length_drop, List.length_cons]; omega)]
    · rw [unF_more f g _ (by omega) (by omega)]
theorem unL_nil : unL [] = [] := rfl
theorem unL_esc {b : UInt8} {l : List UInt8} (h : 0 < (escL (b :: l)).2) : unL (b :: l) = (escL (b :: l)).1 ++ unL ((b :: l).drop (escL (b :: l)).2) := by
  unfold unL
  simp only [List.length_cons, unF]
  rw [if_pos h, unF_more _ _ _ (by rw [List.length_drop, List.length_cons]; omega) (Nat.le_refl _)]
theorem unL_byte {b : UInt8} {l : List UInt8} (h : (escL (b :: l)).2 = 0) : unL (b :: l) = b :: unL l := by
  unfold unL
  simp only [List.length_cons, unF]
  rw [if_neg (by omega)]
theorem unL_high : ∀ (m l : List UInt8), (∀ b ∈ m, 128 ≤ b.toNat) → unL (m ++ l) = m ++ unL l
  | [], _, _ => rfl
  | b :: m, l, h => by
    have hb := h b (by simp)
    rw [List.cons_append, unL_byte (escL_none (by omega) (by omega)), unL_high m l (fun x hx => h x (by simp [hx]))]
    rfl
theorem decode_max (s : ByteArray) (k : Nat) : (Utf8.decode s k).1 ≤ 1114111 := by
  rw [decode_dec]
  have := of_valid _ (dec_valid (s.data.toList.drop k))
  omega
/-- A rune that is not ASCII: its bytes. -/
theorem rune_high (s : ByteArray) (k : Nat) (h : k < s.size) (ha : 128 ≤ (s[k]'h).toNat) :
    1 ≤ (Utf8.decode s k).2 ∧ k + (Utf8.decode s k).2 ≤ s.size ∧ 128 ≤ (Utf8.decode s k).1 ∧ ∃ m, s.data.toList.drop k = m ++ s.data.toList.drop (k + (Utf8.decode s k).2) ∧ m.length = (Utf8.decode s k).2 ∧ ∀ b ∈ m, 128 ≤ b.toNat := by
  obtain ⟨h1, h2⟩ := decode_high s k h ha
  obtain ⟨h3, h4⟩ := decode_tail s k h
  refine ⟨h2, h3, h1, (s.data.toList.drop k).take (Utf8.decode s k).2, ?_, ?_, ?_⟩
  · rw [← List.drop_drop, List.take_append_drop]
  · rw [List.length_take, List.length_drop]
    have : s.data.toList.length = s.size := by simp
    omega
  · intro b hb
    obtain ⟨j, hj, rfl⟩ := List.getElem_of_mem hb
    rw [List.length_take] at hj
    rw [List.getElem_take, List.getElem_drop]
    by_cases hj0 : j = 0
    · subst hj0
      exact ha
    · have := h4 j (by omega) (by omega)
      rw [get!_list s (k + j) (by omega)] at this
      exact this
theorem btwGo_high (c : UInt8) (never : List UInt8) (hc : c.toNat < 128) (hn : ∀ b ∈ never, b.toNat < 128) : ∀ (m l : List UInt8) (i : Nat), (∀ b ∈ m, 128 ≤ b.toNat) → btwGo c never (m ++ l) false i = btwGo c never l false (i + m.length)
  | [], _, _, _ => rfl
  | b :: m, l, i, h => by
    have hb := h b (by simp)
    rw [List.cons_append, btwGo, if_neg (by omega), if_neg (by simp), if_neg (by omega), if_neg (by intro e; subst e; omega), if_neg (by intro e; have := hn b e; omega), btwGo_high c never hc hn m l _ (fun x hx => h x (by simp [hx]))]
    rw [List.length_cons, show i + 1 + m.length = i + (m.length + 1) from by omega]
theorem btwGo_rune (c : UInt8) (never : List UInt8) (hc : c.toNat < 128) (hn : ∀ b ∈ never, b.toNat < 128) (m l : List UInt8) (bh : Bool) (i : Nat) (h : ∀ b ∈ m, 128 ≤ b.toNat) (hm : 1 ≤ m.length) : btwGo c never (m ++ l) bh i = btwGo c never l false (i + m.length) := by
  cases bh with
  | false => exact btwGo_high c never hc hn m l i h
  | true =>
    match m, hm with
    | b :: m, _ =>
      have hb := h b (by simp)
      rw [List.cons_append, btwGo, if_neg (by omega), if_pos rfl, btwGo_high c never hc hn m l _ (fun x hx => h x (by simp [hx]))]
      rw [List.length_cons, show i + 1 + m.length = i + (m.length + 1) from by omega]
theorem btwGo_some (c : UInt8) (never : List UInt8) : ∀ (l : List UInt8) (bh : Bool) (i j : Nat), btwGo c never l bh i = some j → i ≤ j ∧ j < i + l.length ∧ l.getD (j - i) 0 = c
  | [], _, _, _, h => by simp [btwGo] at h
  | b :: l, bh, i, j, h => by
    have next : ∀ bh', btwGo c never l bh' (i + 1) = some j → i ≤ j ∧ j < i + (b :: l).length ∧ (b :: l).getD (j - i) 0 = c := by
      intro bh' h1
      obtain ⟨e1, e2, e3⟩ := btwGo_some c never l _ _ _ h1
      refine ⟨by omega, by rw [List.length_cons]; omega, ?_⟩
      rw [show j - i = (j - (i + 1)) + 1 from by omega]
      simpa using e3
    rw [btwGo] at h
    split at h
    · cases h
    · split at h
      · exact next _ h
      · split at h
        · exact next _ h
        · split at h
          · rename_i h1
            simp at h
            subst h
            exact ⟨Nat.le_refl _, by simp, by simp [h1]⟩
          · split at h
            · cases h
            · exact next _ h
theorem hidB_high {r : Int} (h : 128 ≤ r) : tgHid r = false := by simp [tgHid]; omega
theorem bareGo_one {b : UInt8} (l : List UInt8) (o i : Nat) (bh : Bool) (h : 128 ≤ b.toNat) : bareGo (b :: l) o bh i = bareGo l o false (i + 1) := by
  rw [bareGo, if_neg (by rw [hidB_high (by omega)]; simp; omega), if_neg (by omega : ¬ b.toNat = 92), if_neg (by omega : ¬ b.toNat = 40), if_neg (by omega : ¬ b.toNat = 41), ite_self]
theorem bareGo_high (m l : List UInt8) (o i : Nat) (bh : Bool) (h : ∀ b ∈ m, 128 ≤ b.toNat) (hm : 1 ≤ m.length) : bareGo (m ++ l) o bh i = bareGo l o false (i + m.length) := by
  have go : ∀ (m : List UInt8) (i : Nat), (∀ b ∈ m, 128 ≤ b.toNat) → bareGo (m ++ l) o false i = bareGo l o false (i + m.length) := by
    intro m
    induction m with
    | nil => intro i _; rfl
    | cons b m ih =>
      intro i h
      rw [List.cons_append, bareGo_one _ _ _ _ (h b (by simp)), ih _ (fun x hx => h x (by simp [hx])), List.length_cons, show i + 1 + m.length = i + (m.length + 1) from by omega]
  match m, hm with
  | b :: m, _ =>
    rw [List.cons_append, bareGo_one _ _ _ _ (h b (by simp)), go m _ (fun x hx => h x (by simp [hx])), List.length_cons, show i + 1 + m.length = i + (m.length + 1) from by omega]
theorem bareGo_le : ∀ (l : List UInt8) (o i : Nat) (bh : Bool), i ≤ (bareGo l o bh i).1 ∧ (bareGo l o bh i).1 ≤ i + l.length
  | [], _, _, _ => by simp [bareGo]
  | b :: l, o, i, bh => by
    have ih := fun o bh => bareGo_le l o (i + 1) bh
    rw [bareGo, List.length_cons]
    split
    · simp
    · split
      · have := ih o false; omega
      · split
        · have := ih o true; omega
        · split
          · have := ih (o + 1) false; omega
          · split
            · have := ih (o - 1) false; omega
            · have := ih o false; omega
theorem bareL_le (l : List UInt8) : bareL l ≤ l.length := by
  unfold bareL
  split
  · omega
  · have := bareGo_le l 0 0 false; omega
theorem blkB_high {r : Int} (h : 128 ≤ r) : blkB r = false := by simp [blkB]; omega
theorem btwL_le (c : UInt8) (never l : List UInt8) (h1 : 1 ≤ l.length) : (btwL c never l).2.1 ≤ l.length := by
  unfold btwL
  split
  · simp
  · rename_i i h
    have := (btwGo_some _ _ _ _ _ _ h).2.1
    rw [List.length_drop] at this
    show i + 1 ≤ _
    omega
theorem hasPrefix_len {l p : List UInt8} (h : Lib.hasPrefix l p = true) : p.length ≤ l.length := by
  have h1 : p <+: l := List.isPrefixOf_iff_prefix.1 h
  exact h1.length_le
theorem destL_le (l : List UInt8) : (destL l).2.1 ≤ l.length := by
  unfold destL
  split
  · rename_i h
    exact btwL_le _ _ _ (hasPrefix_len h)
  · exact bareL_le l
theorem titleL_le (l : List UInt8) : (titleL l).2.1 ≤ l.length := by
  unfold titleL
  split
  · rename_i h; exact btwL_le _ _ _ (hasPrefix_len h)
  · split
    · rename_i h; exact btwL_le _ _ _ (hasPrefix_len h)
    · split
      · rename_i h; exact btwL_le _ _ _ (hasPrefix_len h)
      · simp
theorem behL_le (l : List UInt8) (k : Nat) (h : k ≤ l.length) : k ≤ behL l k ∧ behL l k ≤ l.length := by
  unfold behL
  have := (List.takeWhile_sublist (fun b : UInt8 => blkB b.toNat) (l := l.drop k)).length_le
  rw [List.length_drop] at this
  omega
end Go.Proofs.YteihmgcphbijhaaGreatDoor
namespace Go.Proofs.YteihmgcphbijhaaGreatDoor
open Go.RowKit
set_option linter.unusedSimpArgs false
set_option linter.unusedVariables false
theorem btwGo_zero {c b : UInt8} {nv l : List UInt8} {bh : Bool} {i : Nat} (h : b.toNat = 0) : btwGo c nv (b :: l) bh i = none := by rw [btwGo, if_pos h]
theorem btwGo_bh {c b : UInt8} {nv l : List UInt8} {i : Nat} (h : ¬ b.toNat = 0) : btwGo c nv (b :: l) true i = btwGo c nv l false (i + 1) := by rw [btwGo, if_neg h, if_pos rfl]
theorem btwGo_slash {c b : UInt8} {nv l : List UInt8} {i : Nat} (h : b.toNat = 92) : btwGo c nv (b :: l) false i = btwGo c nv l true (i + 1) := by rw [btwGo, if_neg (by omega), if_neg (by simp), if_pos h]
theorem btwGo_shut {c b : UInt8} {nv l : List UInt8} {i : Nat} (h0 : ¬ b.toNat = 0) (h : ¬ b.toNat = 92) (hc : b = c) : btwGo c nv (b :: l) false i = some i := by rw [btwGo, if_neg h0, if_neg (by simp), if_neg h, if_pos hc]
theorem btwGo_never {c b : UInt8} {nv l : List UInt8} {i : Nat} (h0 : ¬ b.toNat = 0) (h : ¬ b.toNat = 92) (hc : ¬ b = c) (hn : b ∈ nv) : btwGo c nv (b :: l) false i = none := by rw [btwGo, if_neg h0, if_neg (by simp), if_neg h, if_neg hc, if_pos hn]
theorem btwGo_on {c b : UInt8} {nv l : List UInt8} {i : Nat} (h0 : ¬ b.toNat = 0) (h : ¬ b.toNat = 92) (hc : ¬ b = c) (hn : ¬ b ∈ nv) : btwGo c nv (b :: l) false i = btwGo c nv l false (i + 1) := by rw [btwGo, if_neg h0, if_neg (by simp), if_neg h, if_neg hc, if_neg hn]
theorem bareGo_stop {b : UInt8} {l : List UInt8} {o i : Nat} {bh : Bool} (h : tgHid b.toNat = true ∨ b.toNat = 41 ∧ o = 0 ∧ bh = false) : bareGo (b :: l) o bh i = (i, o) := by
  rw [bareGo, if_pos (by
    rcases h with h | ⟨h1, h2, h3⟩
    · simp [h]
    · simp [h1, h2, h3])]
theorem bareGo_on {b : UInt8} {l : List UInt8} {o i : Nat} {bh : Bool} (h : tgHid b.toNat = false) (h2 : ¬ (b.toNat = 41 ∧ o = 0 ∧ bh = false)) : bareGo (b :: l) o bh i =
    if bh then bareGo l o false (i + 1) else if b.toNat = 92 then bareGo l o true (i + 1) else if b.toNat = 40 then bareGo l (o + 1) false (i + 1) else if b.toNat = 41 then bareGo l (o - 1) false (i + 1) else bareGo l o false (i + 1) := by
  rw [bareGo, if_neg (by
    rw [h, Bool.false_or]
    intro e
    simp only [Bool.and_eq_true, beq_iff_eq, Bool.not_eq_true'] at e
    exact h2 ⟨e.1.1, e.1.2, e.2⟩)]
theorem takeW_stop {b : UInt8} {l : List UInt8} (h : blkB b.toNat = false) : ((b :: l).takeWhile fun b => blkB b.toNat).length = 0 := by
  rw [List.takeWhile_cons, if_neg (by rw [h]; simp)]; rfl
theorem takeW_cons {b : UInt8} {l : List UInt8} (h : blkB b.toNat = true) : ((b :: l).takeWhile fun b => blkB b.toNat).length = (l.takeWhile fun b => blkB b.toNat).length + 1 := by
  rw [List.takeWhile_cons, if_pos h]; rfl
end Go.Proofs.YteihmgcphbijhaaGreatDoor

namespace Go.Proofs.YteihmgcphbijhaaGreatDoor
set_option linter.unusedSimpArgs false
set_option linter.unusedVariables false
def isGap (b : UInt8) : Bool := b == 32 || b == 9
end Go.Proofs.YteihmgcphbijhaaGreatDoor
namespace Go.Proofs.YteihmgcphbijhaaGreatDoor
set_option linter.unusedSimpArgs false
set_option linter.unusedVariables false
end Go.Proofs.YteihmgcphbijhaaGreatDoor

namespace Go.Proofs.YteihmgcphbijhaaGreatDoor
open Go.RowKit
set_option linter.unusedSimpArgs false
set_option linter.unusedVariables false
/-- A definition. -/
structure Dfn where
  nm : List UInt8
  url : List UInt8
  ttl : List UInt8
  txt : List UInt8
  nt : Bool
deriving DecidableEq, Inhabited
/-- Its five cells. -/
def dfC (x : Dfn) : List Value := [.string ⟨x.nm.toArray⟩, .string ⟨x.url.toArray⟩, .string ⟨x.ttl.toArray⟩, .string ⟨x.txt.toArray⟩, .bool x.nt]
theorem dfC_length (x : Dfn) : (dfC x).length = 5 := rfl
end Go.Proofs.YteihmgcphbijhaaGreatDoor

namespace Go.Proofs.YteihmgcphbijhaaGreatDoor
open Go.RowKit
set_option linter.unusedSimpArgs false
set_option linter.unusedVariables false
/-- The bytes that no name has. -/
def badN (l : List UInt8) : Bool := l.any fun b => b == 91 || b == 93 || b == 10 || b == 0
def dnL (l : List UInt8) : List UInt8 × Bool := if (foldL l).isEmpty || decide (60 < (foldL l).length) || badN l then ([], false) else (foldL l, true)
def noDfn : Dfn := ⟨[], [], [], [], false⟩
end Go.Proofs.YteihmgcphbijhaaGreatDoor
namespace Go.Proofs.YteihmgcphbijhaaGreatDoor
open Go.RowKit
set_option linter.unusedSimpArgs false
set_option linter.unusedVariables false
end Go.Proofs.YteihmgcphbijhaaGreatDoor
namespace Go.Proofs.YteihmgcphbijhaaGreatDoor
open Go.RowKit
set_option linter.unusedSimpArgs false
set_option linter.unusedVariables false
/-- No blank at the end. -/
def NoGap (l : List UInt8) : Prop := l = [] ∨ ∃ m b, l = m ++ [b] ∧ isGap b = false
theorem NoGap.drop {l : List UInt8} (h : NoGap l) (n : Nat) : NoGap (l.drop n) := by
  rcases h with rfl | ⟨m, b, rfl, hb⟩
  · left; simp
  · by_cases hn : n ≤ m.length
    · right
      exact ⟨m.drop n, b, by rw [List.drop_append_of_le_length hn], hb⟩
    · left
      rw [List.drop_eq_nil_of_le (by simp; omega)]
theorem NoGap.all {l : List UInt8} (h : NoGap l) (ha : l.all isGap = true) : l = [] := by
  rcases h with h | ⟨m, b, rfl, hb⟩
  · exact h
  · rw [List.all_append, Bool.and_eq_true] at ha
    simp [hb] at ha
end Go.Proofs.YteihmgcphbijhaaGreatDoor

namespace Go.Proofs.YteihmgcphbijhaaGreatDoor
open Go.RowKit
set_option linter.unusedSimpArgs false
set_option linter.unusedVariables false
def fdL (D : List Dfn) (n : List UInt8) (b : Bool) : Dfn × Bool := match D.find? (fun x => decide (x.nm = n) && (x.nt == b)) with | some x => (x, true) | none => (noDfn, false)
def findL (D : List Dfn) (s : List UInt8) (b : Bool) : Dfn × Bool := if (dnL s).2 then fdL D (dnL s).1 b else (noDfn, false)
theorem fdL_no {D : List Dfn} {n : List UInt8} {b : Bool} (h : ∀ i (hi : i < D.length), ¬ (D[i].nm = n ∧ D[i].nt = b)) : fdL D n b = (noDfn, false) := by
  unfold fdL
  rw [List.find?_eq_none.2 (fun x hx => by
    obtain ⟨i, hi, rfl⟩ := List.mem_iff_getElem.1 hx
    have := h i hi
    simp
    exact fun e1 e2 => this ⟨e1, e2⟩)]
theorem fdL_at {D : List Dfn} {n : List UInt8} {b : Bool} {j : Nat} (hj : j < D.length) (e1 : D[j].nm = n) (e2 : D[j].nt = b) (h : ∀ i (hi : i < j), ¬ (D[i].nm = n ∧ D[i].nt = b)) : fdL D n b = (D[j], true) := by
  unfold fdL
  rw [show D.find? (fun x => decide (x.nm = n) && (x.nt == b)) = some D[j] from List.find?_eq_some_iff_getElem.2 ⟨by simp [e1, e2], j, hj, rfl, fun i hi => by
    have := h i hi
    simp
    by_cases e1 : D[i].nm = n
    · exact Or.inr fun e2 => this ⟨e1, e2⟩
    · exact Or.inl e1⟩]
theorem dnL_len (l : List UInt8) : (dnL l).1.length ≤ 60 := by
  unfold dnL
  split
  · exact Nat.zero_le _
  · rename_i h
    simp at h ⊢
    omega
end Go.Proofs.YteihmgcphbijhaaGreatDoor

namespace Go.Proofs.YteihmgcphbijhaaGreatDoor
open Go.RowKit
set_option linter.unusedSimpArgs false
set_option linter.unusedVariables false
/-- Something of a text: nodes or a row; or an opener (of an image, or not), what stands behind it begins at 'pos'; is it shut? -/
inductive Ent where
  | it (x : Itm)
  | mk (img : Bool) (pos : Nat) (sh : Bool)
deriving DecidableEq
def ndI (l : List Iln) : Itm := ⟨0, 0, 0, false, false, l⟩
def markOf (img : Bool) : List UInt8 := if img then [33, 91] else [91]
def entI : Ent → Itm
  | .it x => x
  | .mk img _ _ => ndI [wordsI 0 (markOf img)]
/-- The last opener (l: nearest first): what stands behind it (nearest first), itself, what stands ahead. -/
def lastMk : List Ent → Option (List Itm × (Bool × Nat × Bool) × List Ent)
  | [] => none
  | .mk img pos sh :: l => some ([], (img, pos, sh), l)
  | .it x :: l => match lastMk l with | some (m, o, l') => some (x :: m, o, l') | none => none
def shutE : Ent → Ent
  | .mk false pos _ => .mk false pos true
  | e => e
def anchorB (b : UInt8) : Bool := inR b.toNat 97 122 || inR b.toNat 48 57 || b == 45
def anchorL (l : List UInt8) : Bool := !l.isEmpty && l.all anchorB
def noBr (b : UInt8) : Bool := b != 91 && b != 93 && b != 0
/-- A second pair of brackets: its text, how many bytes both signs and it have. -/
def pairL (l : List UInt8) : Option (List UInt8 × Nat) :=
  if Lib.hasPrefix l [91] && Lib.hasPrefix ((l.drop 1).dropWhile noBr) [93] then some ((l.drop 1).takeWhile noBr, ((l.drop 1).takeWhile noBr).length + 2) else none
def linkN (img : Bool) (url ttl : List UInt8) : Iln := ⟨if img then 6 else 5, 0, [], url, ttl⟩
def foundN (img : Bool) (r : Dfn × Bool) (n : Nat) : Option (Iln × Nat) := if r.2 then some (linkN img r.1.url r.1.ttl, n) else none
/-- What a pair of brackets is, and how many bytes behind belong to it. -/
def askedL (D : List Dfn) (img : Bool) (x behind : List UInt8) : Option (Iln × Nat) :=
  if !img && Lib.hasPrefix x [94] && (findL D (x.drop 1) true).2 then some (⟨10, 0, (findL D (x.drop 1) true).1.nm, [], []⟩, 0)
  else if !img && Lib.hasPrefix x [35] && anchorL (x.drop 1) then some (⟨11, 0, x.drop 1, [], []⟩, 0)
  else if (insideL behind).2.2.2 then some (linkN img (insideL behind).1 (insideL behind).2.1, (insideL behind).2.2.1)
  else match pairL behind with
    | some (y, n) => if (findL D y false).2 then foundN img (findL D y false) n else if foldL y = [] then foundN img (findL D x false) n else none
    | none => foundN img (findL D x false) 0
/-- Nodes of an atom; what stands for atoms in code. -/
structure Env where
  atom : Int → Option (List Iln)
  code : List UInt8 → List UInt8
def restF (tx : Int → List UInt8) : Nat → List UInt8 → List UInt8
  | 0, _ => []
  | _ + 1, [] => []
  | f + 1, b :: l => if b = 0 ∧ (atomL (b :: l)).2 ≠ 0 then (match (atomL (b :: l)).1 with | .atom k => tx k | _ => []) ++ restF tx f ((b :: l).drop (atomL (b :: l)).2) else b :: restF tx f l
def restL (tx : Int → List UInt8) (l : List UInt8) : List UInt8 := restF tx l.length l
/-- A pair of brackets is closed: l: nearest first; the new ones, and how many bytes behind belong to it. -/
def closeI (D : List Dfn) (s : List UInt8) (frm tow : Nat) (l : List Ent) : List Ent × Nat :=
  match lastMk l with
  | none => (.it (ndI [wordsI 0 [93]]) :: l, 0)
  | some (m, (img, pos, sh), l') =>
    match (if sh then none else askedL D img ((s.take frm).drop pos) (s.drop tow)) with
    | none => (.it (ndI [wordsI 0 [93]]) :: m.map Ent.it ++ .it (ndI [wordsI 0 (markOf img)]) :: l', 0)
    | some (x, n) =>
      if x.kd = 6 then (.it (ndI [{ x with txt := textI (groupI m.reverse) }]) :: l', n)
      else if x.kd = 5 then (.it (ndI (x :: deepI (groupI m.reverse))) :: l'.map shutE, n)
      else (.it (ndI [x]) :: l', n)
/-- One token: of the bytes frm to to. -/
def stepI (E : Env) (D : List Dfn) (s : List UInt8) (frm tow : Nat) (t : Tk) (l : List Ent) : List Ent × Nat :=
  match t with
  | .no => (l, 0)
  | .word w => (.it (ndI [wordsI 0 w]) :: l, 0)
  | .code c => (.it (ndI [⟨2, 0, E.code c, [], []⟩]) :: l, 0)
  | .tag x => (.it (ndI [⟨9, 0, x, [], []⟩]) :: l, 0)
  | .auto u x => (.it (ndI [⟨5, 0, [], u, []⟩, wordsI 1 x]) :: l, 0)
  | .brk h => (.it (ndI [⟨if h then 8 else 7, 0, [], [], []⟩]) :: l, 0)
  | .atom k => (.it (ndI ((E.atom k).getD [])) :: l, 0)
  | .run b n => (.it ⟨b, n, n, opensB b.toNat (aroundB ⟨s.toArray⟩ frm tow).1 (aroundB ⟨s.toArray⟩ frm tow).2, opensB b.toNat (aroundB ⟨s.toArray⟩ frm tow).2 (aroundB ⟨s.toArray⟩ frm tow).1, []⟩ :: l, 0)
  | .mark m => if m = [91] then (.mk false tow false :: l, 0) else if m = [33, 91] then (.mk true tow false :: l, 0) else closeI D s frm tow l
def inlGo (E : Env) (D : List Dfn) (s : List UInt8) : Nat → Nat → List Ent → List Ent
  | 0, _, l => l
  | f + 1, i, l =>
    if i < s.length then inlGo E D s f (i + (nextL (s.drop i)).2 + (stepI E D s i (i + (nextL (s.drop i)).2) (nextL (s.drop i)).1 l).2) (stepI E D s i (i + (nextL (s.drop i)).2) (nextL (s.drop i)).1 l).1
    else l
def inlE (E : Env) (D : List Dfn) (s : List UInt8) : List Iln := groupI ((inlGo E D s s.length 0 []).reverse.map entI)
def rawE : Env := ⟨fun _ => none, restL fun _ => []⟩
def rawI (D : List Dfn) (s : List UInt8) : List Iln := inlE rawE D s
structure Atm where
  lb : List UInt8
  tx : List UInt8
deriving DecidableEq, Inhabited
def atmE (D : List Dfn) (A : List Atm) : Env :=
  ⟨fun k => if 0 ≤ k ∧ k < A.length then some (⟨12, 0, (A.getD k.toNat ⟨[], []⟩).lb, [], []⟩ :: deepI (rawI D (A.getD k.toNat ⟨[], []⟩).tx)) else none,
   restL fun k => if 0 ≤ k ∧ k < A.length then (A.getD k.toNat ⟨[], []⟩).tx else []⟩
/-- The nodes of a text, with these atoms and definitions. -/
def inlL (A : List Atm) (D : List Dfn) (s : List UInt8) : List Iln := inlE (atmE D A) D s
end Go.Proofs.YteihmgcphbijhaaGreatDoor

namespace Go.Proofs.YteihmgcphbijhaaGreatDoor
open Go.RowKit
set_option linter.unusedSimpArgs false
set_option linter.unusedVariables false
theorem tw_stop (p : UInt8 → Bool) : ∀ (a r : List UInt8), (∀ b ∈ a, p b = true) → (∀ b ∈ r.head?, p b = false) → (a ++ r).takeWhile p = a
  | [], [], _, _ => rfl
  | [], c :: r, _, h => by
    have := h c (by simp)
    simp [this]
  | b :: a, r, h, hr => by
    have hb := h b (by simp)
    rw [List.cons_append, List.takeWhile_cons, if_pos hb, tw_stop p a r (fun x hx => h x (by simp [hx])) hr]
theorem past_at (p : UInt8 → Bool) (x a r : List UInt8) (k : Nat) (hk : x.length = k) (h : ∀ b ∈ a, p b = true) (hr : ∀ b ∈ r.head?, p b = false) : pastL p (x ++ (a ++ r)) k = k + a.length := by
  subst hk
  unfold pastL
  rw [List.drop_left, tw_stop p a r h hr]
theorem hasL_at (x r : List UInt8) (c b : UInt8) (k : Nat) (hk : x.length = k) : hasL (x ++ c :: r) k b = (c == b) := by
  subst hk
  unfold hasL
  rw [List.getElem?_append_right (Nat.le_refl _)]
  simp
theorem tkIdx_none (n : Nat) (hn : 1 ≤ n) : ∀ (t : List UInt8), (∀ b ∈ t, b ≠ 96) → Lib.index t (List.replicate n 96) = -1
  | [], _ => by
    obtain ⟨m, rfl⟩ : ∃ m, n = m + 1 := ⟨n - 1, by omega⟩
    rw [List.replicate_succ]; rfl
  | b :: t, h => by
    have hb : b ≠ 96 := h b (by simp)
    obtain ⟨m, rfl⟩ : ∃ m, n = m + 1 := ⟨n - 1, by omega⟩
    rw [Lib.index, if_neg, tkIdx_none (m + 1) hn t (fun x hx => h x (by simp [hx]))]
    · rfl
    · rw [List.replicate_succ]
      simp only [List.isPrefixOf, Bool.and_eq_true, beq_iff_eq]
      exact fun e => hb e.1.symm
end Go.Proofs.YteihmgcphbijhaaGreatDoor
namespace Go.Proofs.YteihmgcphbijhaaGreatDoor
open Go.RowKit
set_option linter.unusedSimpArgs false
set_option linter.unusedVariables false
def lowB (b : UInt8) : Bool := inR b.toNat 97 122
theorem word_low (b : UInt8) (h : lowB b = true) : tkWord b = true := by
  have hb := (inR_iff _ _ _).1 (show inR b.toNat 97 122 = true from h)
  have hm : b ∉ tkStops := by
    intro hm
    simp [tkStops] at hm
    rcases hm with rfl | rfl | rfl | rfl | rfl | rfl | rfl | rfl | rfl | rfl | rfl | rfl <;> simp at hb
  unfold tkWord
  have : ∀ l : List UInt8, b ∉ l → Lib.indexByte l b = -1 := by
    intro l
    induction l with
    | nil => intro _; rfl
    | cons x l ih =>
      intro hx
      have hx1 : (x == b) = false := by rw [beq_eq_false_iff_ne]; rintro rfl; exact hx (by simp)
      rw [Lib.indexByte, hx1, ih (fun h => hx (by simp [h]))]
      rfl
  rw [this tkStops hm]
  decide
end Go.Proofs.YteihmgcphbijhaaGreatDoor

namespace Go.Proofs.YteihmgcphbijhaaGreatDoor
open Go.RowKit
set_option linter.unusedSimpArgs false
set_option linter.unusedVariables false
def weight (x : Iln) : Nat := if x.kd = 3 then 2 else if x.kd = 4 then 4 else if x.kd = 1 then x.txt.length else 0
def sumW (l : List Iln) : Nat := (l.map weight).sum
theorem sumW_append (a b : List Iln) : sumW (a ++ b) = sumW a + sumW b := by simp [sumW]
theorem sumW_cons (a : Iln) (b : List Iln) : sumW (a :: b) = weight a + sumW b := by simp [sumW]
theorem sumW_deep (l : List Iln) : sumW (deepI l) = sumW l := by
  induction l with
  | nil => rfl
  | cons x l ih => rw [show deepI (x :: l) = deepOne x :: deepI l from rfl, sumW_cons, sumW_cons, ih]; rfl
/-- Where the next node may lie, behind nodes one of which may lie d deep. -/
def deepAt : Int → List Iln → Int
  | d, [] => d
  | _, x :: l => deepAt (if x.kd = 1 then x.dp else x.dp + 1) l
def deepOk : Int → List Iln → Bool
  | _, [] => true
  | d, x :: l => decide (x.dp ≤ d) && deepOk (if x.kd = 1 then x.dp else x.dp + 1) l
theorem deepOk_append (a b : List Iln) : ∀ d, deepOk d (a ++ b) = (deepOk d a && deepOk (deepAt d a) b) := by
  induction a with
  | nil => intro d; rfl
  | cons x a ih => intro d; simp only [List.cons_append, deepOk, deepAt, ih, Bool.and_assoc]
theorem deepOk_mono (l : List Iln) {d e : Int} (h : d ≤ e) (k : deepOk d l = true) : deepOk e l = true := by
  cases l with
  | nil => rfl
  | cons x l =>
    simp only [deepOk, Bool.and_eq_true, decide_eq_true_eq] at k ⊢
    exact ⟨by omega, k.2⟩
theorem deepAt_lo (a : List Iln) (h : ∀ x ∈ a, 0 ≤ x.dp) : ∀ d, 0 ≤ d → 0 ≤ deepAt d a := by
  induction a with
  | nil => intro d hd; exact hd
  | cons x a ih =>
    intro d hd
    have hx := h x (by simp)
    exact ih (fun y hy => h y (by simp [hy])) _ (by split <;> omega)
theorem deepOk_both {a b : List Iln} (h : ∀ x ∈ a, 0 ≤ x.dp) {d : Int} (hd : 0 ≤ d) (ha : deepOk d a = true) (hb : deepOk 0 b = true) : deepOk d (a ++ b) = true := by
  rw [deepOk_append, ha, deepOk_mono b (deepAt_lo a h d hd) hb]; rfl
theorem deepOk_deep (l : List Iln) (h : SmallD l) : ∀ d, deepOk (d + 1) (deepI l) = deepOk d l := by
  induction l with
  | nil => intro d; rfl
  | cons x l ih =>
    intro d
    have hx := h x (by simp)
    rw [show deepI (x :: l) = deepOne x :: deepI l from rfl]
    simp only [deepOk, deepOne, wrap_small hx.1 hx.2]
    have e : (if x.kd = 1 then x.dp + 1 else x.dp + 1 + 1) = (if x.kd = 1 then x.dp else x.dp + 1) + 1 := by split <;> rfl
    rw [e, ih (fun y hy => h y (by simp [hy]))]
    congr 1
    exact decide_eq_decide.2 (by omega)
def Kinds (l : List Iln) : Prop := ∀ x ∈ l, x.kd = 1 ∨ x.kd = 3 ∨ x.kd = 4
/-- What is so of rows, and of what they become. -/
structure Keep (T W : Nat) (S : List Itm) : Prop where
  kinds : Kinds (allI S)
  lo : ∀ x ∈ allI S, 0 ≤ x.dp
  hi : ∀ x ∈ allI S, x.dp + signsI S ≤ T
  nn : ∀ x ∈ S, 0 ≤ x.n
  sum : sumW (allI S) = W
  shape : ∀ x ∈ S, deepOk 0 (leftI x) = true
theorem shape_all (S : List Itm) (lo : ∀ x ∈ allI S, 0 ≤ x.dp) (h : ∀ x ∈ S, deepOk 0 (leftI x) = true) : deepOk 0 (allI S) = true := by
  induction S with
  | nil => rfl
  | cons x S ih =>
    rw [allI_cons] at lo ⊢
    exact deepOk_both (fun y hy => lo y (List.mem_append_left _ hy)) (Int.le_refl _) (h x (by simp)) (ih (fun y hy => lo y (List.mem_append_right _ hy)) (fun y hy => h y (by simp [hy])))
theorem leftI_row {x : Itm} (h : x.sg ≠ 0) : leftI x = [wordsI 0 (List.replicate x.n.toNat x.sg)] := by unfold leftI; rw [if_neg h]
theorem leftI_less {o : Itm} (h : o.sg ≠ 0) (k : Int) : leftI (lessI o k) = [wordsI 0 (List.replicate (o.n - k).toNat o.sg)] := leftI_row (x := lessI o k) h
theorem Keep.pair {T W : Nat} (hT : T ≤ 1000000) {A M R : List Itm} {o c : Itm} (h : Keep T W (A ++ o :: M ++ c :: R)) (ho : canOpen o c = true) (hc : canClose c = true) :
    Keep T W (A ++ lessI o (kOf o c) :: nodeI (kOf o c) (allI M) :: lessI c (kOf o c) :: R) := by
  have hc0 := canClose_pos hc
  have ho0 := canOpen_pos ho
  have hk := kOf_is o c ho0.1 hc0.1
  have hos : o.sg ≠ 0 := by rw [ho0.2.1]; exact hc0.2.1
  have eS : allI (A ++ o :: M ++ c :: R) = allI A ++ (leftI o ++ (allI M ++ (leftI c ++ allI R))) := by simp [allI_append, allI_cons]
  have eN : allI (A ++ lessI o (kOf o c) :: nodeI (kOf o c) (allI M) :: lessI c (kOf o c) :: R) = allI A ++ (leftI (lessI o (kOf o c)) ++ ((⟨if kOf o c = 2 then 4 else 3, 0, [], [], []⟩ :: deepI (allI M)) ++ (leftI (lessI c (kOf o c)) ++ allI R))) := by
    simp [allI_append, allI_cons, nodeI, leftI]
  have sS : signsI (A ++ o :: M ++ c :: R) = signsI A + o.n.toNat + signsI M + c.n.toNat + signsI R := by simp only [signsI_append, signsI_cons]; omega
  have sN : signsI (A ++ lessI o (kOf o c) :: nodeI (kOf o c) (allI M) :: lessI c (kOf o c) :: R) + 2 * (kOf o c).toNat + signsI M = signsI (A ++ o :: M ++ c :: R) := by
    rw [sS]
    simp only [signsI_append, signsI_cons, lessI, nodeI]
    have e0 : ((0 : Int)).toNat = 0 := rfl
    omega
  have hkin := h.kinds
  have hlo := h.lo
  have hhi := h.hi
  have hsum := h.sum
  rw [eS] at hkin hlo hhi hsum
  have smallM : SmallD (allI M) := fun x hx => by
    have h1 := hlo x (by simp [hx])
    have h2 := hhi x (by simp [hx])
    omega
  have memM : ∀ z ∈ deepI (allI M), ∃ y ∈ allI M, z = deepOne y ∧ z.dp = y.dp + 1 := fun z hz => by
    obtain ⟨y, hy, rfl⟩ := List.mem_map.1 hz
    have := smallM y hy
    exact ⟨y, hy, rfl, wrap_small this.1 this.2⟩
  have cases' : ∀ (P : Iln → Prop), (∀ x ∈ allI A, P x) → (∀ s, P (wordsI 0 s)) → P ⟨if kOf o c = 2 then 4 else 3, 0, [], [], []⟩ → (∀ x ∈ deepI (allI M), P x) → (∀ x ∈ allI R, P x) → ∀ x ∈ allI (A ++ lessI o (kOf o c) :: nodeI (kOf o c) (allI M) :: lessI c (kOf o c) :: R), P x := by
    intro P p1 p2 p3 p4 p5 x hx
    rw [eN, leftI_less hos, leftI_less hc0.2.1] at hx
    simp only [List.mem_append, List.mem_cons, List.not_mem_nil, or_false] at hx
    rcases hx with hx | rfl | (rfl | hx) | rfl | hx
    · exact p1 x hx
    · exact p2 _
    · exact p3
    · exact p4 x hx
    · exact p2 _
    · exact p5 x hx
  refine ⟨?_, ?_, ?_, ?_, ?_, ?_⟩
  · refine cases' _ (fun x hx => hkin x (by simp [hx])) (fun s => Or.inl rfl) ?_ (fun x hx => ?_) (fun x hx => hkin x (by simp [hx]))
    · show (if kOf o c = 2 then (4 : Int) else 3) = 1 ∨ _ = 3 ∨ _ = 4
      split <;> simp
    · obtain ⟨y, hy, rfl, _⟩ := memM x hx
      exact hkin y (by simp [hy])
  · refine cases' (fun x => 0 ≤ x.dp) (fun x hx => hlo x (by simp [hx])) (fun s => Int.le_refl _) (Int.le_refl _) (fun x hx => ?_) (fun x hx => hlo x (by simp [hx]))
    obtain ⟨y, hy, _, e⟩ := memM x hx
    have := hlo y (by simp [hy])
    omega
  · have hw := hhi (wordsI 0 (List.replicate o.n.toNat o.sg)) (by rw [leftI_row hos]; simp)
    simp only [wordsI] at hw
    refine cases' (fun x => x.dp + _ ≤ _) (fun x hx => ?_) (fun s => ?_) ?_ (fun x hx => ?_) (fun x hx => ?_)
    · have := hhi x (by simp [hx]); omega
    · simp only [wordsI]; omega
    · show (0 : Int) + _ ≤ _; omega
    · obtain ⟨y, hy, _, e⟩ := memM x hx
      have := hhi y (by simp [hy])
      omega
    · have := hhi x (by simp [hx]); omega
  · intro x hx
    simp only [List.mem_append, List.mem_cons] at hx
    rcases hx with hx | rfl | rfl | rfl | hx
    · exact h.nn x (by simp [hx])
    · simp only [lessI]; omega
    · simp [nodeI]
    · simp only [lessI]; omega
    · exact h.nn x (by simp [hx])
  · rw [eN, leftI_less hos, leftI_less hc0.2.1]
    rw [leftI_row hos, leftI_row hc0.2.1] at hsum
    simp only [sumW_append, sumW_cons, sumW_deep] at hsum ⊢
    have w1 : ∀ (m : Nat) (b : UInt8), weight (wordsI 0 (List.replicate m b)) = m := fun m b => by simp [weight, wordsI]
    simp only [w1] at hsum ⊢
    have w2 : weight ⟨if kOf o c = 2 then 4 else 3, 0, [], [], []⟩ = 2 * (kOf o c).toNat := by
      rcases hk.1 with e | e <;> rw [e] <;> decide
    rw [w2]
    have e0 : sumW [] = 0 := rfl
    omega
  · intro x hx
    simp only [List.mem_append, List.mem_cons] at hx
    rcases hx with hx | rfl | rfl | rfl | hx
    · exact h.shape x (by simp [hx])
    · rw [leftI_less hos]; rfl
    · have hM : deepOk 0 (allI M) = true := shape_all M (fun y hy => hlo y (by simp [hy])) (fun y hy => h.shape y (by simp [hy]))
      have e1 : leftI (nodeI (kOf o c) (allI M)) = ⟨if kOf o c = 2 then 4 else 3, 0, [], [], []⟩ :: deepI (allI M) := by simp [nodeI, leftI]
      rw [e1]
      simp only [deepOk, Int.le_refl, decide_true, Bool.true_and]
      rw [if_neg (by split <;> decide)]
      rw [deepOk_deep _ smallM]; exact hM
    · rw [leftI_less hc0.2.1]; rfl
    · exact h.shape x (by simp [hx])
def opn (c : UInt8) (n a : Nat) : Itm := ⟨c, a, n, true, false, []⟩
def nds (l : List Iln) : Itm := ⟨0, 0, 0, false, false, l⟩
def both (c : UInt8) (m : Nat) : Itm := ⟨c, m, m, true, true, []⟩
end Go.Proofs.YteihmgcphbijhaaGreatDoor

namespace Go.Proofs.YteihmgcphbijhaaGreatDoor
open Go.RowKit
set_option linter.unusedSimpArgs false
set_option linter.unusedVariables false
def inlFrom (E : Env) (D : List Dfn) (s : List UInt8) (i : Nat) (l : List Ent) : List Ent := inlGo E D s (s.length - i) i l
theorem inlGo_fuel (E : Env) (D : List Dfn) (s : List UInt8) : ∀ (f i : Nat) (l : List Ent), s.length ≤ i + f → inlGo E D s f i l = inlFrom E D s i l := by
  suffices ∀ (n f g i : Nat) (l : List Ent), s.length - i ≤ n → s.length ≤ i + f → s.length ≤ i + g → inlGo E D s f i l = inlGo E D s g i l from
    fun f i l h => this _ _ _ _ _ (Nat.le_refl _) h (by omega)
  intro n
  induction n with
  | zero =>
    intro f g i l h _ _
    have hn : ¬ i < s.length := by omega
    cases f <;> cases g <;> simp [inlGo, hn]
  | succ n ih =>
    intro f g i l h hf hg
    by_cases hi : i < s.length
    · obtain ⟨f, rfl⟩ : ∃ f', f = f' + 1 := ⟨f - 1, by omega⟩
      obtain ⟨g, rfl⟩ : ∃ g', g = g' + 1 := ⟨g - 1, by omega⟩
      have hne : s.drop i ≠ [] := by intro e; have := congrArg List.length e; simp at this; omega
      have h1 := (next_len (s.drop i) hne).1
      simp only [inlGo, if_pos hi]
      exact ih f g _ _ (by omega) (by omega) (by omega)
    · cases f <;> cases g <;> simp [inlGo, hi]
theorem inlFrom_end (E : Env) (D : List Dfn) (s : List UInt8) (i : Nat) (l : List Ent) (h : s.length ≤ i) : inlFrom E D s i l = l := by
  unfold inlFrom
  rw [show s.length - i = 0 from by omega]
  rfl
theorem inlFrom_tok (E : Env) (D : List Dfn) (s : List UInt8) (i : Nat) (l : List Ent) (h : i < s.length) {t : Tk} {n : Nat} (ht : nextL (s.drop i) = (t, n)) :
    inlFrom E D s i l = inlFrom E D s (i + n + (stepI E D s i (i + n) t l).2) (stepI E D s i (i + n) t l).1 := by
  have hne : s.drop i ≠ [] := by intro e; have := congrArg List.length e; simp at this; omega
  have h1 := (next_len (s.drop i) hne).1
  rw [ht] at h1
  conv => lhs; unfold inlFrom
  obtain ⟨f, hf⟩ : ∃ f, s.length - i = f + 1 := ⟨s.length - i - 1, by omega⟩
  rw [hf]
  simp only [inlGo, if_pos h, ht]
  exact inlGo_fuel E D s f _ _ (by simp at h1; omega)
/-- A token that takes nothing of what is behind it. -/
theorem inlFrom_plain (E : Env) (D : List Dfn) (p u r : List UInt8) (l : List Ent) {t : Tk} (hu : u ≠ []) (ht : nextL (u ++ r) = (t, u.length)) (hm : ∀ m, t = .mark m → m = [91] ∨ m = [33, 91]) :
    inlFrom E D (p ++ (u ++ r)) p.length l = inlFrom E D (p ++ (u ++ r)) (p ++ u).length (stepI E D (p ++ (u ++ r)) p.length (p ++ u).length t l).1 := by
  have hlen : 0 < u.length := List.length_pos_iff.2 hu
  have hs : (stepI E D (p ++ (u ++ r)) p.length (p.length + u.length) t l).2 = 0 := by
    unfold stepI
    split
    case h_9 m =>
      rcases hm m rfl with rfl | rfl
      · rw [if_pos rfl]
      · rw [if_neg (by decide), if_pos rfl]
    all_goals rfl
  have hd : (p ++ (u ++ r)).drop p.length = u ++ r := List.drop_left' rfl
  rw [inlFrom_tok E D _ _ l (by simp; omega) (t := t) (n := u.length) (by rw [hd]; exact ht), hs, List.length_append, Nat.add_zero]
theorem inlE_from (E : Env) (D : List Dfn) (s : List UInt8) : inlE E D s = groupI ((inlFrom E D s 0 []).reverse.map entI) := rfl
theorem word_ne {c : UInt8} (h : tkWord c = true) : c ≠ 0 ∧ c ≠ 92 ∧ c ≠ 38 ∧ c ≠ 96 ∧ c ≠ 60 ∧ c ≠ 42 ∧ c ≠ 95 ∧ c ≠ 33 ∧ c ≠ 91 ∧ c ≠ 93 ∧ c ≠ 10 ∧ c ≠ 32 := by
  refine ⟨?_, ?_, ?_, ?_, ?_, ?_, ?_, ?_, ?_, ?_, ?_, ?_⟩ <;> (rintro rfl; revert h; decide +kernel)
theorem first_word (c : UInt8) (t : List UInt8) (h : tkWord c = true) : firstTk (c :: t) = (.no, 0) := by
  obtain ⟨a1, a2, a3, a4, a5, a6, a7, a8, a9, a10, a11, a12⟩ := word_ne h
  unfold firstTk
  simp [a1, a2, a3, a4, a5, a6, a7, a8, a9, a10, a11, a12]
theorem next_sq (r : List UInt8) : nextL (91 :: r) = (.mark [91], 1) := by
  unfold nextL firstTk markTk
  simp [Lib.hasPrefix]
theorem next_qs (r : List UInt8) : nextL (93 :: r) = (.mark [93], 1) := by
  unfold nextL firstTk markTk
  simp [Lib.hasPrefix]
theorem next_im (r : List UInt8) : nextL (33 :: 91 :: r) = (.mark [33, 91], 2) := by
  unfold nextL firstTk markTk
  simp [Lib.hasPrefix]
theorem next_atom0 (r : List UInt8) : nextL (0 :: 48 :: 0 :: r) = (.atom 0, 3) := by
  have e1 : pastL tkDigit (0 :: 48 :: 0 :: r) 1 = 2 := by
    have := past_at tkDigit [0] [48] (0 :: r) 1 rfl (by decide) (by simp; decide)
    simpa using this
  have e2 : hasL (0 :: 48 :: 0 :: r) 2 0 = true := by
    have := hasL_at [0, 48] r 0 0 2 rfl
    simpa using this
  have e3 : atomL (0 :: 48 :: 0 :: r) = (.atom 0, 3) := by
    unfold atomL
    simp only [e1, e2]
    rfl
  have e4 : firstTk (0 :: 48 :: 0 :: r) = (.atom 0, 3) := by rw [← e3]; rfl
  unfold nextL
  rw [e4]
  rfl
theorem first_blank (l : List UInt8) (h : l.headD 1 = 32 ∨ l.headD 1 = 10) : firstTk l = lineTk l := by
  unfold firstTk
  rcases h with h | h <;> (simp only [h]; rfl)
theorem all_nds (L : List Itm) (h : ∀ x ∈ L, x.sg = 0) : groupI L = mergeI (allI L) := by
  unfold groupI
  rw [groupGo_stay L [] _ (fun c hc => by simp [canClose, h c hc]) (by unfold fuelI; omega)]
  rfl
theorem allI_nds (L : List (List Iln)) : allI (L.map ndI) = L.flatten := by
  induction L with
  | nil => rfl
  | cons x L ih => rw [List.map_cons, allI_cons, ih]; simp [leftI, ndI]
end Go.Proofs.YteihmgcphbijhaaGreatDoor

namespace Go.Proofs.YteihmgcphbijhaaGreatDoor
open Go.RowKit
set_option linter.unusedSimpArgs false
set_option linter.unusedVariables false
def entT (E : Env) : Tk → List (List Iln)
  | .word w => [[wordsI 0 w]]
  | .code c => [[⟨2, 0, E.code c, [], []⟩]]
  | .tag x => [[⟨9, 0, x, [], []⟩]]
  | .auto u x => [[⟨5, 0, [], u, []⟩, wordsI 1 x]]
  | .brk h => [[⟨if h then 8 else 7, 0, [], [], []⟩]]
  | .atom k => [(E.atom k).getD []]
  | _ => []
def simpT : Tk → Bool
  | .run _ _ => false
  | .mark _ => false
  | _ => true
theorem step_simp (E : Env) (D : List Dfn) (s : List UInt8) (a b : Nat) (t : Tk) (l : List Ent) (h : simpT t = true) : (stepI E D s a b t l).1 = ((entT E t).map fun x => Ent.it (ndI x)) ++ l := by
  cases t with
  | run b n => cases h
  | mark m => cases h
  | _ => rfl
/-- A text in pieces, each of which is a token. -/
def flatP (ps : List (List UInt8 × Tk)) : List UInt8 := ps.flatMap (·.1)
def Cuts : List (List UInt8 × Tk) → List UInt8 → Prop
  | [], _ => True
  | p :: ps, r => p.1 ≠ [] ∧ nextL (p.1 ++ (flatP ps ++ r)) = (p.2, p.1.length) ∧ simpT p.2 = true ∧ Cuts ps r
theorem flatP_cons (p : List UInt8 × Tk) (ps : List (List UInt8 × Tk)) : flatP (p :: ps) = p.1 ++ flatP ps := rfl
theorem cuts_run (E : Env) (D : List Dfn) : ∀ (ps : List (List UInt8 × Tk)) (p r : List UInt8) (l : List Ent), Cuts ps r →
    inlFrom E D (p ++ (flatP ps ++ r)) p.length l = inlFrom E D (p ++ (flatP ps ++ r)) (p ++ flatP ps).length ((ps.flatMap fun q => entT E q.2).reverse.map (fun x => Ent.it (ndI x)) ++ l)
  | [], p, r, l, _ => by simp [flatP]
  | q :: ps, p, r, l, h => by
    obtain ⟨h1, h2, h3, h4⟩ := h
    have ih := cuts_run E D ps (p ++ q.1) r ((entT E q.2).map (fun x => Ent.it (ndI x)) ++ l) h4
    have hm : ∀ m, q.2 = .mark m → m = [91] ∨ m = [33, 91] := fun m e => by rw [e] at h3; cases h3
    rw [flatP_cons, List.append_assoc, inlFrom_plain E D p q.1 (flatP ps ++ r) l h1 h2 hm, step_simp E D _ _ _ _ _ h3]
    rw [List.append_assoc] at ih
    rw [ih]
    have e1 : (p ++ q.1 ++ flatP ps).length = (p ++ (q.1 ++ flatP ps)).length := by rw [List.append_assoc]
    rw [e1]
    congr 1
    have e2 : (entT E q.2).reverse = entT E q.2 := by
      cases h : q.2 with
      | _ => rfl
    simp only [List.flatMap_cons, List.reverse_append, List.map_append, List.append_assoc, e2]
end Go.Proofs.YteihmgcphbijhaaGreatDoor

namespace Go.Proofs.YteihmgcphbijhaaGreatDoor
open Go.RowKit
set_option linter.unusedSimpArgs false
set_option linter.unusedVariables false
def Lowers (l : List UInt8) : Prop := ∀ b ∈ l, 97 ≤ b.toNat ∧ b.toNat ≤ 122
theorem unL_plain : ∀ l : List UInt8, (∀ b ∈ l, b.toNat ≠ 92 ∧ b.toNat ≠ 38) → unL l = l
  | [], _ => rfl
  | b :: l, h => by
    have hb := h b (by simp)
    rw [unL_byte (escL_none hb.1 hb.2), unL_plain l (fun x hx => h x (by simp [hx]))]
theorem unL_letters {l : List UInt8} (h : Lowers l) : unL l = l := unL_plain l fun b hb => by have := h b hb; omega
theorem bareGo_letters : ∀ (u l : List UInt8) (i : Nat), Lowers u → bareGo (u ++ l) 0 false i = bareGo l 0 false (i + u.length)
  | [], _, _, _ => rfl
  | b :: u, l, i, h => by
    have hb := h b (by simp)
    have hh : tgHid b.toNat = false := by simp [tgHid]; omega
    rw [List.cons_append, bareGo_on hh (by omega), if_neg (by simp), if_neg (by omega), if_neg (by omega), if_neg (by omega), bareGo_letters u l _ (fun x hx => h x (by simp [hx])), List.length_cons, show i + 1 + u.length = i + (u.length + 1) from by omega]
theorem btwGo_plain (c : UInt8) (nv : List UInt8) : ∀ (u l : List UInt8) (i : Nat), (∀ b ∈ u, b.toNat ≠ 0 ∧ b.toNat ≠ 92 ∧ b ≠ c ∧ b ∉ nv) → btwGo c nv (u ++ l) false i = btwGo c nv l false (i + u.length)
  | [], _, _, _ => rfl
  | b :: u, l, i, h => by
    obtain ⟨h1, h2, h3, h4⟩ := h b (by simp)
    rw [List.cons_append, btwGo_on h1 h2 h3 h4, btwGo_plain c nv u l _ (fun x hx => h x (by simp [hx])), List.length_cons, show i + 1 + u.length = i + (u.length + 1) from by omega]
theorem letters_ne {u : List UInt8} (h : Lowers u) {b : UInt8} (hb : b.toNat < 97) (hne : u ≠ []) (l : List UInt8) : Lib.hasPrefix (u ++ l) [b] = false := by
  match u, hne with
  | x :: u, _ =>
    have hx := h x (by simp)
    rw [← Bool.not_eq_true]
    intro e
    have h2 : [b] <+: x :: (u ++ l) := List.isPrefixOf_iff_prefix.1 e
    have := (List.cons_prefix_cons.1 h2).1
    subst this
    omega
end Go.Proofs.YteihmgcphbijhaaGreatDoor
namespace Go.Proofs.YteihmgcphbijhaaGreatDoor
open Go.RowKit
set_option linter.unusedSimpArgs false
set_option linter.unusedVariables false
def Blanks (g : List UInt8) : Prop := ∀ b ∈ g, blkB b.toNat = true
theorem blank_hid {b : UInt8} (h : blkB b.toNat = true) : tgHid b.toNat = true := by simp [blkB] at h; simp [tgHid]; omega
theorem dest_stop {u : List UInt8} (h : Lowers u) (hne : u ≠ []) {x : UInt8} (hx : tgHid x.toNat = true ∨ x.toNat = 41) (l : List UInt8) : destL (u ++ x :: l) = (u, u.length, true) := by
  have hb : bareGo (u ++ x :: l) 0 false 0 = (u.length, 0) := by
    rw [bareGo_letters u _ 0 h, bareGo_stop (by
      rcases hx with hx | hx
      · exact Or.inl hx
      · exact Or.inr ⟨hx, rfl, rfl⟩), Nat.zero_add]
  have hl : 0 < u.length := List.length_pos_iff.2 hne
  unfold destL
  rw [if_neg (by rw [letters_ne h (by decide) hne]; simp)]
  unfold bareL
  rw [hb]
  simp only [Nat.lt_irrefl, if_false]
  rw [List.take_left, unL_letters h, decide_eq_true hl]
end Go.Proofs.YteihmgcphbijhaaGreatDoor
