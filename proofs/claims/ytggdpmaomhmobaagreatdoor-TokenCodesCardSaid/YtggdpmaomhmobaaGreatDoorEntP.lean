/-
  Plain facts of the layer entity: the names, what a number's digits are, what a text begins with.
-/
import Derived.Test.YtggdpmaomhmobaaGreatDoorBase
namespace Go.Proofs.YtggdpmaomhmobaaGreatDoor
open Go.RowKit
set_option linter.unusedSimpArgs false
set_option linter.unusedVariables false

def namedL : List (List UInt8 × List UInt8) := [
  ([97, 109, 112], [38]),
  ([108, 116], [60]),
  ([103, 116], [62]),
  ([113, 117, 111, 116], [34]),
  ([97, 112, 111, 115], [39]),
  ([110, 98, 115, 112], [194, 160]),
  ([99, 111, 112, 121], [194, 169]),
  ([114, 101, 103], [194, 174]),
  ([100, 101, 103], [194, 176]),
  ([115, 101, 99, 116], [194, 167]),
  ([112, 97, 114, 97], [194, 182]),
  ([109, 105, 100, 100, 111, 116], [194, 183]),
  ([101, 97, 99, 117, 116, 101], [195, 169]),
  ([97, 117, 109, 108], [195, 164]),
  ([111, 117, 109, 108], [195, 182]),
  ([117, 117, 109, 108], [195, 188]),
  ([115, 122, 108, 105, 103], [195, 159]),
  ([110, 100, 97, 115, 104], [226, 128, 147]),
  ([109, 100, 97, 115, 104], [226, 128, 148]),
  ([104, 101, 108, 108, 105, 112], [226, 128, 166]),
  ([101, 117, 114, 111], [226, 130, 172]),
  ([108, 97, 114, 114], [226, 134, 144]),
  ([114, 97, 114, 114], [226, 134, 146])]
def lookL (l : List UInt8) : Option (List UInt8) := (namedL.find? fun e => e.1 == l).map (·.2)
def nmB (k : Nat) : ByteArray := ⟨(namedL.getD k ([], [])).1.toArray⟩
def txB (k : Nat) : ByteArray := ⟨(namedL.getD k ([], [])).2.toArray⟩
theorem namedL_length : namedL.length = 23 := by decide +kernel

def inR (x a b : Int) : Bool := decide (a ≤ x) && decide (x ≤ b)
theorem inR_iff (x a b : Int) : inR x a b = true ↔ a ≤ x ∧ x ≤ b := by simp [inR]
theorem inR_f (x a b : Int) : inR x a b = false ↔ ¬ (a ≤ x ∧ x ≤ b) := by rw [← inR_iff]; simp
def digOk (base r : Int) : Bool := inR r 48 57 || (base == 16 && (inR r 97 102 || inR r 65 70))
def digV (base r : Int) : Int := if inR r 48 57 then r - 48 else if base == 16 && inR r 97 102 then r - 87 else if base == 16 && inR r 65 70 then r - 55 else 0
theorem digV_bd (base r : Int) (h : digOk base r = true) (hb : base = 10 ∨ base = 16) : 0 ≤ digV base r ∧ digV base r < base := by
  unfold digOk at h
  unfold digV
  by_cases h1 : inR r 48 57 = true
  · rw [if_pos h1]
    have := (inR_iff _ _ _).1 h1
    omega
  · rw [if_neg h1]
    simp only [Bool.eq_false_iff.2 h1, Bool.false_or, Bool.and_eq_true, beq_iff_eq, Bool.or_eq_true] at h
    obtain ⟨h2, h3⟩ := h
    subst h2
    rcases h3 with h3 | h3
    · have := (inR_iff _ _ _).1 h3
      simp [h3]; omega
    · have := (inR_iff _ _ _).1 h3
      have h4 : inR r 97 102 = false := (inR_f _ _ _).2 (by omega)
      simp [h3, h4]; omega

/-- The number that a row of digits is, and how many they are, if a ';' stands behind them. -/
def numGo (base : Int) (most : Nat) : List UInt8 → Nat → Int → Option (Int × Nat)
  | [], _, _ => none
  | b :: l, i, v => if b.toNat = 59 ∧ 0 < i then some (v, i) else if digOk base b.toNat = false ∨ i = most then none else numGo base most l (i + 1) (v * base + digV base b.toNat)
def okRune (v : Int) : Bool := inR v 1 55295 || inR v 57344 1114111
def chrB (v : Int) : ByteArray := if okRune v then Utf8.encode v else Utf8.encode 65533
def numAt (base : Int) (from' most : Nat) (l : List UInt8) : ByteArray × Nat :=
  match numGo base most (l.drop from') 0 0 with
  | none => (ByteArray.empty, 0)
  | some (v, i) => (chrB v, from' + i + 1)

def isLow (b : UInt8) : Bool := inR b.toNat 97 122
/-- How many small letters stand ahead of a ';'. -/
def nameGo : List UInt8 → Nat → Option Nat
  | [], _ => none
  | b :: l, i => if b.toNat = 59 then some i else if isLow b then nameGo l (i + 1) else none
def nameOf (l : List UInt8) (i : Nat) : ByteArray × Nat :=
  match lookL (l.take i) with
  | none => (ByteArray.empty, 0)
  | some t => (⟨t.toArray⟩, 1 + i + 1)
def nameAt (l : List UInt8) : ByteArray × Nat :=
  match nameGo (l.drop 1) 0 with
  | none => (ByteArray.empty, 0)
  | some i => nameOf (l.drop 1) i
/-- The entity that a text begins with, and its length. -/
def atL (l : List UInt8) : ByteArray × Nat :=
  if Lib.hasPrefix l [38, 35, 120] then numAt 16 3 6 l
  else if Lib.hasPrefix l [38, 35, 88] then numAt 16 3 6 l
  else if Lib.hasPrefix l [38, 35] then numAt 10 2 7 l
  else if Lib.hasPrefix l [38] then nameAt l
  else (ByteArray.empty, 0)

theorem numGo_end {base : Int} {most : Nat} {b : UInt8} {l : List UInt8} {i : Nat} {v : Int} (h : b.toNat = 59) (hi : 0 < i) : numGo base most (b :: l) i v = some (v, i) := by
  rw [numGo, if_pos ⟨h, hi⟩]
theorem numGo_more {base : Int} {most : Nat} {b : UInt8} {l : List UInt8} {i : Nat} {v : Int} (h : digOk base b.toNat = true) (hi : i ≠ most) : numGo base most (b :: l) i v = numGo base most l (i + 1) (v * base + digV base b.toNat) := by
  have h59 : b.toNat ≠ 59 := by
    intro e
    rw [e] at h
    unfold digOk at h
    simp [inR] at h
  rw [numGo, if_neg (fun e => h59 e.1), if_neg (by simp [h, hi])]
theorem numGo_none {base : Int} {most : Nat} {b : UInt8} {l : List UInt8} {i : Nat} {v : Int} (h : ¬ (b.toNat = 59 ∧ 0 < i)) (h2 : digOk base b.toNat = false ∨ i = most) : numGo base most (b :: l) i v = none := by
  rw [numGo, if_neg h, if_pos h2]

end Go.Proofs.YtggdpmaomhmobaaGreatDoor
