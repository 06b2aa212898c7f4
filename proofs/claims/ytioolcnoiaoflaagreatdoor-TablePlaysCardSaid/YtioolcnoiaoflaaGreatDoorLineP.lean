/-
  Plain facts of the layer line: what the blanks at a line's beginning are, what a text's lines are.
  Plain facts of the layer line: a text's lines; a rune's bytes but the first are no LF.
-/
import Derived.Test.YtioolcnoiaoflaaGreatDoorBase
import Derived.Lib.RuneBytes
import Derived.Laws.RangeAny
import Derived.Laws.AppendOwn
import Derived.Below
import Derived.Lib.OthersKept
namespace Go.Proofs.YtioolcnoiaoflaaGreatDoor
set_option linter.unusedSimpArgs false
set_option linter.unusedVariables false

def isGap (b : UInt8) : Bool := b == 32 || b == 9
/-- The column behind the blanks at the beginning, from column c on. -/
def mCols : List UInt8 → Nat → Nat
  | [], c => c
  | b :: l, c => if b == 32 then mCols l (c + 1) else if b == 9 then mCols l (c + (4 - c % 4)) else c
/-- How many bytes the blanks at the beginning are. -/
def mSize : List UInt8 → Nat
  | [] => 0
  | b :: l => if isGap b then mSize l + 1 else 0

theorem mSize_le : ∀ l : List UInt8, mSize l ≤ l.length
  | [] => Nat.le_refl _
  | b :: l => by
    have := mSize_le l
    simp only [mSize, List.length_cons]
    split <;> omega
theorem mCols_ge : ∀ (l : List UInt8) (c : Nat), c ≤ mCols l c
  | [], c => Nat.le_refl _
  | b :: l, c => by
    simp only [mCols]
    split
    · have := mCols_ge l (c + 1); omega
    · split
      · have := mCols_ge l (c + (4 - c % 4)); omega
      · omega
theorem mCols_le : ∀ (l : List UInt8) (c : Nat), mCols l c ≤ c + 4 * mSize l
  | [], c => by simp [mCols]
  | b :: l, c => by
    simp only [mCols, mSize, isGap]
    split
    · rename_i h
      have := mCols_le l (c + 1)
      simp only [h, Bool.true_or, if_true]; omega
    · split
      · rename_i h
        have := mCols_le l (c + (4 - c % 4))
        simp only [h, Bool.or_true, if_true]; omega
      · omega
theorem mSize_gap {b : UInt8} {l : List UInt8} (h : isGap b = true) : mSize (b :: l) = mSize l + 1 := by simp [mSize, h]
theorem mSize_other {b : UInt8} {l : List UInt8} (h : isGap b = false) : mSize (b :: l) = 0 := by simp [mSize, h]
theorem mCols_sp {b : UInt8} {l : List UInt8} {c : Nat} (h : b = 32) : mCols (b :: l) c = mCols l (c + 1) := by simp [mCols, h]
theorem mCols_tab {b : UInt8} {l : List UInt8} {c : Nat} (h : b = 9) : mCols (b :: l) c = mCols l (c + (4 - c % 4)) := by simp [mCols, h]
theorem mCols_other {b : UInt8} {l : List UInt8} {c : Nat} (h : isGap b = false) : mCols (b :: l) c = c := by
  simp [isGap] at h
  simp [mCols, h.1, h.2]
theorem mSize_all : ∀ l : List UInt8, mSize l = l.length ↔ l.all isGap = true
  | [] => by simp [mSize]
  | b :: l => by
    have hl := mSize_le l
    have ih := mSize_all l
    cases h : isGap b with
    | true => simp [mSize, h, ih]
    | false => simp [mSize, h]

end Go.Proofs.YtioolcnoiaoflaaGreatDoor

namespace Go.Proofs.YtioolcnoiaoflaaGreatDoor
set_option linter.unusedSimpArgs false
set_option linter.unusedVariables false

/-- The lines of a text, where the line that has begun holds 'cur'. -/
def splitFrom : List UInt8 → List UInt8 → List (List UInt8)
  | cur, [] => if cur = [] then [] else [cur]
  | cur, b :: l => if b = 10 then cur :: splitFrom [] l else splitFrom (cur ++ [b]) l
def splitL (l : List UInt8) : List (List UInt8) := splitFrom [] l

theorem splitFrom_lf (cur l : List UInt8) : splitFrom cur (10 :: l) = cur :: splitFrom [] l := by simp [splitFrom]
theorem splitFrom_more : ∀ (xs cur l : List UInt8), (∀ x ∈ xs, x ≠ 10) → splitFrom cur (xs ++ l) = splitFrom (cur ++ xs) l
  | [], cur, l, _ => by simp
  | x :: xs, cur, l, h => by
    have h1 : x ≠ 10 := h x (by simp)
    rw [List.cons_append, splitFrom, if_neg h1, splitFrom_more xs _ l (fun y hy => h y (by simp [hy]))]
    simp

/-- The bytes of the rune at k, if it is no LF. -/
theorem rune_noLF (s : ByteArray) (k : Nat) (h : k < s.size) (hr : (Utf8.decode s k).1 ≠ 10) :
    ∀ x ∈ (s.data.toList.drop k).take (Utf8.decode s k).2, x ≠ 10 := by
  intro x hx
  obtain ⟨j, hj, rfl⟩ := List.mem_iff_getElem.1 hx
  rw [List.length_take, List.length_drop] at hj
  have hl : s.data.toList.length = s.size := by simp
  rw [List.getElem_take, List.getElem_drop]
  have ht := (decode_tail s k h).2 j
  by_cases h0 : j = 0
  · subst h0
    intro e
    apply hr
    have h1 : (s[k]'h).toNat = 10 := by
      have : s[k]'h = s.data.toList[k]'(by simpa using h) := rfl
      rw [this]
      simp only [Nat.add_zero] at e
      rw [e]; rfl
    rw [decode_ascii s k h (by omega)]
    exact h1
  · have := ht (by omega) (by omega)
    rw [get!_list s (k + j) (by omega)] at this
    intro e
    rw [e] at this
    simp at this

theorem seg_grow (s : ByteArray) (b k d : Nat) (hb : b ≤ k) (hd : k + d ≤ s.size) :
    ((s.data.toList.drop b).take (k - b)) ++ ((s.data.toList.drop k).take d) = (s.data.toList.drop b).take (k + d - b) := by
  have e : k + d - b = (k - b) + d := by omega
  rw [e, List.take_add, List.drop_drop, show b + (k - b) = k from by omega]

end Go.Proofs.YtioolcnoiaoflaaGreatDoor
