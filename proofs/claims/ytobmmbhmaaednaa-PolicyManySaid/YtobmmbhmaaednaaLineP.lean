/-
  Plain facts of the layer line: what the blanks at a line's beginning are, what a text's lines are.
-/
import Derived.Test.YtobmmbhmaaednaaBase
import Derived.Lib.RuneBytes
import Derived.Laws.RangeAny
namespace Go.Proofs.Ytobmmbhmaaednaa
set_option linter.unusedSimpArgs false
set_option linter.unusedVariables false

def isGap (b : UInt8) : Bool := b == 32 || b == 9
/-- The column behind the blanks at the beginning, from column c on. -/
def mCols : List UInt8 → Nat → Nat
  | [], c => c
  | b :: l, c => if b == 32 then mCols l (c + 1) else if b == 9 then mCols l (c + (4 - c % 4)) else c
/-- How many bytes the blanks at the beginning are. -/
def mSize : List UInt8 → Nat
  | [] => 0
  | b :: l => if isGap b then mSize l + 1 else 0

theorem mSize_le : ∀ l : List UInt8, mSize l ≤ l.length
  | [] => Nat.le_refl _
  | b :: l => by
    have := mSize_le l
    simp only [mSize, List.length_cons]
    split <;> omega
theorem mCols_ge : ∀ (l : List UInt8) (c : Nat), c ≤ mCols l c
  | [], c => Nat.le_refl _
  | b :: l, c => by
    simp only [mCols]
    split
    · have := mCols_ge l (c + 1); omega
    · split
      · have := mCols_ge l (c + (4 - c % 4)); omega
      · omega
theorem mCols_le : ∀ (l : List UInt8) (c : Nat), mCols l c ≤ c + 4 * mSize l
  | [], c => by simp [mCols]
  | b :: l, c => by
    simp only [mCols, mSize, isGap]
    split
    · rename_i h
      have := mCols_le l (c + 1)
      simp only [h, Bool.true_or, if_true]; omega
    · split
      · rename_i h
        have := mCols_le l (c + (4 - c % 4))
        simp only [h, Bool.or_true, if_true]; omega
      · omega
theorem mSize_gap {b : UInt8} {l : List UInt8} (h : isGap b = true) : mSize (b :: l) = mSize l + 1 := by simp [mSize, h]
theorem mSize_other {b : UInt8} {l : List UInt8} (h : isGap b = false) : mSize (b :: l) = 0 := by simp [mSize, h]
theorem mCols_sp {b : UInt8} {l : List UInt8} {c : Nat} (h : b = 32) : mCols (b :: l) c = mCols l (c + 1) := by simp [mCols, h]
theorem mCols_tab {b : UInt8} {l : List UInt8} {c : Nat} (h : b = 9) : mCols (b :: l) c = mCols l (c + (4 - c % 4)) := by simp [mCols, h]
theorem mCols_other {b : UInt8} {l : List UInt8} {c : Nat} (h : isGap b = false) : mCols (b :: l) c = c := by
  simp [isGap] at h
  simp [mCols, h.1, h.2]
theorem mSize_all : ∀ l : List UInt8, mSize l = l.length ↔ l.all isGap = true
  | [] => by simp [mSize]
  | b :: l => by
    have hl := mSize_le l
    have ih := mSize_all l
    cases h : isGap b with
    | true => simp [mSize, h, ih]
    | false => simp [mSize, h]

end Go.Proofs.Ytobmmbhmaaednaa
