/-
  Plain facts of the layer line: a text's lines; a rune's bytes but the first are no LF.
-/
import Derived.Test.YtobmmbhmaaednaaLineP
import Derived.Laws.AppendOwn
import Derived.Below
import Derived.Lib.OthersKept
namespace Go.Proofs.Ytobmmbhmaaednaa
set_option linter.unusedSimpArgs false
set_option linter.unusedVariables false

/-- The lines of a text, where the line that has begun holds 'cur'. -/
def splitFrom : List UInt8 → List UInt8 → List (List UInt8)
  | cur, [] => if cur = [] then [] else [cur]
  | cur, b :: l => if b = 10 then cur :: splitFrom [] l else splitFrom (cur ++ [b]) l
def splitL (l : List UInt8) : List (List UInt8) := splitFrom [] l

theorem splitFrom_lf (cur l : List UInt8) : splitFrom cur (10 :: l) = cur :: splitFrom [] l := by simp [splitFrom]
theorem splitFrom_more : ∀ (xs cur l : List UInt8), (∀ x ∈ xs, x ≠ 10) → splitFrom cur (xs ++ l) = splitFrom (cur ++ xs) l
  | [], cur, l, _ => by simp
  | x :: xs, cur, l, h => by
    have h1 : x ≠ 10 := h x (by simp)
    rw [List.cons_append, splitFrom, if_neg h1, splitFrom_more xs _ l (fun y hy => h y (by simp [hy]))]
    simp

/-- The bytes of the rune at k, if it is no LF. -/
theorem rune_noLF (s : ByteArray) (k : Nat) (h : k < s.size) (hr : (Utf8.decode s k).1 ≠ 10) :
    ∀ x ∈ (s.data.toList.drop k).take (Utf8.decode s k).2, x ≠ 10 := by
  intro x hx
  obtain ⟨j, hj, rfl⟩ := List.mem_iff_getElem.1 hx
  rw [List.length_take, List.length_drop] at hj
  have hl : s.data.toList.length = s.size := by simp
  rw [List.getElem_take, List.getElem_drop]
  have ht := (decode_tail s k h).2 j
  by_cases h0 : j = 0
  · subst h0
    intro e
    apply hr
    have h1 : (s[k]'h).toNat = 10 := by
      have : s[k]'h = s.data.toList[k]'(by simpa using h) := rfl
      rw [this]
      simp only [Nat.add_zero] at e
      rw [e]; rfl
    rw [decode_ascii s k h (by omega)]
    exact h1
  · have := ht (by omega) (by omega)
    rw [get!_list s (k + j) (by omega)] at this
    intro e
    rw [e] at this
    simp at this

theorem seg_grow (s : ByteArray) (b k d : Nat) (hb : b ≤ k) (hd : k + d ≤ s.size) :
    ((s.data.toList.drop b).take (k - b)) ++ ((s.data.toList.drop k).take d) = (s.data.toList.drop b).take (k + d - b) := by
  have e : k + d - b = (k - b) + d := by omega
  rw [e, List.take_add, List.drop_drop, show b + (k - b) = k from by omega]

end Go.Proofs.Ytobmmbhmaaednaa
