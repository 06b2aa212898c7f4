/-
  Plain facts of the layer line: a text's lines; a rune's bytes but the first are no LF.
-/
import Derived.Test.YtkhmlnhfmlckdaaLineP
import Derived.Laws.AppendOwn
import Derived.Below
import Derived.Lib.OthersKept
namespace Go.Proofs.Ytkhmlnhfmlckdaa
set_option linter.unusedSimpArgs false
set_option linter.unusedVariables false

/-- The lines of a text, where the line that has begun holds 'cur'. -/
def splitFrom : List UInt8 → List UInt8 → List (List UInt8)
  | cur, [] => if cur = [] then [] else [cur]
  | cur, b :: l => if b = 10 then cur :: splitFrom [] l else splitFrom (cur ++ [b]) l
def splitL (l : List UInt8) : List (List UInt8) := splitFrom [] l

theorem splitFrom_lf (cur l : List UInt8) : splitFrom cur (10 :: l) = cur :: splitFrom [] l := by simp [splitFrom]
theorem splitFrom_more : ∀ (xs cur l : List UInt8), (∀ x ∈ xs, x ≠ 10) → splitFrom cur (xs ++ l) = splitFrom (cur ++ xs) l
  | [], cur, l, _ => by simp
  | x :: xs, cur, l, h => by
    have h1 : x ≠ 10 := h x (by simp)
    rw [List.cons_append, splitFrom, if_neg h1, splitFrom_more xs _ l (fun y hy => h y (by simp [hy]))]
    simp

/-- Each byte of a rune but the first is 128 or more. -/
theorem decode_tail (s : ByteArray) (i : Nat) (h : i < s.size) : i + (Utf8.decode s i).2 ≤ s.size ∧ ∀ j, 1 ≤ j → j < (Utf8.decode s i).2 → 128 ≤ (s.get! (i + j)).toNat := by
  unfold Utf8.decode
  dsimp only
  split
  · exact ⟨by simp; omega, fun j h1 h2 => by simp at h2; omega⟩
  · split
    · rename_i hc
      simp at hc
      split
      · refine ⟨by simp; omega, fun j h1 h2 => ?_⟩
        simp at h2
        obtain rfl : j = 1 := by omega
        omega
      · exact ⟨by simp; omega, fun j h1 h2 => by simp at h2; omega⟩
    · split
      · rename_i hc
        simp at hc
        split
        · refine ⟨by simp; omega, fun j h1 h2 => ?_⟩
          simp at h2
          obtain rfl | rfl : j = 1 ∨ j = 2 := by omega
          · omega
          · omega
        · exact ⟨by simp; omega, fun j h1 h2 => by simp at h2; omega⟩
      · split
        · rename_i hc
          simp at hc
          split
          · refine ⟨by simp; omega, fun j h1 h2 => ?_⟩
            simp at h2
            obtain rfl | rfl | rfl : j = 1 ∨ j = 2 ∨ j = 3 := by omega
            · omega
            · omega
            · omega
          · exact ⟨by simp; omega, fun j h1 h2 => by simp at h2; omega⟩
        · exact ⟨by simp; omega, fun j h1 h2 => by simp at h2; omega⟩

theorem get!_list (s : ByteArray) (k : Nat) (h : k < s.size) : s.get! k = s.data.toList[k]'(by simpa using h) := by
  show s.data[k]! = _
  rw [getElem!_pos s.data k h]
  rfl

/-- The bytes of the rune at k, if it is no LF. -/
theorem rune_noLF (s : ByteArray) (k : Nat) (h : k < s.size) (hr : (Utf8.decode s k).1 ≠ 10) :
    ∀ x ∈ (s.data.toList.drop k).take (Utf8.decode s k).2, x ≠ 10 := by
  intro x hx
  obtain ⟨j, hj, rfl⟩ := List.mem_iff_getElem.1 hx
  rw [List.length_take, List.length_drop] at hj
  have hl : s.data.toList.length = s.size := by simp
  rw [List.getElem_take, List.getElem_drop]
  have ht := (decode_tail s k h).2 j
  by_cases h0 : j = 0
  · subst h0
    intro e
    apply hr
    have h1 : (s[k]'h).toNat = 10 := by
      have : s[k]'h = s.data.toList[k]'(by simpa using h) := rfl
      rw [this]
      simp only [Nat.add_zero] at e
      rw [e]; rfl
    rw [decode_ascii s k h (by omega)]
    exact h1
  · have := ht (by omega) (by omega)
    rw [get!_list s (k + j) (by omega)] at this
    intro e
    rw [e] at this
    simp at this

theorem seg_grow (s : ByteArray) (b k d : Nat) (hb : b ≤ k) (hd : k + d ≤ s.size) :
    ((s.data.toList.drop b).take (k - b)) ++ ((s.data.toList.drop k).take d) = (s.data.toList.drop b).take (k + d - b) := by
  have e : k + d - b = (k - b) + d := by omega
  rw [e, List.take_add, List.drop_drop, show b + (k - b) = k from by omega]

theorem ownsRow_iterAt {w : World} {B : Nat} {e : TypeId} {size : Nat} {v : Value} {n : Nat} {xs : List Value} (h : w.ownsRow B e size v n xs) {k : Nat} {s : ByteArray} {pos : Nat}
    (hk : w.heap[k]? = some (.stringIter s pos)) (pos' : Nat) : (w.iterAt k s pos').ownsRow B e size v n xs := by
  refine ⟨h.1, ?_⟩
  rcases h.2 with hn | ⟨g, cap, cur, rfl, hb, hg, rest⟩
  · exact .inl hn
  · refine .inr ⟨g, cap, cur, rfl, hb, ?_, rest⟩
    rw [Lib.iterAt_other w k g s pos' (by intro e1; rw [e1, hk] at hg; cases hg)]
    exact hg

/-- An iterator stays behind an append to a row that is owned. -/
theorem iter_grown {w w' : World} {B : Nat} {e : TypeId} {size : Nat} {v : Value} {n : Nat} {xs : List Value} (h : w.ownsRow B e size v n xs) (hg : w.grownBy w' v.ownBlock) {k : Nat} {s : ByteArray} {pos : Nat}
    (hk : w.heap[k]? = some (.stringIter s pos)) : w'.heap[k]? = some (.stringIter s pos) := by
  rw [hg.block k (Array.getElem?_eq_some_iff.1 hk).1 ?_]
  · exact hk
  · intro e1
    rcases h.2 with ⟨rfl, _⟩ | ⟨g, cap, cur, rfl, hb, hgg, rest⟩
    · cases e1
    · simp [Value.ownBlock] at e1
      subst e1
      rw [hk] at hgg
      cases hgg

theorem ownsRow_below {w w' : World} {B : Nat} {e : TypeId} {size : Nat} {v : Value} {n : Nat} {xs : List Value} (h : w.ownsRow B e size v n xs) (hb : RowKit.Below w.heap.size w w') : w'.ownsRow B e size v n xs := by
  refine ⟨h.1, ?_⟩
  rcases h.2 with hn | ⟨g, cap, cur, rfl, hB, hg, rest⟩
  · exact .inl hn
  · exact .inr ⟨g, cap, cur, rfl, hB, (hb.block g (Array.getElem?_eq_some_iff.1 hg).1).trans hg, rest⟩

theorem iter_alloc {w : World} {k : Nat} {o1 : Obj} (hk : w.heap[k]? = some o1) (o : Obj) : (w.alloc o).heap[k]? = some o1 := by
  rw [heap_alloc_old w o k (Array.getElem?_eq_some_iff.1 hk).1]
  exact hk

end Go.Proofs.Ytkhmlnhfmlckdaa
