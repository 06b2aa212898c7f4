/-
  The laws of the layer define: DefineTakes: plain facts: the text that it writes of names, and what is taken of it.
-/
import Derived.Test.YtioolcnoiaoflaaDoorDnE
import Derived.Test.YtioolcnoiaoflaaDoorDnD
import Derived.Test.YtioolcnoiaoflaaDoorDgB
namespace Go.Proofs.YtioolcnoiaoflaaDoor
open Go.RowKit
set_option linter.unusedSimpArgs false
set_option linter.unusedVariables false

/-- The i-th name, its letter, its line, what that line defines. -/
def tkN (z : List ByteArray) (i : Nat) : ByteArray := z.getD i ByteArray.empty
def tkC (i : Nat) : UInt8 := (97 + i).toUInt8
def tkU (i : Nat) : List UInt8 := [47, 117, tkC i]
def tkL (z : List ByteArray) (i : Nat) : List UInt8 := 91 :: ((tkN z i).data.toList ++ 93 :: 58 :: 32 :: 47 :: [117, tkC i])
def tkD (z : List ByteArray) (i : Nat) : Dfn := ⟨(tkN z i).data.toList, tkU i, [], [], false⟩
def tkX (z : List ByteArray) (k : Nat) : List (List UInt8 × Dfn) := (List.range k).map fun i => (tkL z i, tkD z i)
def tkT (z : List ByteArray) (k : Nat) : List UInt8 := (tkX z k).flatMap fun x => x.1 ++ [10]
/-- All names of the first k may be. -/
def TkOk (z : List ByteArray) (k : Nat) : Prop := ∀ i, i < k → Lowers (tkN z i).data.toList ∧ (tkN z i).data.toList ≠ [] ∧ (tkN z i).size ≤ 20
theorem tkT_succ (z : List ByteArray) (k : Nat) : tkT z (k + 1) = tkT z k ++ (tkL z k ++ [10]) := by
  simp [tkT, tkX, List.range_succ]
theorem tkT_len {z : List ByteArray} : ∀ {k : Nat}, TkOk z k → (tkT z k).length ≤ 28 * k
  | 0, _ => by simp [tkT, tkX]
  | k + 1, h => by
    have ih := tkT_len (k := k) (fun i hi => h i (by omega))
    have hk := (h k (by omega)).2.2
    rw [tkT_succ, List.length_append]
    have : (tkL z k ++ [10]).length = (tkN z k).size + 8 := by simp [tkL]
    omega
theorem tkC_nat {i : Nat} (h : i ≤ 12) : (tkC i).toNat = 97 + i := by
  unfold tkC
  rw [Nat.toUInt8_eq, UInt8.toNat_ofNat']
  omega
theorem tkX_ok {z : List ByteArray} {k : Nat} (h : TkOk z k) (hk : k ≤ 12) : ∀ x ∈ tkX z k, NoLf x.1 ∧ dlL x.1 = (x.2, true) := by
  intro x hx
  unfold tkX at hx
  rw [List.mem_map] at hx
  obtain ⟨i, hi, rfl⟩ := hx
  rw [List.mem_range] at hi
  obtain ⟨h1, h2, h3⟩ := h i hi
  have hl : (tkN z i).data.toList.length ≤ 60 := by simp; omega
  have hc := tkC_nat (i := i) (by omega)
  have hu : Lowers [117, tkC i] := by
    intro b hb
    simp only [List.mem_cons, List.not_mem_nil, or_false] at hb
    rcases hb with rfl | rfl
    · decide
    · omega
  refine ⟨?_, takes_line h1 h2 hl hu⟩
  intro b hb
  show b ≠ 10
  unfold tkL at hb
  simp only [List.mem_cons, List.mem_append, List.not_mem_nil, or_false] at hb
  rcases hb with rfl | hb | rfl | rfl | rfl | rfl | rfl | rfl
  · decide
  · have := h1 b hb
    rintro rfl
    exact absurd this.1 (by decide)
  · decide
  · decide
  · decide
  · decide
  · decide
  · intro e
    rw [e] at hc
    exact absurd hc (by show ¬ (10 : Nat) = _; omega)
/-- What is taken of the whole. -/
theorem tk_take {z : List ByteArray} {k : Nat} (h : TkOk z k) (hk : k ≤ 12) (r : List UInt8) : dtL (tkT z k ++ 120 :: r) = ((tkX z k).map (·.2), 120 :: r) := by
  have := dtL_many (120 :: r) (tkX z k) (tkX_ok h hk)
  rw [dtL_other (by decide), List.append_nil] at this
  exact this
theorem tk_defs (z : List ByteArray) (k : Nat) : (tkX z k).map (·.2) = (List.range k).map (tkD z) := by simp [tkX]

end Go.Proofs.YtioolcnoiaoflaaDoor
