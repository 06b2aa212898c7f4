/-
  Package entity: plain facts of numbers, and of texts that grow at their beginning.
-/
import Derived.Test.YtioolcnoiaoflaaGreatDoorEntT
namespace Go.Proofs.YtioolcnoiaoflaaGreatDoor
open Go.RowKit
set_option linter.unusedSimpArgs false
set_option linter.unusedVariables false

def emp (v : Value) : Nat := match v with | .string s => if s.size = 0 then 1 else 0 | _ => 0
def TellRel (base : Int) (m : Nat) (v : Int) (w : World) (d x : Value) (wr : World) : Prop :=
  ∃ (D : ByteArray) (W : Int), d = .string D ∧ x = .int .i64 W ∧ W ≤ 1114128 ∧ DigRel base m v W D.data.toList ∧ Below w.heap.size w wr
theorem cons_list (x : UInt8) (D : ByteArray) : ((⟨#[x]⟩ : ByteArray) ++ D).data.toList = x :: D.data.toList := by simp
theorem cons_size (x : UInt8) (D : ByteArray) : ((⟨#[x]⟩ : ByteArray) ++ D).size = D.size + 1 := by
  rw [ByteArray.size_append]; show 1 + _ = _; omega
theorem list_nil {D : ByteArray} (h : ¬ 0 < D.size) : D.data.toList = [] := by
  apply List.eq_nil_of_length_eq_zero; have := size_len D; omega
theorem list_nil' {D : ByteArray} (h : ¬ 0 < D.size) : D.toList = [] := by
  rw [ByteArray.toList_eq]; exact list_nil h
theorem sumA (D M : ByteArray) : (((⟨#[38, 35]⟩ : ByteArray) ++ D) ++ (⟨#[59]⟩ : ByteArray) ++ M).data.toList = 38 :: 35 :: (D.data.toList ++ 59 :: M.data.toList) := by simp
theorem sumB (x : UInt8) (D M : ByteArray) : ((((⟨#[38, 35]⟩ : ByteArray) ++ (⟨#[x]⟩ : ByteArray)) ++ D) ++ (⟨#[59]⟩ : ByteArray) ++ M).data.toList = 38 :: 35 :: x :: (D.data.toList ++ 59 :: M.data.toList) := by simp

/-- What the law wants for a number. -/
def WantOf (v : Int) (X : ByteArray) : Prop :=
  (0 < v ∧ v ≤ 1114111 ∧ v < 55296 ∧ X = Utf8.encode v) ∨ (0 < v ∧ v ≤ 1114111 ∧ 55296 ≤ v ∧ 57343 < v ∧ X = Utf8.encode v) ∨ (v ≤ 0 ∧ X = ⟨#[239, 191, 189]⟩) ∨ (0 < v ∧ v ≤ 1114111 ∧ 55296 ≤ v ∧ v ≤ 57343 ∧ X = ⟨#[239, 191, 189]⟩) ∨ (0 < v ∧ 1114111 < v ∧ X = ⟨#[239, 191, 189]⟩)
theorem chr_want (v : Int) (h0 : 0 ≤ v) : WantOf v (chrB v) := by
  have hk : ∀ b, okRune v = b → chrB v = if b then Utf8.encode v else Utf8.encode 65533 := fun b e => by unfold chrB; rw [e]
  have hi : ∀ a b, inR v a b = decide (a ≤ v ∧ v ≤ b) := fun a b => by rw [Bool.eq_iff_iff]; simp [inR]
  unfold WantOf
  by_cases h1 : 0 < v
  · by_cases h2 : v ≤ 1114111
    · by_cases h3 : v < 55296
      · exact .inl ⟨h1, h2, h3, hk true (by unfold okRune; rw [hi, hi]; simp; omega)⟩
      · by_cases h4 : 57343 < v
        · exact .inr (.inl ⟨h1, h2, by omega, h4, hk true (by unfold okRune; rw [hi, hi]; simp; omega)⟩)
        · exact .inr (.inr (.inr (.inl ⟨h1, h2, by omega, by omega, hk false (by unfold okRune; rw [hi, hi]; simp; omega)⟩)))
    · exact .inr (.inr (.inr (.inr ⟨h1, by omega, hk false (by unfold okRune; rw [hi, hi]; simp; omega)⟩)))
  · exact .inr (.inr (.inl ⟨by omega, hk false (by unfold okRune; rw [hi, hi]; simp; omega)⟩))

end Go.Proofs.YtioolcnoiaoflaaGreatDoor
