/-
  Package entity: plain facts of the names: what a text is that begins with one.
-/
import Derived.Test.YtioolcnoiaoflaaGreatDoorEntB
namespace Go.Proofs.YtioolcnoiaoflaaGreatDoor
open Go.RowKit
set_option linter.unusedSimpArgs false
set_option linter.unusedVariables false

theorem nm_at : ∀ (j : Nat), j < 23 → ∀ l : List UInt8, atRet (38 :: ((nmB j).data.toList ++ 59 :: l)) = .tuple #[.string (txB j), .int .i64 (((nmB j).size : Int) + 2)]
  | 0, _, _ => by kernel_rfl
  | 1, _, _ => by kernel_rfl
  | 2, _, _ => by kernel_rfl
  | 3, _, _ => by kernel_rfl
  | 4, _, _ => by kernel_rfl
  | 5, _, _ => by kernel_rfl
  | 6, _, _ => by kernel_rfl
  | 7, _, _ => by kernel_rfl
  | 8, _, _ => by kernel_rfl
  | 9, _, _ => by kernel_rfl
  | 10, _, _ => by kernel_rfl
  | 11, _, _ => by kernel_rfl
  | 12, _, _ => by kernel_rfl
  | 13, _, _ => by kernel_rfl
  | 14, _, _ => by kernel_rfl
  | 15, _, _ => by kernel_rfl
  | 16, _, _ => by kernel_rfl
  | 17, _, _ => by kernel_rfl
  | 18, _, _ => by kernel_rfl
  | 19, _, _ => by kernel_rfl
  | 20, _, _ => by kernel_rfl
  | 21, _, _ => by kernel_rfl
  | 22, _, _ => by kernel_rfl
  | n + 23, h, _ => by omega
theorem nm_open : ∀ (j : Nat), j < 23 → ∀ l : List UInt8, atRet (38 :: ((nmB j).data.toList ++ 32 :: 59 :: l)) = .tuple #[.string ByteArray.empty, .int .i64 0]
  | 0, _, _ => by kernel_rfl
  | 1, _, _ => by kernel_rfl
  | 2, _, _ => by kernel_rfl
  | 3, _, _ => by kernel_rfl
  | 4, _, _ => by kernel_rfl
  | 5, _, _ => by kernel_rfl
  | 6, _, _ => by kernel_rfl
  | 7, _, _ => by kernel_rfl
  | 8, _, _ => by kernel_rfl
  | 9, _, _ => by kernel_rfl
  | 10, _, _ => by kernel_rfl
  | 11, _, _ => by kernel_rfl
  | 12, _, _ => by kernel_rfl
  | 13, _, _ => by kernel_rfl
  | 14, _, _ => by kernel_rfl
  | 15, _, _ => by kernel_rfl
  | 16, _, _ => by kernel_rfl
  | 17, _, _ => by kernel_rfl
  | 18, _, _ => by kernel_rfl
  | 19, _, _ => by kernel_rfl
  | 20, _, _ => by kernel_rfl
  | 21, _, _ => by kernel_rfl
  | 22, _, _ => by kernel_rfl
  | n + 23, h, _ => by omega
theorem nm_named : ∀ (j : Nat), j < 23 → namedR (nmB j).data.toList = .tuple #[.string (txB j), .bool true]
  | 0, _ => by kernel_rfl
  | 1, _ => by kernel_rfl
  | 2, _ => by kernel_rfl
  | 3, _ => by kernel_rfl
  | 4, _ => by kernel_rfl
  | 5, _ => by kernel_rfl
  | 6, _ => by kernel_rfl
  | 7, _ => by kernel_rfl
  | 8, _ => by kernel_rfl
  | 9, _ => by kernel_rfl
  | 10, _ => by kernel_rfl
  | 11, _ => by kernel_rfl
  | 12, _ => by kernel_rfl
  | 13, _ => by kernel_rfl
  | 14, _ => by kernel_rfl
  | 15, _ => by kernel_rfl
  | 16, _ => by kernel_rfl
  | 17, _ => by kernel_rfl
  | 18, _ => by kernel_rfl
  | 19, _ => by kernel_rfl
  | 20, _ => by kernel_rfl
  | 21, _ => by kernel_rfl
  | 22, _ => by kernel_rfl
  | n + 23, h => by omega
theorem nm_more : ∀ (j : Nat), j < 23 → namedR ((nmB j).data.toList ++ [120]) = .tuple #[.string ByteArray.empty, .bool false]
  | 0, _ => by kernel_rfl
  | 1, _ => by kernel_rfl
  | 2, _ => by kernel_rfl
  | 3, _ => by kernel_rfl
  | 4, _ => by kernel_rfl
  | 5, _ => by kernel_rfl
  | 6, _ => by kernel_rfl
  | 7, _ => by kernel_rfl
  | 8, _ => by kernel_rfl
  | 9, _ => by kernel_rfl
  | 10, _ => by kernel_rfl
  | 11, _ => by kernel_rfl
  | 12, _ => by kernel_rfl
  | 13, _ => by kernel_rfl
  | 14, _ => by kernel_rfl
  | 15, _ => by kernel_rfl
  | 16, _ => by kernel_rfl
  | 17, _ => by kernel_rfl
  | 18, _ => by kernel_rfl
  | 19, _ => by kernel_rfl
  | 20, _ => by kernel_rfl
  | 21, _ => by kernel_rfl
  | 22, _ => by kernel_rfl
  | n + 23, h => by omega
theorem nm_size : ∀ (j : Nat), j < 23 → (nmB j).size ≤ 20 ∧ (txB j).size ≤ 20
  | 0, _ => by decide +kernel
  | 1, _ => by decide +kernel
  | 2, _ => by decide +kernel
  | 3, _ => by decide +kernel
  | 4, _ => by decide +kernel
  | 5, _ => by decide +kernel
  | 6, _ => by decide +kernel
  | 7, _ => by decide +kernel
  | 8, _ => by decide +kernel
  | 9, _ => by decide +kernel
  | 10, _ => by decide +kernel
  | 11, _ => by decide +kernel
  | 12, _ => by decide +kernel
  | 13, _ => by decide +kernel
  | 14, _ => by decide +kernel
  | 15, _ => by decide +kernel
  | 16, _ => by decide +kernel
  | 17, _ => by decide +kernel
  | 18, _ => by decide +kernel
  | 19, _ => by decide +kernel
  | 20, _ => by decide +kernel
  | 21, _ => by decide +kernel
  | 22, _ => by decide +kernel
  | n + 23, h => by omega

theorem names_cell {w : World} {A : Option Addr} {cap : Nat} (h : RowOf w A cap (strs namesL)) (j : Nat) (hj : j < 23) : ∃ b off, A = some ⟨b, off, none⟩ ∧ b < w.heap.size ∧ w.cell? ⟨b, off + j, none⟩ = some (.string (nmB j)) := by
  obtain ⟨b, off, e, hb, hc⟩ := h.cellAt (k := j) (by rw [namesL_length]; exact hj)
  refine ⟨b, off, e, hb, ?_⟩
  rw [hc]
  have hl := namedL_length
  simp [nmB, namesL, hl, hj]

theorem tmod_bd (a : Int) : -23 < a.tmod 23 ∧ a.tmod 23 < 23 := by
  rcases Int.le_total 0 a with h | h
  · rw [Int.tmod_eq_emod_of_nonneg h]; omega
  · have e := Int.neg_tmod (a := -a) (b := 23)
    rw [Int.neg_neg, Int.tmod_eq_emod_of_nonneg (a := -a) (by omega)] at e
    omega
theorem names_index (a : Int) : ∃ j : Nat, j < 23 ∧ (wrap64 (a.tmod 23 + 23)).tmod 23 = (j : Int) := by
  have hb := tmod_bd a
  have e : wrap64 (a.tmod 23 + 23) = a.tmod 23 + 23 := by unfold wrap64; omega
  rw [e, Int.tmod_eq_emod_of_nonneg (by omega)]
  exact ⟨((a.tmod 23 + 23) % 23).toNat, by omega, by omega⟩
theorem cat3 (N M : ByteArray) : (((⟨#[38]⟩ : ByteArray) ++ N) ++ (⟨#[59]⟩ : ByteArray) ++ M).data.toList = 38 :: (N.data.toList ++ 59 :: M.data.toList) := by simp
theorem cat3b (N M : ByteArray) : (((⟨#[38]⟩ : ByteArray) ++ N) ++ (⟨#[32, 59]⟩ : ByteArray) ++ M).data.toList = 38 :: (N.data.toList ++ 32 :: 59 :: M.data.toList) := by simp

end Go.Proofs.YtioolcnoiaoflaaGreatDoor
