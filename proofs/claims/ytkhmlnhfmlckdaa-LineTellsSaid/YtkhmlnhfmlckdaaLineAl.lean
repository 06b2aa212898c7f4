/-
  The laws' first call 'alive' of the layer line.
-/
import Derived.Test.YtkhmlnhfmlckdaaTexts
import Derived.KernelRfl
namespace Go.Proofs.Ytkhmlnhfmlckdaa
open Go.RowKit
set_option linter.unusedSimpArgs false
set_option linter.unusedVariables false

theorem toList_ne {s : ByteArray} (h : 0 < s.size) : ¬ s.toList = [] := by
  rw [ByteArray.toList_eq]
  intro e
  have := congrArg List.length e
  rw [List.length_nil, Array.length_toList] at this
  have h2 : s.data.size = s.size := rfl
  omega
theorem toList_empty {s : ByteArray} (h : 0 < s.size) : s.toList.isEmpty = false := by
  rw [List.isEmpty_eq_false_iff]; exact toList_ne h

theorem alive_split : splitL [97, 10, 10, 98] = [[97], [], [98]] := by decide +kernel
theorem alive_join : joinL [[97], [98]] = [97, 10, 98, 10] := by decide +kernel
theorem alive_cols : mCols [32, 9, 97] 0 = 4 := by decide +kernel
theorem alive_strip : stripL [9, 97] 2 = [32, 32, 97] := by decide +kernel
theorem alive_blank : ([32, 9] : List UInt8).all isGap = true := by decide +kernel

theorem rowOf_lit (w : World) (t : TypeId) (xs : List Value) (hm : xs.length ≤ maxLen) : RowOf (w.alloc (.cells xs.toArray t)) (some ⟨w.heap.size, 0, none⟩) xs.length xs := by
  refine ⟨Nat.le_refl _, hm, Or.inr ⟨w.heap.size, 0, rfl, by show _ < (w.heap.push _).size; simp, fun i hi => ?_⟩⟩
  rw [Nat.zero_add, cell_of_row _ _ i xs.toArray t (0, 0) (heap_alloc_new w _)]
  simp [hi]

theorem RowOf.alloc {w : World} {A : Option Addr} {cap : Nat} {xs : List Value} (h : RowOf w A cap xs) (o : Obj) : RowOf (w.alloc o) A cap xs :=
  h.below ((Below.refl _ w).alloc (Nat.le_refl _) o)

theorem below_drewN' {B : Nat} {a w : World} (h : Below B a w) (n : Nat) : Below B a (w.drewN n) := ⟨h.os, h.tape, h.output, h.size, h.block⟩
theorem below_two (w w3 : World) (o o' : Obj) (n : Nat) (h : Below (((w.alloc o).drewN n).alloc o').heap.size (((w.alloc o).drewN n).alloc o') w3) : Below w.heap.size w w3 := by
  have h1 : Below w.heap.size w ((w.alloc o).drewN n) := below_drewN' ((Below.refl _ w).alloc (Nat.le_refl _) o) n
  have h2 := h1.alloc h1.size o'
  exact h2.trans (h.mono h2.size)

set_option maxHeartbeats 1000000 in
theorem alive_any (w : World) :
    Calls Try.prog 9 #[] w fun e w' => e = .returned (.bool true) ∧ Below w.heap.size w w' := by
  have c1 := fun w1 => split_any ⟨#[97, 10, 10, 98]⟩ w1 (by decide)
  have c2 := fun A c w1 h => join_any A c [[97], [98]] w1 h (by decide)
  have c3 := fun w1 => indent_any ⟨#[32, 9, 97]⟩ w1 (by decide)
  have c4 := fun w1 => strip_any ⟨#[9, 97]⟩ 2 w1 (by decide) (by decide)
  have c5 := fun w1 => blank_any ⟨#[32, 9]⟩ w1 (by decide)
  have e1 : (⟨#[97, 10, 10, 98]⟩ : ByteArray).data.toList = [97, 10, 10, 98] := rfl
  have e3 : (⟨#[32, 9, 97]⟩ : ByteArray).data.toList = [32, 9, 97] := rfl
  have e4 : (⟨#[9, 97]⟩ : ByteArray).data.toList = [9, 97] := rfl
  have e5 : (⟨#[32, 9]⟩ : ByteArray).data.toList = [32, 9] := rfl
  have e6 : (2 : Int).toNat = 2 := rfl
  rw [e1, alive_split] at c1
  rw [alive_join] at c2
  rw [e3, alive_cols] at c3
  rw [e4, e6, alive_strip] at c4
  rw [e5, alive_blank] at c5
  clear e1 e3 e4 e5 e6
  go_enter Try.func9, Try.ntmps9
  go_wp2_with fail
  refine (c1 _).mono ?_
  rintro e w1 ⟨v, rfl, hown, b1⟩
  obtain ⟨A, cap, rfl, hrow, _⟩ := RowOf.own hown
  go_wp2_with fail
  refine (same_any A _ cap 3 [[97], [], [98]] [[97], [], [98]] _ (hrow.alloc _) (rowOf_lit _ _ (strs [[97], [], [98]]) (by decide))).mono ?_
  rintro e w2 ⟨rfl, n, rfl⟩
  go_wp2_with fail
  have hr2 : RowOf (((w1.alloc (Obj.cells (strs [[97], [], [98]]).toArray 9)).drewN n).alloc (Obj.cells #[Value.string ⟨#[97]⟩, Value.string ⟨#[98]⟩] 9)) (some ⟨w1.heap.size + 1, 0, none⟩) 2 (strs [[97], [98]]) := by
    have h := rowOf_lit ((w1.alloc (Obj.cells (strs [[97], [], [98]]).toArray 9)).drewN n) 9 (strs [[97], [98]]) (by decide)
    have hs : ((w1.alloc (Obj.cells (strs [[97], [], [98]]).toArray 9)).drewN n).heap.size = w1.heap.size + 1 := by show (w1.heap.push _).size = _; simp
    rw [hs] at h
    exact h
  refine (c2 _ _ _ hr2).mono ?_
  rintro e w3 ⟨rfl, b3⟩
  go_wp2_with fail
  refine (c3 _).mono ?_
  rintro e w4 ⟨rfl, b4⟩
  go_wp2_with fail
  refine (c4 _).mono ?_
  rintro e w5 ⟨rfl, b5⟩
  go_wp2_with fail
  refine (c5 _).mono ?_
  rintro e w6 ⟨rfl, b6⟩
  go_wp2
  go_ret
  have s1 := b1.size
  have s3 : w1.heap.size ≤ w3.heap.size := by
    have := b3.size
    have h2 : w1.heap.size ≤ (((w1.alloc (Obj.cells (strs [[97], [], [98]]).toArray 9)).drewN n).alloc (Obj.cells #[Value.string ⟨#[97]⟩, Value.string ⟨#[98]⟩] 9)).heap.size := by
      show _ ≤ ((w1.heap.push _).push _).size
      simp; omega
    omega
  have s4 := b4.size
  have s5 := b5.size
  have q3 := below_two w1 w3 _ _ n b3
  exact ⟨rfl, ((((b1.trans (q3.mono s1)).trans (b4.mono (by omega))).trans (b5.mono (by omega))).trans (b6.mono (by omega)))⟩

end Go.Proofs.Ytkhmlnhfmlckdaa
