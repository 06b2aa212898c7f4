/-
  EntityNames: the law's walk.
-/
import Derived.Test.YtggfllbaomfjhaaDoorEntM
namespace Go.Proofs.YtggfllbaomfjhaaDoor
open Go.RowKit
set_option linter.unusedSimpArgs false
set_option linter.unusedVariables false

theorem nm_at : ∀ (j : Nat), j < 23 → ∀ l : List UInt8, atRet (38 :: ((nmB j).data.toList ++ 59 :: l)) = .tuple #[.string (txB j), .int .i64 (((nmB j).size : Int) + 2)]
  | 0, _, _ => by kernel_rfl
  | 1, _, _ => by kernel_rfl
  | 2, _, _ => by kernel_rfl
  | 3, _, _ => by kernel_rfl
  | 4, _, _ => by kernel_rfl
  | 5, _, _ => by kernel_rfl
  | 6, _, _ => by kernel_rfl
  | 7, _, _ => by kernel_rfl
  | 8, _, _ => by kernel_rfl
  | 9, _, _ => by kernel_rfl
  | 10, _, _ => by kernel_rfl
  | 11, _, _ => by kernel_rfl
  | 12, _, _ => by kernel_rfl
  | 13, _, _ => by kernel_rfl
  | 14, _, _ => by kernel_rfl
  | 15, _, _ => by kernel_rfl
  | 16, _, _ => by kernel_rfl
  | 17, _, _ => by kernel_rfl
  | 18, _, _ => by kernel_rfl
  | 19, _, _ => by kernel_rfl
  | 20, _, _ => by kernel_rfl
  | 21, _, _ => by kernel_rfl
  | 22, _, _ => by kernel_rfl
  | n + 23, h, _ => by omega
theorem nm_open : ∀ (j : Nat), j < 23 → ∀ l : List UInt8, atRet (38 :: ((nmB j).data.toList ++ 32 :: 59 :: l)) = .tuple #[.string ByteArray.empty, .int .i64 0]
  | 0, _, _ => by kernel_rfl
  | 1, _, _ => by kernel_rfl
  | 2, _, _ => by kernel_rfl
  | 3, _, _ => by kernel_rfl
  | 4, _, _ => by kernel_rfl
  | 5, _, _ => by kernel_rfl
  | 6, _, _ => by kernel_rfl
  | 7, _, _ => by kernel_rfl
  | 8, _, _ => by kernel_rfl
  | 9, _, _ => by kernel_rfl
  | 10, _, _ => by kernel_rfl
  | 11, _, _ => by kernel_rfl
  | 12, _, _ => by kernel_rfl
  | 13, _, _ => by kernel_rfl
  | 14, _, _ => by kernel_rfl
  | 15, _, _ => by kernel_rfl
  | 16, _, _ => by kernel_rfl
  | 17, _, _ => by kernel_rfl
  | 18, _, _ => by kernel_rfl
  | 19, _, _ => by kernel_rfl
  | 20, _, _ => by kernel_rfl
  | 21, _, _ => by kernel_rfl
  | 22, _, _ => by kernel_rfl
  | n + 23, h, _ => by omega
theorem nm_named : ∀ (j : Nat), j < 23 → namedR (nmB j).data.toList = .tuple #[.string (txB j), .bool true]
  | 0, _ => by kernel_rfl
  | 1, _ => by kernel_rfl
  | 2, _ => by kernel_rfl
  | 3, _ => by kernel_rfl
  | 4, _ => by kernel_rfl
  | 5, _ => by kernel_rfl
  | 6, _ => by kernel_rfl
  | 7, _ => by kernel_rfl
  | 8, _ => by kernel_rfl
  | 9, _ => by kernel_rfl
  | 10, _ => by kernel_rfl
  | 11, _ => by kernel_rfl
  | 12, _ => by kernel_rfl
  | 13, _ => by kernel_rfl
  | 14, _ => by kernel_rfl
  | 15, _ => by kernel_rfl
  | 16, _ => by kernel_rfl
  | 17, _ => by kernel_rfl
  | 18, _ => by kernel_rfl
  | 19, _ => by kernel_rfl
  | 20, _ => by kernel_rfl
  | 21, _ => by kernel_rfl
  | 22, _ => by kernel_rfl
  | n + 23, h => by omega
theorem nm_more : ∀ (j : Nat), j < 23 → namedR ((nmB j).data.toList ++ [120]) = .tuple #[.string ByteArray.empty, .bool false]
  | 0, _ => by kernel_rfl
  | 1, _ => by kernel_rfl
  | 2, _ => by kernel_rfl
  | 3, _ => by kernel_rfl
  | 4, _ => by kernel_rfl
  | 5, _ => by kernel_rfl
  | 6, _ => by kernel_rfl
  | 7, _ => by kernel_rfl
  | 8, _ => by kernel_rfl
  | 9, _ => by kernel_rfl
  | 10, _ => by kernel_rfl
  | 11, _ => by kernel_rfl
  | 12, _ => by kernel_rfl
  | 13, _ => by kernel_rfl
  | 14, _ => by kernel_rfl
  | 15, _ => by kernel_rfl
  | 16, _ => by kernel_rfl
  | 17, _ => by kernel_rfl
  | 18, _ => by kernel_rfl
  | 19, _ => by kernel_rfl
  | 20, _ => by kernel_rfl
  | 21, _ => by kernel_rfl
  | 22, _ => by kernel_rfl
  | n + 23, h => by omega
theorem nm_size : ∀ (j : Nat), j < 23 → (nmB j).size ≤ 20 ∧ (txB j).size ≤ 20
  | 0, _ => by decide +kernel
  | 1, _ => by decide +kernel
  | 2, _ => by decide +kernel
  | 3, _ => by decide +kernel
  | 4, _ => by decide +kernel
  | 5, _ => by decide +kernel
  | 6, _ => by decide +kernel
  | 7, _ => by decide +kernel
  | 8, _ => by decide +kernel
  | 9, _ => by decide +kernel
  | 10, _ => by decide +kernel
  | 11, _ => by decide +kernel
  | 12, _ => by decide +kernel
  | 13, _ => by decide +kernel
  | 14, _ => by decide +kernel
  | 15, _ => by decide +kernel
  | 16, _ => by decide +kernel
  | 17, _ => by decide +kernel
  | 18, _ => by decide +kernel
  | 19, _ => by decide +kernel
  | 20, _ => by decide +kernel
  | 21, _ => by decide +kernel
  | 22, _ => by decide +kernel
  | n + 23, h => by omega

theorem names_cell {w : World} {A : Option Addr} {cap : Nat} (h : RowOf w A cap (strs namesL)) (j : Nat) (hj : j < 23) : ∃ b off, A = some ⟨b, off, none⟩ ∧ b < w.heap.size ∧ w.cell? ⟨b, off + j, none⟩ = some (.string (nmB j)) := by
  obtain ⟨b, off, e, hb, hc⟩ := h.cellAt (k := j) (by rw [namesL_length]; exact hj)
  refine ⟨b, off, e, hb, ?_⟩
  rw [hc]
  have hl := namedL_length
  simp [nmB, namesL, hl, hj]

theorem tmod_bd (a : Int) : -23 < a.tmod 23 ∧ a.tmod 23 < 23 := by
  rcases Int.le_total 0 a with h | h
  · rw [Int.tmod_eq_emod_of_nonneg h]; omega
  · have e := Int.neg_tmod (a := -a) (b := 23)
    rw [Int.neg_neg, Int.tmod_eq_emod_of_nonneg (a := -a) (by omega)] at e
    omega
theorem names_index (a : Int) : ∃ j : Nat, j < 23 ∧ (wrap64 (a.tmod 23 + 23)).tmod 23 = (j : Int) := by
  have hb := tmod_bd a
  have e : wrap64 (a.tmod 23 + 23) = a.tmod 23 + 23 := by unfold wrap64; omega
  rw [e, Int.tmod_eq_emod_of_nonneg (by omega)]
  exact ⟨((a.tmod 23 + 23) % 23).toNat, by omega, by omega⟩
theorem cat3 (N M : ByteArray) : (((⟨#[38]⟩ : ByteArray) ++ N) ++ (⟨#[59]⟩ : ByteArray) ++ M).data.toList = 38 :: (N.data.toList ++ 59 :: M.data.toList) := by simp
theorem cat3b (N M : ByteArray) : (((⟨#[38]⟩ : ByteArray) ++ N) ++ (⟨#[32, 59]⟩ : ByteArray) ++ M).data.toList = 38 :: (N.data.toList ++ 32 :: 59 :: M.data.toList) := by simp

set_option maxHeartbeats 4000000 in
set_option maxRecDepth 100000 in
theorem entityNames_short (w : World) (hn : NamedIs w) (a0 : Int) (w0 : -9223372036854775808 ≤ a0 ∧ a0 ≤ 9223372036854775807) (a1 : ByteArray) (h40 : a1.size ≤ 40) :
    Calls Tryd.prog 6 #[.int .i64 a0, .string a1] w fun e w' => e = .returned (.bool true) ∧ Below w.heap.size w w' := by
  have HN := Lib.hid hn
  obtain ⟨k0, k1⟩ := w0
  obtain ⟨j, hj, hx⟩ := names_index a0
  have hz := nm_size j hj
  obtain ⟨hz1, hz2⟩ := hz
  have s1 : ((⟨#[38]⟩ : ByteArray) ++ nmB j).size ≤ 30 := by rw [ByteArray.size_append]; show 1 + _ ≤ _; omega
  have s2 : (((⟨#[38]⟩ : ByteArray) ++ nmB j) ++ (⟨#[59]⟩ : ByteArray)).size ≤ 40 := by rw [ByteArray.size_append]; show _ + 1 ≤ _; omega
  have s3 : (((⟨#[38]⟩ : ByteArray) ++ nmB j) ++ (⟨#[32, 59]⟩ : ByteArray)).size ≤ 40 := by rw [ByteArray.size_append]; show _ + 2 ≤ _; omega
  have s4 : (((⟨#[38]⟩ : ByteArray) ++ nmB j) ++ (⟨#[59]⟩ : ByteArray) ++ a1).size ≤ 100 := by rw [ByteArray.size_append]; omega
  have s5 : (((⟨#[38]⟩ : ByteArray) ++ nmB j) ++ (⟨#[32, 59]⟩ : ByteArray) ++ a1).size ≤ 100 := by rw [ByteArray.size_append]; omega
  have c1 := fun w1 hn => named_any (nmB j) w1 hn
  have c2 := fun w1 hn => at_any (((⟨#[38]⟩ : ByteArray) ++ nmB j) ++ (⟨#[59]⟩ : ByteArray) ++ a1) w1 hn (by omega)
  have c3 := fun w1 hn => named_any (nmB j ++ (⟨#[120]⟩ : ByteArray)) w1 hn
  have c4 := fun w1 hn => at_any (((⟨#[38]⟩ : ByteArray) ++ nmB j) ++ (⟨#[32, 59]⟩ : ByteArray) ++ a1) w1 hn (by omega)
  rw [nm_named j hj] at c1
  rw [cat3, nm_at j hj] at c2
  rw [show (nmB j ++ (⟨#[120]⟩ : ByteArray)).data.toList = (nmB j).data.toList ++ [120] from by simp, nm_more j hj] at c3
  rw [cat3b, nm_open j hj] at c4
  have HX := Lib.hid hx
  clear hn hx s4 s5
  go_enter Tryd.func6, Tryd.ntmps6
  go_wp2_with fail
  refine (names_any _ HN.out).mono ?_
  rintro e w1 ⟨v, rfl, hown, b1⟩
  obtain ⟨A, cap, rfl, hrow, _⟩ := RowOf.own hown
  have hc1 := hrow.1
  have hc2 := hrow.2.1
  unfold maxLen at hc2
  have HR := Lib.hid hrow
  clear hrow hown
  go_wp2_with fail
  refine (alive3_any _ (HN.out.below b1)).mono ?_
  rintro e w2 ⟨rfl, b2⟩
  have q2 := b1.then b2
  obtain ⟨b, off, rfl, hb, hcell0⟩ := names_cell (HR.out.below b2) j hj
  have hcell : w2.cell? ⟨b, off + j, none⟩ = some (.string (nmB j)) := hcell0
  have hx := HX.out
  clear hcell0
  generalize nmB j = N at *
  generalize txB j = T at *
  go_wp2_with fail
  clear hx
  refine (c1 _ (HN.out.below q2)).mono ?_
  rintro e w3 ⟨rfl, b3⟩
  have q3 := q2.then b3
  clear hcell hb
  go_wp2_with fail
  refine (c2 _ (HN.out.below q3)).mono ?_
  rintro e w4 ⟨rfl, b4⟩
  have q4 := q3.then b4
  go_wp2_with fail
  refine (c3 _ (HN.out.below q4)).mono ?_
  rintro e w5 ⟨rfl, b5⟩
  have q5 := q4.then b5
  go_wp2_with fail
  refine (c4 _ (HN.out.below q5)).mono ?_
  rintro e w6 ⟨rfl, b6⟩
  have q6 := q5.then b6
  go_wp2
  go_ret
  exact ⟨rfl, q6⟩

set_option maxRecDepth 100000 in
theorem entityNames_walk (w : World) (hn : NamedIs w) (a0 : Int) (w0 : (Lit.int .i64 a0).wf = true) (a1 : ByteArray) (w1 : a1.size ≤ maxLen) :
    Calls Tryd.prog 6 #[.int .i64 a0, .string a1] w fun e w' => e = .returned (.bool true) ∧ Below w.heap.size w w' := by
  unfold maxLen at w1
  have hw0 : -9223372036854775808 ≤ a0 ∧ a0 ≤ 9223372036854775807 := by simpa [Lit.wf, IntKind.min, IntKind.max, IntKind.signed, IntKind.bits] using w0
  by_cases h : a1.size ≤ 40
  · exact entityNames_short w hn a0 hw0 a1 h
  · have HN := Lib.hid hn
    clear hn w0 hw0
    go_enter Tryd.func6, Tryd.ntmps6
    go_wp2_with fail
    refine (names_any _ HN.out).mono ?_
    rintro e w2 ⟨v, rfl, hown, b1⟩
    obtain ⟨A, cap, rfl, hrow, _⟩ := RowOf.own hown
    clear hrow hown
    go_wp2_with (go_at_call 8; refine (alive3_any _ (HN.out.below b1)).mono ?_; rintro e w3 ⟨rfl, b2⟩)
    go_ret
    exact ⟨rfl, b1.then b2⟩

end Go.Proofs.YtggfllbaomfjhaaDoor
