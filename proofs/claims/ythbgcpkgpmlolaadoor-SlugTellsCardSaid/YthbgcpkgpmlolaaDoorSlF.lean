/-
  The laws of the layer slug: alive; SlugFolds.
-/
import Derived.Test.YthbgcpkgpmlolaaDoorSlE
import Derived.Test.YthbgcpkgpmlolaaDoorSlZ
namespace Go.Proofs.YthbgcpkgpmlolaaDoor
open Go.RowKit Go.Maps
set_option linter.unusedSimpArgs false
set_option linter.unusedVariables false
set_option maxRecDepth 100000

theorem slug_ab1 : slugL [65, 32, 98, 33] = [97, 45, 98] := by decide +kernel
theorem slug_ab2 : slugL [65, 32, 98] = [97, 45, 98] := by decide +kernel
theorem slug_ab3 : slugL [97, 32, 66, 33] = [97, 45, 98] := by decide +kernel
theorem slug_q : slugL [63] = [115, 101, 99, 116, 105, 111, 110] := by decide +kernel
theorem next_ab2 : slNext [] [65, 32, 98] = [97, 45, 98] := by
  unfold slNext
  rw [if_neg (by simp), slug_ab2]
theorem next_ab3 : slNext [[97, 45, 98]] [97, 32, 66, 33] = [97, 45, 98, 45, 50] := by
  have := slNext_many [97, 32, 66, 33] 1 (by omega)
  rw [slug_ab3] at this
  rw [show ([[97, 45, 98]] : List (List UInt8)) = slMany [97, 45, 98] 1 from rfl, this, if_neg (by omega)]
  unfold slNum
  rw [Lib.decDigits_one (by omega)]
  rfl
set_option maxHeartbeats 4000000 in
theorem alive16_any (w : World) : Calls Tryd.prog 8 #[] w fun e w' => e = .returned (.bool true) ∧ Below w.heap.size w w' := by
  have c1 := fun W => of_any ⟨#[65, 32, 98, 33]⟩ W (by decide)
  have c6 := fun W => of_any ⟨#[63]⟩ W (by decide)
  rw [show (⟨#[65, 32, 98, 33]⟩ : ByteArray).data.toList = [65, 32, 98, 33] from rfl, slug_ab1] at c1
  rw [show (⟨#[63]⟩ : ByteArray).data.toList = [63] from rfl, slug_q] at c6
  have h0 : AncIs (w.alloc (.cells #[.map none] 27)) w.heap.size w.heap.size (.map none) [] := AncIs.new (heap_alloc_new _ _) (Nat.le_refl _)
  have b0 := (Below.refl w.heap.size w).alloc (Nat.le_refl _) (.cells #[.map none] 27)
  have HH := Lib.hid h0
  have HB := Lib.hid b0
  have C1 := Lib.hid c1
  have C6 := Lib.hid c6
  clear h0 b0 c1 c6
  go_enter Tryd.func8, Tryd.ntmps8
  go_wp2_with fail
  generalize w.alloc (.cells #[.map none] 27) = w0 at *
  refine (C1.out _).mono ?_
  rintro e w1 ⟨rfl, b1⟩
  have h1 := HH.out.below b1
  have HB1 := Lib.hid (HB.out.then b1)
  have c2 := next_any HB1.out.size h1 ⟨#[65, 32, 98]⟩ (by decide) (by simp)
  rw [show (⟨#[65, 32, 98]⟩ : ByteArray).data.toList = [65, 32, 98] from rfl, next_ab2] at c2
  have C2 := Lib.hid c2
  clear b1 h1 c2
  go_wp2_with fail
  refine C2.out.mono ?_
  rintro e w2 ⟨rfl, ⟨m2, h2, _⟩, _, b2⟩
  have HB2 := Lib.hid (HB1.out.trans b2)
  have c3 := next_any HB2.out.size h2 ⟨#[97, 32, 66, 33]⟩ (by decide) (by simp)
  rw [show (⟨#[97, 32, 66, 33]⟩ : ByteArray).data.toList = [97, 32, 66, 33] from rfl, List.nil_append, next_ab3] at c3
  have C3 := Lib.hid c3
  clear b2 h2 c3 C2
  go_wp2_with fail
  refine C3.out.mono ?_
  rintro e w3 ⟨rfl, ⟨m3, h3, _⟩, _, b3⟩
  have HB3 := Lib.hid (HB2.out.trans b3)
  have c4 := has_any h3 [97, 45, 98, 45, 50] (by decide)
  have c5 := has_any h3 [97] (by decide)
  rw [show decide ([97, 45, 98, 45, 50] ∈ [[97, 45, 98]] ++ [[97, 45, 98, 45, (50 : UInt8)]]) = true from by decide] at c4
  rw [show decide ([97] ∈ [[97, 45, 98]] ++ [[97, 45, 98, 45, (50 : UInt8)]]) = false from by decide] at c5
  have C4 := Lib.hid c4
  have C5 := Lib.hid c5
  clear b3 h3 c4 c5 C3
  go_wp2_with fail
  refine C4.out.mono ?_
  rintro e w' ⟨rfl, rfl⟩
  go_wp2_with fail
  refine C5.out.mono ?_
  rintro e w' ⟨rfl, rfl⟩
  go_wp2_with fail
  refine (C6.out _).mono ?_
  rintro e w4 ⟨rfl, b4⟩
  have HB4 := Lib.hid (HB3.out.then b4)
  clear b4
  go_wp2
  go_ret
  exact ⟨rfl, HB4.out⟩

set_option maxHeartbeats 4000000 in
theorem slugFolds_walk (w : World) (h7 : SlW w) (a0 : ByteArray) (w0 : a0.size ≤ maxLen) :
    Calls Tryd.prog 5 #[.string a0] w fun e w' => e = .returned (.bool true) ∧ Below w.heap.size w w' := by
  have CA := Lib.hid (alive16_any w)
  unfold maxLen at w0
  by_cases hz : 100 < a0.size
  · go_enter Tryd.func5, Tryd.ntmps5
    go_wp2_with fail
    refine CA.out.mono ?_
    rintro e w1 ⟨rfl, b1⟩
    go_wp2
    go_ret
    exact ⟨rfl, b1⟩
  · have hz0 : a0.size ≤ 100 := by omega
    have c1 := fun W => of_any a0 W (by omega)
    have r1 := fun W => run_string_add_sum (P := Tryd.prog) W (⟨#[32]⟩ : ByteArray) a0 (by show 1 + a0.size ≤ _; omega)
    have r2 := fun W => run_string_add_sum (P := Tryd.prog) W ((⟨#[32]⟩ : ByteArray) ++ a0) (⟨#[9]⟩ : ByteArray) (by rw [ByteArray.size_append]; show 1 + a0.size + 1 ≤ _; omega)
    have c2 := fun W => of_any (((⟨#[32]⟩ : ByteArray) ++ a0) ++ (⟨#[9]⟩ : ByteArray)) W (by rw [ByteArray.size_append, ByteArray.size_append]; show 1 + a0.size + 1 ≤ _; omega)
    rw [show (((⟨#[32]⟩ : ByteArray) ++ a0) ++ (⟨#[9]⟩ : ByteArray)).data.toList = [32] ++ a0.data.toList ++ [9] from by simp, slug_around] at c2
    have c3 := fun W => of_any ⟨(slugL a0.data.toList).toArray⟩ W (by rw [str_size]; have := slugL_len a0.data.toList; omega)
    rw [show (⟨(slugL a0.data.toList).toArray⟩ : ByteArray).data.toList = slugL a0.data.toList from rfl, slug_twice] at c3
    have hl : (⟨(slugL a0.data.toList).toArray⟩ : ByteArray).size ≤ 40 := by rw [str_size]; exact slugL_len _
    have hl2 : 1 ≤ (⟨(slugL a0.data.toList).toArray⟩ : ByteArray).size := by rw [str_size]; exact List.length_pos_iff.2 (slug_ok _).2.2.1
    generalize (⟨(slugL a0.data.toList).toArray⟩ : ByteArray) = X at *
    generalize ((⟨#[32]⟩ : ByteArray) ++ a0) ++ (⟨#[9]⟩ : ByteArray) = T2 at *
    generalize (⟨#[32]⟩ : ByteArray) ++ a0 = T1 at *
    have C1 := Lib.hid c1
    have C2 := Lib.hid c2
    have C3 := Lib.hid c3
    clear hz c1 c2 c3
    go_enter Tryd.func5, Tryd.ntmps5
    go_wp2_with fail
    refine CA.out.mono ?_
    rintro e w1 ⟨rfl, b1⟩
    have HB1 := Lib.hid b1
    clear b1
    go_wp2_with fail
    refine (C1.out _).mono ?_
    rintro e w2 ⟨rfl, b2⟩
    have HB2 := Lib.hid (HB1.out.then b2)
    clear b2
    go_wp2_with fail
    refine (C2.out _).mono ?_
    rintro e w3 ⟨rfl, b3⟩
    have HB3 := Lib.hid (HB2.out.then b3)
    clear b3
    go_wp2_with fail
    refine (C3.out _).mono ?_
    rintro e w4 ⟨rfl, b4⟩
    have HB4 := Lib.hid (HB3.out.then b4)
    clear b4
    go_wp2
    go_ret
    exact ⟨ret_bool (by simp; omega), HB4.out⟩

end Go.Proofs.YthbgcpkgpmlolaaDoor
