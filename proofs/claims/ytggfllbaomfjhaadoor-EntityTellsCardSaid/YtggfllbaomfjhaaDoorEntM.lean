/-
  The laws of the layer entity: alive; EntityPlain, EntityLengths: their walks.
-/
import Derived.Test.YtggfllbaomfjhaaDoorEntD
import Derived.Test.YtggfllbaomfjhaaDoorTexts
namespace Go.Proofs.YtggfllbaomfjhaaDoor
open Go.RowKit
set_option linter.unusedSimpArgs false
set_option linter.unusedVariables false

theorem alive_at : atRet [38, 35, 50, 51, 51, 59, 120] = .tuple #[.string ⟨#[195, 169]⟩, .int .i64 6] := by kernel_rfl
theorem alive_named : namedR [97, 109, 112] = .tuple #[.string ⟨#[38]⟩, .bool true] := by kernel_rfl

theorem alive3_any (w : World) (hn : NamedIs w) :
    Calls Tryd.prog 8 #[] w fun e w' => e = .returned (.bool true) ∧ Below w.heap.size w w' := by
  have c1 := at_any ⟨#[38, 35, 50, 51, 51, 59, 120]⟩ w hn (by decide)
  have c2 := fun w1 hn => named_any ⟨#[97, 109, 112]⟩ w1 hn
  have c3 := fun w1 hn => names_any w1 hn
  have e1 : (⟨#[38, 35, 50, 51, 51, 59, 120]⟩ : ByteArray).data.toList = [38, 35, 50, 51, 51, 59, 120] := rfl
  have e2 : (⟨#[97, 109, 112]⟩ : ByteArray).data.toList = [97, 109, 112] := rfl
  rw [e1, alive_at] at c1
  rw [e2, alive_named] at c2
  have HN := Lib.hid hn
  clear e1 e2 hn
  go_enter Tryd.func8, Tryd.ntmps8
  go_wp2_with fail
  refine c1.mono ?_
  rintro e w1 ⟨rfl, b1⟩
  go_wp2_with fail
  refine (c2 _ (HN.out.below b1)).mono ?_
  rintro e w2 ⟨rfl, b2⟩
  have q2 := b1.then b2
  go_wp2_with fail
  refine (c3 _ (HN.out.below q2)).mono ?_
  rintro e w3 ⟨v, rfl, hown, b3⟩
  obtain ⟨A, cap, rfl, hrow, _⟩ := RowOf.own hown
  have hc1 := hrow.1
  have hc2 := hrow.2.1
  unfold maxLen at hc2
  clear hrow hown
  go_wp2
  go_ret
  exact ⟨rfl, q2.then b3⟩

theorem at_x (l : List UInt8) : atRet (120 :: l) = .tuple #[.string ByteArray.empty, .int .i64 0] := by kernel_rfl
theorem at_amp_blank (l : List UInt8) : atRet (38 :: 32 :: l) = .tuple #[.string ByteArray.empty, .int .i64 0] := by kernel_rfl
theorem at_amp (l : List UInt8) : atRet (38 :: 97 :: 109 :: 112 :: 59 :: l) = .tuple #[.string ⟨#[38]⟩, .int .i64 5] := by kernel_rfl

set_option maxHeartbeats 1000000 in
theorem entityPlain_walk (w : World) (hn : NamedIs w) (a0 : ByteArray) (w0 : a0.size ≤ maxLen) :
    Calls Tryd.prog 5 #[.string a0] w fun e w' => e = .returned (.bool true) ∧ Below w.heap.size w w' := by
  unfold maxLen at w0
  have ca := alive3_any w hn
  by_cases h : a0.size ≤ 100
  · have h1 : (⟨#[120]⟩ ++ a0 : ByteArray).size ≤ 200 := by rw [ByteArray.size_append]; show 1 + _ ≤ _; omega
    have h2 : (⟨#[38, 32]⟩ ++ a0 : ByteArray).size ≤ 200 := by rw [ByteArray.size_append]; show 2 + _ ≤ _; omega
    have h3 : (⟨#[38, 97, 109, 112, 59]⟩ ++ a0 : ByteArray).size ≤ 200 := by rw [ByteArray.size_append]; show 5 + _ ≤ _; omega
    have c1 := fun w1 hn => at_any (⟨#[120]⟩ ++ a0) w1 hn (by omega)
    have c2 := fun w1 hn => at_any (⟨#[38, 32]⟩ ++ a0) w1 hn (by omega)
    have c3 := fun w1 hn => at_any (⟨#[38, 97, 109, 112, 59]⟩ ++ a0) w1 hn (by omega)
    have e1 : (⟨#[120]⟩ ++ a0 : ByteArray).data.toList = 120 :: a0.data.toList := by simp
    have e2 : (⟨#[38, 32]⟩ ++ a0 : ByteArray).data.toList = 38 :: 32 :: a0.data.toList := by simp
    have e3 : (⟨#[38, 97, 109, 112, 59]⟩ ++ a0 : ByteArray).data.toList = 38 :: 97 :: 109 :: 112 :: 59 :: a0.data.toList := by simp
    rw [e1, at_x] at c1
    rw [e2, at_amp_blank] at c2
    rw [e3, at_amp] at c3
    have HN := Lib.hid hn
    clear e1 e2 e3 hn h1 h2 h3
    go_enter Tryd.func5, Tryd.ntmps5
    go_wp2_with fail
    refine ca.mono ?_
    rintro e w1 ⟨rfl, b1⟩
    go_wp2_with fail
    refine (c1 _ (HN.out.below b1)).mono ?_
    rintro e w2 ⟨rfl, b2⟩
    have q2 := b1.then b2
    go_wp2_with fail
    refine (c2 _ (HN.out.below q2)).mono ?_
    rintro e w3 ⟨rfl, b3⟩
    have q3 := q2.then b3
    go_wp2_with fail
    refine (c3 _ (HN.out.below q3)).mono ?_
    rintro e w4 ⟨rfl, b4⟩
    have q4 := q3.then b4
    go_wp2
    go_ret
    exact ⟨rfl, q4⟩
  · clear hn
    go_enter Tryd.func5, Tryd.ntmps5
    go_wp2_with (go_at_call 8; refine ca.mono ?_; rintro e w1 ⟨rfl, b1⟩)
    go_ret
    exact ⟨rfl, b1⟩

end Go.Proofs.YtggfllbaomfjhaaDoor
