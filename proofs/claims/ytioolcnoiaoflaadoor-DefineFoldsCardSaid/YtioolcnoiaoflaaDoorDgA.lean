/-
  The laws of the layer define: DefineFolds: its walk.
-/
import Derived.Test.YtioolcnoiaoflaaDoorDnE
namespace Go.Proofs.YtioolcnoiaoflaaDoor
open Go.RowKit
set_option linter.unusedSimpArgs false
set_option linter.unusedVariables false
set_option maxRecDepth 100000

theorem eq_self (l : List UInt8) : (@BEq.beq (List UInt8) (@List.instBEq UInt8 (@instBEqOfDecidableEq UInt8 instDecidableEqUInt8)) l l) = true := by simp
set_option maxHeartbeats 8000000 in
theorem defineFolds_walk (w : World) (hv : Elv w) (a0 : ByteArray) (w0 : a0.size ≤ maxLen) :
    Calls Tryd.prog 3 #[.string a0] w fun e w' => e = .returned (.bool true) ∧ Below w.heap.size w w' := by
  unfold maxLen at w0
  have ca := alive11_any w hv
  by_cases h : a0.size ≤ 50
  · have hz1 : (((⟨#[32]⟩ : ByteArray) ++ a0) ++ (⟨#[9, 32]⟩ : ByteArray)).size ≤ 1000 := by
      rw [ByteArray.size_append, ByteArray.size_append]; show 1 + a0.size + 2 ≤ _; omega
    have c1 := fun W => defName_any a0 W (by omega)
    have c2 := fun W => defName_any (((⟨#[32]⟩ : ByteArray) ++ a0) ++ (⟨#[9, 32]⟩ : ByteArray)) W (by omega)
    rw [show ((((⟨#[32]⟩ : ByteArray) ++ a0) ++ (⟨#[9, 32]⟩ : ByteArray))).data.toList = 32 :: (a0.data.toList ++ [9, 32]) from by simp, dnL_about] at c2
    have r1 := fun W => run_string_add_sum (P := Tryd.prog) W (⟨#[32]⟩ : ByteArray) a0 (by show 1 + a0.size ≤ _; omega)
    have r2 := fun W => run_string_add_sum (P := Tryd.prog) W ((⟨#[32]⟩ : ByteArray) ++ a0) (⟨#[9, 32]⟩ : ByteArray) (by rw [ByteArray.size_append]; show 1 + a0.size + 2 ≤ _; omega)
    have cf := fun W => fold_any a0 W (by omega)
    rw [foldB_segs] at cf
    have hno := dnL_no (s := a0.data.toList)
    have hyes := dnL_yes (s := a0.data.toList)
    have hlen : (dnL a0.data.toList).1.length ≤ 60 := by
      unfold dnL
      split
      · simp
      · rename_i h
        simp only [Bool.or_eq_true, not_or, decide_eq_true_eq] at h
        have := h.1.2
        show (foldL a0.data.toList).length ≤ 60
        omega
    have c3 := fun W => defName_any ⟨(dnL a0.data.toList).1.toArray⟩ W (by rw [str_size]; omega)
    rw [show (⟨(dnL a0.data.toList).1.toArray⟩ : ByteArray).data.toList = (dnL a0.data.toList).1 from rfl] at c3
    generalize dnL a0.data.toList = d at *
    obtain ⟨x, ok⟩ := d
    simp only at c1 c2 c3 hno hyes
    clear hlen hz1 hv
    cases ok with
    | true =>
      obtain ⟨e1, e2⟩ := hyes rfl
      rw [← e1] at e2 cf
      rw [e2] at c3
      simp only at c3
      obtain ⟨X, hX, rfl⟩ := text_of' x
      rw [hX] at c1 c2 c3 cf
      have s1 : (X.toList == X.toList) = true := by simp
      clear hno hyes e1 e2 hX
      have C1 := Lib.hid c1
      have C2 := Lib.hid c2
      have C3 := Lib.hid c3
      have CF := Lib.hid cf
      clear c1 c2 c3 cf
      go_enter Tryd.func3, Tryd.ntmps3
      go_wp2_with (go_at_call 7; refine ca.mono ?_; rintro e w1 ⟨rfl, b1⟩)
      refine (C1.out _).mono ?_
      rintro e w2 ⟨rfl, b2⟩
      go_wp2_with fail
      refine (C2.out _).mono ?_
      rintro e w3 ⟨rfl, b3⟩
      go_wp2_with fail
      refine (C3.out _).mono ?_
      rintro e w4 ⟨rfl, b4⟩
      have HB := Lib.hid (((b1.then b2).then b3).then b4)
      clear b1 b2 b3 b4
      go_wp2_with fail
      refine (CF.out _).mono ?_
      rintro e w5 ⟨rfl, b5⟩
      go_wp2
      go_ret
      exact ⟨rfl, HB.out.then b5⟩
    | false =>
      obtain rfl := hno rfl
      rw [show dnL [] = ([], false) from rfl] at c3
      simp only at c3
      have C1 := Lib.hid c1
      have C2 := Lib.hid c2
      have C3 := Lib.hid c3
      clear c1 c2 c3 cf hno hyes
      go_enter Tryd.func3, Tryd.ntmps3
      go_wp2_with (go_at_call 7; refine ca.mono ?_; rintro e w1 ⟨rfl, b1⟩)
      refine (C1.out _).mono ?_
      rintro e w2 ⟨rfl, b2⟩
      go_wp2_with fail
      refine (C2.out _).mono ?_
      rintro e w3 ⟨rfl, b3⟩
      go_wp2_with fail
      refine (C3.out _).mono ?_
      rintro e w4 ⟨rfl, b4⟩
      have HB := Lib.hid (((b1.then b2).then b3).then b4)
      clear b1 b2 b3 b4
      go_wp2
      go_ret
      exact ⟨rfl, HB.out⟩
  · have hc : 50 < a0.size := by omega
    clear h hv
    go_enter Tryd.func3, Tryd.ntmps3
    go_wp2_with (go_at_call 7; refine ca.mono ?_; rintro e w1 ⟨rfl, b1⟩)
    go_ret
    exact ⟨rfl, b1⟩

end Go.Proofs.YtioolcnoiaoflaaDoor
