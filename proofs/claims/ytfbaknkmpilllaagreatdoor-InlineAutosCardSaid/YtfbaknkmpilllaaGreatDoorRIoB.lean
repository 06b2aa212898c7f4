/- Texts joined: IoB. -/
import Derived.Test.YtfbaknkmpilllaaGreatDoorQAN
import Derived.Test.YtfbaknkmpilllaaGreatDoorQAG
import Derived.LoopN
namespace Go.Proofs.YtfbaknkmpilllaaGreatDoor
open Go.RowKit
set_option linter.unusedSimpArgs false
set_option linter.unusedVariables false
set_option maxRecDepth 100000
theorem lit_size (l : Array UInt8) : (⟨l⟩ : ByteArray).size = l.size := rfl
set_option maxHeartbeats 8000000 in
theorem inlineAutos_walk (w : World) (h7 : TkW w) (a0 : ByteArray) (w0 : a0.size ≤ maxLen) (a1 : ByteArray) (w1 : a1.size ≤ maxLen) :
    Calls Tryz.prog 13 #[.string a0, .string a1] w fun e w' => e = .returned (.bool true) ∧ Below w.heap.size w w' := by
  have CA := Lib.hid (alive15_any w h7)
  have H7 := Lib.hid h7
  unfold maxLen at w0 w1
  clear h7
  by_cases hz : a0.size < 2 ∨ 20 < a0.size ∨ a1.size = 0 ∨ 20 < a1.size
  · have hcase : a0.size < 2 ∨ (2 ≤ a0.size ∧ 20 < a0.size) ∨ (2 ≤ a0.size ∧ a0.size ≤ 20 ∧ a1.size = 0) ∨ (2 ≤ a0.size ∧ a0.size ≤ 20 ∧ 0 < a1.size ∧ 20 < a1.size) := by omega
    clear hz
    rcases hcase with h1 | ⟨h1, h2⟩ | ⟨h1, h2, h3⟩ | ⟨h1, h2, h3, h4⟩
    · go_enter Tryz.func13, Tryz.ntmps13
      go_wp2_with fail
      refine CA.out.mono ?_
      rintro e w1 ⟨rfl, b1⟩
      go_wp2
      go_ret
      exact ⟨rfl, b1⟩
    · go_enter Tryz.func13, Tryz.ntmps13
      go_wp2_with fail
      refine CA.out.mono ?_
      rintro e w1 ⟨rfl, b1⟩
      go_wp2
      go_ret
      exact ⟨rfl, b1⟩
    · obtain rfl := tlEmpty_of a1 h3
      clear h3 w1
      go_enter Tryz.func13, Tryz.ntmps13
      go_wp2_with fail
      refine CA.out.mono ?_
      rintro e w1 ⟨rfl, b1⟩
      go_wp2
      go_ret
      exact ⟨rfl, b1⟩
    · have e1 := toList_ne h3
      have e2 := toList_empty h3
      go_enter Tryz.func13, Tryz.ntmps13
      go_wp2_with fail
      refine CA.out.mono ?_
      rintro e w1 ⟨rfl, b1⟩
      go_wp2
      go_ret
      exact ⟨rfl, b1⟩
  · have hz0 : a0.size ≤ 20 := by omega
    have hz1 : a1.size ≤ 20 := by omega
    have hz2 : 2 ≤ a0.size := by omega
    have hz3 : 0 < a1.size := by omega
    have e1 := toList_ne hz3
    have e2 := toList_empty hz3
    clear hz
    go_enter Tryz.func13, Tryz.ntmps13
    go_wp2_with fail
    refine CA.out.mono ?_
    rintro e w1 ⟨rfl, b1⟩
    have HB1 := Lib.hid (b1.alloc b1.size (.cells #[.string a0, .string a1] 9))
    clear b1
    go_wp2_with fail
    clear e1 e2
    refine wp_loop_rounds 3 ?_
    rw [rounds_succ]
    go_wp2_with fail
    go_loop [7] (fun v => TlLowRel a0 v) (fun v => a0.size - (intOf v).toNat)
    case atStart => exact ⟨0, rfl, Nat.zero_le _, by simp⟩
    case round =>
      obtain ⟨k, rfl, hk, hall⟩ := hrel
      by_cases hlt : k < a0.size
      · cases hb : lowB a0[k] with
        | true =>
          have HA := Lib.hid (take_mem a0 k hlt lowB hall hb)
          obtain ⟨g1, g2⟩ := low_yes hb
          clear hb hall
          go_wp2
          all_goals first
            | exact ⟨⟨k + 1, by go_num, by omega, HA.out⟩, by simp only [intOf]; omega⟩
            | (go_round
               case rel => exact ⟨k + 1, by go_num, by omega, HA.out⟩
               case measure => simp [intOf]; omega)
        | false =>
          have g := low_no hb
          clear hb hall
          rcases g with g | g
          · go_wp2
            go_ret
            exact ⟨rfl, HB1.out⟩
          · have g1 : decide ((a0[k].toNat : Int) < 97) = false := by simp; omega
            have g2 : (97 : Int) ≤ a0[k].toNat := by omega
            go_wp2
            go_ret
            exact ⟨rfl, HB1.out⟩
      · obtain rfl : k = a0.size := by omega
        rw [List.take_of_length_le (by rw [size_len']; exact Nat.le_refl _)] at hall
        have HA_a0 := Lib.hid hall
        clear hall
        go_wp2_with fail
        rw [rounds_succ]
        go_wp2_with fail
        go_loop [7] (fun v => TlLowRel a1 v) (fun v => a1.size - (intOf v).toNat)
        case atStart => exact ⟨0, rfl, Nat.zero_le _, by simp⟩
        case round =>
          obtain ⟨k, rfl, hk, hall⟩ := hrel
          by_cases hlt : k < a1.size
          · cases hb : lowB a1[k] with
            | true =>
              have HA := Lib.hid (take_mem a1 k hlt lowB hall hb)
              obtain ⟨g1, g2⟩ := low_yes hb
              clear hb hall
              go_wp2
              all_goals first
                | exact ⟨⟨k + 1, by go_num, by omega, HA.out⟩, by simp only [intOf]; omega⟩
                | (go_round
                   case rel => exact ⟨k + 1, by go_num, by omega, HA.out⟩
                   case measure => simp [intOf]; omega)
            | false =>
              have g := low_no hb
              clear hb hall
              rcases g with g | g
              · go_wp2
                go_ret
                exact ⟨rfl, HB1.out⟩
              · have g1 : decide ((a1[k].toNat : Int) < 97) = false := by simp; omega
                have g2 : (97 : Int) ≤ a1[k].toNat := by omega
                go_wp2
                go_ret
                exact ⟨rfl, HB1.out⟩
          · obtain rfl : k = a1.size := by omega
            rw [List.take_of_length_le (by rw [size_len']; exact Nat.le_refl _)] at hall
            have HA_a1 := Lib.hid hall
            clear hall
            have u1 := fun W => run_string_add_sum (P := Tryz.prog) W ((⟨#[120, 32, 60]⟩ : ByteArray)) (a0) (by simp only [ByteArray.size_append, lit_size]; simp only [Array.size, List.length]; omega)
            have u2 := fun W => run_string_add_sum (P := Tryz.prog) W (((⟨#[120, 32, 60]⟩ : ByteArray) ++ a0)) ((⟨#[58]⟩ : ByteArray)) (by simp only [ByteArray.size_append, lit_size]; simp only [Array.size, List.length]; omega)
            have u3 := fun W => run_string_add_sum (P := Tryz.prog) W ((((⟨#[120, 32, 60]⟩ : ByteArray) ++ a0) ++ (⟨#[58]⟩ : ByteArray))) (a1) (by simp only [ByteArray.size_append, lit_size]; simp only [Array.size, List.length]; omega)
            have u4 := fun W => run_string_add_sum (P := Tryz.prog) W (((((⟨#[120, 32, 60]⟩ : ByteArray) ++ a0) ++ (⟨#[58]⟩ : ByteArray)) ++ a1)) ((⟨#[62, 32, 60]⟩ : ByteArray)) (by simp only [ByteArray.size_append, lit_size]; simp only [Array.size, List.length]; omega)
            have u5 := fun W => run_string_add_sum (P := Tryz.prog) W ((((((⟨#[120, 32, 60]⟩ : ByteArray) ++ a0) ++ (⟨#[58]⟩ : ByteArray)) ++ a1) ++ (⟨#[62, 32, 60]⟩ : ByteArray))) (a0) (by simp only [ByteArray.size_append, lit_size]; simp only [Array.size, List.length]; omega)
            have u6 := fun W => run_string_add_sum (P := Tryz.prog) W (((((((⟨#[120, 32, 60]⟩ : ByteArray) ++ a0) ++ (⟨#[58]⟩ : ByteArray)) ++ a1) ++ (⟨#[62, 32, 60]⟩ : ByteArray)) ++ a0)) ((⟨#[64]⟩ : ByteArray)) (by simp only [ByteArray.size_append, lit_size]; simp only [Array.size, List.length]; omega)
            have u7 := fun W => run_string_add_sum (P := Tryz.prog) W ((((((((⟨#[120, 32, 60]⟩ : ByteArray) ++ a0) ++ (⟨#[58]⟩ : ByteArray)) ++ a1) ++ (⟨#[62, 32, 60]⟩ : ByteArray)) ++ a0) ++ (⟨#[64]⟩ : ByteArray))) (a1) (by simp only [ByteArray.size_append, lit_size]; simp only [Array.size, List.length]; omega)
            have u8 := fun W => run_string_add_sum (P := Tryz.prog) W (((((((((⟨#[120, 32, 60]⟩ : ByteArray) ++ a0) ++ (⟨#[58]⟩ : ByteArray)) ++ a1) ++ (⟨#[62, 32, 60]⟩ : ByteArray)) ++ a0) ++ (⟨#[64]⟩ : ByteArray)) ++ a1)) ((⟨#[62]⟩ : ByteArray)) (by simp only [ByteArray.size_append, lit_size]; simp only [Array.size, List.length]; omega)
            have p1 := fun W => run_string_add_sum (P := Tryz.prog) W (a0) ((⟨#[58]⟩ : ByteArray)) (by simp only [ByteArray.size_append, lit_size]; simp only [Array.size, List.length]; omega)
            have p2 := fun W => run_string_add_sum (P := Tryz.prog) W ((a0 ++ (⟨#[58]⟩ : ByteArray))) (a1) (by simp only [ByteArray.size_append, lit_size]; simp only [Array.size, List.length]; omega)
            have q1 := fun W => run_string_add_sum (P := Tryz.prog) W ((⟨#[109, 97, 105, 108, 116, 111, 58]⟩ : ByteArray)) (a0) (by simp only [ByteArray.size_append, lit_size]; simp only [Array.size, List.length]; omega)
            have q2 := fun W => run_string_add_sum (P := Tryz.prog) W (((⟨#[109, 97, 105, 108, 116, 111, 58]⟩ : ByteArray) ++ a0)) ((⟨#[64]⟩ : ByteArray)) (by simp only [ByteArray.size_append, lit_size]; simp only [Array.size, List.length]; omega)
            have q3 := fun W => run_string_add_sum (P := Tryz.prog) W ((((⟨#[109, 97, 105, 108, 116, 111, 58]⟩ : ByteArray) ++ a0) ++ (⟨#[64]⟩ : ByteArray))) (a1) (by simp only [ByteArray.size_append, lit_size]; simp only [Array.size, List.length]; omega)
            have v1 := fun W => run_string_add_sum (P := Tryz.prog) W (a0) ((⟨#[64]⟩ : ByteArray)) (by simp only [ByteArray.size_append, lit_size]; simp only [Array.size, List.length]; omega)
            have v2 := fun W => run_string_add_sum (P := Tryz.prog) W ((a0 ++ (⟨#[64]⟩ : ByteArray))) (a1) (by simp only [ByteArray.size_append, lit_size]; simp only [Array.size, List.length]; omega)
            have hT : ((((((((((⟨#[120, 32, 60]⟩ : ByteArray) ++ a0) ++ (⟨#[58]⟩ : ByteArray)) ++ a1) ++ (⟨#[62, 32, 60]⟩ : ByteArray)) ++ a0) ++ (⟨#[64]⟩ : ByteArray)) ++ a1) ++ (⟨#[62]⟩ : ByteArray))).data.toList = [120, 32] ++ (60 :: (a0.data.toList ++ 58 :: (a1.data.toList ++ [62]))) ++ [32] ++ (60 :: (a0.data.toList ++ 64 :: (a1.data.toList ++ [62]))) := by simp
            have hTs : ((((((((((⟨#[120, 32, 60]⟩ : ByteArray) ++ a0) ++ (⟨#[58]⟩ : ByteArray)) ++ a1) ++ (⟨#[62, 32, 60]⟩ : ByteArray)) ++ a0) ++ (⟨#[64]⟩ : ByteArray)) ++ a1) ++ (⟨#[62]⟩ : ByteArray))).size ≤ 100 := by simp only [ByteArray.size_append, lit_size]; simp only [Array.size, List.length]; omega
            have hS1 : (⟨(a0.data.toList ++ 58 :: a1.data.toList).toArray⟩ : ByteArray) = ((a0 ++ (⟨#[58]⟩ : ByteArray)) ++ a1) := by rw [show a0.data.toList ++ 58 :: a1.data.toList = (((a0 ++ (⟨#[58]⟩ : ByteArray)) ++ a1)).data.toList from by simp, Lib.mk_data]
            have hM : (⟨(tkMailto ++ (a0.data.toList ++ 64 :: a1.data.toList)).toArray⟩ : ByteArray) = ((((⟨#[109, 97, 105, 108, 116, 111, 58]⟩ : ByteArray) ++ a0) ++ (⟨#[64]⟩ : ByteArray)) ++ a1) := by rw [show tkMailto ++ (a0.data.toList ++ 64 :: a1.data.toList) = (((((⟨#[109, 97, 105, 108, 116, 111, 58]⟩ : ByteArray) ++ a0) ++ (⟨#[64]⟩ : ByteArray)) ++ a1)).data.toList from by simp [tkMailto], Lib.mk_data]
            have hS2 : (⟨(a0.data.toList ++ 64 :: a1.data.toList).toArray⟩ : ByteArray) = ((a0 ++ (⟨#[64]⟩ : ByteArray)) ++ a1) := by rw [show a0.data.toList ++ 64 :: a1.data.toList = (((a0 ++ (⟨#[64]⟩ : ByteArray)) ++ a1)).data.toList from by simp, Lib.mk_data]
            generalize (((((((((⟨#[120, 32, 60]⟩ : ByteArray) ++ a0) ++ (⟨#[58]⟩ : ByteArray)) ++ a1) ++ (⟨#[62, 32, 60]⟩ : ByteArray)) ++ a0) ++ (⟨#[64]⟩ : ByteArray)) ++ a1) ++ (⟨#[62]⟩ : ByteArray)) = T8 at *
            generalize ((((((((⟨#[120, 32, 60]⟩ : ByteArray) ++ a0) ++ (⟨#[58]⟩ : ByteArray)) ++ a1) ++ (⟨#[62, 32, 60]⟩ : ByteArray)) ++ a0) ++ (⟨#[64]⟩ : ByteArray)) ++ a1) = T7 at *
            generalize (((((((⟨#[120, 32, 60]⟩ : ByteArray) ++ a0) ++ (⟨#[58]⟩ : ByteArray)) ++ a1) ++ (⟨#[62, 32, 60]⟩ : ByteArray)) ++ a0) ++ (⟨#[64]⟩ : ByteArray)) = T6 at *
            generalize ((((((⟨#[120, 32, 60]⟩ : ByteArray) ++ a0) ++ (⟨#[58]⟩ : ByteArray)) ++ a1) ++ (⟨#[62, 32, 60]⟩ : ByteArray)) ++ a0) = T5 at *
            generalize (((((⟨#[120, 32, 60]⟩ : ByteArray) ++ a0) ++ (⟨#[58]⟩ : ByteArray)) ++ a1) ++ (⟨#[62, 32, 60]⟩ : ByteArray)) = T4 at *
            generalize ((((⟨#[120, 32, 60]⟩ : ByteArray) ++ a0) ++ (⟨#[58]⟩ : ByteArray)) ++ a1) = T3 at *
            generalize (((⟨#[120, 32, 60]⟩ : ByteArray) ++ a0) ++ (⟨#[58]⟩ : ByteArray)) = T2 at *
            generalize ((⟨#[120, 32, 60]⟩ : ByteArray) ++ a0) = T1 at *
            generalize ((((⟨#[109, 97, 105, 108, 116, 111, 58]⟩ : ByteArray) ++ a0) ++ (⟨#[64]⟩ : ByteArray)) ++ a1) = M3 at *
            generalize (((⟨#[109, 97, 105, 108, 116, 111, 58]⟩ : ByteArray) ++ a0) ++ (⟨#[64]⟩ : ByteArray)) = M2 at *
            generalize ((⟨#[109, 97, 105, 108, 116, 111, 58]⟩ : ByteArray) ++ a0) = M1 at *
            generalize ((a0 ++ (⟨#[58]⟩ : ByteArray)) ++ a1) = P2 at *
            generalize (a0 ++ (⟨#[58]⟩ : ByteArray)) = P1 at *
            generalize ((a0 ++ (⟨#[64]⟩ : ByteArray)) ++ a1) = V2 at *
            generalize (a0 ++ (⟨#[64]⟩ : ByteArray)) = V1 at *
            have hA := autos_plain rawE [] a0.data.toList a1.data.toList (by rw [size_len']; omega) (by rw [size_len']; omega) (by intro e; have := size_len' a1; rw [e] at this; simp at this; omega) HA_a0.out HA_a1.out
            have cr := fun W h => raw_any T8 W h (by omega)
            rw [hT] at cr
            unfold rawI at cr
            rw [hA] at cr
            have CR := Lib.hid cr
            have HS := Lib.hid (And.intro hS1 (And.intro hM hS2))
            clear cr hA hT hTs hS1 hM hS2
            go_wp2_with fail
            rw [rounds_succ]
            go_wp2_with fail
            refine (CR.out _ (H7.out.below HB1.out)).mono ?_
            rintro e w2 ⟨⟨v, rfl, hv⟩, b2⟩
            have HB2 := Lib.hid (HB1.out.then b2)
            obtain ⟨b, off, c, rfl, hb, hc⟩ := hv.at (by simp)
            obtain ⟨-, -, x2, -, -⟩ := hc 0 (by simp)
            obtain ⟨c0, c1, c2, c3, c4⟩ := hc 1 (by simp)
            obtain ⟨d0, d1, d2, d3, d4⟩ := hc 2 (by simp)
            obtain ⟨i0, i1, i2, i3, i4⟩ := hc 4 (by simp)
            obtain ⟨f0, f1, f2, f3, f4⟩ := hc 5 (by simp)
            simp only [List.getElem_cons_zero, List.getElem_cons_succ, Nat.zero_mul, Nat.add_zero, Nat.one_mul, List.length_cons, List.length_nil, wordsI] at x2 c0 c1 c2 c3 c4 d0 d1 d2 d3 d4 i0 i1 i2 i3 i4 f0 f1 f2 f3 f4 ⊢
            rw [HS.out.1] at c3 d2
            rw [HS.out.2.1] at i3
            rw [HS.out.2.2] at f2
            clear hv hc b2 HS
            go_wp2
            go_ret
            exact ⟨ret_bool (by simp), HB2.out⟩
end Go.Proofs.YtfbaknkmpilllaaGreatDoor
