/- Texts joined: IoC. -/
import Derived.Test.YtfbaknkmpilllaaGreatDoorQAN
import Derived.Test.YtfbaknkmpilllaaGreatDoorQAG
namespace Go.Proofs.YtfbaknkmpilllaaGreatDoor
open Go.RowKit
set_option linter.unusedSimpArgs false
set_option linter.unusedVariables false
set_option maxRecDepth 100000
theorem escS_snoc (l : List UInt8) (c : UInt8) : escS (l ++ [c]) = escS l ++ (if tkAscii c then [92, c] else [c]) := by
  unfold escS
  rw [List.flatMap_append]
  simp
theorem extr_one (s : ByteArray) (k : Nat) (h : k < s.size) : (s.extract k (k + 1)).data.toList = [s[k]] := by
  have hl : k < s.data.toList.length := by simpa using h
  rw [show (s.extract k (k + 1)).data.toList = (s.data.toList.drop k).take 1 from by simp]
  rw [List.drop_eq_getElem_cons hl]
  rfl
theorem ba_size (s : ByteArray) : s.size = s.data.toList.length := by simp
theorem show_yes {b : UInt8} (h : showB b = true) : 32 ≤ (b.toNat : Int) ∧ (b.toNat : Int) < 127 := by
  simp [showB] at h; omega
theorem show_no {b : UInt8} (h : showB b = false) : (b.toNat : Int) < 32 ∨ (32 ≤ (b.toNat : Int) ∧ 127 ≤ (b.toNat : Int)) := by
  simp [showB] at h; omega
def EscRel (s : ByteArray) (t i : Value) : Prop := ∃ (k : Nat) (u : ByteArray), i = .int .i64 k ∧ t = .string u ∧ k ≤ s.size ∧ u.data.toList = escS (s.data.toList.take k) ∧ u.size ≤ 2 * k ∧ ∀ b ∈ s.data.toList.take k, showB b = true
set_option maxHeartbeats 8000000 in
theorem inlineEscapes_walk (w : World) (h7 : TkW w) (a0 : ByteArray) (w0 : a0.size ≤ maxLen) :
    Calls Tryz.prog 11 #[.string a0] w fun e w' => e = .returned (.bool true) ∧ Below w.heap.size w w' := by
  have CA := Lib.hid (alive15_any w h7)
  have H7 := Lib.hid h7
  unfold maxLen at w0
  clear h7
  by_cases hz : a0.size = 0 ∨ 60 < a0.size
  · have hcase : a0.size = 0 ∨ (0 < a0.size ∧ 60 < a0.size) := by omega
    clear hz
    rcases hcase with h1 | ⟨h1, h2⟩
    · obtain rfl := tlEmpty_of a0 h1
      clear h1 w0
      go_enter Tryz.func11, Tryz.ntmps11
      go_wp2_with fail
      refine CA.out.mono ?_
      rintro e w1 ⟨rfl, b1⟩
      go_wp2
      go_ret
      exact ⟨rfl, b1⟩
    · have e1 := toList_ne h1
      have e2 := toList_empty h1
      go_enter Tryz.func11, Tryz.ntmps11
      go_wp2_with fail
      refine CA.out.mono ?_
      rintro e w1 ⟨rfl, b1⟩
      go_wp2
      go_ret
      exact ⟨rfl, b1⟩
  · have hz0 : a0.size ≤ 60 := by omega
    have hz2 : 0 < a0.size := by omega
    have e1 := toList_ne hz2
    have e2 := toList_empty hz2
    clear hz
    go_enter Tryz.func11, Tryz.ntmps11
    go_wp2_with fail
    refine CA.out.mono ?_
    rintro e w1 ⟨rfl, b1⟩
    have HB1 := Lib.hid b1
    clear b1
    go_wp2_with fail
    clear e1 e2
    go_loop [3, 4] (fun t i => EscRel a0 t i) (fun _ i => a0.size - (intOf i).toNat)
    case atStart => exact ⟨0, ⟨#[]⟩, rfl, rfl, Nat.zero_le _, rfl, Nat.zero_le _, by simp⟩
    case round =>
      obtain ⟨k, u, rfl, rfl, hk, hu, hus, hall⟩ := hrel
      by_cases hlt : k < a0.size
      · cases hb : showB a0[k] with
        | false =>
          have g := show_no hb
          clear hb hall hu
          rcases g with g | ⟨g, g'⟩
          · go_wp2
            go_ret
            exact ⟨rfl, HB1.out⟩
          · go_wp2
            go_ret
            exact ⟨rfl, HB1.out⟩
        | true =>
          have HA := Lib.hid (take_mem a0 k hlt showB hall hb)
          obtain ⟨g1, g2⟩ := show_yes hb
          have hX := extr_one a0 k hlt
          have hsl := fun W => slice_lohi a0 (k : Int) ((k : Int) + 1) k (k + 1) rfl (by simp) (by omega) (by omega) W
          have hsn : escS (a0.data.toList.take (k + 1)) = escS (a0.data.toList.take k) ++ (if tkAscii a0[k] then [92, a0[k]] else [a0[k]]) := by
            rw [List.take_succ_eq_append_getElem (by simpa using hlt), escS_snoc]; rfl
          have ca := fun W => ascii_any (a0[k].toNat : Int) W
          rw [show asciiB (a0[k].toNat : Int) = tkAscii a0[k] from rfl] at ca
          have hXs : (a0.extract k (k + 1)).size = 1 := by rw [ba_size, hX]; rfl
          rw [← hu] at hsn
          generalize a0.extract k (k + 1) = X at *
          have HSL := Lib.hid hsl
          clear hb hall hu
          cases hasc : tkAscii a0[k] with
          | true =>
            rw [hasc] at ca hsn
            have r1 := fun W => run_string_add_sum (P := Tryz.prog) W u (⟨#[92]⟩ : ByteArray) (by show u.size + 1 ≤ _; omega)
            have r2 := fun W => run_string_add_sum (P := Tryz.prog) W (u ++ (⟨#[92]⟩ : ByteArray)) X (by rw [ByteArray.size_append]; show u.size + 1 + X.size ≤ _; omega)
            have hT : ((u ++ (⟨#[92]⟩ : ByteArray)) ++ X).data.toList = escS (a0.data.toList.take (k + 1)) := by rw [hsn]; simp [hX]
            have hTs : ((u ++ (⟨#[92]⟩ : ByteArray)) ++ X).size ≤ 2 * (k + 1) := by rw [ByteArray.size_append, ByteArray.size_append]; show u.size + 1 + X.size ≤ _; omega
            generalize (u ++ (⟨#[92]⟩ : ByteArray)) ++ X = T2 at *
            generalize u ++ (⟨#[92]⟩ : ByteArray) = T1 at *
            have HT := Lib.hid hT
            have CI := Lib.hid ca
            have hsl := HSL.out
            clear hT hsn hX hasc ca
            go_wp2_with fail
            refine (CI.out _).mono ?_
            rintro e w4 ⟨rfl, rfl⟩
            go_wp2
            all_goals first
              | exact ⟨⟨k + 1, T2, by go_num, rfl, by omega, HT.out, hTs, HA.out⟩, by simp only [intOf]; omega⟩
              | (go_round
                 case rel => exact ⟨k + 1, T2, by go_num, rfl, by omega, HT.out, hTs, HA.out⟩
                 case measure => simp [intOf]; omega)
          | false =>
            rw [hasc] at ca hsn
            have r2 := fun W => run_string_add_sum (P := Tryz.prog) W u X (by omega)
            have hT : (u ++ X).data.toList = escS (a0.data.toList.take (k + 1)) := by rw [hsn]; simp [hX]
            have hTs : (u ++ X).size ≤ 2 * (k + 1) := by rw [ByteArray.size_append]; omega
            generalize u ++ X = T2 at *
            have HT := Lib.hid hT
            have CI := Lib.hid ca
            have hsl := HSL.out
            clear hT hsn hX hasc ca
            go_wp2_with fail
            refine (CI.out _).mono ?_
            rintro e w4 ⟨rfl, rfl⟩
            go_wp2
            all_goals first
              | exact ⟨⟨k + 1, T2, by go_num, rfl, by omega, HT.out, hTs, HA.out⟩, by simp only [intOf]; omega⟩
              | (go_round
                 case rel => exact ⟨k + 1, T2, by go_num, rfl, by omega, HT.out, hTs, HA.out⟩
                 case measure => simp [intOf]; omega)
      · obtain rfl : k = a0.size := by omega
        rw [List.take_of_length_le (by rw [size_len']; exact Nat.le_refl _)] at hall hu
        have hE := escapes_plain rawE [] a0.data.toList (by intro e; have := size_len' a0; rw [e] at this; simp at this; omega) hall
        have cr := fun W h => raw_any u W h (by omega)
        rw [hu] at cr
        unfold rawI at cr
        rw [hE] at cr
        have CR := Lib.hid cr
        clear cr hE hall hu
        go_wp2_with fail
        refine (CR.out _ (H7.out.below HB1.out)).mono ?_
        rintro e w2 ⟨⟨v, rfl, hv⟩, b2⟩
        have HB2 := Lib.hid (HB1.out.then b2)
        obtain ⟨b, off, c, rfl, hb, c0, c1, c2, c3, c4⟩ := hv.one
        simp only [wordsI, Lib.mk_data] at c0 c1 c2 c3 c4
        clear hv b2
        go_wp2
        go_ret
        exact ⟨ret_bool (by simp), HB2.out⟩
end Go.Proofs.YtfbaknkmpilllaaGreatDoor
