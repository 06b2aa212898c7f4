/- Texts joined: IoN. -/
import Derived.Test.YtfbaknkmpilllaaGreatDoorRIoL
import Derived.Test.YtfbaknkmpilllaaGreatDoorRIoD
namespace Go.Proofs.YtfbaknkmpilllaaGreatDoor
open Go.RowKit
set_option linter.unusedSimpArgs false
set_option linter.unusedVariables false
set_option maxRecDepth 100000
theorem atms_one {w : World} {g : Nat} {lb tx : ByteArray} (h : w.heap[g]? = some (.cells #[.string lb, .string tx] 48 (0, 0))) : AtmsAt w (.slice (some ⟨g, 0, none⟩) 1 1) [⟨lb.data.toList, tx.data.toList⟩] := by
  refine ⟨some ⟨g, 0, none⟩, 1, rfl, elts_block (X := [(⟨lb.data.toList, tx.data.toList⟩ : Atm)]) atC_length (t := 48) ?_ (by show (1 : Nat) ≤ maxLen; decide)⟩
  rw [h]
  rfl
set_option maxHeartbeats 16000000 in
theorem inlineCodes_walk (w : World) (h7 : TkW w) (a0 : ByteArray) (w0 : a0.size ≤ maxLen) (a1 : Int) (w1 : (Lit.int .u8 a1).wf = true) :
    Calls Tryz.prog 10 #[.string a0, .int .u8 a1] w fun e w' => e = .returned (.bool true) ∧ Below w.heap.size w w' := by
  obtain ⟨q, rfl⟩ := tlByte_of w1
  have CA := Lib.hid (alive15_any w h7)
  have H7 := Lib.hid h7
  unfold maxLen at w0
  clear h7 w1
  by_cases hz : a0.size = 0 ∨ 30 < a0.size
  · have hcase : a0.size = 0 ∨ (0 < a0.size ∧ 30 < a0.size) := by omega
    clear hz
    rcases hcase with h1 | ⟨h1, h2⟩
    · obtain rfl := tlEmpty_of a0 h1
      clear h1 w0
      go_enter Tryz.func10, Tryz.ntmps10
      go_wp2_with fail
      refine CA.out.mono ?_
      rintro e w1 ⟨rfl, b1⟩
      go_wp2
      go_ret
      exact ⟨rfl, b1⟩
    · have e1 := toList_ne h1
      have e2 := toList_empty h1
      go_enter Tryz.func10, Tryz.ntmps10
      go_wp2_with fail
      refine CA.out.mono ?_
      rintro e w1 ⟨rfl, b1⟩
      go_wp2
      go_ret
      exact ⟨rfl, b1⟩
  · have hz0 : a0.size ≤ 30 := by omega
    have hz2 : 0 < a0.size := by omega
    have e1 := toList_ne hz2
    have e2 := toList_empty hz2
    clear hz
    go_enter Tryz.func10, Tryz.ntmps10
    go_wp2_with fail
    refine CA.out.mono ?_
    rintro e w1 ⟨rfl, b1⟩
    have HB1 := Lib.hid b1
    clear b1
    go_wp2_with fail
    clear e1 e2
    go_loop [5] (fun v => TlLowRel a0 v) (fun v => a0.size - (intOf v).toNat)
    case atStart => exact ⟨0, rfl, Nat.zero_le _, by simp⟩
    case round =>
      obtain ⟨k, rfl, hk, hall⟩ := hrel
      by_cases hlt : k < a0.size
      · cases hb : lowB a0[k] with
        | true =>
          have HA := Lib.hid (take_mem a0 k hlt lowB hall hb)
          obtain ⟨g1, g2⟩ := low_yes hb
          clear hb hall
          go_wp2
          all_goals first
            | exact ⟨⟨k + 1, by go_num, by omega, HA.out⟩, by simp only [intOf]; omega⟩
            | (go_round
               case rel => exact ⟨k + 1, by go_num, by omega, HA.out⟩
               case measure => simp [intOf]; omega)
        | false =>
          have g := low_no hb
          clear hb hall
          rcases g with g | g
          · go_wp2
            go_ret
            exact ⟨rfl, HB1.out⟩
          · have g1 : decide ((a0[k].toNat : Int) < 97) = false := by simp; omega
            have g2 : (97 : Int) ≤ a0[k].toNat := by omega
            go_wp2
            go_ret
            exact ⟨rfl, HB1.out⟩
      · obtain rfl : k = a0.size := by omega
        rw [List.take_of_length_le (by rw [size_len']; exact Nat.le_refl _)] at hall
        have HA_a0 := Lib.hid hall
        clear hall
        have hx1 : a0.data.toList ≠ [] := by intro e; have := size_len' a0; rw [e] at this; simp at this; omega
        have HALL := Lib.hid (And.intro HA_a0.out hx1)
        clear hx1
        by_cases hs : q = 96 ∨ q = 0 ∨ q = 10 ∨ q = 32 ∨ 128 ≤ q.toNat
        · have k1 := eq_byte q 96
          have k2 := eq_byte q 0
          have k3 := eq_byte q 10
          have k4 := eq_byte q 32
          by_cases g1 : q = 96
          · subst g1
            go_wp2
            go_ret
            exact ⟨rfl, HB1.out⟩
          · by_cases g2 : q = 0
            · subst g2
              go_wp2
              go_ret
              exact ⟨rfl, HB1.out⟩
            · by_cases g3 : q = 10
              · subst g3
                go_wp2
                go_ret
                exact ⟨rfl, HB1.out⟩
              · by_cases g4 : q = 32
                · subst g4
                  go_wp2
                  go_ret
                  exact ⟨rfl, HB1.out⟩
                · have g5 : 128 ≤ q.toNat := by
                    rcases hs with h | h | h | h | h
                    · exact absurd h g1
                    · exact absurd h g2
                    · exact absurd h g3
                    · exact absurd h g4
                    · exact h
                  rw [show (q == 96) = false from by simpa using g1, show (((96 : UInt8).toNat : Nat) : Int) = 96 from rfl] at k1
                  rw [show (q == 0) = false from by simpa using g2, show (((0 : UInt8).toNat : Nat) : Int) = 0 from rfl] at k2
                  rw [show (q == 10) = false from by simpa using g3, show (((10 : UInt8).toNat : Nat) : Int) = 10 from rfl] at k3
                  rw [show (q == 32) = false from by simpa using g4, show (((32 : UInt8).toNat : Nat) : Int) = 32 from rfl] at k4
                  have k5 : decide ((128 : Int) ≤ q.toNat) = true := by simp; omega
                  clear g1 g2 g3 g4 hs
                  go_wp2
                  go_ret
                  exact ⟨rfl, HB1.out⟩
        · have g1 : q ≠ 96 := fun h => hs (.inl h)
          have g2 : q ≠ 0 := fun h => hs (.inr (.inl h))
          have g3 : q ≠ 10 := fun h => hs (.inr (.inr (.inl h)))
          have g4 : q ≠ 32 := fun h => hs (.inr (.inr (.inr (.inl h))))
          have g5 : q.toNat < 128 := Nat.lt_of_not_le fun h => hs (.inr (.inr (.inr (.inr h))))
          have k1 := eq_byte q 96
          have k2 := eq_byte q 0
          have k3 := eq_byte q 10
          have k4 := eq_byte q 32
          rw [show (q == 96) = false from by simpa using g1, show (((96 : UInt8).toNat : Nat) : Int) = 96 from rfl] at k1
          rw [show (q == 0) = false from by simpa using g2, show (((0 : UInt8).toNat : Nat) : Int) = 0 from rfl] at k2
          rw [show (q == 10) = false from by simpa using g3, show (((10 : UInt8).toNat : Nat) : Int) = 10 from rfl] at k3
          rw [show (q == 32) = false from by simpa using g4, show (((32 : UInt8).toNat : Nat) : Int) = 32 from rfl] at k4
          have k5 : decide ((128 : Int) ≤ q.toNat) = false := by simp; omega
          have hcv := conv_u8 q w1
          have hP := codes_plain [] q a0.data.toList g1 g2 g3 g4 HALL.out.1
          have hA := codes_atom [] [108] a0.data.toList
          have u1 := fun W => run_string_add_sum (P := Tryz.prog) W (⟨#[96]⟩ : ByteArray) (⟨#[q]⟩ : ByteArray) (by show 1 + 1 ≤ _; omega)
          have u2 := fun W => run_string_add_sum (P := Tryz.prog) W ((⟨#[96]⟩ : ByteArray) ++ (⟨#[q]⟩ : ByteArray)) a0 (by rw [ByteArray.size_append]; show 1 + 1 + a0.size ≤ _; omega)
          have u3 := fun W => run_string_add_sum (P := Tryz.prog) W (((⟨#[96]⟩ : ByteArray) ++ (⟨#[q]⟩ : ByteArray)) ++ a0) (⟨#[q]⟩ : ByteArray) (by rw [ByteArray.size_append, ByteArray.size_append]; show 1 + 1 + a0.size + 1 ≤ _; omega)
          have u4 := fun W => run_string_add_sum (P := Tryz.prog) W ((((⟨#[96]⟩ : ByteArray) ++ (⟨#[q]⟩ : ByteArray)) ++ a0) ++ (⟨#[q]⟩ : ByteArray)) (⟨#[96]⟩ : ByteArray) (by rw [ByteArray.size_append, ByteArray.size_append, ByteArray.size_append]; show 1 + 1 + a0.size + 1 + 1 ≤ _; omega)
          have p1 := fun W => run_string_add_sum (P := Tryz.prog) W (⟨#[q]⟩ : ByteArray) a0 (by show 1 + a0.size ≤ _; omega)
          have p2 := fun W => run_string_add_sum (P := Tryz.prog) W ((⟨#[q]⟩ : ByteArray) ++ a0) (⟨#[q]⟩ : ByteArray) (by rw [ByteArray.size_append]; show 1 + a0.size + 1 ≤ _; omega)
          have s1 := fun W => run_string_add_sum (P := Tryz.prog) W (⟨#[97]⟩ : ByteArray) a0 (by show 1 + a0.size ≤ _; omega)
          have s2 := fun W => run_string_add_sum (P := Tryz.prog) W ((⟨#[97]⟩ : ByteArray) ++ a0) (⟨#[98]⟩ : ByteArray) (by rw [ByteArray.size_append]; show 1 + a0.size + 1 ≤ _; omega)
          have hT : (((((⟨#[96]⟩ : ByteArray) ++ (⟨#[q]⟩ : ByteArray)) ++ a0) ++ (⟨#[q]⟩ : ByteArray)) ++ (⟨#[96]⟩ : ByteArray)).data.toList = [96] ++ ((q :: (a0.data.toList ++ [q])) ++ [96]) := by simp
          have hTs : (((((⟨#[96]⟩ : ByteArray) ++ (⟨#[q]⟩ : ByteArray)) ++ a0) ++ (⟨#[q]⟩ : ByteArray)) ++ (⟨#[96]⟩ : ByteArray)).size ≤ 1000 := by rw [ByteArray.size_append, ByteArray.size_append, ByteArray.size_append, ByteArray.size_append]; show 1 + 1 + a0.size + 1 + 1 ≤ _; omega
          have hS1 : (⟨(q :: (a0.data.toList ++ [q])).toArray⟩ : ByteArray) = ((⟨#[q]⟩ : ByteArray) ++ a0) ++ (⟨#[q]⟩ : ByteArray) := by rw [show q :: (a0.data.toList ++ [q]) = (((⟨#[q]⟩ : ByteArray) ++ a0) ++ (⟨#[q]⟩ : ByteArray)).data.toList from by simp, Lib.mk_data]
          have hS2 : (⟨([97] ++ a0.data.toList ++ [98]).toArray⟩ : ByteArray) = ((⟨#[97]⟩ : ByteArray) ++ a0) ++ (⟨#[98]⟩ : ByteArray) := by rw [show [97] ++ a0.data.toList ++ [98] = (((⟨#[97]⟩ : ByteArray) ++ a0) ++ (⟨#[98]⟩ : ByteArray)).data.toList from by simp, Lib.mk_data]
          generalize ((((⟨#[96]⟩ : ByteArray) ++ (⟨#[q]⟩ : ByteArray)) ++ a0) ++ (⟨#[q]⟩ : ByteArray)) ++ (⟨#[96]⟩ : ByteArray) = T4 at *
          generalize (((⟨#[96]⟩ : ByteArray) ++ (⟨#[q]⟩ : ByteArray)) ++ a0) ++ (⟨#[q]⟩ : ByteArray) = T3 at *
          generalize ((⟨#[96]⟩ : ByteArray) ++ (⟨#[q]⟩ : ByteArray)) ++ a0 = T2 at *
          generalize (⟨#[96]⟩ : ByteArray) ++ (⟨#[q]⟩ : ByteArray) = T1 at *
          generalize ((⟨#[q]⟩ : ByteArray) ++ a0) ++ (⟨#[q]⟩ : ByteArray) = P2 at *
          generalize (⟨#[q]⟩ : ByteArray) ++ a0 = P1 at *
          generalize ((⟨#[97]⟩ : ByteArray) ++ a0) ++ (⟨#[98]⟩ : ByteArray) = S2 at *
          generalize (⟨#[97]⟩ : ByteArray) ++ a0 = S1 at *
          rw [← hT] at hP
          have HP := Lib.hid (And.intro hP (And.intro hA (And.intro hS1 hS2)))
          clear hP hA hT hS1 hS2 g1 g2 g3 g4 hs
          go_wp2_with fail
          have HB2 := Lib.hid (HB1.out.alloc HB1.out.size (.cells #[.int .u8 q.toNat] 5))
          generalize w1.alloc (.cells #[.int .u8 q.toNat] 5) = w2 at *
          refine (raw_any T4 w2 (H7.out.below HB2.out) hTs).mono ?_
          rintro e w3 ⟨⟨v1, rfl, hv1⟩, b3⟩
          rw [HP.out.1] at hv1
          have HV1 := Lib.hid hv1
          have HB3 := Lib.hid (HB2.out.then b3)
          clear hv1 b3
          go_wp2_with fail
          have HV1' := Lib.hid (HV1.out.below ((Below.refl _ w3).alloc (Nat.le_refl _) (.cells #[.string ⟨#[108]⟩, .string a0] 48)))
          have HB4 := Lib.hid (HB3.out.alloc HB3.out.size (.cells #[.string ⟨#[108]⟩, .string a0] 48))
          have hat := atms_one (heap_alloc_new w3 (.cells #[.string ⟨#[108]⟩, .string a0] 48))
          have hsl : a0.data.toList.length ≤ 30 := by rw [size_len']; exact hz0
          generalize w3.alloc (.cells #[.string ⟨#[108]⟩, .string a0] 48) = w4 at *
          refine (parse_atm (s := ⟨#[96, 97, 0, 48, 0, 98, 96]⟩) (D := []) (Or.inl ⟨rfl, rfl⟩) (H7.out.below HB4.out) (by simp) (by decide) hat (by simp) (M := 30) (by omega) (by intro a ha; simp at ha; subst ha; exact hsl) rfl (by decide)).mono ?_
          rintro e w5 ⟨⟨v2, rfl, hv2⟩, b5⟩
          have hv2' : NdAt w5 v2 [⟨2, 0, [97] ++ a0.data.toList ++ [98], [], []⟩] := by rw [← HP.out.2.1]; exact hv2
          have hv1 := HV1'.out.below b5
          have HB5 := Lib.hid (HB4.out.then b5)
          obtain ⟨bb1, o1, k1', rfl, hl1, c0, c1, c2, c3, c4⟩ := hv1.one
          obtain ⟨bb2, o2, k2', rfl, hl2, d0, d1, d2, d3, d4⟩ := hv2'.one
          dsimp only at c0 c1 c2 c3 c4 d0 d1 d2 d3 d4
          rw [HP.out.2.2.1] at c2
          rw [HP.out.2.2.2] at d2
          clear hv1 hv2 hv2' hat b5 HP HV1 HV1'
          go_wp2
          go_ret
          exact ⟨ret_bool (by simp), HB5.out⟩
end Go.Proofs.YtfbaknkmpilllaaGreatDoor
