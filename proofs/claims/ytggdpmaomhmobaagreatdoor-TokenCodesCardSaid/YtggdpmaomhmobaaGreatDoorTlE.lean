/-
  The laws of the layer token: TokenEntities: its walk.
-/
import Derived.Test.YtggdpmaomhmobaaGreatDoorTlB
import Derived.Test.YtggdpmaomhmobaaGreatDoorTkM
import Derived.LoopN
namespace Go.Proofs.YtggdpmaomhmobaaGreatDoor
open Go.RowKit
set_option linter.unusedSimpArgs false
set_option linter.unusedVariables false
set_option maxRecDepth 100000

/-- The token at the beginning. -/
theorem next_at0 (s : ByteArray) (h0 : 0 < s.size) (hs : s.size ≤ 4000000000) {t : Tk} {n : Nat} (h : nextL s.data.toList = (t, n)) (w : World) (hw : TkW w) :
    Calls Tryz.prog 15 #[.string s, .int .i64 0] w fun e w' => e = .returned (.tuple #[tkV t, .int .i64 n]) ∧ Below w.heap.size w w' := by
  have c := next_any s 0 h0 w hw hs
  rw [List.drop_zero, h] at c
  simp only at c
  rw [show ((0 : Nat) : Int) + (n : Int) = n from by omega] at c
  exact c
def LowRel (s : ByteArray) (v : Value) : Prop := ∃ k : Nat, v = .int .i64 k ∧ k ≤ s.size ∧ ∀ b ∈ s.data.toList.take k, lowB b = true
theorem low_yes {b : UInt8} (h : lowB b = true) : 97 ≤ (b.toNat : Int) ∧ (b.toNat : Int) ≤ 122 := (inR_iff _ _ _).1 h
theorem low_no {b : UInt8} (h : lowB b = false) : (b.toNat : Int) < 97 ∨ 122 < (b.toNat : Int) := by have := (inR_f _ _ _).1 h; omega
theorem cat_ent (a b : ByteArray) : (((⟨#[38]⟩ : ByteArray) ++ a) ++ (⟨#[59]⟩ : ByteArray) ++ b).data.toList = 38 :: (a.data.toList ++ 59 :: b.data.toList) := by simp
theorem cat_ent_size (a b : ByteArray) : (((⟨#[38]⟩ : ByteArray) ++ a) ++ (⟨#[59]⟩ : ByteArray) ++ b).size = a.size + b.size + 2 := by
  rw [ByteArray.size_append, ByteArray.size_append, ByteArray.size_append]; show 1 + a.size + 1 + b.size = _; omega

set_option maxHeartbeats 8000000 in
theorem tokenEntities_walk (w : World) (h7 : TkW w) (a0 : ByteArray) (w0 : a0.size ≤ maxLen) (a1 : ByteArray) (w1 : a1.size ≤ maxLen) :
    Calls Tryz.prog 10 #[.string a0, .string a1] w fun e w' => e = .returned (.bool true) ∧ Below w.heap.size w w' := by
  have CA := Lib.hid (alive12_any w h7)
  have H7 := Lib.hid h7
  unfold maxLen at w0 w1
  clear h7
  by_cases hz : 10 < a0.size ∨ 20 < a1.size
  · have hcase : 10 < a0.size ∨ (a0.size ≤ 10 ∧ 20 < a1.size) := by omega
    clear hz
    rcases hcase with h1 | ⟨h1, h2⟩ <;>
    · go_enter Tryz.func10, Tryz.ntmps10
      go_wp2_with fail
      refine CA.out.mono ?_
      rintro e w1 ⟨rfl, b1⟩
      go_wp2
      go_ret
      exact ⟨rfl, b1⟩
  · have hz0 : a0.size ≤ 10 := by omega
    have hz1 : a1.size ≤ 20 := by omega
    clear hz
    go_enter Tryz.func10, Tryz.ntmps10
    go_wp2_with fail
    refine CA.out.mono ?_
    rintro e w1 ⟨rfl, b1⟩
    have HB1 := Lib.hid (b1.alloc b1.size (.cells #[.string a0, .string a1] 9))
    clear b1
    go_wp2_with fail
    refine wp_loop_rounds 3 ?_
    rw [rounds_succ]
    go_wp2_with fail
    go_loop [7] (fun v => LowRel a0 v) (fun v => a0.size - (intOf v).toNat)
    case atStart => exact ⟨0, rfl, Nat.zero_le _, by simp⟩
    case round =>
      obtain ⟨k, rfl, hk, hall⟩ := hrel
      by_cases hlt : k < a0.size
      · cases hb : lowB a0[k] with
        | true =>
          have HA := Lib.hid (take_mem a0 k hlt lowB hall hb)
          obtain ⟨g1, g2⟩ := low_yes hb
          clear hb hall
          go_wp2
          all_goals first
            | exact ⟨⟨k + 1, by go_num, by omega, HA.out⟩, by simp only [intOf]; omega⟩
            | (go_round
               case rel => exact ⟨k + 1, by go_num, by omega, HA.out⟩
               case measure => simp [intOf]; omega)
        | false =>
          have g := low_no hb
          clear hb hall
          rcases g with g | g
          · go_wp2
            go_ret
            exact ⟨rfl, HB1.out⟩
          · have g1 : decide ((a0[k].toNat : Int) < 97) = false := by simp; omega
            have g2 : (97 : Int) ≤ a0[k].toNat := by omega
            go_wp2
            go_ret
            exact ⟨rfl, HB1.out⟩
      · obtain rfl : k = a0.size := by omega
        rw [List.take_of_length_le (by rw [size_len']; exact Nat.le_refl _)] at hall
        have HA0 := Lib.hid hall
        clear hall
        go_wp2_with fail
        rw [rounds_succ]
        go_wp2_with fail
        go_loop [7] (fun v => LowRel a1 v) (fun v => a1.size - (intOf v).toNat)
        case atStart => exact ⟨0, rfl, Nat.zero_le _, by simp⟩
        case round =>
          obtain ⟨k, rfl, hk, hall⟩ := hrel
          by_cases hlt : k < a1.size
          · cases hb : lowB a1[k] with
            | true =>
              have HA := Lib.hid (take_mem a1 k hlt lowB hall hb)
              obtain ⟨g1, g2⟩ := low_yes hb
              clear hb hall
              go_wp2
              all_goals first
                | exact ⟨⟨k + 1, by go_num, by omega, HA.out⟩, by simp only [intOf]; omega⟩
                | (go_round
                   case rel => exact ⟨k + 1, by go_num, by omega, HA.out⟩
                   case measure => simp [intOf]; omega)
            | false =>
              have g := low_no hb
              clear hb hall
              rcases g with g | g
              · go_wp2
                go_ret
                exact ⟨rfl, HB1.out⟩
              · have g1 : decide ((a1[k].toNat : Int) < 97) = false := by simp; omega
                have g2 : (97 : Int) ≤ a1[k].toNat := by omega
                go_wp2
                go_ret
                exact ⟨rfl, HB1.out⟩
          · obtain rfl : k = a1.size := by omega
            rw [List.take_of_length_le (by rw [size_len']; exact Nat.le_refl _)] at hall
            have HA1 := Lib.hid hall
            clear hall
            have r1 := fun W => run_string_add_sum (P := Tryz.prog) W (⟨#[38]⟩ : ByteArray) a0 (by show 1 + a0.size ≤ _; omega)
            have r2 := fun W => run_string_add_sum (P := Tryz.prog) W ((⟨#[38]⟩ : ByteArray) ++ a0) (⟨#[59]⟩ : ByteArray) (by rw [ByteArray.size_append]; show 1 + a0.size + 1 ≤ _; omega)
            have r3 := fun W => run_string_add_sum (P := Tryz.prog) W (((⟨#[38]⟩ : ByteArray) ++ a0) ++ (⟨#[59]⟩ : ByteArray)) a1 (by rw [ByteArray.size_append, ByteArray.size_append]; show 1 + a0.size + 1 + a1.size ≤ _; omega)
            have hT := cat_ent a0 a1
            have hTs := cat_ent_size a0 a1
            have cn := fun W (h : TkW W) => named_any a0 W h.1
            unfold namedR at cn
            generalize (((⟨#[38]⟩ : ByteArray) ++ a0) ++ (⟨#[59]⟩ : ByteArray)) ++ a1 = T at *
            cases hl : lookL a0.data.toList with
            | some t =>
              rw [hl] at cn
              simp only at cn
              have hne := next_entity a0.data.toList a1.data.toList t HA0.out hl
              rw [← hT] at hne
              have c1 := fun W h => next_at0 T (by omega) (by omega) hne W h
              have hn : ((a0.data.toList.length + 2 : Nat) : Int) = (a0.size : Int) + 2 := by rw [size_len']; omega
              rw [hn] at c1
              have ct := fun W => tok_word t W
              generalize tkV (.word t) = v at *
              unfold tokV at ct
              simp only [kindV, textTk, urlTk, numTk] at ct
              generalize (⟨t.toArray⟩ : ByteArray) = X at *
              have C1 := Lib.hid c1
              have CN := Lib.hid cn
              have CT := Lib.hid ct
              clear c1 cn ct hne hn hl hT hTs
              go_wp2_with fail
              rw [rounds_succ]
              go_wp2_with fail
              refine (CN.out _ (H7.out.below HB1.out)).mono ?_
              rintro e w2 ⟨rfl, b2⟩
              have HB2 := Lib.hid (HB1.out.then b2)
              clear b2
              go_wp2_with fail
              refine (C1.out _ (H7.out.below HB2.out)).mono ?_
              rintro e w3 ⟨rfl, b3⟩
              have HB3 := Lib.hid (HB2.out.then b3)
              clear b3
              go_wp2_with fail
              refine (CT.out _).mono ?_
              rintro e w4 ⟨rfl, b4⟩
              have HB4 := Lib.hid (HB3.out.then b4)
              clear b4
              go_wp2
              go_ret
              exact ⟨ret_bool (by simp), HB4.out⟩
            | none =>
              rw [hl] at cn
              simp only at cn
              have hne := next_entity_no a0.data.toList a1.data.toList HA0.out HA1.out hl
              rw [← hT] at hne
              have c1 := fun W h => next_at0 T (by omega) (by omega) hne W h
              have hn : ((a0.data.toList.length + a1.data.toList.length + 2 : Nat) : Int) = (a0.size : Int) + (a1.size : Int) + 2 := by rw [size_len', size_len']; omega
              rw [hn] at c1
              have ct := fun W => tok_word T.data.toList W
              generalize tkV (.word T.data.toList) = v at *
              unfold tokV at ct
              simp only [kindV, textTk, urlTk, numTk] at ct
              rw [Lib.mk_data] at ct
              have C1 := Lib.hid c1
              have CN := Lib.hid cn
              have CT := Lib.hid ct
              clear c1 cn ct hne hn hl hT hTs
              go_wp2_with fail
              rw [rounds_succ]
              go_wp2_with fail
              refine (CN.out _ (H7.out.below HB1.out)).mono ?_
              rintro e w2 ⟨rfl, b2⟩
              have HB2 := Lib.hid (HB1.out.then b2)
              clear b2
              go_wp2_with fail
              refine (C1.out _ (H7.out.below HB2.out)).mono ?_
              rintro e w3 ⟨rfl, b3⟩
              have HB3 := Lib.hid (HB2.out.then b3)
              clear b3
              go_wp2_with fail
              refine (CT.out _).mono ?_
              rintro e w4 ⟨rfl, b4⟩
              have HB4 := Lib.hid (HB3.out.then b4)
              clear b4
              go_wp2
              go_ret
              exact ⟨ret_bool (by simp), HB4.out⟩

end Go.Proofs.YtggdpmaomhmobaaGreatDoor
