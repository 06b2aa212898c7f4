/-
  The laws of the layer token: TokenAutos: its walk.
-/
import Derived.Test.YtggdpmaomhmobaaGreatDoorTlE
namespace Go.Proofs.YtggdpmaomhmobaaGreatDoor
open Go.RowKit
set_option linter.unusedSimpArgs false
set_option linter.unusedVariables false
set_option maxRecDepth 100000

theorem kindV_nat (t : Tk) : kindV t = (kindTk t : Int) := by cases t <;> rfl
theorem empty_of (a : ByteArray) (h : a.size = 0) : a = ⟨#[]⟩ := by
  have : a.data.toList = [] := List.length_eq_zero_iff.1 (by rw [size_len']; exact h)
  rw [← Lib.mk_data a, this]

set_option maxHeartbeats 8000000 in
theorem tokenAutos_walk (w : World) (h7 : TkW w) (a0 : ByteArray) (w0 : a0.size ≤ maxLen) (a1 : ByteArray) (w1 : a1.size ≤ maxLen) (a2 : Bool) :
    Calls Tryz.prog 8 #[.string a0, .string a1, .bool a2] w fun e w' => e = .returned (.bool true) ∧ Below w.heap.size w w' := by
  have CA := Lib.hid (alive12_any w h7)
  have H7 := Lib.hid h7
  unfold maxLen at w0 w1
  clear h7
  by_cases hz : a0.size < 2 ∨ 20 < a0.size ∨ a1.size = 0 ∨ 20 < a1.size
  · have hcase : a0.size < 2 ∨ (2 ≤ a0.size ∧ 20 < a0.size) ∨ (2 ≤ a0.size ∧ a0.size ≤ 20 ∧ a1.size = 0) ∨ (2 ≤ a0.size ∧ a0.size ≤ 20 ∧ 0 < a1.size ∧ 20 < a1.size) := by omega
    clear hz
    rcases hcase with h1 | ⟨h1, h2⟩ | ⟨h1, h2, h3⟩ | ⟨h1, h2, h3, h4⟩
    · go_enter Tryz.func8, Tryz.ntmps8
      go_wp2_with fail
      refine CA.out.mono ?_
      rintro e w1 ⟨rfl, b1⟩
      go_wp2
      go_ret
      exact ⟨rfl, b1⟩
    · go_enter Tryz.func8, Tryz.ntmps8
      go_wp2_with fail
      refine CA.out.mono ?_
      rintro e w1 ⟨rfl, b1⟩
      go_wp2
      go_ret
      exact ⟨rfl, b1⟩
    · obtain rfl := empty_of a1 h3
      clear h3 w1
      go_enter Tryz.func8, Tryz.ntmps8
      go_wp2_with fail
      refine CA.out.mono ?_
      rintro e w1 ⟨rfl, b1⟩
      go_wp2
      go_ret
      exact ⟨rfl, b1⟩
    · have e1 := toList_ne h3
      have e2 := toList_empty h3
      go_enter Tryz.func8, Tryz.ntmps8
      go_wp2_with fail
      refine CA.out.mono ?_
      rintro e w1 ⟨rfl, b1⟩
      go_wp2
      go_ret
      exact ⟨rfl, b1⟩
  · have hz0 : a0.size ≤ 20 := by omega
    have hz1 : a1.size ≤ 20 := by omega
    have hz2 : 2 ≤ a0.size := by omega
    have hz3 : 0 < a1.size := by omega
    have e1 := toList_ne hz3
    have e2 := toList_empty hz3
    clear hz
    go_enter Tryz.func8, Tryz.ntmps8
    go_wp2_with fail
    refine CA.out.mono ?_
    rintro e w1 ⟨rfl, b1⟩
    have HB1 := Lib.hid (b1.alloc b1.size (.cells #[.string a0, .string a1] 9))
    clear b1
    go_wp2_with fail
    clear e1 e2
    refine wp_loop_rounds 3 ?_
    rw [rounds_succ]
    go_wp2_with fail
    go_loop [9] (fun v => LowRel a0 v) (fun v => a0.size - (intOf v).toNat)
    case atStart => exact ⟨0, rfl, Nat.zero_le _, by simp⟩
    case round =>
      obtain ⟨k, rfl, hk, hall⟩ := hrel
      by_cases hlt : k < a0.size
      · cases hb : lowB a0[k] with
        | true =>
          have HA := Lib.hid (take_mem a0 k hlt lowB hall hb)
          obtain ⟨g1, g2⟩ := low_yes hb
          clear hb hall
          go_wp2
          all_goals first
            | exact ⟨⟨k + 1, by go_num, by omega, HA.out⟩, by simp only [intOf]; omega⟩
            | (go_round
               case rel => exact ⟨k + 1, by go_num, by omega, HA.out⟩
               case measure => simp [intOf]; omega)
        | false =>
          have g := low_no hb
          clear hb hall
          rcases g with g | g
          · go_wp2
            go_ret
            exact ⟨rfl, HB1.out⟩
          · have g1 : decide ((a0[k].toNat : Int) < 97) = false := by simp; omega
            have g2 : (97 : Int) ≤ a0[k].toNat := by omega
            go_wp2
            go_ret
            exact ⟨rfl, HB1.out⟩
      · obtain rfl : k = a0.size := by omega
        rw [List.take_of_length_le (by rw [size_len']; exact Nat.le_refl _)] at hall
        have HA_a0 := Lib.hid hall
        clear hall
        go_wp2_with fail
        rw [rounds_succ]
        go_wp2_with fail
        go_loop [9] (fun v => LowRel a1 v) (fun v => a1.size - (intOf v).toNat)
        case atStart => exact ⟨0, rfl, Nat.zero_le _, by simp⟩
        case round =>
          obtain ⟨k, rfl, hk, hall⟩ := hrel
          by_cases hlt : k < a1.size
          · cases hb : lowB a1[k] with
            | true =>
              have HA := Lib.hid (take_mem a1 k hlt lowB hall hb)
              obtain ⟨g1, g2⟩ := low_yes hb
              clear hb hall
              go_wp2
              all_goals first
                | exact ⟨⟨k + 1, by go_num, by omega, HA.out⟩, by simp only [intOf]; omega⟩
                | (go_round
                   case rel => exact ⟨k + 1, by go_num, by omega, HA.out⟩
                   case measure => simp [intOf]; omega)
            | false =>
              have g := low_no hb
              clear hb hall
              rcases g with g | g
              · go_wp2
                go_ret
                exact ⟨rfl, HB1.out⟩
              · have g1 : decide ((a1[k].toNat : Int) < 97) = false := by simp; omega
                have g2 : (97 : Int) ≤ a1[k].toNat := by omega
                go_wp2
                go_ret
                exact ⟨rfl, HB1.out⟩
          · obtain rfl : k = a1.size := by omega
            rw [List.take_of_length_le (by rw [size_len']; exact Nat.le_refl _)] at hall
            have HA_a1 := Lib.hid hall
            clear hall
            cases a2 with
            | false =>
              have u1 := fun W => run_string_add_sum (P := Tryz.prog) W a0 (⟨#[58]⟩ : ByteArray) (by show a0.size + 1 ≤ _; omega)
              have u2 := fun W => run_string_add_sum (P := Tryz.prog) W (a0 ++ (⟨#[58]⟩ : ByteArray)) a1 (by rw [ByteArray.size_append]; show a0.size + 1 + a1.size ≤ _; omega)
              have hS : ((a0 ++ (⟨#[58]⟩ : ByteArray)) ++ a1).data.toList = a0.data.toList ++ 58 :: a1.data.toList := by simp
              have hSs : ((a0 ++ (⟨#[58]⟩ : ByteArray)) ++ a1).size = a0.size + 1 + a1.size := by rw [ByteArray.size_append, ByteArray.size_append]; rfl
              generalize (a0 ++ (⟨#[58]⟩ : ByteArray)) ++ a1 = S at *
              have hSb : S.size ≤ 100 := by omega
              have hS2 : (⟨(a0.data.toList ++ 58 :: a1.data.toList).toArray⟩ : ByteArray) = S := by rw [← hS, Lib.mk_data]
              have u6 := fun W => run_string_add_sum (P := Tryz.prog) W (⟨#[60]⟩ : ByteArray) S (by show 1 + S.size ≤ _; omega)
              have u7 := fun W => run_string_add_sum (P := Tryz.prog) W ((⟨#[60]⟩ : ByteArray) ++ S) (⟨#[62, 120]⟩ : ByteArray) (by rw [ByteArray.size_append]; show 1 + S.size + 2 ≤ _; omega)
              have u8 := fun W => run_string_add_sum (P := Tryz.prog) W ((⟨#[60]⟩ : ByteArray) ++ S) (⟨#[32, 120, 62]⟩ : ByteArray) (by rw [ByteArray.size_append]; show 1 + S.size + 3 ≤ _; omega)
              have hV : (((⟨#[60]⟩ : ByteArray) ++ S) ++ (⟨#[62, 120]⟩ : ByteArray)).data.toList = 60 :: (a0.data.toList ++ 58 :: (a1.data.toList ++ 62 :: [120])) := by simp [hS]
              have hVs : (((⟨#[60]⟩ : ByteArray) ++ S) ++ (⟨#[62, 120]⟩ : ByteArray)).size = S.size + 3 := by rw [ByteArray.size_append, ByteArray.size_append]; show 1 + S.size + 2 = _; omega
              have hW : (((⟨#[60]⟩ : ByteArray) ++ S) ++ (⟨#[32, 120, 62]⟩ : ByteArray)).data.toList = 60 :: (a0.data.toList ++ 58 :: (a1.data.toList ++ 32 :: [120, 62])) := by simp [hS]
              have hWs : (((⟨#[60]⟩ : ByteArray) ++ S) ++ (⟨#[32, 120, 62]⟩ : ByteArray)).size = S.size + 4 := by rw [ByteArray.size_append, ByteArray.size_append]; show 1 + S.size + 3 = _; omega
              generalize ((⟨#[60]⟩ : ByteArray) ++ S) ++ (⟨#[62, 120]⟩ : ByteArray) = T1 at *
              generalize ((⟨#[60]⟩ : ByteArray) ++ S) ++ (⟨#[32, 120, 62]⟩ : ByteArray) = T2 at *
              generalize (⟨#[60]⟩ : ByteArray) ++ S = S0 at *
              have hn1 := next_url a0.data.toList a1.data.toList [120] (by rw [size_len']; omega) (by rw [size_len']; omega) HA_a0.out HA_a1.out
              have hn2 := no_url a0.data.toList a1.data.toList [120, 62] (by rw [size_len']; omega) (by rw [size_len']; omega) HA_a0.out HA_a1.out
              rw [← hV] at hn1
              rw [← hW] at hn2
              have c1 := fun W h => next_at0 T1 (by omega) (by omega) hn1 W h
              have hn3 : ((a0.data.toList.length + 1 + a1.data.toList.length + 2 : Nat) : Int) = (S.size : Int) + 2 := by rw [size_len', size_len', hSs]; omega
              rw [hn3] at c1
              have hno := next_ne T2.data.toList
              have c2 := fun W h => next_at0 T2 (by omega) (by omega) (show nextL T2.data.toList = ((nextL T2.data.toList).1, (nextL T2.data.toList).2) from rfl) W h
              generalize (nextL T2.data.toList).1 = t2 at *
              generalize (nextL T2.data.toList).2 = m2 at *
              have ct := fun W => tok_auto (a0.data.toList ++ 58 :: a1.data.toList) (a0.data.toList ++ 58 :: a1.data.toList) W
              have ct2 := fun W => tok_any hno W
              have hk2 : (kindV t2 != 97) = true := by rw [kindV_nat, bne_iff_ne]; intro e; exact hn2 (by omega)
              generalize tkV (.auto (a0.data.toList ++ 58 :: a1.data.toList) (a0.data.toList ++ 58 :: a1.data.toList)) = v at *
              generalize tkV t2 = v2 at *
              unfold tokV at ct ct2
              generalize kindV t2 = kd at *
              generalize numTk t2 = nm at *
              simp only [kindV, textTk, urlTk, numTk] at ct
              rw [hS2] at ct
              generalize (⟨(textTk t2).toArray⟩ : ByteArray) = x2 at *
              generalize (⟨(urlTk t2).toArray⟩ : ByteArray) = x3 at *
              have q0 := fun a b c d W => tokF0 a b c d W
              have C1 := Lib.hid c1
              have C2 := Lib.hid c2
              have CT := Lib.hid ct
              have CT2 := Lib.hid ct2
              clear c1 c2 ct ct2 hn1 hn2 hn3 hno hV hVs hW hWs hS hS2 hSs
              go_wp2_with fail
              rw [rounds_succ]
              go_wp2_with fail
              refine (C1.out _ (H7.out.below HB1.out)).mono ?_
              rintro e w2 ⟨rfl, b2⟩
              have HB2 := Lib.hid (HB1.out.then b2)
              clear b2
              go_wp2_with fail
              refine (C2.out _ (H7.out.below HB2.out)).mono ?_
              rintro e w3 ⟨rfl, b3⟩
              have HB3 := Lib.hid (HB2.out.then b3)
              clear b3
              go_wp2_with fail
              refine (CT.out _).mono ?_
              rintro e w4 ⟨rfl, b4⟩
              have HB4 := Lib.hid (HB3.out.then b4)
              clear b4
              go_wp2_with fail
              refine (CT2.out _).mono ?_
              rintro e w5 ⟨rfl, b5⟩
              have HB5 := Lib.hid (HB4.out.then b5)
              clear b5
              go_wp2
              go_ret
              exact ⟨ret_bool (by simp), HB5.out⟩
            | true =>
              have u1 := fun W => run_string_add_sum (P := Tryz.prog) W a0 (⟨#[58]⟩ : ByteArray) (by show a0.size + 1 ≤ _; omega)
              have u2 := fun W => run_string_add_sum (P := Tryz.prog) W (a0 ++ (⟨#[58]⟩ : ByteArray)) a1 (by rw [ByteArray.size_append]; show a0.size + 1 + a1.size ≤ _; omega)
              have u3 := fun W => run_string_add_sum (P := Tryz.prog) W a0 (⟨#[64]⟩ : ByteArray) (by show a0.size + 1 ≤ _; omega)
              have u4 := fun W => run_string_add_sum (P := Tryz.prog) W (a0 ++ (⟨#[64]⟩ : ByteArray)) a1 (by rw [ByteArray.size_append]; show a0.size + 1 + a1.size ≤ _; omega)
              have hS : ((a0 ++ (⟨#[64]⟩ : ByteArray)) ++ a1).data.toList = a0.data.toList ++ 64 :: a1.data.toList := by simp
              have hSs : ((a0 ++ (⟨#[64]⟩ : ByteArray)) ++ a1).size = a0.size + 1 + a1.size := by rw [ByteArray.size_append, ByteArray.size_append]; rfl
              generalize (a0 ++ (⟨#[64]⟩ : ByteArray)) ++ a1 = S at *
              have hSb : S.size ≤ 100 := by omega
              have hS2 : (⟨(a0.data.toList ++ 64 :: a1.data.toList).toArray⟩ : ByteArray) = S := by rw [← hS, Lib.mk_data]
              have u5 := fun W => run_string_add_sum (P := Tryz.prog) W (⟨#[109, 97, 105, 108, 116, 111, 58]⟩ : ByteArray) S (by show 7 + S.size ≤ _; omega)
              have hU : (⟨(tkMailto ++ (a0.data.toList ++ 64 :: a1.data.toList)).toArray⟩ : ByteArray) = (⟨#[109, 97, 105, 108, 116, 111, 58]⟩ : ByteArray) ++ S := by
                rw [← hS, show (⟨#[109, 97, 105, 108, 116, 111, 58]⟩ : ByteArray) = ⟨tkMailto.toArray⟩ from rfl, str_append]
              generalize (⟨#[109, 97, 105, 108, 116, 111, 58]⟩ : ByteArray) ++ S = U at *
              have u6 := fun W => run_string_add_sum (P := Tryz.prog) W (⟨#[60]⟩ : ByteArray) S (by show 1 + S.size ≤ _; omega)
              have u7 := fun W => run_string_add_sum (P := Tryz.prog) W ((⟨#[60]⟩ : ByteArray) ++ S) (⟨#[62, 120]⟩ : ByteArray) (by rw [ByteArray.size_append]; show 1 + S.size + 2 ≤ _; omega)
              have u8 := fun W => run_string_add_sum (P := Tryz.prog) W ((⟨#[60]⟩ : ByteArray) ++ S) (⟨#[32, 120, 62]⟩ : ByteArray) (by rw [ByteArray.size_append]; show 1 + S.size + 3 ≤ _; omega)
              have hV : (((⟨#[60]⟩ : ByteArray) ++ S) ++ (⟨#[62, 120]⟩ : ByteArray)).data.toList = 60 :: (a0.data.toList ++ 64 :: (a1.data.toList ++ 62 :: [120])) := by simp [hS]
              have hVs : (((⟨#[60]⟩ : ByteArray) ++ S) ++ (⟨#[62, 120]⟩ : ByteArray)).size = S.size + 3 := by rw [ByteArray.size_append, ByteArray.size_append]; show 1 + S.size + 2 = _; omega
              have hW : (((⟨#[60]⟩ : ByteArray) ++ S) ++ (⟨#[32, 120, 62]⟩ : ByteArray)).data.toList = 60 :: (a0.data.toList ++ 64 :: (a1.data.toList ++ 32 :: [120, 62])) := by simp [hS]
              have hWs : (((⟨#[60]⟩ : ByteArray) ++ S) ++ (⟨#[32, 120, 62]⟩ : ByteArray)).size = S.size + 4 := by rw [ByteArray.size_append, ByteArray.size_append]; show 1 + S.size + 3 = _; omega
              generalize ((⟨#[60]⟩ : ByteArray) ++ S) ++ (⟨#[62, 120]⟩ : ByteArray) = T1 at *
              generalize ((⟨#[60]⟩ : ByteArray) ++ S) ++ (⟨#[32, 120, 62]⟩ : ByteArray) = T2 at *
              generalize (⟨#[60]⟩ : ByteArray) ++ S = S0 at *
              have hn1 := next_mail a0.data.toList a1.data.toList [120] (by intro e; have := size_len' a0; rw [e] at this; simp at this; omega) (by intro e; have := size_len' a1; rw [e] at this; simp at this; omega) HA_a0.out HA_a1.out
              have hn2 := no_mailto a0.data.toList a1.data.toList [120, 62] (by intro e; have := size_len' a0; rw [e] at this; simp at this; omega) (by intro e; have := size_len' a1; rw [e] at this; simp at this; omega) HA_a0.out HA_a1.out
              rw [← hV] at hn1
              rw [← hW] at hn2
              have c1 := fun W h => next_at0 T1 (by omega) (by omega) hn1 W h
              have hn3 : ((a0.data.toList.length + 1 + a1.data.toList.length + 2 : Nat) : Int) = (S.size : Int) + 2 := by rw [size_len', size_len', hSs]; omega
              rw [hn3] at c1
              have hno := next_ne T2.data.toList
              have c2 := fun W h => next_at0 T2 (by omega) (by omega) (show nextL T2.data.toList = ((nextL T2.data.toList).1, (nextL T2.data.toList).2) from rfl) W h
              generalize (nextL T2.data.toList).1 = t2 at *
              generalize (nextL T2.data.toList).2 = m2 at *
              have ct := fun W => tok_auto (tkMailto ++ (a0.data.toList ++ 64 :: a1.data.toList)) (a0.data.toList ++ 64 :: a1.data.toList) W
              have ct2 := fun W => tok_any hno W
              have hk2 : (kindV t2 != 97) = true := by rw [kindV_nat, bne_iff_ne]; intro e; exact hn2 (by omega)
              generalize tkV (.auto (tkMailto ++ (a0.data.toList ++ 64 :: a1.data.toList)) (a0.data.toList ++ 64 :: a1.data.toList)) = v at *
              generalize tkV t2 = v2 at *
              unfold tokV at ct ct2
              generalize kindV t2 = kd at *
              generalize numTk t2 = nm at *
              simp only [kindV, textTk, urlTk, numTk] at ct
              rw [hS2, hU] at ct
              generalize (⟨(textTk t2).toArray⟩ : ByteArray) = x2 at *
              generalize (⟨(urlTk t2).toArray⟩ : ByteArray) = x3 at *
              have q0 := fun a b c d W => tokF0 a b c d W
              have C1 := Lib.hid c1
              have C2 := Lib.hid c2
              have CT := Lib.hid ct
              have CT2 := Lib.hid ct2
              clear c1 c2 ct ct2 hn1 hn2 hn3 hno hV hVs hW hWs hS hS2 hSs hU
              go_wp2_with fail
              rw [rounds_succ]
              go_wp2_with fail
              refine (C1.out _ (H7.out.below HB1.out)).mono ?_
              rintro e w2 ⟨rfl, b2⟩
              have HB2 := Lib.hid (HB1.out.then b2)
              clear b2
              go_wp2_with fail
              refine (C2.out _ (H7.out.below HB2.out)).mono ?_
              rintro e w3 ⟨rfl, b3⟩
              have HB3 := Lib.hid (HB2.out.then b3)
              clear b3
              go_wp2_with fail
              refine (CT.out _).mono ?_
              rintro e w4 ⟨rfl, b4⟩
              have HB4 := Lib.hid (HB3.out.then b4)
              clear b4
              go_wp2_with fail
              refine (CT2.out _).mono ?_
              rintro e w5 ⟨rfl, b5⟩
              have HB5 := Lib.hid (HB4.out.then b5)
              clear b5
              go_wp2
              go_ret
              exact ⟨ret_bool (by simp), HB5.out⟩

end Go.Proofs.YtggdpmaomhmobaaGreatDoor
