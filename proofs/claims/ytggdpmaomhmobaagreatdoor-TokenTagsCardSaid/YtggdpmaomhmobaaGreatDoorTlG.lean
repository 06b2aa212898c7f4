/-
  The laws of the layer token: TokenTags: its walk.
-/
import Derived.Test.YtggdpmaomhmobaaGreatDoorTlF
namespace Go.Proofs.YtggdpmaomhmobaaGreatDoor
open Go.RowKit
set_option linter.unusedSimpArgs false
set_option linter.unusedVariables false
set_option maxRecDepth 100000

def TagRel (s : ByteArray) (v : Value) : Prop := ∃ k : Nat, v = .int .i64 k ∧ k ≤ s.size ∧ ∀ b ∈ s.data.toList.take k, tkInTag b = true
theorem inTag_yes {b : UInt8} (h : tkInTag b = true) : ((b.toNat : Int) == 60) = false ∧ ((b.toNat : Int) == 62) = false ∧ ((b.toNat : Int) == 0) = false := by
  unfold tkInTag tkInTagI at h
  simp only [Bool.and_eq_true, bne_iff_ne, ne_eq] at h
  refine ⟨?_, ?_, ?_⟩ <;> (rw [beq_eq_false_iff_ne]; omega)
theorem inTag_no {b : UInt8} (h : tkInTag b = false) : ((b.toNat : Int) == 60) = true ∨ (((b.toNat : Int) == 60) = false ∧ ((b.toNat : Int) == 62) = true) ∨ (((b.toNat : Int) == 60) = false ∧ ((b.toNat : Int) == 62) = false ∧ ((b.toNat : Int) == 0) = true) := by
  unfold tkInTag tkInTagI at h
  rw [show (((b.toNat : Int) != 60)) = !((b.toNat : Int) == 60) from rfl, show (((b.toNat : Int) != 62)) = !((b.toNat : Int) == 62) from rfl, show (((b.toNat : Int) != 0)) = !((b.toNat : Int) == 0) from rfl] at h
  cases h1 : ((b.toNat : Int) == 60) <;> cases h2 : ((b.toNat : Int) == 62) <;> cases h3 : ((b.toNat : Int) == 0) <;> rw [h1, h2, h3] at h <;> simp_all

set_option maxHeartbeats 8000000 in
theorem tokenTags_walk (w : World) (h7 : TkW w) (a0 : ByteArray) (w0 : a0.size ≤ maxLen) (a1 : ByteArray) (w1 : a1.size ≤ maxLen) (a2 : Bool) :
    Calls Tryz.prog 9 #[.string a0, .string a1, .bool a2] w fun e w' => e = .returned (.bool true) ∧ Below w.heap.size w w' := by
  have CA := Lib.hid (alive12_any w h7)
  have H7 := Lib.hid h7
  unfold maxLen at w0 w1
  clear h7
  by_cases hz : a0.size = 0 ∨ 20 < a0.size ∨ 30 < a1.size
  · have hcase : a0.size = 0 ∨ (0 < a0.size ∧ 20 < a0.size) ∨ (0 < a0.size ∧ a0.size ≤ 20 ∧ 30 < a1.size) := by omega
    clear hz
    rcases hcase with h1 | ⟨h1, h2⟩ | ⟨h1, h2, h3⟩
    · obtain rfl := empty_of a0 h1
      clear h1 w0
      go_enter Tryz.func9, Tryz.ntmps9
      go_wp2_with fail
      refine CA.out.mono ?_
      rintro e w1 ⟨rfl, b1⟩
      go_wp2
      go_ret
      exact ⟨rfl, b1⟩
    · have e1 := toList_ne h1
      have e2 := toList_empty h1
      go_enter Tryz.func9, Tryz.ntmps9
      go_wp2_with fail
      refine CA.out.mono ?_
      rintro e w1 ⟨rfl, b1⟩
      go_wp2
      go_ret
      exact ⟨rfl, b1⟩
    · have e1 := toList_ne h1
      have e2 := toList_empty h1
      go_enter Tryz.func9, Tryz.ntmps9
      go_wp2_with fail
      refine CA.out.mono ?_
      rintro e w1 ⟨rfl, b1⟩
      go_wp2
      go_ret
      exact ⟨rfl, b1⟩
  · have hz0 : a0.size ≤ 20 := by omega
    have hz1 : a1.size ≤ 30 := by omega
    have hz3 : 0 < a0.size := by omega
    have e1 := toList_ne hz3
    have e2 := toList_empty hz3
    clear hz
    go_enter Tryz.func9, Tryz.ntmps9
    go_wp2_with fail
    refine CA.out.mono ?_
    rintro e w1 ⟨rfl, b1⟩
    have HB1 := Lib.hid b1
    clear b1
    go_wp2_with fail
    clear e1 e2
    go_loop [7] (fun v => LowRel a0 v) (fun v => a0.size - (intOf v).toNat)
    case atStart => exact ⟨0, rfl, Nat.zero_le _, by simp⟩
    case round =>
      obtain ⟨k, rfl, hk, hall⟩ := hrel
      by_cases hlt : k < a0.size
      · cases hb : lowB a0[k] with
        | true =>
          have HA := Lib.hid (take_mem a0 k hlt lowB hall hb)
          obtain ⟨g1, g2⟩ := low_yes hb
          clear hb hall
          go_wp2
          all_goals first
            | exact ⟨⟨k + 1, by go_num, by omega, HA.out⟩, by simp only [intOf]; omega⟩
            | (go_round
               case rel => exact ⟨k + 1, by go_num, by omega, HA.out⟩
               case measure => simp [intOf]; omega)
        | false =>
          have g := low_no hb
          clear hb hall
          rcases g with g | g
          · go_wp2
            go_ret
            exact ⟨rfl, HB1.out⟩
          · have g1 : decide ((a0[k].toNat : Int) < 97) = false := by simp; omega
            have g2 : (97 : Int) ≤ a0[k].toNat := by omega
            go_wp2
            go_ret
            exact ⟨rfl, HB1.out⟩
      · obtain rfl : k = a0.size := by omega
        rw [List.take_of_length_le (by rw [size_len']; exact Nat.le_refl _)] at hall
        have HA_a0 := Lib.hid hall
        clear hall
        go_wp2_with fail
        go_loop [8] (fun v => TagRel a1 v) (fun v => a1.size - (intOf v).toNat)
        case atStart => exact ⟨0, rfl, Nat.zero_le _, by simp⟩
        case round =>
          obtain ⟨k, rfl, hk, hall⟩ := hrel
          by_cases hlt : k < a1.size
          · cases hb : tkInTag a1[k] with
            | true =>
              have HA := Lib.hid (take_mem a1 k hlt tkInTag hall hb)
              obtain ⟨g1, g2, g3⟩ := inTag_yes hb
              clear hb hall
              go_wp2
              all_goals first
                | exact ⟨⟨k + 1, by go_num, by omega, HA.out⟩, by simp only [intOf]; omega⟩
                | (go_round
                   case rel => exact ⟨k + 1, by go_num, by omega, HA.out⟩
                   case measure => simp [intOf]; omega)
            | false =>
              have g := inTag_no hb
              clear hb hall
              rcases g with g | ⟨g, g2⟩ | ⟨g, g2, g3⟩
              · go_wp2
                go_ret
                exact ⟨rfl, HB1.out⟩
              · go_wp2
                go_ret
                exact ⟨rfl, HB1.out⟩
              · go_wp2
                go_ret
                exact ⟨rfl, HB1.out⟩
          · obtain rfl : k = a1.size := by omega
            rw [List.take_of_length_le (by rw [size_len']; exact Nat.le_refl _)] at hall
            have HA_a1 := Lib.hid hall
            clear hall
            cases a2 with
            | false =>
              have u1 := fun W => run_string_add_sum (P := Tryz.prog) W (⟨#[60]⟩ : ByteArray) a0 (by show 1 + a0.size ≤ _; omega)
              have hS : ((⟨#[60]⟩ : ByteArray) ++ a0).data.toList = 60 :: (tagBeg false ++ a0.data.toList) := by simp [tagBeg]
              have hSs : ((⟨#[60]⟩ : ByteArray) ++ a0).size = 1 + a0.size := by rw [ByteArray.size_append]; rfl
              generalize (⟨#[60]⟩ : ByteArray) ++ a0 = S at *
              have hSb : S.size ≤ 100 := by omega
              have u2 := fun W => run_string_add_sum (P := Tryz.prog) W S (⟨#[32]⟩ : ByteArray) (by show S.size + 1 ≤ _; omega)
              have u3 := fun W => run_string_add_sum (P := Tryz.prog) W (S ++ (⟨#[32]⟩ : ByteArray)) a1 (by rw [ByteArray.size_append]; show S.size + 1 + a1.size ≤ _; omega)
              have u4 := fun W => run_string_add_sum (P := Tryz.prog) W ((S ++ (⟨#[32]⟩ : ByteArray)) ++ a1) (⟨#[62, 120]⟩ : ByteArray) (by rw [ByteArray.size_append, ByteArray.size_append]; show S.size + 1 + a1.size + 2 ≤ _; omega)
              have u5 := fun W => run_string_add_sum (P := Tryz.prog) W S (⟨#[62]⟩ : ByteArray) (by show S.size + 1 ≤ _; omega)
              have u6 := fun W => run_string_add_sum (P := Tryz.prog) W ((S ++ (⟨#[32]⟩ : ByteArray)) ++ a1) (⟨#[62]⟩ : ByteArray) (by rw [ByteArray.size_append, ByteArray.size_append]; show S.size + 1 + a1.size + 1 ≤ _; omega)
              have hV : (((S ++ (⟨#[32]⟩ : ByteArray)) ++ a1) ++ (⟨#[62, 120]⟩ : ByteArray)).data.toList = 60 :: (tagBeg false ++ (a0.data.toList ++ 32 :: (a1.data.toList ++ 62 :: [120]))) := by simp [hS]
              have hVs : (((S ++ (⟨#[32]⟩ : ByteArray)) ++ a1) ++ (⟨#[62, 120]⟩ : ByteArray)).size = S.size + a1.size + 3 := by rw [ByteArray.size_append, ByteArray.size_append, ByteArray.size_append]; show S.size + 1 + a1.size + 2 = _; omega
              have hW : (S ++ (⟨#[62]⟩ : ByteArray)).data.toList = 60 :: (tagBeg false ++ (a0.data.toList ++ [62])) := by simp [hS]
              have hWs : (S ++ (⟨#[62]⟩ : ByteArray)).size = S.size + 1 := by rw [ByteArray.size_append]; rfl
              have hX : ((S ++ (⟨#[32]⟩ : ByteArray)) ++ a1).data.toList = 60 :: (tagBeg false ++ (a0.data.toList ++ 32 :: a1.data.toList)) := by simp [hS]
              have hXs : ((S ++ (⟨#[32]⟩ : ByteArray)) ++ a1).size = S.size + 1 + a1.size := by rw [ByteArray.size_append, ByteArray.size_append]; rfl
              have hY : (⟨(60 :: (tagBeg false ++ (a0.data.toList ++ 32 :: (a1.data.toList ++ [62])))).toArray⟩ : ByteArray) = ((S ++ (⟨#[32]⟩ : ByteArray)) ++ a1) ++ (⟨#[62]⟩ : ByteArray) := by
                rw [show 60 :: (tagBeg false ++ (a0.data.toList ++ 32 :: (a1.data.toList ++ [62]))) = (((S ++ (⟨#[32]⟩ : ByteArray)) ++ a1) ++ (⟨#[62]⟩ : ByteArray)).data.toList from by simp [hS], Lib.mk_data]
              have hZ : (⟨(60 :: (tagBeg false ++ (a0.data.toList ++ [62]))).toArray⟩ : ByteArray) = S ++ (⟨#[62]⟩ : ByteArray) := by rw [← hW, Lib.mk_data]
              generalize ((S ++ (⟨#[32]⟩ : ByteArray)) ++ a1) ++ (⟨#[62, 120]⟩ : ByteArray) = T1 at *
              generalize ((S ++ (⟨#[32]⟩ : ByteArray)) ++ a1) ++ (⟨#[62]⟩ : ByteArray) = T4 at *
              generalize (S ++ (⟨#[32]⟩ : ByteArray)) ++ a1 = T3 at *
              generalize S ++ (⟨#[62]⟩ : ByteArray) = T2 at *
              generalize S ++ (⟨#[32]⟩ : ByteArray) = S1 at *
              have hne : a0.data.toList ≠ [] := by intro e; have := size_len' a0; rw [e] at this; simp at this; omega
              have hn1 := next_tag false a0.data.toList a1.data.toList [120] hne HA_a0.out HA_a1.out
              have hn2 := next_tag0 false a0.data.toList hne HA_a0.out
              have hn3 := next_tag_no false a0.data.toList a1.data.toList hne HA_a0.out HA_a1.out
              rw [← hV] at hn1
              rw [← hW] at hn2
              rw [← hX] at hn3
              have c1 := fun W h => next_at0 T1 (by omega) (by omega) hn1 W h
              have c2 := fun W h => next_at0 T2 (by omega) (by omega) hn2 W h
              have hm1 : ((1 + (tagBeg false).length + a0.data.toList.length + a1.data.toList.length + 2 : Nat) : Int) = (S.size : Int) + (a1.size : Int) + 2 := by rw [size_len', size_len', hSs, show (tagBeg false).length = 0 from rfl]; omega
              have hm2 : ((1 + (tagBeg false).length + a0.data.toList.length + 1 : Nat) : Int) = (S.size : Int) + 1 := by rw [size_len', hSs, show (tagBeg false).length = 0 from rfl]; omega
              rw [hm1] at c1
              rw [hm2] at c2
              have hno := next_ne T3.data.toList
              have c3 := fun W h => next_at0 T3 (by omega) (by omega) (show nextL T3.data.toList = ((nextL T3.data.toList).1, (nextL T3.data.toList).2) from rfl) W h
              generalize (nextL T3.data.toList).1 = t3 at *
              generalize (nextL T3.data.toList).2 = m3 at *
              have ct1 := fun W => tok_tag (60 :: (tagBeg false ++ (a0.data.toList ++ 32 :: (a1.data.toList ++ [62])))) W
              have ct2 := fun W => tok_tag T2.data.toList W
              have ct3 := fun W => tok_any hno W
              have hk3 : ((kindV t3 : Int) == 119) = true := by rw [kindV_nat, hn3]; rfl
              generalize tkV (.tag (60 :: (tagBeg false ++ (a0.data.toList ++ 32 :: (a1.data.toList ++ [62]))))) = v1 at *
              generalize tkV (.tag T2.data.toList) = v2 at *
              generalize tkV t3 = v3 at *
              unfold tokV at ct1 ct2 ct3
              generalize kindV t3 = kd at *
              generalize numTk t3 = nm at *
              simp only [kindV, textTk, urlTk, numTk] at ct1 ct2
              rw [hY] at ct1
              rw [Lib.mk_data] at ct2
              generalize (⟨(textTk t3).toArray⟩ : ByteArray) = x2 at *
              generalize (⟨(urlTk t3).toArray⟩ : ByteArray) = x3 at *
              have q0 := fun a b c d W => tokF0 a b c d W
              have C1 := Lib.hid c1
              have C2 := Lib.hid c2
              have C3 := Lib.hid c3
              have CT1 := Lib.hid ct1
              have CT2 := Lib.hid ct2
              have CT3 := Lib.hid ct3
              clear c1 c2 c3 ct1 ct2 ct3 hn1 hn2 hn3 hm1 hm2 hno hV hVs hW hWs hX hXs hY hZ hS hSs hne
              go_wp2_with fail
              refine (C1.out _ (H7.out.below HB1.out)).mono ?_
              rintro e w2 ⟨rfl, b2⟩
              have HB2 := Lib.hid (HB1.out.then b2)
              clear b2
              go_wp2_with fail
              refine (C2.out _ (H7.out.below HB2.out)).mono ?_
              rintro e w3 ⟨rfl, b3⟩
              have HB3 := Lib.hid (HB2.out.then b3)
              clear b3
              go_wp2_with fail
              refine (C3.out _ (H7.out.below HB3.out)).mono ?_
              rintro e w4 ⟨rfl, b4⟩
              have HB4 := Lib.hid (HB3.out.then b4)
              clear b4
              go_wp2_with fail
              refine (CT1.out _).mono ?_
              rintro e w5 ⟨rfl, b5⟩
              have HB5 := Lib.hid (HB4.out.then b5)
              clear b5
              go_wp2_with fail
              refine (CT2.out _).mono ?_
              rintro e w6 ⟨rfl, b6⟩
              have HB6 := Lib.hid (HB5.out.then b6)
              clear b6
              go_wp2_with fail
              refine (CT3.out _).mono ?_
              rintro e w7 ⟨rfl, b7⟩
              have HB7 := Lib.hid (HB6.out.then b7)
              clear b7
              go_wp2
              go_ret
              exact ⟨ret_bool (by simp), HB7.out⟩
            | true =>
              have u0 := fun W => run_string_add_sum (P := Tryz.prog) W (⟨#[60]⟩ : ByteArray) (⟨#[47]⟩ : ByteArray) (by show 1 + 1 ≤ _; omega)
              rw [show (⟨#[60]⟩ : ByteArray) ++ (⟨#[47]⟩ : ByteArray) = ⟨#[60, 47]⟩ from rfl] at u0
              have u1 := fun W => run_string_add_sum (P := Tryz.prog) W (⟨#[60, 47]⟩ : ByteArray) a0 (by show 2 + a0.size ≤ _; omega)
              have hS : ((⟨#[60, 47]⟩ : ByteArray) ++ a0).data.toList = 60 :: (tagBeg true ++ a0.data.toList) := by simp [tagBeg]
              have hSs : ((⟨#[60, 47]⟩ : ByteArray) ++ a0).size = 2 + a0.size := by rw [ByteArray.size_append]; rfl
              generalize (⟨#[60, 47]⟩ : ByteArray) ++ a0 = S at *
              have hSb : S.size ≤ 100 := by omega
              have u2 := fun W => run_string_add_sum (P := Tryz.prog) W S (⟨#[32]⟩ : ByteArray) (by show S.size + 1 ≤ _; omega)
              have u3 := fun W => run_string_add_sum (P := Tryz.prog) W (S ++ (⟨#[32]⟩ : ByteArray)) a1 (by rw [ByteArray.size_append]; show S.size + 1 + a1.size ≤ _; omega)
              have u4 := fun W => run_string_add_sum (P := Tryz.prog) W ((S ++ (⟨#[32]⟩ : ByteArray)) ++ a1) (⟨#[62, 120]⟩ : ByteArray) (by rw [ByteArray.size_append, ByteArray.size_append]; show S.size + 1 + a1.size + 2 ≤ _; omega)
              have u5 := fun W => run_string_add_sum (P := Tryz.prog) W S (⟨#[62]⟩ : ByteArray) (by show S.size + 1 ≤ _; omega)
              have u6 := fun W => run_string_add_sum (P := Tryz.prog) W ((S ++ (⟨#[32]⟩ : ByteArray)) ++ a1) (⟨#[62]⟩ : ByteArray) (by rw [ByteArray.size_append, ByteArray.size_append]; show S.size + 1 + a1.size + 1 ≤ _; omega)
              have hV : (((S ++ (⟨#[32]⟩ : ByteArray)) ++ a1) ++ (⟨#[62, 120]⟩ : ByteArray)).data.toList = 60 :: (tagBeg true ++ (a0.data.toList ++ 32 :: (a1.data.toList ++ 62 :: [120]))) := by simp [hS]
              have hVs : (((S ++ (⟨#[32]⟩ : ByteArray)) ++ a1) ++ (⟨#[62, 120]⟩ : ByteArray)).size = S.size + a1.size + 3 := by rw [ByteArray.size_append, ByteArray.size_append, ByteArray.size_append]; show S.size + 1 + a1.size + 2 = _; omega
              have hW : (S ++ (⟨#[62]⟩ : ByteArray)).data.toList = 60 :: (tagBeg true ++ (a0.data.toList ++ [62])) := by simp [hS]
              have hWs : (S ++ (⟨#[62]⟩ : ByteArray)).size = S.size + 1 := by rw [ByteArray.size_append]; rfl
              have hX : ((S ++ (⟨#[32]⟩ : ByteArray)) ++ a1).data.toList = 60 :: (tagBeg true ++ (a0.data.toList ++ 32 :: a1.data.toList)) := by simp [hS]
              have hXs : ((S ++ (⟨#[32]⟩ : ByteArray)) ++ a1).size = S.size + 1 + a1.size := by rw [ByteArray.size_append, ByteArray.size_append]; rfl
              have hY : (⟨(60 :: (tagBeg true ++ (a0.data.toList ++ 32 :: (a1.data.toList ++ [62])))).toArray⟩ : ByteArray) = ((S ++ (⟨#[32]⟩ : ByteArray)) ++ a1) ++ (⟨#[62]⟩ : ByteArray) := by
                rw [show 60 :: (tagBeg true ++ (a0.data.toList ++ 32 :: (a1.data.toList ++ [62]))) = (((S ++ (⟨#[32]⟩ : ByteArray)) ++ a1) ++ (⟨#[62]⟩ : ByteArray)).data.toList from by simp [hS], Lib.mk_data]
              have hZ : (⟨(60 :: (tagBeg true ++ (a0.data.toList ++ [62]))).toArray⟩ : ByteArray) = S ++ (⟨#[62]⟩ : ByteArray) := by rw [← hW, Lib.mk_data]
              generalize ((S ++ (⟨#[32]⟩ : ByteArray)) ++ a1) ++ (⟨#[62, 120]⟩ : ByteArray) = T1 at *
              generalize ((S ++ (⟨#[32]⟩ : ByteArray)) ++ a1) ++ (⟨#[62]⟩ : ByteArray) = T4 at *
              generalize (S ++ (⟨#[32]⟩ : ByteArray)) ++ a1 = T3 at *
              generalize S ++ (⟨#[62]⟩ : ByteArray) = T2 at *
              generalize S ++ (⟨#[32]⟩ : ByteArray) = S1 at *
              have hne : a0.data.toList ≠ [] := by intro e; have := size_len' a0; rw [e] at this; simp at this; omega
              have hn1 := next_tag true a0.data.toList a1.data.toList [120] hne HA_a0.out HA_a1.out
              have hn2 := next_tag0 true a0.data.toList hne HA_a0.out
              have hn3 := next_tag_no true a0.data.toList a1.data.toList hne HA_a0.out HA_a1.out
              rw [← hV] at hn1
              rw [← hW] at hn2
              rw [← hX] at hn3
              have c1 := fun W h => next_at0 T1 (by omega) (by omega) hn1 W h
              have c2 := fun W h => next_at0 T2 (by omega) (by omega) hn2 W h
              have hm1 : ((1 + (tagBeg true).length + a0.data.toList.length + a1.data.toList.length + 2 : Nat) : Int) = (S.size : Int) + (a1.size : Int) + 2 := by rw [size_len', size_len', hSs, show (tagBeg true).length = 1 from rfl]; omega
              have hm2 : ((1 + (tagBeg true).length + a0.data.toList.length + 1 : Nat) : Int) = (S.size : Int) + 1 := by rw [size_len', hSs, show (tagBeg true).length = 1 from rfl]; omega
              rw [hm1] at c1
              rw [hm2] at c2
              have hno := next_ne T3.data.toList
              have c3 := fun W h => next_at0 T3 (by omega) (by omega) (show nextL T3.data.toList = ((nextL T3.data.toList).1, (nextL T3.data.toList).2) from rfl) W h
              generalize (nextL T3.data.toList).1 = t3 at *
              generalize (nextL T3.data.toList).2 = m3 at *
              have ct1 := fun W => tok_tag (60 :: (tagBeg true ++ (a0.data.toList ++ 32 :: (a1.data.toList ++ [62])))) W
              have ct2 := fun W => tok_tag T2.data.toList W
              have ct3 := fun W => tok_any hno W
              have hk3 : ((kindV t3 : Int) == 119) = true := by rw [kindV_nat, hn3]; rfl
              generalize tkV (.tag (60 :: (tagBeg true ++ (a0.data.toList ++ 32 :: (a1.data.toList ++ [62]))))) = v1 at *
              generalize tkV (.tag T2.data.toList) = v2 at *
              generalize tkV t3 = v3 at *
              unfold tokV at ct1 ct2 ct3
              generalize kindV t3 = kd at *
              generalize numTk t3 = nm at *
              simp only [kindV, textTk, urlTk, numTk] at ct1 ct2
              rw [hY] at ct1
              rw [Lib.mk_data] at ct2
              generalize (⟨(textTk t3).toArray⟩ : ByteArray) = x2 at *
              generalize (⟨(urlTk t3).toArray⟩ : ByteArray) = x3 at *
              have q0 := fun a b c d W => tokF0 a b c d W
              have C1 := Lib.hid c1
              have C2 := Lib.hid c2
              have C3 := Lib.hid c3
              have CT1 := Lib.hid ct1
              have CT2 := Lib.hid ct2
              have CT3 := Lib.hid ct3
              clear c1 c2 c3 ct1 ct2 ct3 hn1 hn2 hn3 hm1 hm2 hno hV hVs hW hWs hX hXs hY hZ hS hSs hne
              go_wp2_with fail
              refine (C1.out _ (H7.out.below HB1.out)).mono ?_
              rintro e w2 ⟨rfl, b2⟩
              have HB2 := Lib.hid (HB1.out.then b2)
              clear b2
              go_wp2_with fail
              refine (C2.out _ (H7.out.below HB2.out)).mono ?_
              rintro e w3 ⟨rfl, b3⟩
              have HB3 := Lib.hid (HB2.out.then b3)
              clear b3
              go_wp2_with fail
              refine (C3.out _ (H7.out.below HB3.out)).mono ?_
              rintro e w4 ⟨rfl, b4⟩
              have HB4 := Lib.hid (HB3.out.then b4)
              clear b4
              go_wp2_with fail
              refine (CT1.out _).mono ?_
              rintro e w5 ⟨rfl, b5⟩
              have HB5 := Lib.hid (HB4.out.then b5)
              clear b5
              go_wp2_with fail
              refine (CT2.out _).mono ?_
              rintro e w6 ⟨rfl, b6⟩
              have HB6 := Lib.hid (HB5.out.then b6)
              clear b6
              go_wp2_with fail
              refine (CT3.out _).mono ?_
              rintro e w7 ⟨rfl, b7⟩
              have HB7 := Lib.hid (HB6.out.then b7)
              clear b7
              go_wp2
              go_ret
              exact ⟨ret_bool (by simp), HB7.out⟩

end Go.Proofs.YtggdpmaomhmobaaGreatDoor
