/- Texts joined: IoH. -/
import Derived.Test.YtfbaknkmpilllaaGreatDoorRIoD
import Derived.LoopN
namespace Go.Proofs.YtfbaknkmpilllaaGreatDoor
open Go.RowKit
set_option linter.unusedSimpArgs false
set_option linter.unusedVariables false
set_option maxRecDepth 100000
theorem mod_index (m : Nat) (hm : 0 < m) (hm2 : m < 100) (a : Int) : ∃ j : Nat, j < m ∧ (wrap64 (a.tmod m + m)).tmod m = (j : Int) := by
  have hb : -(m : Int) < a.tmod m ∧ a.tmod m < m := by
    rcases Int.le_total 0 a with h | h
    · rw [Int.tmod_eq_emod_of_nonneg h]
      have := Int.emod_nonneg a (b := m) (by omega)
      have := Int.emod_lt_of_pos a (b := m) (by omega)
      omega
    · have e := Int.neg_tmod (a := -a) (b := m)
      rw [Int.neg_neg, Int.tmod_eq_emod_of_nonneg (a := -a) (by omega)] at e
      have := Int.emod_nonneg (-a) (b := m) (by omega)
      have := Int.emod_lt_of_pos (-a) (b := m) (by omega)
      omega
  have e : wrap64 (a.tmod m + m) = a.tmod m + m := by unfold wrap64; omega
  rw [e, Int.tmod_eq_emod_of_nonneg (by omega)]
  have h1 := Int.emod_nonneg (a.tmod m + m) (b := m) (by omega)
  have h2 := Int.emod_lt_of_pos (a.tmod m + m) (b := m) (by omega)
  exact ⟨((a.tmod m + m) % m).toNat, by omega, by omega⟩
theorem first_rest (s : ByteArray) (h : 0 < s.size) : s.data.toList = s[0] :: s.data.toList.drop 1 := by
  have hl : 0 < s.data.toList.length := by simpa using h
  have := List.drop_eq_getElem_cons hl
  rw [List.drop_zero] at this
  exact this
theorem small_up (c : UInt8) (h : lowB c = true) : ∃ d : UInt8, d.toNat + 32 = c.toNat ∧ (65 ≤ d.toNat ∧ d.toNat ≤ 90) ∧ ((c.toNat : Int) - 32).toNat.toUInt8 = d ∧ IntKind.u8.wrap ((c.toNat : Int) - 32) = (c.toNat : Int) - 32 := by
  have hr := low_yes h
  refine ⟨((c.toNat : Int) - 32).toNat.toUInt8, ?_, ?_, rfl, ?_⟩
  · rw [Nat.toUInt8_eq, UInt8.toNat_ofNat']; omega
  · rw [Nat.toUInt8_eq, UInt8.toNat_ofNat']; omega
  · show ((c.toNat : Int) - 32) % 256 = _; omega
set_option maxHeartbeats 16000000 in
theorem inlineNames_walk (w : World) (h7 : TkW w) (a0 : ByteArray) (w0 : a0.size ≤ maxLen) (a1 : ByteArray) (w1 : a1.size ≤ maxLen) (a2 : Bool) (a3 : Int) (w3 : (Lit.int .i64 a3).wf = true) :
    Calls Tryz.prog 6 #[.string a0, .string a1, .bool a2, .int .i64 a3] w fun e w' => e = .returned (.bool true) ∧ Below w.heap.size w w' := by
  have CA := Lib.hid (alive15_any w h7)
  have H7 := Lib.hid h7
  unfold maxLen at w0 w1
  clear h7
  by_cases hz : a0.size = 0 ∨ 20 < a0.size ∨ a1.size = 0 ∨ 20 < a1.size ∨ (a0.toList == a1.toList) = true
  · have hcase : a0.size = 0 ∨ (0 < a0.size ∧ 20 < a0.size) ∨ (0 < a0.size ∧ a0.size ≤ 20 ∧ a1.size = 0) ∨ (0 < a0.size ∧ a0.size ≤ 20 ∧ 0 < a1.size ∧ 20 < a1.size) ∨ (0 < a0.size ∧ a0.size ≤ 20 ∧ 0 < a1.size ∧ a1.size ≤ 20 ∧ (a0.toList == a1.toList) = true) := by
      rcases hz with h | h | h | h | h <;> (try omega)
      by_cases q1 : a0.size = 0
      · omega
      · by_cases q2 : 20 < a0.size
        · omega
        · by_cases q3 : a1.size = 0
          · omega
          · by_cases q4 : 20 < a1.size
            · omega
            · exact .inr (.inr (.inr (.inr ⟨by omega, by omega, by omega, by omega, h⟩)))
    clear hz
    rcases hcase with h1 | ⟨h1, h2⟩ | ⟨h1, h2, h3⟩ | ⟨h1, h2, h3, h4⟩ | ⟨h1, h2, h3, h4, h5⟩
    · obtain rfl := tlEmpty_of a0 h1
      clear h1 w0
      go_enter Tryz.func6, Tryz.ntmps6
      go_wp2_with fail
      refine CA.out.mono ?_
      rintro e w1 ⟨rfl, b1⟩
      go_wp2
      go_ret
      exact ⟨rfl, b1⟩
    · have e1 := toList_ne h1
      have e2 := toList_empty h1
      go_enter Tryz.func6, Tryz.ntmps6
      go_wp2_with fail
      refine CA.out.mono ?_
      rintro e w1 ⟨rfl, b1⟩
      go_wp2
      go_ret
      exact ⟨rfl, b1⟩
    · have e1 := toList_ne h1
      have e2 := toList_empty h1
      obtain rfl := tlEmpty_of a1 h3
      clear h3 w1
      go_enter Tryz.func6, Tryz.ntmps6
      go_wp2_with fail
      refine CA.out.mono ?_
      rintro e w1 ⟨rfl, b1⟩
      go_wp2
      go_ret
      exact ⟨rfl, b1⟩
    · have e1 := toList_ne h1
      have e2 := toList_empty h1
      have e3 := toList_ne h3
      have e4 := toList_empty h3
      go_enter Tryz.func6, Tryz.ntmps6
      go_wp2_with fail
      refine CA.out.mono ?_
      rintro e w1 ⟨rfl, b1⟩
      go_wp2
      go_ret
      exact ⟨rfl, b1⟩
    · have e1 := toList_ne h1
      have e2 := toList_empty h1
      have e3 := toList_ne h3
      have e4 := toList_empty h3
      go_enter Tryz.func6, Tryz.ntmps6
      go_wp2_with fail
      refine CA.out.mono ?_
      rintro e w1 ⟨rfl, b1⟩
      go_wp2
      go_ret
      exact ⟨rfl, b1⟩
  · have hz0 : a0.size ≤ 20 := by omega
    have hz1 : a1.size ≤ 20 := by omega
    have hz2 : 0 < a0.size := by omega
    have hz3 : 0 < a1.size := by omega
    have hne : (a0.toList == a1.toList) = false := by
      cases h : (a0.toList == a1.toList) with
      | false => rfl
      | true => exact absurd (.inr (.inr (.inr (.inr h)))) hz
    have e1 := toList_ne hz2
    have e2 := toList_empty hz2
    have e3 := toList_ne hz3
    have e4 := toList_empty hz3
    clear hz
    go_enter Tryz.func6, Tryz.ntmps6
    go_wp2_with fail
    refine CA.out.mono ?_
    rintro e w1 ⟨rfl, b1⟩
    have HB1 := Lib.hid (b1.alloc b1.size (.cells #[.string a0, .string a1] 9))
    clear b1
    go_wp2_with fail
    clear e1 e2 e3 e4 hne
    refine wp_loop_rounds 3 ?_
    rw [rounds_succ]
    go_wp2_with fail
    go_loop [11] (fun v => TlLowRel a0 v) (fun v => a0.size - (intOf v).toNat)
    case atStart => exact ⟨0, rfl, Nat.zero_le _, by simp⟩
    case round =>
      obtain ⟨k, rfl, hk, hall⟩ := hrel
      by_cases hlt : k < a0.size
      · cases hb : lowB a0[k] with
        | true =>
          have HA := Lib.hid (take_mem a0 k hlt lowB hall hb)
          obtain ⟨g1, g2⟩ := low_yes hb
          clear hb hall
          go_wp2
          all_goals first
            | exact ⟨⟨k + 1, by go_num, by omega, HA.out⟩, by simp only [intOf]; omega⟩
            | (go_round
               case rel => exact ⟨k + 1, by go_num, by omega, HA.out⟩
               case measure => simp [intOf]; omega)
        | false =>
          have g := low_no hb
          clear hb hall
          rcases g with g | g
          · go_wp2
            go_ret
            exact ⟨rfl, HB1.out⟩
          · have g1 : decide ((a0[k].toNat : Int) < 97) = false := by simp; omega
            have g2 : (97 : Int) ≤ a0[k].toNat := by omega
            go_wp2
            go_ret
            exact ⟨rfl, HB1.out⟩
      · obtain rfl : k = a0.size := by omega
        rw [List.take_of_length_le (by rw [size_len']; exact Nat.le_refl _)] at hall
        have HA_a0 := Lib.hid hall
        clear hall
        go_wp2_with fail
        rw [rounds_succ]
        go_wp2_with fail
        go_loop [11] (fun v => TlLowRel a1 v) (fun v => a1.size - (intOf v).toNat)
        case atStart => exact ⟨0, rfl, Nat.zero_le _, by simp⟩
        case round =>
          obtain ⟨k, rfl, hk, hall⟩ := hrel
          by_cases hlt : k < a1.size
          · cases hb : lowB a1[k] with
            | true =>
              have HA := Lib.hid (take_mem a1 k hlt lowB hall hb)
              obtain ⟨g1, g2⟩ := low_yes hb
              clear hb hall
              go_wp2
              all_goals first
                | exact ⟨⟨k + 1, by go_num, by omega, HA.out⟩, by simp only [intOf]; omega⟩
                | (go_round
                   case rel => exact ⟨k + 1, by go_num, by omega, HA.out⟩
                   case measure => simp [intOf]; omega)
            | false =>
              have g := low_no hb
              clear hb hall
              rcases g with g | g
              · go_wp2
                go_ret
                exact ⟨rfl, HB1.out⟩
              · have g1 : decide ((a1[k].toNat : Int) < 97) = false := by simp; omega
                have g2 : (97 : Int) ≤ a1[k].toNat := by omega
                go_wp2
                go_ret
                exact ⟨rfl, HB1.out⟩
          · obtain rfl : k = a1.size := by omega
            rw [List.take_of_length_le (by rw [size_len']; exact Nat.le_refl _)] at hall
            have HA_a1 := Lib.hid hall
            clear hall
            have hct := first_rest a0 hz2
            have hx1 : a1.data.toList ≠ [] := by intro e; have := size_len' a1; rw [e] at this; simp at this; omega
            have hlow := HA_a0.out
            rw [hct] at hlow
            obtain ⟨d, hd1, hd2, hd3, hd4⟩ := small_up a0[0] (hlow _ (by simp))
            have hU : ((⟨#[d]⟩ : ByteArray) ++ a0.extract 1 a0.size).data.toList = d :: a0.data.toList.drop 1 := by
              rw [show ((⟨#[d]⟩ : ByteArray) ++ a0.extract 1 a0.size).data.toList = d :: (a0.extract 1 a0.size).data.toList from by simp, extract_drop]
            have hEs : (a0.extract 1 a0.size).size = a0.size - 1 := by simp
            have hsl := fun W => slice_lo a0 (1 : Int) 1 rfl (by omega) W
            have rU := fun W => run_string_add_sum (P := Tryz.prog) W (⟨#[d]⟩ : ByteArray) (a0.extract 1 a0.size) (by show 1 + (a0.extract 1 a0.size).size ≤ _; omega)
            have hUs : ((⟨#[d]⟩ : ByteArray) ++ a0.extract 1 a0.size).size = a0.size := by rw [ByteArray.size_append]; show 1 + (a0.extract 1 a0.size).size = _; omega
            generalize (⟨#[d]⟩ : ByteArray) ++ a0.extract 1 a0.size = U at *
            generalize a0.extract 1 a0.size = E at *
            have hlr : 97 ≤ (a0[0].toNat : Int) ∧ (a0[0].toNat : Int) ≤ 122 := low_yes (hlow _ (by simp))
            -- the forms
            have p1 := fun W => run_string_add_sum (P := Tryz.prog) W (⟨#[91]⟩ : ByteArray) U (by show 1 + U.size ≤ _; omega)
            have p2 := fun W => run_string_add_sum (P := Tryz.prog) W ((⟨#[91]⟩ : ByteArray) ++ U) (⟨#[93]⟩ : ByteArray) (by rw [ByteArray.size_append]; show 1 + U.size + 1 ≤ _; omega)
            have p3 := fun W => run_string_add_sum (P := Tryz.prog) W ((⟨#[91]⟩ : ByteArray) ++ U) (⟨#[93, 91, 93]⟩ : ByteArray) (by rw [ByteArray.size_append]; show 1 + U.size + 3 ≤ _; omega)
            have q1 := fun W => run_string_add_sum (P := Tryz.prog) W (⟨#[91]⟩ : ByteArray) a1 (by show 1 + a1.size ≤ _; omega)
            have q2 := fun W => run_string_add_sum (P := Tryz.prog) W ((⟨#[91]⟩ : ByteArray) ++ a1) (⟨#[93, 91]⟩ : ByteArray) (by rw [ByteArray.size_append]; show 1 + a1.size + 2 ≤ _; omega)
            have q3 := fun W => run_string_add_sum (P := Tryz.prog) W (((⟨#[91]⟩ : ByteArray) ++ a1) ++ (⟨#[93, 91]⟩ : ByteArray)) U (by rw [ByteArray.size_append, ByteArray.size_append]; show 1 + a1.size + 2 + U.size ≤ _; omega)
            have q4 := fun W => run_string_add_sum (P := Tryz.prog) W ((((⟨#[91]⟩ : ByteArray) ++ a1) ++ (⟨#[93, 91]⟩ : ByteArray)) ++ U) (⟨#[93]⟩ : ByteArray) (by rw [ByteArray.size_append, ByteArray.size_append, ByteArray.size_append]; show 1 + a1.size + 2 + U.size + 1 ≤ _; omega)
            have hT0 : (((⟨#[91]⟩ : ByteArray) ++ U) ++ (⟨#[93]⟩ : ByteArray)).data.toList = 91 :: ((d :: a0.data.toList.drop 1) ++ [93]) := by rw [← hU]; simp
            have hT1 : (((⟨#[91]⟩ : ByteArray) ++ U) ++ (⟨#[93, 91, 93]⟩ : ByteArray)).data.toList = 91 :: ((d :: a0.data.toList.drop 1) ++ 93 :: [91, 93]) := by rw [← hU]; simp
            have hT2 : (((((⟨#[91]⟩ : ByteArray) ++ a1) ++ (⟨#[93, 91]⟩ : ByteArray)) ++ U) ++ (⟨#[93]⟩ : ByteArray)).data.toList = 91 :: (a1.data.toList ++ 93 :: (91 :: ((d :: a0.data.toList.drop 1) ++ [93]))) := by rw [← hU]; simp
            have hS0 : (((⟨#[91]⟩ : ByteArray) ++ U) ++ (⟨#[93]⟩ : ByteArray)).size ≤ 1000 := by rw [ByteArray.size_append, ByteArray.size_append]; show 1 + U.size + 1 ≤ _; omega
            have hS1 : (((⟨#[91]⟩ : ByteArray) ++ U) ++ (⟨#[93, 91, 93]⟩ : ByteArray)).size ≤ 1000 := by rw [ByteArray.size_append, ByteArray.size_append]; show 1 + U.size + 3 ≤ _; omega
            have hS2 : (((((⟨#[91]⟩ : ByteArray) ++ a1) ++ (⟨#[93, 91]⟩ : ByteArray)) ++ U) ++ (⟨#[93]⟩ : ByteArray)).size ≤ 1000 := by rw [ByteArray.size_append, ByteArray.size_append, ByteArray.size_append, ByteArray.size_append]; show 1 + a1.size + 2 + U.size + 1 ≤ _; omega
            generalize ((((⟨#[91]⟩ : ByteArray) ++ a1) ++ (⟨#[93, 91]⟩ : ByteArray)) ++ U) ++ (⟨#[93]⟩ : ByteArray) = T2 at *
            generalize (((⟨#[91]⟩ : ByteArray) ++ a1) ++ (⟨#[93, 91]⟩ : ByteArray)) ++ U = T2c at *
            generalize ((⟨#[91]⟩ : ByteArray) ++ a1) ++ (⟨#[93, 91]⟩ : ByteArray) = T2b at *
            generalize (⟨#[91]⟩ : ByteArray) ++ a1 = T2a at *
            generalize ((⟨#[91]⟩ : ByteArray) ++ U) ++ (⟨#[93, 91, 93]⟩ : ByteArray) = T1 at *
            generalize ((⟨#[91]⟩ : ByteArray) ++ U) ++ (⟨#[93]⟩ : ByteArray) = T0 at *
            generalize (⟨#[91]⟩ : ByteArray) ++ U = T0a at *
            have hko := names_known rawE d a0[0] (a0.data.toList.drop 1) hd2 (by omega) (fun b hb => hlow b (List.mem_cons_of_mem _ hb)) (by rw [← hct, size_len']; exact hz0) [47, 117] [116] a1.data.toList hx1 HA_a1.out
            have hno := names_unknown rawE d (a0.data.toList.drop 1) hd2 (fun b hb => hlow b (List.mem_cons_of_mem _ hb)) a1.data.toList hx1 HA_a1.out
            rw [← hT2, ← hT1, ← hT0, ← hct, ← hU] at hko
            rw [← hT2, ← hT1, ← hT0] at hno
            obtain ⟨f, hf, hff⟩ := mod_index 3 (by omega) (by omega) a3
            have HKO := Lib.hid (And.intro hko hno)
            have HS := Lib.hid (And.intro hS0 (And.intro hS1 hS2))
            have hb2 := HB1.out.alloc HB1.out.size (.cells #[.slice none 0 0, .map none] 40)
            have hti : TableIs ((w1.alloc (.cells #[.string a0, .string a1] 9)).alloc (.cells #[.slice none 0 0, .map none] 40)) w.heap.size (w1.alloc (.cells #[.string a0, .string a1] 9)).heap.size (.slice none 0 0) (.map none) [] := TableIs.new (heap_alloc_new _ _) HB1.out.size
            rw [show (w1.alloc (.cells #[.string a0, .string a1] 9)).heap.size = w1.heap.size + 1 from by simp] at hti
            have HTI := Lib.hid hti
            have HB2 := Lib.hid hb2
            have HFF := Lib.hid (show (wrap64 (a3.tmod 3 + 3)).tmod 3 = (f : Int) from hff)
            have hlen0 : a0.data.toList.length ≤ 20 := by rw [size_len']; exact hz0
            clear hko hno hT0 hT1 hT2 hS0 hS1 hS2 hb2 hti hct hlow hU hUs hEs hx1 hd1 hd2 hff
            cases a2 with
            | false =>
              go_wp2_with fail
              rw [rounds_succ]
              go_wp2_with fail
              have HTA := Lib.hid (show TbAt ((w1.alloc (.cells #[.string a0, .string a1] 9)).alloc (.cells #[.slice none 0 0, .map none] 40)) (.pointer (some ⟨w1.heap.size + 1, 0, none⟩)) [] from Or.inr ⟨_, _, _, _, rfl, HTI.out⟩)
              have HBA := Lib.hid HB2.out
              clear HTI HB2
              generalize (w1.alloc (.cells #[.string a0, .string a1] 9)).alloc (.cells #[.slice none 0 0, .map none] 40) = wA at *
              have HTd := Lib.hid (HTA.out.below (w' := wA.drew) (Below.refl _ wA).drew)
              have HBd := Lib.hid (show Below w.heap.size w wA.drew from HBA.out.drew)
              clear HTA HBA
              refine wp_region_N (fun W => True) (fun n => decide (n < 7)) (by kernel_rfl) ?_
              generalize wA.drew = wd at *
              have hcv := tgConv_byte wd ((a0[0].toNat : Int) - 32) (by omega) (by omega)
              rw [hd3] at hcv
              refine wpAnyN_take_at 0 75 (v := ?_) rfl rfl (by kernel_rfl) (by kernel_rfl) (by kernel_rfl) (by kernel_rfl) (by kernel_rfl) (fun _ _ _ h => h) (by rfl) ?_ trivial ?_
              rotate_left
              · intro W hSw; go_simp; (try with_reducible rfl)
              simp only [Act.put, List.setIfInBounds_toArray, List.set_cons_zero, List.set_cons_succ]
              refine wpAnyN_take_at 1 76 (v := ?_) rfl rfl (by kernel_rfl) (by kernel_rfl) (by kernel_rfl) (by kernel_rfl) (by kernel_rfl) (fun _ _ _ h => h) (by rfl) ?_ trivial ?_
              rotate_left
              · intro W hSw; go_simp; (try with_reducible rfl)
              simp only [Act.put, List.setIfInBounds_toArray, List.set_cons_zero, List.set_cons_succ]
              refine wpAnyN_take_at 2 77 (v := ?_) rfl rfl (by kernel_rfl) (by kernel_rfl) (by kernel_rfl) (by kernel_rfl) (by kernel_rfl) (fun _ _ _ h => h) (by rfl) ?_ trivial ?_
              rotate_left
              · intro W hSw; go_simp; (try with_reducible rfl)
              simp only [Act.put, List.setIfInBounds_toArray, List.set_cons_zero, List.set_cons_succ]
              refine wpAnyN_take_at 5 80 (v := ?_) rfl rfl (by kernel_rfl) (by kernel_rfl) (by kernel_rfl) (by kernel_rfl) (by kernel_rfl) (fun _ _ _ h => h) (by rfl) ?_ trivial ?_
              rotate_left
              · intro W hSw; go_simp; (try with_reducible rfl)
              simp only [Act.put, List.setIfInBounds_toArray, List.set_cons_zero, List.set_cons_succ]
              refine wpAnyN_take_at 6 81 (v := ?_) rfl rfl (by kernel_rfl) (by kernel_rfl) (by kernel_rfl) (by kernel_rfl) (by kernel_rfl) (fun _ _ _ h => h) (by rfl) ?_ trivial ?_
              rotate_left
              · intro W hSw; go_simp; (try with_reducible rfl)
              simp only [Act.put, List.setIfInBounds_toArray, List.set_cons_zero, List.set_cons_succ]
              refine wpAnyN_one (i := 3) rfl (by kernel_rfl) (fun K hK => ?_)
              go_simp
              refine hK _ _ (fun _ => trivial) ?_
              clear hK
              (try simp only [Act.put, List.setIfInBounds_toArray, List.set_cons_zero, List.set_cons_succ])
              refine wpAnyN_one (i := 4) rfl (by kernel_rfl) (fun K hK => ?_)
              go_simp
              refine hK _ _ (fun _ => trivial) ?_
              clear hK
              (try simp only [Act.put, List.setIfInBounds_toArray, List.set_cons_zero, List.set_cons_succ])
              refine wpAnyN_rest 7 [_, _] rfl (by kernel_rfl) (by rfl) ?_
              have HT3 := Lib.hid (HTd.out.below ((Below.refl _ wd).alloc (Nat.le_refl _) (.cells #[.int .u8 ((a0[0].toNat : Int) - 32)] 5)))
              have HB3 := Lib.hid (HBd.out.alloc HBd.out.size (.cells #[.int .u8 ((a0[0].toNat : Int) - 32)] 5))
              clear HTd HBd
              generalize wd.alloc (.cells #[.int .u8 ((a0[0].toNat : Int) - 32)] 5) = w3' at *
              have hfc : f = 0 ∨ f = 1 ∨ f = 2 := by omega
              clear hf hd4 hlr hsl
              rcases hfc with rfl | rfl | rfl
              · have hff := HFF.out
                rw [show ((0 : Nat) : Int) = 0 from rfl] at hff
                clear HFF
                go_wp2_with fail
                refine (parse_raw (s := T0) HT3.out (H7.out.below HB3.out) (by simp) HS.out.1).mono ?_
                rintro e w4 ⟨⟨v, rfl, hv⟩, b4⟩
                have HB4 := Lib.hid (HB3.out.then b4)
                rw [rawI, HKO.out.2.1] at hv
                obtain ⟨bb, o1, k1, rfl, hl1, c0, c1, c2, c3, c4⟩ := hv.one
                simp only [wordsI, Lib.mk_data] at c0 c1 c2 c3 c4
                clear hv b4 HKO HS HT3
                go_wp2
                go_ret
                exact ⟨ret_bool (by simp), HB4.out⟩
              · have hff := HFF.out
                rw [show ((1 : Nat) : Int) = 1 from rfl] at hff
                clear HFF
                go_wp2_with fail
                refine (parse_raw (s := T1) HT3.out (H7.out.below HB3.out) (by simp) HS.out.2.1).mono ?_
                rintro e w4 ⟨⟨v, rfl, hv⟩, b4⟩
                have HB4 := Lib.hid (HB3.out.then b4)
                rw [rawI, HKO.out.2.2.1] at hv
                obtain ⟨bb, o1, k1, rfl, hl1, c0, c1, c2, c3, c4⟩ := hv.one
                simp only [wordsI, Lib.mk_data] at c0 c1 c2 c3 c4
                clear hv b4 HKO HS HT3
                go_wp2
                go_ret
                exact ⟨ret_bool (by simp), HB4.out⟩
              · have hff := HFF.out
                rw [show ((2 : Nat) : Int) = 2 from rfl] at hff
                clear HFF
                go_wp2_with fail
                refine (parse_raw (s := T2) HT3.out (H7.out.below HB3.out) (by simp) HS.out.2.2).mono ?_
                rintro e w4 ⟨⟨v, rfl, hv⟩, b4⟩
                have HB4 := Lib.hid (HB3.out.then b4)
                rw [rawI, HKO.out.2.2.2] at hv
                obtain ⟨bb, o1, k1, rfl, hl1, c0, c1, c2, c3, c4⟩ := hv.one
                simp only [wordsI, Lib.mk_data] at c0 c1 c2 c3 c4
                clear hv b4 HKO HS HT3
                go_wp2
                go_ret
                exact ⟨ret_bool (by simp), HB4.out⟩
            | true =>
              have ca := add_new HB2.out.size HTI.out ⟨a0.data.toList, [47, 117], [116], [], false⟩ (by show a0.data.toList.length ≤ maxLen; unfold maxLen; omega) rfl (by simp)
              unfold dfV' at ca
              simp only [Lib.mk_data] at ca
              have CD := Lib.hid ca
              clear ca
              go_wp2_with fail
              rw [rounds_succ]
              go_wp2_with fail
              refine CD.out.mono ?_
              rintro e wA ⟨rfl, ⟨v', m', hti', _⟩, _, bB⟩
              have HTA := Lib.hid (show TbAt wA (.pointer (some ⟨w1.heap.size + 1, 0, none⟩)) [⟨a0.data.toList, [47, 117], [116], [], false⟩] from Or.inr ⟨_, _, _, _, rfl, hti'⟩)
              have HBA := Lib.hid (HB2.out.trans bB)
              clear hti' bB CD HTI
              have HTd := Lib.hid (HTA.out.below (w' := wA.drew) (Below.refl _ wA).drew)
              have HBd := Lib.hid (show Below w.heap.size w wA.drew from HBA.out.drew)
              clear HTA HBA
              go_wp2_with fail
              refine wp_region_N (fun W => True) (fun n => decide (n < 7)) (by kernel_rfl) ?_
              generalize wA.drew = wd at *
              have hcv := tgConv_byte wd ((a0[0].toNat : Int) - 32) (by omega) (by omega)
              rw [hd3] at hcv
              refine wpAnyN_take_at 0 75 (v := ?_) rfl rfl (by kernel_rfl) (by kernel_rfl) (by kernel_rfl) (by kernel_rfl) (by kernel_rfl) (fun _ _ _ h => h) (by rfl) ?_ trivial ?_
              rotate_left
              · intro W hSw; go_simp; (try with_reducible rfl)
              simp only [Act.put, List.setIfInBounds_toArray, List.set_cons_zero, List.set_cons_succ]
              refine wpAnyN_take_at 1 76 (v := ?_) rfl rfl (by kernel_rfl) (by kernel_rfl) (by kernel_rfl) (by kernel_rfl) (by kernel_rfl) (fun _ _ _ h => h) (by rfl) ?_ trivial ?_
              rotate_left
              · intro W hSw; go_simp; (try with_reducible rfl)
              simp only [Act.put, List.setIfInBounds_toArray, List.set_cons_zero, List.set_cons_succ]
              refine wpAnyN_take_at 2 77 (v := ?_) rfl rfl (by kernel_rfl) (by kernel_rfl) (by kernel_rfl) (by kernel_rfl) (by kernel_rfl) (fun _ _ _ h => h) (by rfl) ?_ trivial ?_
              rotate_left
              · intro W hSw; go_simp; (try with_reducible rfl)
              simp only [Act.put, List.setIfInBounds_toArray, List.set_cons_zero, List.set_cons_succ]
              refine wpAnyN_take_at 5 80 (v := ?_) rfl rfl (by kernel_rfl) (by kernel_rfl) (by kernel_rfl) (by kernel_rfl) (by kernel_rfl) (fun _ _ _ h => h) (by rfl) ?_ trivial ?_
              rotate_left
              · intro W hSw; go_simp; (try with_reducible rfl)
              simp only [Act.put, List.setIfInBounds_toArray, List.set_cons_zero, List.set_cons_succ]
              refine wpAnyN_take_at 6 81 (v := ?_) rfl rfl (by kernel_rfl) (by kernel_rfl) (by kernel_rfl) (by kernel_rfl) (by kernel_rfl) (fun _ _ _ h => h) (by rfl) ?_ trivial ?_
              rotate_left
              · intro W hSw; go_simp; (try with_reducible rfl)
              simp only [Act.put, List.setIfInBounds_toArray, List.set_cons_zero, List.set_cons_succ]
              refine wpAnyN_one (i := 3) rfl (by kernel_rfl) (fun K hK => ?_)
              go_simp
              refine hK _ _ (fun _ => trivial) ?_
              clear hK
              (try simp only [Act.put, List.setIfInBounds_toArray, List.set_cons_zero, List.set_cons_succ])
              refine wpAnyN_one (i := 4) rfl (by kernel_rfl) (fun K hK => ?_)
              go_simp
              refine hK _ _ (fun _ => trivial) ?_
              clear hK
              (try simp only [Act.put, List.setIfInBounds_toArray, List.set_cons_zero, List.set_cons_succ])
              refine wpAnyN_rest 7 [_, _] rfl (by kernel_rfl) (by rfl) ?_
              have HT3 := Lib.hid (HTd.out.below ((Below.refl _ wd).alloc (Nat.le_refl _) (.cells #[.int .u8 ((a0[0].toNat : Int) - 32)] 5)))
              have HB3 := Lib.hid (HBd.out.alloc HBd.out.size (.cells #[.int .u8 ((a0[0].toNat : Int) - 32)] 5))
              clear HTd HBd
              generalize wd.alloc (.cells #[.int .u8 ((a0[0].toNat : Int) - 32)] 5) = w3' at *
              have hfc : f = 0 ∨ f = 1 ∨ f = 2 := by omega
              clear hf hd4 hlr hsl
              rcases hfc with rfl | rfl | rfl
              · have hff := HFF.out
                rw [show ((0 : Nat) : Int) = 0 from rfl] at hff
                clear HFF
                go_wp2_with fail
                refine (parse_raw (s := T0) HT3.out (H7.out.below HB3.out) (by simp) HS.out.1).mono ?_
                rintro e w4 ⟨⟨v, rfl, hv⟩, b4⟩
                have HB4 := Lib.hid (HB3.out.then b4)
                rw [rawI, HKO.out.1.1] at hv
                obtain ⟨bb, o1, k1, rfl, hl1, ⟨c0, c1, c2, c3, c4⟩, ⟨d0, d1, d2, d3, d4⟩⟩ := hv.two
                simp only [wordsI, Lib.mk_data] at c0 c1 c2 c3 c4 d0 d1 d2 d3 d4
                clear hv b4 HKO HS HT3
                go_wp2
                go_ret
                exact ⟨ret_bool (by simp), HB4.out⟩
              · have hff := HFF.out
                rw [show ((1 : Nat) : Int) = 1 from rfl] at hff
                clear HFF
                go_wp2_with fail
                refine (parse_raw (s := T1) HT3.out (H7.out.below HB3.out) (by simp) HS.out.2.1).mono ?_
                rintro e w4 ⟨⟨v, rfl, hv⟩, b4⟩
                have HB4 := Lib.hid (HB3.out.then b4)
                rw [rawI, HKO.out.1.2.1] at hv
                obtain ⟨bb, o1, k1, rfl, hl1, ⟨c0, c1, c2, c3, c4⟩, ⟨d0, d1, d2, d3, d4⟩⟩ := hv.two
                simp only [wordsI, Lib.mk_data] at c0 c1 c2 c3 c4 d0 d1 d2 d3 d4
                clear hv b4 HKO HS HT3
                go_wp2
                go_ret
                exact ⟨ret_bool (by simp), HB4.out⟩
              · have hff := HFF.out
                rw [show ((2 : Nat) : Int) = 2 from rfl] at hff
                clear HFF
                go_wp2_with fail
                refine (parse_raw (s := T2) HT3.out (H7.out.below HB3.out) (by simp) HS.out.2.2).mono ?_
                rintro e w4 ⟨⟨v, rfl, hv⟩, b4⟩
                have HB4 := Lib.hid (HB3.out.then b4)
                rw [rawI, HKO.out.1.2.2] at hv
                obtain ⟨bb, o1, k1, rfl, hl1, ⟨c0, c1, c2, c3, c4⟩, ⟨d0, d1, d2, d3, d4⟩⟩ := hv.two
                simp only [wordsI, Lib.mk_data] at c0 c1 c2 c3 c4 d0 d1 d2 d3 d4
                clear hv b4 HKO HS HT3
                go_wp2
                go_ret
                exact ⟨ret_bool (by simp), HB4.out⟩
end Go.Proofs.YtfbaknkmpilllaaGreatDoor
