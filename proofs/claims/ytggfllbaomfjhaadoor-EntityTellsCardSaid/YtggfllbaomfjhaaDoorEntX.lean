/-
  The document's own Entity: no name: a number, or nothing.
-/
import Derived.Test.YtggfllbaomfjhaaDoorEntW
namespace Go.Proofs.YtggfllbaomfjhaaDoor
open Go.RowKit
set_option linter.unusedSimpArgs false
set_option linter.unusedVariables false


set_option maxHeartbeats 16000000 in
set_option maxRecDepth 100000 in
theorem rentity_hex (s : ByteArray) (w : World) (hs : s.size ≤ 100) (hmiss : ∀ j, j < 23 → hitB s.data.toList j = false) (h4 : 4 ≤ s.size) (x : UInt8) (r : List UInt8) (hl : s.data.toList = 38 :: 35 :: x :: r) (hx : x = 120) :
    Calls Tryd.prog 10 #[.string s] w fun e w' => e = .returned (.tuple #[.string (numAt 16 3 6 s.data.toList).1, .int .i64 (numAt 16 3 6 s.data.toList).2]) ∧ Below w.heap.size w w' := by
  have hpre := pre_cmp s h4
  rw [show Lib.hasPrefix s.data.toList [38, 35] = true from by rw [hl]; simp [Lib.hasPrefix, List.isPrefixOf]] at hpre
  have hlt2 : 2 < s.size := by omega
  have hth := third s x r hl hlt2
  have f1 : ((s[2].toNat : Int) == 120) = true := by rw [hth, hx]; rfl
  have HL := Lib.hid hl
  clear hl hth
  have HM := Lib.hid hmiss
  clear hmiss
  go_enter Tryd.func10, Tryd.ntmps10
  go_wp2_with fail
  refine (rnames_any w).mono ?_
  rintro e w1 ⟨A, B, ca, cb, rfl, hrA, hrB, b1⟩
  have hc1 := hrA.1
  have hc2 := hrA.2.1
  rw [strs_length, namesL_length] at hc1
  unfold maxLen at hc2
  have HA := Lib.hid hrA
  clear hrA hrB
  go_wp2_with fail
  go_loopw [6] (fun i wr => EntRel 23 w1 i wr) (fun i _ => 23 - (intOf i).toNat)
  case atStart => exact ⟨0, 0, rfl, Nat.zero_le _, rfl⟩
  case round =>
    obtain ⟨k, q, rfl, hk, rfl⟩ := hrel
    by_cases hkk : k < 23
    · obtain ⟨b, off, rfl, hb, hcell⟩ := names_cell HA.out k (by omega)
      have hN := (nm_size k (by omega)).1
      have hcmp := hit_cmp s (nmB k)
      change _ = hitB s.data.toList k at hcmp
      rw [HM.out k hkk] at hcmp
      by_cases hg : (nmB k).size + 2 ≤ s.size
      · rw [decide_eq_true hg, Bool.true_and] at hcmp
        have hsl := slice_to s (nmB k).size hg
        have hcat1 := fun W => run_string_add_sum (P := Tryd.prog) W ⟨#[38]⟩ (nmB k) (by show 1 + _ ≤ _; omega)
        have hcat2 := fun W => run_string_add_sum (P := Tryd.prog) W ((⟨#[38]⟩ : ByteArray) ++ nmB k) ⟨#[59]⟩ (by rw [ByteArray.size_append]; show 1 + _ + 1 ≤ _; omega)
        have hwr : IntKind.i64.wrap (((nmB k).size : Int) + 2) = ((nmB k).size : Int) + 2 := IntWalk.i64_in _ (by omega)
        have hgd : decide (((nmB k).size : Int) + 2 ≤ s.size) = true := by simp; omega
        generalize nmB k = N at *
        go_wp2_with fail
        go_quiet (fail)
        go_wp2
        exact ⟨⟨k + 1, _, by go_num, by omega, rfl⟩, by simp [intOf]; omega⟩
      · have hgd : decide (((nmB k).size : Int) + 2 ≤ s.size) = false := by simp; omega
        have hwr : IntKind.i64.wrap (((nmB k).size : Int) + 2) = ((nmB k).size : Int) + 2 := IntWalk.i64_in _ (by omega)
        clear hcmp
        generalize nmB k = N at *
        go_wp2_with fail
        go_quiet (fail)
        go_wp2
        exact ⟨⟨k + 1, _, by go_num, by omega, rfl⟩, by simp [intOf]; omega⟩
    · obtain rfl : k = 23 := by omega
      clear hkk
      clear hk
      have hlen := size_len s
      have HLN := Lib.hid hlen
      clear hlen
      go_wp2_with fail
      clear hpre f1
      go_loop [9, 12, 13] (fun i v n => RNumRel 16 6 3 s i v n) (fun i _ _ => s.size - (intOf i).toNat)
      case atStart => exact ⟨3, 0, 0, rfl, rfl, rfl, by omega, by omega, by omega, Nat.zero_le _, Int.le_refl _, by decide, rfl⟩
      case round =>
        obtain ⟨j, k, u, rfl, rfl, rfl, hj1, hj2, hj3, hkm, hu0, hu1, hgo⟩ := hrel
        by_cases hp : j < s.size
        · rw [get_list s j hp] at hgo
          have HG := Lib.hid hgo
          clear hgo
          have hc255 : s[j].toNat ≤ 255 := by have := s[j].toNat_lt; omega
          have hdg := fun w => rdigit_any (s[j].toNat : Int) true w (by omega) (by omega)
          unfold rdig bse at hdg
          simp only [if_true] at hdg
          cases hok : digOk 16 (s[j].toNat : Int) with
          | true =>
            rw [hok] at hdg
            simp only [if_true] at hdg
            have hbd := digV_bd 16 s[j].toNat hok (by omega)
            by_cases hkk : k < 6
            · have HR := Lib.hid (show numGo 16 6 (s.data.toList.drop (j + 1)) (k + 1) (u * 16 + digV 16 s[j].toNat) = numGo 16 6 (s.data.toList.drop 3) 0 0 from by rw [← numGo_more hok (by omega), ← HG.out])
              have HP := Lib.hid (step_lt 16 u (digV 16 s[j].toNat) k (by omega) hu1 hbd.2)
              have hu2 : u < 1048576 := Int.lt_of_lt_of_le hu1 (pow_le 16 (by omega) (show k ≤ 6 - 1 from by omega))
              have HD := Lib.hid hdg
              obtain ⟨hb0, hb1⟩ := hbd
              clear hu1 hok hdg
              generalize digV 16 (s[j].toNat : Int) = d at *
              go_wp2_with (go_at_call 21; refine (HD.out _).mono ?_; rintro e w' ⟨rfl, rfl⟩)
              go_round
              case rel => exact ⟨j + 1, k + 1, u * 16 + d, by go_num, rfl, by go_num, by omega, by omega, by omega, by omega, by omega, HP.out, HR.out⟩
              case measure => simp [intOf]; omega
            · have hk0 : ((k : Int) == 0) = false := by simp; omega
              have h59 : s[j].toNat ≠ 59 := by
                intro e
                rw [e] at hok
                revert hok
                decide
              have f59 : ((s[j].toNat : Int) == 59) = false := by simp; omega
              have f59b : ((s[j].toNat : Int) != 59) = true := by simp; omega
              have HR := Lib.hid (numAt_none (T := ⟨(s.data.toList.drop 3).toArray⟩) rfl (HG.out.symm.trans (numGo_none (by omega) (Or.inr (by omega)))))
              have HV := Lib.hid hu1
              have HD := Lib.hid hdg
              obtain ⟨hb0, hb1⟩ := hbd
              clear hu1 hok hdg h59
              generalize digV 16 (s[j].toNat : Int) = d at *
              go_wp2_with (go_at_call 21; refine (HD.out _).mono ?_; rintro e w' ⟨rfl, rfl⟩)
              go_ret2
              exact ⟨by rw [HR.out]; rfl, below_drewN' b1 _⟩
          | false =>
            rw [hok] at hdg
            simp only [Bool.false_eq_true, if_false] at hdg
            by_cases h59 : s[j].toNat = 59
            · have f59 : ((s[j].toNat : Int) == 59) = true := by simp; omega
              have f59b : ((s[j].toNat : Int) != 59) = false := by simp; omega
              by_cases hkk : 0 < k
              · have hk0 : ((k : Int) == 0) = false := by simp; omega
                have HR := Lib.hid (numAt_some (T := ⟨(s.data.toList.drop 3).toArray⟩) rfl (HG.out.symm.trans (numGo_end h59 hkk)))
                have hu2 : u < 16777216 := Int.lt_of_lt_of_le hu1 (pow_le 16 (by omega) hkm)
                have hw := chr_want u hu0
                generalize hX : chrB u = X at *
                have HX := Lib.hid hX
                have HD := Lib.hid hdg
                clear hu1 hok hdg h59 hX
                rcases hw with ⟨g1, g2, g3, rfl⟩ | ⟨g1, g2, g3, g4, rfl⟩ | ⟨g1, rfl⟩ | ⟨g1, g2, g3, g4, rfl⟩ | ⟨g1, g2, rfl⟩
                all_goals
                  have fu : (u == 0) = true ∨ (u == 0) = false := by cases (u == 0) <;> simp
                  rcases fu with fu | fu
                  all_goals first
                    | (exfalso; simp at fu; omega)
                    | (go_wp2_with (go_at_call 21; refine (HD.out _).mono ?_; rintro e w' ⟨rfl, rfl⟩)
                       go_ret2
                       exact ⟨ret_strint (by rw [HR.out] <;> rfl) (by rw [HR.out]; simp; omega), below_drewN' b1 _⟩)
              · obtain rfl : k = 0 := by omega
                have HR := Lib.hid (numAt_none (T := ⟨(s.data.toList.drop 3).toArray⟩) rfl (HG.out.symm.trans (numGo_none (by omega) (Or.inl hok))))
                have HV := Lib.hid hu1
                have HD := Lib.hid hdg
                clear hu1 hok hdg h59 hkk
                go_wp2_with (go_at_call 21; refine (HD.out _).mono ?_; rintro e w' ⟨rfl, rfl⟩)
                go_ret2
                exact ⟨by rw [HR.out]; rfl, below_drewN' b1 _⟩
            · have f59 : ((s[j].toNat : Int) == 59) = false := by simp; omega
              have f59b : ((s[j].toNat : Int) != 59) = true := by simp; omega
              have HR := Lib.hid (numAt_none (T := ⟨(s.data.toList.drop 3).toArray⟩) rfl (HG.out.symm.trans (numGo_none (by omega) (Or.inl hok))))
              have HV := Lib.hid hu1
              have HD := Lib.hid hdg
              clear hu1 hok hdg h59
              by_cases hkk : 0 < k
              · have hk0 : ((k : Int) == 0) = false := by simp; omega
                go_wp2_with (go_at_call 21; refine (HD.out _).mono ?_; rintro e w' ⟨rfl, rfl⟩)
                go_ret2
                exact ⟨by rw [HR.out]; rfl, below_drewN' b1 _⟩
              · obtain rfl : k = 0 := by omega
                go_wp2_with (go_at_call 21; refine (HD.out _).mono ?_; rintro e w' ⟨rfl, rfl⟩)
                go_ret2
                exact ⟨by rw [HR.out]; rfl, below_drewN' b1 _⟩
        · have e : s.data.toList.drop j = [] := List.drop_eq_nil_of_le (by rw [HLN.out]; omega)
          rw [e] at hgo
          have HR := Lib.hid (numAt_none (T := ⟨(s.data.toList.drop 3).toArray⟩) rfl (hgo.symm.trans rfl))
          have HV := Lib.hid hu1
          clear e hgo hu1
          by_cases hkk : 0 < k
          · have hk0 : ((k : Int) == 0) = false := by simp; omega
            go_wp2
            go_ret2
            exact ⟨by rw [HR.out]; rfl, below_drewN' b1 _⟩
          · obtain rfl : k = 0 := by omega
            go_wp2
            go_ret2
            exact ⟨by rw [HR.out]; rfl, below_drewN' b1 _⟩

set_option maxHeartbeats 16000000 in
set_option maxRecDepth 100000 in
theorem rentity_heX (s : ByteArray) (w : World) (hs : s.size ≤ 100) (hmiss : ∀ j, j < 23 → hitB s.data.toList j = false) (h4 : 4 ≤ s.size) (x : UInt8) (r : List UInt8) (hl : s.data.toList = 38 :: 35 :: x :: r) (hx : x = 88) :
    Calls Tryd.prog 10 #[.string s] w fun e w' => e = .returned (.tuple #[.string (numAt 16 3 6 s.data.toList).1, .int .i64 (numAt 16 3 6 s.data.toList).2]) ∧ Below w.heap.size w w' := by
  have hpre := pre_cmp s h4
  rw [show Lib.hasPrefix s.data.toList [38, 35] = true from by rw [hl]; simp [Lib.hasPrefix, List.isPrefixOf]] at hpre
  have hlt2 : 2 < s.size := by omega
  have hth := third s x r hl hlt2
  have f1 : ((s[2].toNat : Int) == 120) = false := by rw [hth, hx]; rfl
  have f2 : ((s[2].toNat : Int) == 88) = true := by rw [hth, hx]; rfl
  have HL := Lib.hid hl
  clear hl hth
  have HM := Lib.hid hmiss
  clear hmiss
  go_enter Tryd.func10, Tryd.ntmps10
  go_wp2_with fail
  refine (rnames_any w).mono ?_
  rintro e w1 ⟨A, B, ca, cb, rfl, hrA, hrB, b1⟩
  have hc1 := hrA.1
  have hc2 := hrA.2.1
  rw [strs_length, namesL_length] at hc1
  unfold maxLen at hc2
  have HA := Lib.hid hrA
  clear hrA hrB
  go_wp2_with fail
  go_loopw [6] (fun i wr => EntRel 23 w1 i wr) (fun i _ => 23 - (intOf i).toNat)
  case atStart => exact ⟨0, 0, rfl, Nat.zero_le _, rfl⟩
  case round =>
    obtain ⟨k, q, rfl, hk, rfl⟩ := hrel
    by_cases hkk : k < 23
    · obtain ⟨b, off, rfl, hb, hcell⟩ := names_cell HA.out k (by omega)
      have hN := (nm_size k (by omega)).1
      have hcmp := hit_cmp s (nmB k)
      change _ = hitB s.data.toList k at hcmp
      rw [HM.out k hkk] at hcmp
      by_cases hg : (nmB k).size + 2 ≤ s.size
      · rw [decide_eq_true hg, Bool.true_and] at hcmp
        have hsl := slice_to s (nmB k).size hg
        have hcat1 := fun W => run_string_add_sum (P := Tryd.prog) W ⟨#[38]⟩ (nmB k) (by show 1 + _ ≤ _; omega)
        have hcat2 := fun W => run_string_add_sum (P := Tryd.prog) W ((⟨#[38]⟩ : ByteArray) ++ nmB k) ⟨#[59]⟩ (by rw [ByteArray.size_append]; show 1 + _ + 1 ≤ _; omega)
        have hwr : IntKind.i64.wrap (((nmB k).size : Int) + 2) = ((nmB k).size : Int) + 2 := IntWalk.i64_in _ (by omega)
        have hgd : decide (((nmB k).size : Int) + 2 ≤ s.size) = true := by simp; omega
        generalize nmB k = N at *
        go_wp2_with fail
        go_quiet (fail)
        go_wp2
        exact ⟨⟨k + 1, _, by go_num, by omega, rfl⟩, by simp [intOf]; omega⟩
      · have hgd : decide (((nmB k).size : Int) + 2 ≤ s.size) = false := by simp; omega
        have hwr : IntKind.i64.wrap (((nmB k).size : Int) + 2) = ((nmB k).size : Int) + 2 := IntWalk.i64_in _ (by omega)
        clear hcmp
        generalize nmB k = N at *
        go_wp2_with fail
        go_quiet (fail)
        go_wp2
        exact ⟨⟨k + 1, _, by go_num, by omega, rfl⟩, by simp [intOf]; omega⟩
    · obtain rfl : k = 23 := by omega
      clear hkk
      clear hk
      have hlen := size_len s
      have HLN := Lib.hid hlen
      clear hlen
      go_wp2_with fail
      clear hpre f1 f2
      go_loop [9, 12, 13] (fun i v n => RNumRel 16 6 3 s i v n) (fun i _ _ => s.size - (intOf i).toNat)
      case atStart => exact ⟨3, 0, 0, rfl, rfl, rfl, by omega, by omega, by omega, Nat.zero_le _, Int.le_refl _, by decide, rfl⟩
      case round =>
        obtain ⟨j, k, u, rfl, rfl, rfl, hj1, hj2, hj3, hkm, hu0, hu1, hgo⟩ := hrel
        by_cases hp : j < s.size
        · rw [get_list s j hp] at hgo
          have HG := Lib.hid hgo
          clear hgo
          have hc255 : s[j].toNat ≤ 255 := by have := s[j].toNat_lt; omega
          have hdg := fun w => rdigit_any (s[j].toNat : Int) true w (by omega) (by omega)
          unfold rdig bse at hdg
          simp only [if_true] at hdg
          cases hok : digOk 16 (s[j].toNat : Int) with
          | true =>
            rw [hok] at hdg
            simp only [if_true] at hdg
            have hbd := digV_bd 16 s[j].toNat hok (by omega)
            by_cases hkk : k < 6
            · have HR := Lib.hid (show numGo 16 6 (s.data.toList.drop (j + 1)) (k + 1) (u * 16 + digV 16 s[j].toNat) = numGo 16 6 (s.data.toList.drop 3) 0 0 from by rw [← numGo_more hok (by omega), ← HG.out])
              have HP := Lib.hid (step_lt 16 u (digV 16 s[j].toNat) k (by omega) hu1 hbd.2)
              have hu2 : u < 1048576 := Int.lt_of_lt_of_le hu1 (pow_le 16 (by omega) (show k ≤ 6 - 1 from by omega))
              have HD := Lib.hid hdg
              obtain ⟨hb0, hb1⟩ := hbd
              clear hu1 hok hdg
              generalize digV 16 (s[j].toNat : Int) = d at *
              go_wp2_with (go_at_call 21; refine (HD.out _).mono ?_; rintro e w' ⟨rfl, rfl⟩)
              go_round
              case rel => exact ⟨j + 1, k + 1, u * 16 + d, by go_num, rfl, by go_num, by omega, by omega, by omega, by omega, by omega, HP.out, HR.out⟩
              case measure => simp [intOf]; omega
            · have hk0 : ((k : Int) == 0) = false := by simp; omega
              have h59 : s[j].toNat ≠ 59 := by
                intro e
                rw [e] at hok
                revert hok
                decide
              have f59 : ((s[j].toNat : Int) == 59) = false := by simp; omega
              have f59b : ((s[j].toNat : Int) != 59) = true := by simp; omega
              have HR := Lib.hid (numAt_none (T := ⟨(s.data.toList.drop 3).toArray⟩) rfl (HG.out.symm.trans (numGo_none (by omega) (Or.inr (by omega)))))
              have HV := Lib.hid hu1
              have HD := Lib.hid hdg
              obtain ⟨hb0, hb1⟩ := hbd
              clear hu1 hok hdg h59
              generalize digV 16 (s[j].toNat : Int) = d at *
              go_wp2_with (go_at_call 21; refine (HD.out _).mono ?_; rintro e w' ⟨rfl, rfl⟩)
              go_ret2
              exact ⟨by rw [HR.out]; rfl, below_drewN' b1 _⟩
          | false =>
            rw [hok] at hdg
            simp only [Bool.false_eq_true, if_false] at hdg
            by_cases h59 : s[j].toNat = 59
            · have f59 : ((s[j].toNat : Int) == 59) = true := by simp; omega
              have f59b : ((s[j].toNat : Int) != 59) = false := by simp; omega
              by_cases hkk : 0 < k
              · have hk0 : ((k : Int) == 0) = false := by simp; omega
                have HR := Lib.hid (numAt_some (T := ⟨(s.data.toList.drop 3).toArray⟩) rfl (HG.out.symm.trans (numGo_end h59 hkk)))
                have hu2 : u < 16777216 := Int.lt_of_lt_of_le hu1 (pow_le 16 (by omega) hkm)
                have hw := chr_want u hu0
                generalize hX : chrB u = X at *
                have HX := Lib.hid hX
                have HD := Lib.hid hdg
                clear hu1 hok hdg h59 hX
                rcases hw with ⟨g1, g2, g3, rfl⟩ | ⟨g1, g2, g3, g4, rfl⟩ | ⟨g1, rfl⟩ | ⟨g1, g2, g3, g4, rfl⟩ | ⟨g1, g2, rfl⟩
                all_goals
                  have fu : (u == 0) = true ∨ (u == 0) = false := by cases (u == 0) <;> simp
                  rcases fu with fu | fu
                  all_goals first
                    | (exfalso; simp at fu; omega)
                    | (go_wp2_with (go_at_call 21; refine (HD.out _).mono ?_; rintro e w' ⟨rfl, rfl⟩)
                       go_ret2
                       exact ⟨ret_strint (by rw [HR.out] <;> rfl) (by rw [HR.out]; simp; omega), below_drewN' b1 _⟩)
              · obtain rfl : k = 0 := by omega
                have HR := Lib.hid (numAt_none (T := ⟨(s.data.toList.drop 3).toArray⟩) rfl (HG.out.symm.trans (numGo_none (by omega) (Or.inl hok))))
                have HV := Lib.hid hu1
                have HD := Lib.hid hdg
                clear hu1 hok hdg h59 hkk
                go_wp2_with (go_at_call 21; refine (HD.out _).mono ?_; rintro e w' ⟨rfl, rfl⟩)
                go_ret2
                exact ⟨by rw [HR.out]; rfl, below_drewN' b1 _⟩
            · have f59 : ((s[j].toNat : Int) == 59) = false := by simp; omega
              have f59b : ((s[j].toNat : Int) != 59) = true := by simp; omega
              have HR := Lib.hid (numAt_none (T := ⟨(s.data.toList.drop 3).toArray⟩) rfl (HG.out.symm.trans (numGo_none (by omega) (Or.inl hok))))
              have HV := Lib.hid hu1
              have HD := Lib.hid hdg
              clear hu1 hok hdg h59
              by_cases hkk : 0 < k
              · have hk0 : ((k : Int) == 0) = false := by simp; omega
                go_wp2_with (go_at_call 21; refine (HD.out _).mono ?_; rintro e w' ⟨rfl, rfl⟩)
                go_ret2
                exact ⟨by rw [HR.out]; rfl, below_drewN' b1 _⟩
              · obtain rfl : k = 0 := by omega
                go_wp2_with (go_at_call 21; refine (HD.out _).mono ?_; rintro e w' ⟨rfl, rfl⟩)
                go_ret2
                exact ⟨by rw [HR.out]; rfl, below_drewN' b1 _⟩
        · have e : s.data.toList.drop j = [] := List.drop_eq_nil_of_le (by rw [HLN.out]; omega)
          rw [e] at hgo
          have HR := Lib.hid (numAt_none (T := ⟨(s.data.toList.drop 3).toArray⟩) rfl (hgo.symm.trans rfl))
          have HV := Lib.hid hu1
          clear e hgo hu1
          by_cases hkk : 0 < k
          · have hk0 : ((k : Int) == 0) = false := by simp; omega
            go_wp2
            go_ret2
            exact ⟨by rw [HR.out]; rfl, below_drewN' b1 _⟩
          · obtain rfl : k = 0 := by omega
            go_wp2
            go_ret2
            exact ⟨by rw [HR.out]; rfl, below_drewN' b1 _⟩

end Go.Proofs.YtggfllbaomfjhaaDoor
