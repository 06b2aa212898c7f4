/- Texts joined: IoE. -/
import Derived.Test.YtfbaknkmpilllaaGreatDoorRIoC
import Derived.Test.YtfbaknkmpilllaaGreatDoorQAG
namespace Go.Proofs.YtfbaknkmpilllaaGreatDoor
open Go.RowKit
set_option linter.unusedSimpArgs false
set_option linter.unusedVariables false
set_option maxRecDepth 100000
theorem shutsU_snoc (u : List UInt8) : ∀ n, shutsU u (n + 1) = shutsU u n ++ shutU u
  | 0 => by simp [shutsU]
  | n + 1 => by
    show shutU u ++ shutsU u (n + 1) = (shutU u ++ shutsU u n) ++ shutU u
    rw [shutsU_snoc u n, List.append_assoc]
theorem shut_more (u : List UInt8) (k : Nat) : 91 :: (List.replicate k 91 ++ (120 :: shutsU u k)) ++ 93 :: 40 :: (u ++ [41]) = List.replicate (k + 1) 91 ++ (120 :: shutsU u (k + 1)) := by
  rw [shutsU_snoc, List.replicate_succ]
  simp [shutU]
theorem count5_take (X : List Iln) (k : Nat) (h : k < X.length) : count5 (X.take (k + 1)) = count5 (X.take k) + (if X[k].kd = 5 then 1 else 0) := by
  rw [List.take_succ_eq_append_getElem h, count5_append]
  simp [count5]
def ShutRel (u0 : ByteArray) (n : Nat) (s i : Value) : Prop := ∃ (k : Nat) (u : ByteArray), i = .int .i64 k ∧ s = .string u ∧ k ≤ n ∧ u.data.toList = List.replicate k 91 ++ (120 :: shutsU u0.data.toList k) ∧ u.size = k + 1 + k * (u0.size + 3)
set_option maxHeartbeats 8000000 in
theorem inlineShut_walk (w : World) (h7 : TkW w) (a0 : Int) (w0 : (Lit.int .i64 a0).wf = true) (a1 : ByteArray) (w1 : a1.size ≤ maxLen) :
    Calls Tryz.prog 9 #[.int .i64 a0, .string a1] w fun e w' => e = .returned (.bool true) ∧ Below w.heap.size w w' := by
  have CA := Lib.hid (alive15_any w h7)
  have H7 := Lib.hid h7
  unfold maxLen at w1
  clear h7
  by_cases hz : a0 < 1 ∨ 8 < a0 ∨ a1.size = 0 ∨ 20 < a1.size
  · have hcase : a0 < 1 ∨ (1 ≤ a0 ∧ 8 < a0) ∨ (1 ≤ a0 ∧ a0 ≤ 8 ∧ a1.size = 0) ∨ (1 ≤ a0 ∧ a0 ≤ 8 ∧ 0 < a1.size ∧ 20 < a1.size) := by omega
    clear hz
    rcases hcase with h1 | ⟨h1, h2⟩ | ⟨h1, h2, h3⟩ | ⟨h1, h2, h3, h4⟩
    · go_enter Tryz.func9, Tryz.ntmps9
      go_wp2_with fail
      refine CA.out.mono ?_
      rintro e w1 ⟨rfl, b1⟩
      go_wp2
      go_ret
      exact ⟨rfl, b1⟩
    · go_enter Tryz.func9, Tryz.ntmps9
      go_wp2_with fail
      refine CA.out.mono ?_
      rintro e w1 ⟨rfl, b1⟩
      go_wp2
      go_ret
      exact ⟨rfl, b1⟩
    · obtain rfl := tlEmpty_of a1 h3
      clear h3 w1
      go_enter Tryz.func9, Tryz.ntmps9
      go_wp2_with fail
      refine CA.out.mono ?_
      rintro e w1 ⟨rfl, b1⟩
      go_wp2
      go_ret
      exact ⟨rfl, b1⟩
    · have e1 := toList_ne h3
      have e2 := toList_empty h3
      go_enter Tryz.func9, Tryz.ntmps9
      go_wp2_with fail
      refine CA.out.mono ?_
      rintro e w1 ⟨rfl, b1⟩
      go_wp2
      go_ret
      exact ⟨rfl, b1⟩
  · obtain ⟨n, rfl⟩ : ∃ n : Nat, a0 = n := ⟨a0.toNat, by omega⟩
    have hn1 : 1 ≤ n := by omega
    have hn8 : n ≤ 8 := by omega
    have hz0 : a1.size ≤ 20 := by omega
    have hz2 : 0 < a1.size := by omega
    have e1 := toList_ne hz2
    have e2 := toList_empty hz2
    have t1 : decide ((n : Int) < 1) = false := by simp; omega
    have t3 : decide (8 < (n : Int)) = false := by simp; omega
    clear hz
    go_enter Tryz.func9, Tryz.ntmps9
    go_wp2_with fail
    refine CA.out.mono ?_
    rintro e w1 ⟨rfl, b1⟩
    have HB1 := Lib.hid b1
    clear b1
    go_wp2_with fail
    clear e1 e2
    (try simp only [t1, t3, Bool.false_or, Bool.or_false])
    go_loop [5] (fun v => TlLowRel a1 v) (fun v => a1.size - (intOf v).toNat)
    case atStart => exact ⟨0, rfl, Nat.zero_le _, by simp⟩
    case round =>
      obtain ⟨k, rfl, hk, hall⟩ := hrel
      by_cases hlt : k < a1.size
      · cases hb : lowB a1[k] with
        | true =>
          have HA := Lib.hid (take_mem a1 k hlt lowB hall hb)
          obtain ⟨g1, g2⟩ := low_yes hb
          clear hb hall
          go_wp2
          all_goals first
            | exact ⟨⟨k + 1, by go_num, by omega, HA.out⟩, by simp only [intOf]; omega⟩
            | (go_round
               case rel => exact ⟨k + 1, by go_num, by omega, HA.out⟩
               case measure => simp [intOf]; omega)
        | false =>
          have g := low_no hb
          clear hb hall
          rcases g with g | g
          · go_wp2
            go_ret
            exact ⟨rfl, HB1.out⟩
          · have g1 : decide ((a1[k].toNat : Int) < 97) = false := by simp; omega
            have g2 : (97 : Int) ≤ a1[k].toNat := by omega
            go_wp2
            go_ret
            exact ⟨rfl, HB1.out⟩
      · obtain rfl : k = a1.size := by omega
        rw [List.take_of_length_le (by rw [size_len']; exact Nat.le_refl _)] at hall
        have hne : a1.data.toList ≠ [] := by intro e; have := size_len' a1; rw [e] at this; simp at this; omega
        have HALL := Lib.hid (And.intro hall hne)
        clear hall hne
        go_wp2_with fail
        go_loop [6, 7] (fun s i => ShutRel a1 n s i) (fun _ i => n - (intOf i).toNat)
        case atStart => exact ⟨0, ⟨#[120]⟩, rfl, rfl, Nat.zero_le _, rfl, by simp; rfl⟩
        case round =>
          obtain ⟨k, u, rfl, rfl, hk, hu, hus⟩ := hrel
          have hm : k * (a1.size + 3) ≤ 8 * 23 := Nat.mul_le_mul (by omega) (by omega)
          have hus2 : u.size ≤ 200 := by omega
          by_cases hp : k < n
          · have r1 := fun W => run_string_add_sum (P := Tryz.prog) W (⟨#[91]⟩ : ByteArray) u (by show 1 + u.size ≤ _; omega)
            have r2 := fun W => run_string_add_sum (P := Tryz.prog) W ((⟨#[91]⟩ : ByteArray) ++ u) (⟨#[93, 40]⟩ : ByteArray) (by rw [ByteArray.size_append]; show 1 + u.size + 2 ≤ _; omega)
            have r3 := fun W => run_string_add_sum (P := Tryz.prog) W (((⟨#[91]⟩ : ByteArray) ++ u) ++ (⟨#[93, 40]⟩ : ByteArray)) a1 (by rw [ByteArray.size_append, ByteArray.size_append]; show 1 + u.size + 2 + a1.size ≤ _; omega)
            have r4 := fun W => run_string_add_sum (P := Tryz.prog) W ((((⟨#[91]⟩ : ByteArray) ++ u) ++ (⟨#[93, 40]⟩ : ByteArray)) ++ a1) (⟨#[41]⟩ : ByteArray) (by rw [ByteArray.size_append, ByteArray.size_append, ByteArray.size_append]; show 1 + u.size + 2 + a1.size + 1 ≤ _; omega)
            have hT : (((((⟨#[91]⟩ : ByteArray) ++ u) ++ (⟨#[93, 40]⟩ : ByteArray)) ++ a1) ++ (⟨#[41]⟩ : ByteArray)).data.toList = List.replicate (k + 1) 91 ++ (120 :: shutsU a1.data.toList (k + 1)) := by rw [← shut_more, ← hu]; simp
            have hTs : (((((⟨#[91]⟩ : ByteArray) ++ u) ++ (⟨#[93, 40]⟩ : ByteArray)) ++ a1) ++ (⟨#[41]⟩ : ByteArray)).size = (k + 1) + 1 + (k + 1) * (a1.size + 3) := by
              rw [ByteArray.size_append, ByteArray.size_append, ByteArray.size_append, ByteArray.size_append, Nat.succ_mul]; show 1 + u.size + 2 + a1.size + 1 = _; omega
            generalize ((((⟨#[91]⟩ : ByteArray) ++ u) ++ (⟨#[93, 40]⟩ : ByteArray)) ++ a1) ++ (⟨#[41]⟩ : ByteArray) = T4 at *
            generalize (((⟨#[91]⟩ : ByteArray) ++ u) ++ (⟨#[93, 40]⟩ : ByteArray)) ++ a1 = T3 at *
            generalize ((⟨#[91]⟩ : ByteArray) ++ u) ++ (⟨#[93, 40]⟩ : ByteArray) = T2 at *
            generalize (⟨#[91]⟩ : ByteArray) ++ u = T1 at *
            have HT := Lib.hid (And.intro hT hTs)
            clear hT hTs hu hus hm
            go_wp2
            all_goals first
              | exact ⟨⟨k + 1, T4, by go_num, rfl, by omega, HT.out.1, HT.out.2⟩, by simp only [intOf]; omega⟩
              | (go_round
                 case rel => exact ⟨k + 1, T4, by go_num, rfl, by omega, HT.out.1, HT.out.2⟩
                 case measure => simp [intOf]; omega)
          · obtain rfl : k = n := by omega
            have cr := raw_any u w1 (H7.out.below HB1.out) (by omega)
            have hE := shut_plain rawE a1.data.toList HALL.out.2 HALL.out.1 (k - 1)
            rw [show k - 1 + 1 = k from by omega, ← hu] at hE
            rw [show rawI [] u.data.toList = inlE rawE [] u.data.toList from rfl] at cr
            clear hu hus hm
            generalize inlE rawE [] u.data.toList = X at *
            have HE := Lib.hid hE
            clear hE
            go_wp2_with fail
            refine cr.mono ?_
            rintro e w2 ⟨⟨v, rfl, hv⟩, b2⟩
            have hlen := hv.len_le
            unfold maxLen at hlen
            obtain ⟨A1, k1, rfl, hG, _⟩ := hv
            have HB2 := Lib.hid (HB1.out.then b2)
            clear b2 cr
            go_wp2_with fail
            go_loopw [8, 61] (fun p i wr => ∃ j : Nat, i = .int .i64 j ∧ j ≤ X.length ∧ p = .int .i64 (count5 (X.take j) : Nat) ∧ Below w2.heap.size w2 wr) (fun _ i _ => X.length - (intOf i).toNat)
            case atStart => exact ⟨0, rfl, Nat.zero_le _, rfl, Below.refl _ _⟩
            case round =>
              obtain ⟨j, rfl, hj, rfl, hbw⟩ := hrel
              by_cases hp : j < X.length
              · obtain ⟨b, off, e, hb, c0, c1, c2, c3, c4⟩ := InlsAt.cells5 (EltsAt.below hG hbw) hp
                subst e
                have hct := count5_take X j hp
                have hcl : count5 (X.take j) ≤ j := by
                  have : ∀ l : List Iln, count5 l ≤ l.length := fun l => by
                    induction l with
                    | nil => exact Nat.le_refl _
                    | cons x l ih => rw [count5_cons]; simp; split <;> omega
                  have := this (X.take j)
                  simp at this
                  omega
                have HP := Lib.hid hp
                have HW := Lib.hid (hbw.alloc hbw.size (.cells #[.int .i64 X[j].kd, .int .i64 X[j].dp, .string ⟨X[j].txt.toArray⟩, .string ⟨X[j].url.toArray⟩, .string ⟨X[j].ttl.toArray⟩] 30))
                obtain ⟨x0, x1, x2, x3, x4⟩ := box5 wr (.int .i64 X[j].kd) (.int .i64 X[j].dp) (.string ⟨X[j].txt.toArray⟩) (.string ⟨X[j].url.toArray⟩) (.string ⟨X[j].ttl.toArray⟩) 30
                clear hbw
                generalize count5 (X.take j) = q at *
                generalize X[j] = x at *
                obtain ⟨kd, dp, tx, ur, ti⟩ := x
                dsimp only at *
                by_cases h5 : kd = 5
                · subst h5
                  rw [if_pos rfl] at hct
                  have HCT := Lib.hid hct
                  clear hct
                  go_wp2
                  go_roundw
                  case rel => exact ⟨j + 1, by go_num, HP.out, by rw [HCT.out]; go_num, HW.out⟩
                  case measure => have := HP.out; simp [intOf]; omega
                · rw [if_neg h5, Nat.add_zero] at hct
                  have HCT := Lib.hid hct
                  clear hct
                  have h5' : (kd == 5) = false := by simpa using h5
                  clear h5
                  go_wp2
                  go_roundw
                  case rel => exact ⟨j + 1, by go_num, HP.out, by rw [HCT.out, Nat.add_zero], HW.out⟩
                  case measure => have := HP.out; simp [intOf]; omega
              · obtain rfl : j = X.length := by omega
                rw [List.take_length, HE.out]
                have HW := Lib.hid (HB2.out.trans (hbw.mono HB2.out.size))
                clear hbw hG
                go_wp2
                go_ret
                exact ⟨rfl, HW.out⟩
end Go.Proofs.YtfbaknkmpilllaaGreatDoor
