/-
  The laws of the layer token: TokenBreaks: its walk.
-/
import Derived.Test.YtggdpmaomhmobaaGreatDoorTlC
import Derived.LoopN
namespace Go.Proofs.YtggdpmaomhmobaaGreatDoor
open Go.RowKit
set_option linter.unusedSimpArgs false
set_option linter.unusedVariables false
set_option maxRecDepth 100000

theorem brk_false (n m : Nat) : (([97] ++ List.replicate n (32 : UInt8) ++ [10]) ++ List.replicate m (32 : UInt8)) ++ [98] = brkText n m false := by simp [brkText]
theorem brk_true (m : Nat) : ([97, 92, 10] ++ List.replicate m (32 : UInt8)) ++ [98] = brkText 0 m true := by simp [brkText]
theorem app_str (l k : List UInt8) : (⟨l.toArray⟩ : ByteArray) ++ ⟨k.toArray⟩ = ⟨(l ++ k).toArray⟩ := by rw [str_append]

set_option maxHeartbeats 4000000 in
theorem tokenBreaks_walk (w : World) (h7 : TkW w) (a0 : Int) (w0 : (Lit.int .i64 a0).wf = true) (a1 : Int) (w1 : (Lit.int .i64 a1).wf = true) (a2 : Bool) :
    Calls Tryz.prog 7 #[.int .i64 a0, .int .i64 a1, .bool a2] w fun e w' => e = .returned (.bool true) ∧ Below w.heap.size w w' := by
  have CA := Lib.hid (alive12_any w h7)
  have H7 := Lib.hid h7
  have hw0 : -9223372036854775808 ≤ a0 ∧ a0 ≤ 9223372036854775807 := by simpa [Lit.wf, IntKind.min, IntKind.max, IntKind.signed, IntKind.bits] using w0
  have hw1 : -9223372036854775808 ≤ a1 ∧ a1 ≤ 9223372036854775807 := by simpa [Lit.wf, IntKind.min, IntKind.max, IntKind.signed, IntKind.bits] using w1
  clear h7 w0 w1
  by_cases hr : a0 < 0 ∨ a1 < 0 ∨ 6 < a0 ∨ 6 < a1
  · have hcase : a0 < 0 ∨ (0 ≤ a0 ∧ 6 < a0) ∨ (0 ≤ a0 ∧ a0 ≤ 6 ∧ a1 < 0) ∨ (0 ≤ a0 ∧ a0 ≤ 6 ∧ 0 ≤ a1 ∧ 6 < a1) := by omega
    clear hr
    rcases hcase with h1 | ⟨h1, h2⟩ | ⟨h1, h2, h3⟩ | ⟨h1, h2, h3, h4⟩ <;>
    · go_enter Tryz.func7, Tryz.ntmps7
      go_wp2_with fail
      refine CA.out.mono ?_
      rintro e w1 ⟨rfl, b1⟩
      go_wp2
      go_ret
      exact ⟨rfl, b1⟩
  · obtain ⟨n, rfl, m, rfl, hn2, hm2⟩ : ∃ n : Nat, a0 = n ∧ ∃ m : Nat, a1 = m ∧ n ≤ 6 ∧ m ≤ 6 := ⟨a0.toNat, by omega, a1.toNat, by omega, by omega, by omega⟩
    clear hr hw0 hw1
    -- what is behind the text
    have fin : ∀ (h : Bool) (T : ByteArray) (ts : List UInt8), T.data.toList = ts → T.size ≤ 1000 → tokensL ts = [.word [97], .brk h, .word [98]] → ∀ W, TkW W → Calls Tryz.prog 12 #[.string T] W (AllEnd W [.word [97], .brk h, .word [98]]) := by
      intro h T ts e hs ht W hW
      have := all_tk T W hW (by omega)
      rwa [e, ht] at this
    have key : ∀ h w1 b off, ToksAt w1 b off [.word [97], .brk h, .word [98]] → w1.cell? ⟨b, off + 1, none⟩ = some (tkV (.brk h)) ∧ w1.cell? ⟨b, off + 2, none⟩ = some (tkV (.word [98])) :=
      fun h w1 b off h2 => ⟨h2.2 1 (by simp), h2.2 2 (by simp)⟩
    have q1 := fun a b c d W => tokF1 a b c d W
    have t1 := fun W => tok_word [98] W
    unfold tokV at t1
    simp only [kindV, textTk, urlTk, numTk] at t1
    generalize tkV (.word [98]) = v1 at *
    have T1 := Lib.hid t1
    clear t1
    cases a2 with
    | false =>
      obtain ⟨hd, hhd⟩ : ∃ hd, decide (2 ≤ n) = hd := ⟨_, rfl⟩
      have hcmp : decide ((2 : Int) ≤ (n : Int)) = hd := by rw [← hhd]; simp; omega
      have t0 := fun W => tok_break hd W
      have k0 := key hd
      have c1 := fin hd ⟨(brkText n m false).toArray⟩ _ rfl (by rw [str_size]; simp [brkText]; omega) (by rw [← hhd]; exact tokens_breaks n (by omega) m (by omega))
      have hnum : numTk (.brk hd) = if hd then 1 else 0 := by cases hd <;> rfl
      generalize tkV (.brk hd) = v0 at *
      unfold tokV at t0
      rw [hnum] at t0
      simp only [kindV, textTk, urlTk] at t0
      have s1 := fun (j : Nat) (hj : j < n) W => run_string_add_sum (P := Tryz.prog) W (⟨([97] ++ List.replicate j (32 : UInt8)).toArray⟩ : ByteArray) ⟨#[32]⟩ (by rw [rep_size]; show 1 + j + 1 ≤ _; omega)
      have s2 := fun W => run_string_add_sum (P := Tryz.prog) W (⟨([97] ++ List.replicate n (32 : UInt8)).toArray⟩ : ByteArray) ⟨#[10]⟩ (by rw [rep_size]; show 1 + n + 1 ≤ _; omega)
      have hx2 : (⟨([97] ++ List.replicate n (32 : UInt8)).toArray⟩ : ByteArray) ++ (⟨#[10]⟩ : ByteArray) = (⟨([97] ++ List.replicate n (32 : UInt8) ++ [10]).toArray⟩ : ByteArray) := app_str ([97] ++ List.replicate n (32 : UInt8)) [10]
      rw [hx2] at s2
      clear hx2
      have hPl : ([97] ++ List.replicate n (32 : UInt8) ++ [10]).length = n + 2 := by simp
      have hbt := brk_false n m
      generalize [97] ++ List.replicate n (32 : UInt8) ++ [10] = P at *
      have s3 := fun (j : Nat) (hj : j < m) W => run_string_add_sum (P := Tryz.prog) W (⟨(P ++ List.replicate j (32 : UInt8)).toArray⟩ : ByteArray) ⟨#[32]⟩ (by rw [rep_size, hPl]; show n + 2 + j + 1 ≤ _; omega)
      have s4 := fun W => run_string_add_sum (P := Tryz.prog) W (⟨(P ++ List.replicate m (32 : UInt8)).toArray⟩ : ByteArray) ⟨#[98]⟩ (by rw [rep_size, hPl]; show n + 2 + m + 1 ≤ _; omega)
      rw [show (⟨(P ++ List.replicate m (32 : UInt8)).toArray⟩ : ByteArray) ++ ⟨#[98]⟩ = ⟨(brkText n m false).toArray⟩ from by rw [← hbt]; exact app_str _ [98]] at s4
      generalize (⟨(brkText n m false).toArray⟩ : ByteArray) = TX at *
      have S1 := Lib.hid s1
      have S2 := Lib.hid s2
      have S3 := Lib.hid s3
      have S4 := Lib.hid s4
      have K := Lib.hid k0
      have T0 := Lib.hid t0
      have C1 := Lib.hid c1
      clear s1 s2 s3 s4 k0 t0 c1 hPl hbt hnum key fin
      have HH := Lib.hid hhd
      clear hhd
      go_enter Tryz.func7, Tryz.ntmps7
      go_wp2_with fail
      refine CA.out.mono ?_
      rintro e w1 ⟨rfl, b1⟩
      have HB1 := Lib.hid b1
      clear b1
      go_wp2_with fail
      go_loop [7, 8] (fun s k => RepRel [97] 32 n s k) (fun _ k => n - (intOf k).toNat)
      case atStart => exact ⟨0, rfl, Nat.zero_le _, rfl⟩
      case round =>
        obtain ⟨j, rfl, hj, rfl⟩ := hrel
        by_cases hlt : j < n
        · have hs := S1.out j hlt
          rw [rep_snoc] at hs
          generalize hgA : (⟨([97] ++ List.replicate j (32 : UInt8)).toArray⟩ : ByteArray) = t at *
          generalize hgB : (⟨([97] ++ List.replicate (j + 1) (32 : UInt8)).toArray⟩ : ByteArray) = t2 at *
          have HGB := Lib.hid hgB
          clear hgA hgB
          go_wp2
          go_round
          case rel => exact ⟨j + 1, by go_num, by omega, by rw [HGB.out]⟩
          case measure => simp [intOf]; omega
        · obtain rfl : j = n := by omega
          have hs := S2.out
          generalize hgA : (⟨([97] ++ List.replicate j (32 : UInt8)).toArray⟩ : ByteArray) = t at *
          generalize hgB : (⟨P.toArray⟩ : ByteArray) = t2 at *
          have HGB := Lib.hid hgB
          clear hgA hgB
          go_wp2_with fail
          go_loop [7, 9] (fun s k => RepRel P 32 m s k) (fun _ k => m - (intOf k).toNat)
          case atStart => exact ⟨0, rfl, Nat.zero_le _, by rw [← HGB.out]; simp⟩
          case round =>
            obtain ⟨i, rfl, hi, rfl⟩ := hrel
            by_cases hlt2 : i < m
            · have hs := S3.out i hlt2
              rw [rep_snoc] at hs
              generalize hgA : (⟨(P ++ List.replicate i (32 : UInt8)).toArray⟩ : ByteArray) = t at *
              generalize hgB : (⟨(P ++ List.replicate (i + 1) (32 : UInt8)).toArray⟩ : ByteArray) = t2 at *
              have HGB := Lib.hid hgB
              clear hgA hgB
              go_wp2
              go_round
              case rel => exact ⟨i + 1, by go_num, by omega, by rw [HGB.out]⟩
              case measure => simp [intOf]; omega
            · obtain rfl : i = m := by omega
              have hs := S4.out
              generalize hgA : (⟨(P ++ List.replicate i (32 : UInt8)).toArray⟩ : ByteArray) = t at *
              clear hgA
              go_wp2_with fail
              refine (C1.out _ (H7.out.below HB1.out)).mono ?_
              rintro e w2 ⟨v, rfl, hown, b2⟩
              obtain ⟨b, off, cap, rfl, ht⟩ := toks_of hown (by simp)
              obtain ⟨d0, _⟩ := K.out w2 b off ht
              have HB2 := Lib.hid (HB1.out.then b2)
              have HT1 := Lib.hid ht
              simp only [List.length_cons, List.length_nil]
              clear hown b2 ht hs
              cases hd
              all_goals
                go_wp2_with fail
                refine (T0.out _).mono ?_
                rintro e w3 ⟨rfl, b3⟩
                have HT2 := Lib.hid (HT1.out.below b3)
                obtain ⟨_, d1⟩ := K.out w3 b off HT2.out
                have HB3 := Lib.hid (HB2.out.then b3)
                clear b3 d0
                go_wp2_with fail
                refine (T1.out _).mono ?_
                rintro e w4 ⟨rfl, b4⟩
                have HB4 := Lib.hid (HB3.out.then b4)
                clear b4 d1
                go_wp2
                go_ret
                exact ⟨rfl, HB4.out⟩
    | true =>
      have t0 := fun W => tok_break true W
      have k0 := key true
      have c1 := fin true ⟨(brkText 0 m true).toArray⟩ _ rfl (by rw [str_size]; simp [brkText]; omega) (tokens_slash m (by omega))
      generalize tkV (.brk true) = v0 at *
      unfold tokV at t0
      simp only [kindV, textTk, urlTk, numTk] at t0
      have s0 := fun W => run_string_add_sum (P := Tryz.prog) W (⟨#[97]⟩ : ByteArray) ⟨#[92]⟩ (by show 1 + 1 ≤ _; omega)
      rw [show (⟨#[97]⟩ : ByteArray) ++ ⟨#[92]⟩ = ⟨#[97, 92]⟩ from rfl] at s0
      have s2 := fun W => run_string_add_sum (P := Tryz.prog) W (⟨#[97, 92]⟩ : ByteArray) ⟨#[10]⟩ (by show 2 + 1 ≤ _; omega)
      rw [show (⟨#[97, 92]⟩ : ByteArray) ++ ⟨#[10]⟩ = ⟨([97, 92, 10] : List UInt8).toArray⟩ from rfl] at s2
      have hPl : ([97, 92, 10] : List UInt8).length = 3 := rfl
      have hbt := brk_true m
      generalize ([97, 92, 10] : List UInt8) = P at *
      have s3 := fun (j : Nat) (hj : j < m) W => run_string_add_sum (P := Tryz.prog) W (⟨(P ++ List.replicate j (32 : UInt8)).toArray⟩ : ByteArray) ⟨#[32]⟩ (by rw [rep_size, hPl]; show 3 + j + 1 ≤ _; omega)
      have s4 := fun W => run_string_add_sum (P := Tryz.prog) W (⟨(P ++ List.replicate m (32 : UInt8)).toArray⟩ : ByteArray) ⟨#[98]⟩ (by rw [rep_size, hPl]; show 3 + m + 1 ≤ _; omega)
      rw [show (⟨(P ++ List.replicate m (32 : UInt8)).toArray⟩ : ByteArray) ++ ⟨#[98]⟩ = ⟨(brkText 0 m true).toArray⟩ from by rw [← hbt]; exact app_str _ [98]] at s4
      generalize (⟨(brkText 0 m true).toArray⟩ : ByteArray) = TX at *
      generalize hgB : (⟨P.toArray⟩ : ByteArray) = tP at s2
      have HGB := Lib.hid hgB
      have S3 := Lib.hid s3
      have S4 := Lib.hid s4
      have K := Lib.hid k0
      have T0 := Lib.hid t0
      have C1 := Lib.hid c1
      clear s3 s4 k0 c1 hPl hbt key fin hgB
      go_enter Tryz.func7, Tryz.ntmps7
      go_wp2_with fail
      refine CA.out.mono ?_
      rintro e w1 ⟨rfl, b1⟩
      have HB1 := Lib.hid b1
      clear b1
      go_wp2_with fail
      refine wp_loop_rounds 1 ?_
      rw [rounds_succ]
      go_wp2_with fail
      go_loop [7, 9] (fun s k => RepRel P 32 m s k) (fun _ k => m - (intOf k).toNat)
      case atStart => exact ⟨0, rfl, Nat.zero_le _, by rw [← HGB.out]; simp⟩
      case round =>
        obtain ⟨i, rfl, hi, rfl⟩ := hrel
        by_cases hlt2 : i < m
        · have hs := S3.out i hlt2
          rw [rep_snoc] at hs
          generalize hgA : (⟨(P ++ List.replicate i (32 : UInt8)).toArray⟩ : ByteArray) = t at *
          generalize hgB : (⟨(P ++ List.replicate (i + 1) (32 : UInt8)).toArray⟩ : ByteArray) = t2 at *
          have HGB := Lib.hid hgB
          clear hgA hgB
          go_wp2
          go_round
          case rel => exact ⟨i + 1, by go_num, by omega, by rw [HGB.out]⟩
          case measure => simp [intOf]; omega
        · obtain rfl : i = m := by omega
          have hs := S4.out
          generalize hgA : (⟨(P ++ List.replicate i (32 : UInt8)).toArray⟩ : ByteArray) = t at *
          clear hgA
          go_wp2_with fail
          refine (C1.out _ (H7.out.below HB1.out)).mono ?_
          rintro e w2 ⟨v, rfl, hown, b2⟩
          obtain ⟨b, off, cap, rfl, ht⟩ := toks_of hown (by simp)
          obtain ⟨d0, _⟩ := K.out w2 b off ht
          have HB2 := Lib.hid (HB1.out.then b2)
          have HT1 := Lib.hid ht
          simp only [List.length_cons, List.length_nil]
          clear hown b2 ht hs
          go_wp2_with fail
          refine (T0.out _).mono ?_
          rintro e w3 ⟨rfl, b3⟩
          have HT2 := Lib.hid (HT1.out.below b3)
          obtain ⟨_, d1⟩ := K.out w3 b off HT2.out
          have HB3 := Lib.hid (HB2.out.then b3)
          clear b3 d0
          go_wp2_with fail
          refine (T1.out _).mono ?_
          rintro e w4 ⟨rfl, b4⟩
          have HB4 := Lib.hid (HB3.out.then b4)
          clear b4 d1
          go_wp2
          go_ret
          exact ⟨rfl, HB4.out⟩

end Go.Proofs.YtggdpmaomhmobaaGreatDoor
