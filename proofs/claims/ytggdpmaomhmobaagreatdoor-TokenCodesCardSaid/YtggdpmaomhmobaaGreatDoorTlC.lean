/-
  The laws of the layer token: TokenRuns: its walk.
-/
import Derived.Test.YtggdpmaomhmobaaGreatDoorTlB
namespace Go.Proofs.YtggdpmaomhmobaaGreatDoor
open Go.RowKit
set_option linter.unusedSimpArgs false
set_option linter.unusedVariables false
set_option maxRecDepth 100000

def RepRel (p : List UInt8) (c : UInt8) (n : Nat) (s k : Value) : Prop := ∃ j : Nat, k = .int .i64 j ∧ j ≤ n ∧ s = .string ⟨(p ++ List.replicate j c).toArray⟩
theorem rep_snoc (p : List UInt8) (c : UInt8) (j : Nat) : (⟨(p ++ List.replicate j c).toArray⟩ : ByteArray) ++ ⟨#[c]⟩ = ⟨(p ++ List.replicate (j + 1) c).toArray⟩ := by
  rw [str_append, List.replicate_succ']
  simp
theorem rep_size (p : List UInt8) (c : UInt8) (j : Nat) : (⟨(p ++ List.replicate j c).toArray⟩ : ByteArray).size = p.length + j := by rw [str_size]; simp

set_option maxHeartbeats 4000000 in
theorem tokenRuns_walk (w : World) (h7 : TkW w) (a0 : Int) (w0 : (Lit.int .i64 a0).wf = true) (a1 : Int) (w1 : (Lit.int .i64 a1).wf = true) (a2 : Bool) :
    Calls Tryz.prog 6 #[.int .i64 a0, .int .i64 a1, .bool a2] w fun e w' => e = .returned (.bool true) ∧ Below w.heap.size w w' := by
  have CA := Lib.hid (alive12_any w h7)
  have H7 := Lib.hid h7
  have hw0 : -9223372036854775808 ≤ a0 ∧ a0 ≤ 9223372036854775807 := by simpa [Lit.wf, IntKind.min, IntKind.max, IntKind.signed, IntKind.bits] using w0
  have hw1 : -9223372036854775808 ≤ a1 ∧ a1 ≤ 9223372036854775807 := by simpa [Lit.wf, IntKind.min, IntKind.max, IntKind.signed, IntKind.bits] using w1
  clear h7 w0 w1
  by_cases hr : a0 < 1 ∨ a1 < 1 ∨ 20 < a0 ∨ 20 < a1
  · have hcase : a0 < 1 ∨ (1 ≤ a0 ∧ a1 < 1) ∨ (1 ≤ a0 ∧ 1 ≤ a1 ∧ 20 < a0) ∨ (1 ≤ a0 ∧ 1 ≤ a1 ∧ a0 ≤ 20 ∧ 20 < a1) := by omega
    clear hr
    rcases hcase with h1 | ⟨h1, h2⟩ | ⟨h1, h2, h3⟩ | ⟨h1, h2, h3, h4⟩ <;>
    · go_enter Tryz.func6, Tryz.ntmps6
      go_wp2_with fail
      refine CA.out.mono ?_
      rintro e w1 ⟨rfl, b1⟩
      go_wp2
      go_ret
      exact ⟨rfl, b1⟩
  · obtain ⟨n, rfl, m, rfl, hn1, hn2, hm1, hm2⟩ : ∃ n : Nat, a0 = n ∧ ∃ m : Nat, a1 = m ∧ 1 ≤ n ∧ n ≤ 20 ∧ 1 ≤ m ∧ m ≤ 20 := ⟨a0.toNat, by omega, a1.toNat, by omega, by omega, by omega, by omega, by omega⟩
    have hxy : ∃ x y : UInt8, (x = 42 ∨ x = 95) ∧ (y = 42 ∨ y = 95) ∧ y ≠ x ∧ ((a2 = true ∧ x = 95 ∧ y = 42) ∨ (a2 = false ∧ x = 42 ∧ y = 95)) := by
      cases a2
      · exact ⟨42, 95, Or.inl rfl, Or.inr rfl, by decide, Or.inr ⟨rfl, rfl, rfl⟩⟩
      · exact ⟨95, 42, Or.inr rfl, Or.inl rfl, by decide, Or.inl ⟨rfl, rfl, rfl⟩⟩
    obtain ⟨x, y, hx, hy, hne, hxy⟩ := hxy
    have HT := Lib.hid (tokens_runs n m hn1 hm1 x y hx hy hne)
    clear hr hw0 hw1 hx hy hne
    have s1 := fun (j : Nat) (hj : j < n) W => run_string_add_sum (P := Tryz.prog) W (⟨([] ++ List.replicate j x).toArray⟩ : ByteArray) ⟨#[x]⟩ (by rw [rep_size]; show 0 + j + 1 ≤ _; omega)
    have s2 := fun (j : Nat) (hj : j < m) W => run_string_add_sum (P := Tryz.prog) W (⟨(List.replicate n x ++ List.replicate j y).toArray⟩ : ByteArray) ⟨#[y]⟩ (by rw [rep_size, List.length_replicate]; show n + j + 1 ≤ _; omega)
    have S1 := Lib.hid s1
    have S2 := Lib.hid s2
    clear s1 s2
    have c1 := fun W h => all_tk ⟨(List.replicate n x ++ List.replicate m y).toArray⟩ W h (by rw [rep_size, List.length_replicate]; omega)
    rw [show (⟨(List.replicate n x ++ List.replicate m y).toArray⟩ : ByteArray).data.toList = List.replicate n x ++ List.replicate m y from rfl, HT.out] at c1
    have t0 := fun W => tok_run x n W
    have t1 := fun W => tok_run y m W
    have key : ∀ w1 b off, ToksAt w1 b off [.run x n, .run y m] → w1.cell? ⟨b, off, none⟩ = some (tkV (.run x n)) ∧ w1.cell? ⟨b, off + 1, none⟩ = some (tkV (.run y m)) :=
      fun w1 b off h => ⟨h.2 0 (by simp), h.2 1 (by simp)⟩
    unfold tokV at t0 t1
    simp only [kindV, textTk, urlTk, numTk] at t0 t1
    generalize tkV (.run x n) = v0 at *
    generalize tkV (.run y m) = v1 at *
    have K := Lib.hid key
    have T0 := Lib.hid t0
    have T1 := Lib.hid t1
    have C1 := Lib.hid c1
    clear key t0 t1 c1
    rcases hxy with ⟨rfl, rfl, rfl⟩ | ⟨rfl, rfl, rfl⟩
    · go_enter Tryz.func6, Tryz.ntmps6
      go_wp2_with fail
      refine CA.out.mono ?_
      rintro e w1 ⟨rfl, b1⟩
      have HB1 := Lib.hid b1
      clear b1
      go_wp2_with fail
      go_loop [9, 10] (fun s k => RepRel [] 95 n s k) (fun _ k => n - (intOf k).toNat)
      case atStart => exact ⟨0, rfl, Nat.zero_le _, rfl⟩
      case round =>
        obtain ⟨j, rfl, hj, rfl⟩ := hrel
        by_cases hlt : j < n
        · have hs := S1.out j hlt
          rw [rep_snoc] at hs
          generalize hgA : (⟨([] ++ List.replicate j (95 : UInt8)).toArray⟩ : ByteArray) = t at *
          generalize hgB : (⟨([] ++ List.replicate (j + 1) (95 : UInt8)).toArray⟩ : ByteArray) = t2 at *
          have HGB := Lib.hid hgB
          clear hgA hgB
          go_wp2
          go_round
          case rel => exact ⟨j + 1, by go_num, by omega, by rw [HGB.out]⟩
          case measure => simp [intOf]; omega
        · obtain rfl : j = n := by omega
          rw [List.nil_append]
          go_wp2_with fail
          go_loop [9, 11] (fun s k => RepRel (List.replicate j 95) 42 m s k) (fun _ k => m - (intOf k).toNat)
          case atStart => exact ⟨0, rfl, Nat.zero_le _, by simp⟩
          case round =>
            obtain ⟨i, rfl, hi, rfl⟩ := hrel
            by_cases hlt2 : i < m
            · have hs := S2.out i hlt2
              rw [rep_snoc] at hs
              generalize hgA : (⟨(List.replicate j (95 : UInt8) ++ List.replicate i (42 : UInt8)).toArray⟩ : ByteArray) = t at *
              generalize hgB : (⟨(List.replicate j (95 : UInt8) ++ List.replicate (i + 1) (42 : UInt8)).toArray⟩ : ByteArray) = t2 at *
              have HGB := Lib.hid hgB
              clear hgA hgB
              go_wp2
              go_round
              case rel => exact ⟨i + 1, by go_num, by omega, by rw [HGB.out]⟩
              case measure => simp [intOf]; omega
            · obtain rfl : i = m := by omega
              go_wp2_with fail
              refine (C1.out _ (H7.out.below HB1.out)).mono ?_
              rintro e w2 ⟨v, rfl, hown, b2⟩
              obtain ⟨b, off, cap, rfl, ht⟩ := toks_of hown (by simp)
              obtain ⟨d0, _⟩ := K.out w2 b off ht
              have HB2 := Lib.hid (HB1.out.then b2)
              have HT1 := Lib.hid ht
              simp only [List.length_cons, List.length_nil]
              clear hown b2 ht
              go_wp2_with fail
              refine (T0.out _).mono ?_
              rintro e w3 ⟨rfl, b3⟩
              have HT2 := Lib.hid (HT1.out.below b3)
              obtain ⟨_, d1⟩ := K.out w3 b off HT2.out
              have HB3 := Lib.hid (HB2.out.then b3)
              clear b3 d0
              go_wp2_with fail
              refine (T1.out _).mono ?_
              rintro e w4 ⟨rfl, b4⟩
              have HB4 := Lib.hid (HB3.out.then b4)
              clear b4 d1
              go_wp2
              go_ret
              exact ⟨rfl, HB4.out⟩
    · go_enter Tryz.func6, Tryz.ntmps6
      go_wp2_with fail
      refine CA.out.mono ?_
      rintro e w1 ⟨rfl, b1⟩
      have HB1 := Lib.hid b1
      clear b1
      go_wp2_with fail
      go_loop [9, 10] (fun s k => RepRel [] 42 n s k) (fun _ k => n - (intOf k).toNat)
      case atStart => exact ⟨0, rfl, Nat.zero_le _, rfl⟩
      case round =>
        obtain ⟨j, rfl, hj, rfl⟩ := hrel
        by_cases hlt : j < n
        · have hs := S1.out j hlt
          rw [rep_snoc] at hs
          generalize hgA : (⟨([] ++ List.replicate j (42 : UInt8)).toArray⟩ : ByteArray) = t at *
          generalize hgB : (⟨([] ++ List.replicate (j + 1) (42 : UInt8)).toArray⟩ : ByteArray) = t2 at *
          have HGB := Lib.hid hgB
          clear hgA hgB
          go_wp2
          go_round
          case rel => exact ⟨j + 1, by go_num, by omega, by rw [HGB.out]⟩
          case measure => simp [intOf]; omega
        · obtain rfl : j = n := by omega
          rw [List.nil_append]
          go_wp2_with fail
          go_loop [9, 11] (fun s k => RepRel (List.replicate j 42) 95 m s k) (fun _ k => m - (intOf k).toNat)
          case atStart => exact ⟨0, rfl, Nat.zero_le _, by simp⟩
          case round =>
            obtain ⟨i, rfl, hi, rfl⟩ := hrel
            by_cases hlt2 : i < m
            · have hs := S2.out i hlt2
              rw [rep_snoc] at hs
              generalize hgA : (⟨(List.replicate j (42 : UInt8) ++ List.replicate i (95 : UInt8)).toArray⟩ : ByteArray) = t at *
              generalize hgB : (⟨(List.replicate j (42 : UInt8) ++ List.replicate (i + 1) (95 : UInt8)).toArray⟩ : ByteArray) = t2 at *
              have HGB := Lib.hid hgB
              clear hgA hgB
              go_wp2
              go_round
              case rel => exact ⟨i + 1, by go_num, by omega, by rw [HGB.out]⟩
              case measure => simp [intOf]; omega
            · obtain rfl : i = m := by omega
              go_wp2_with fail
              refine (C1.out _ (H7.out.below HB1.out)).mono ?_
              rintro e w2 ⟨v, rfl, hown, b2⟩
              obtain ⟨b, off, cap, rfl, ht⟩ := toks_of hown (by simp)
              obtain ⟨d0, _⟩ := K.out w2 b off ht
              have HB2 := Lib.hid (HB1.out.then b2)
              have HT1 := Lib.hid ht
              simp only [List.length_cons, List.length_nil]
              clear hown b2 ht
              go_wp2_with fail
              refine (T0.out _).mono ?_
              rintro e w3 ⟨rfl, b3⟩
              have HT2 := Lib.hid (HT1.out.below b3)
              obtain ⟨_, d1⟩ := K.out w3 b off HT2.out
              have HB3 := Lib.hid (HB2.out.then b3)
              clear b3 d0
              go_wp2_with fail
              refine (T1.out _).mono ?_
              rintro e w4 ⟨rfl, b4⟩
              have HB4 := Lib.hid (HB3.out.then b4)
              clear b4 d1
              go_wp2
              go_ret
              exact ⟨rfl, HB4.out⟩

end Go.Proofs.YtggdpmaomhmobaaGreatDoor
