/-
  BlockDeep: quotes in one another lie as deep as they may; a sign more is text: the law's walk.
-/
import Derived.Test.YtoleoigpijgboaaDoorBkA
import Derived.Test.YtoleoigpijgboaaDoorMkP
import Derived.Lib.MinMax
namespace Go.Proofs.YtoleoigpijgboaaDoor
open Go.RowKit
set_option linter.unusedSimpArgs false
set_option linter.unusedVariables false
set_option maxRecDepth 100000

def reps : Nat → List UInt8
  | 0 => []
  | n + 1 => 62 :: 32 :: reps n
theorem reps_snoc : ∀ n, reps n ++ [62, 32] = reps (n + 1)
  | 0 => rfl
  | n + 1 => by
    show 62 :: 32 :: (reps n ++ [62, 32]) = 62 :: 32 :: reps (n + 1)
    rw [reps_snoc n]
theorem reps_len : ∀ n, (reps n).length = 2 * n
  | 0 => rfl
  | n + 1 => by
    have := reps_len n
    simp only [reps, List.length_cons]; omega
theorem deep_all : ∀ n, n < 21 → 1 ≤ n → (parseB [reps n ++ [120]]).length = min n 12 + 1 ∧ (parseB [reps n ++ [120]])[min n 12]? = some ⟨1, min n 12, 0, false, reps (n - min n 12) ++ [120], []⟩ := by decide +kernel

def DpRel (pre post : List UInt8) (m n : Nat) (w : World) (v i : Value) (wr : World) : Prop := ∃ (k : Nat) (U : ByteArray), i = .int .i64 k ∧ m ≤ k ∧ k ≤ n ∧ v = .string U ∧ U.data.toList = reps (k - m) ++ post ∧ wr = w
theorem strs_text {U : ByteArray} {l : List UInt8} (h : U.data.toList = l) : strs [l] = [.string U] := by rw [strs_one, text_is h]

set_option maxHeartbeats 8000000 in
theorem blockDeep_short (w : World) (n : Nat) (h1 : 1 ≤ n) (h20 : n ≤ 20) :
    Calls Tryd.prog 9 #[.int .i64 n] w fun e w' => e = .returned (.bool true) ∧ Below w.heap.size w w' := by
  obtain ⟨hL, hG⟩ := deep_all n (by omega) h1
  obtain ⟨m, hm⟩ : ∃ m, min n 12 = m := ⟨_, rfl⟩
  rw [hm] at hL hG
  have hmn : m ≤ n := by omega
  have hm12 : m ≤ 12 := by omega
  have hmi : min (n : Int) 12 = (m : Int) := by omega
  have HLen := Lib.hid hL
  have HGet := Lib.hid hG
  have hf1 : decide ((n : Int) < 1) = false := by simp; omega
  have hf2 : decide ((20 : Int) < (n : Int)) = false := by simp; omega
  clear hL hG hm
  go_enter Tryd.func9, Tryd.ntmps9
  go_wp2_with fail
  refine (alive9_any _).mono ?_
  rintro e w1 ⟨rfl, b1⟩
  have HB1 := Lib.hid b1
  clear b1
  go_wp2_with fail
  go_loopw [3, 4] (fun v i wr => DpRel [] [] 0 n w1 v i wr) (fun _ i _ => n - (intOf i).toNat)
  case atStart => exact ⟨0, ⟨#[]⟩, rfl, Nat.zero_le _, Nat.zero_le _, rfl, rfl, rfl⟩
  case round =>
    obtain ⟨k, U, rfl, _, hk, rfl, hU, hwe⟩ := hrel
    have hwe := hwe.symm
    subst hwe
    rw [List.append_nil, Nat.sub_zero] at hU
    have hsz := text_size hU
    rw [reps_len] at hsz
    by_cases hp : k < n
    · have HST := Lib.hid (show (U ++ (⟨#[62, 32]⟩ : ByteArray)).data.toList = reps (k + 1) from by rw [ByteArray.data_append, Array.toList_append, hU]; exact reps_snoc k)
      clear hU
      go_wp2
      go_roundw
      case rel => exact ⟨k + 1, _, by go_num, Nat.zero_le _, by omega, rfl, by rw [List.append_nil]; exact HST.out, rfl⟩
      case measure => simp [intOf]; omega
    · obtain rfl : k = n := by omega
      obtain ⟨T, hT0⟩ : ∃ T, U ++ (⟨#[120]⟩ : ByteArray) = T := ⟨_, rfl⟩
      have hT : T.data.toList = reps k ++ [120] := by rw [← hT0, ByteArray.data_append, Array.toList_append, hU]
      have hadd := fun W => run_string_add_sum (P := Tryd.prog) W U (⟨#[120]⟩ : ByteArray) (by show _ + 1 ≤ _; omega)
      rw [hT0] at hadd
      have hrow := rowOf_lit w1 9 [.string T] (by unfold maxLen; simp)
      rw [← strs_text hT] at hrow
      have hfew : Few [reps k ++ [120]] := ⟨by simp, fun x hx => by
        simp at hx
        subst hx
        have h3 := wt_le (reps k ++ [120])
        rw [List.length_append, reps_len] at h3
        simp at h3
        omega⟩
      have cp := bparse_any (some ⟨w1.heap.size, 0, none⟩) 1 [reps k ++ [120]] _ hrow hfew
      rw [strs_text hT] at cp
      have hba : Below w1.heap.size w1 (w1.alloc (.cells #[.string T] 9)) := (Below.refl _ w1).alloc (Nat.le_refl _) _
      have HBA := Lib.hid hba
      clear hU hsz hT0 hrow hfew hba
      go_wp2_with fail
      refine cp.mono ?_
      rintro e w2 ⟨v2, rfl, hown, b2⟩
      obtain ⟨A2, c2, rfl, hat⟩ := BlksAt.own hown
      have hlen := HLen.out
      have hget := HGet.out
      generalize parseB [reps k ++ [120]] = bs at *
      obtain ⟨hml, hme⟩ := List.getElem?_eq_some_iff.1 hget
      obtain ⟨b9, off, hA, hb9, hc0, hc1, hc2, hc3, hc4, hc5⟩ := hat.at hml
      clear hc2 hc3 hc5
      rw [hme] at hc0 hc1 hc4
      dsimp only at hc0 hc1 hc4
      have HB2 := Lib.hid ((HB1.out.then HBA.out).then b2)
      have hle := hat.le
      have hcm := hat.cap
      unfold maxLen at hcm
      rw [hlen] at hle
      subst hA
      have hlb : (bs.length : Int) = (m : Int) + 1 := by omega
      have HC4 := Lib.hid hc4
      rw [hlen]
      clear hown b2 cp hat hlen hget hml hme hc4
      go_wp2_with fail
      go_loopw [7, 8] (fun v i wr => DpRel [] [120] m k w2 v i wr) (fun _ i _ => k - (intOf i).toNat)
      case atStart => exact ⟨m, ⟨#[120]⟩, rfl, Nat.le_refl _, hmn, rfl, by rw [Nat.sub_self]; rfl, rfl⟩
      case round =>
        obtain ⟨j, V, rfl, hmj, hj, rfl, hV, hwe⟩ := hrel
        have hwe := hwe.symm
        subst hwe
        have hszV := text_size hV
        rw [List.length_append, reps_len] at hszV
        simp only [List.length_cons, List.length_nil] at hszV
        by_cases hp2 : j < k
        · have HST := Lib.hid (show ((⟨#[62, 32]⟩ : ByteArray) ++ V).data.toList = reps (j + 1 - m) ++ [120] from by
            rw [ByteArray.data_append, Array.toList_append, hV, show j + 1 - m = (j - m) + 1 from by omega]
            rfl)
          have hadd2 := fun W => run_string_add_sum (P := Tryd.prog) W (⟨#[62, 32]⟩ : ByteArray) V (by show 2 + _ ≤ _; omega)
          clear hV
          go_wp2
          first
            | (go_roundw
               case rel => exact ⟨j + 1, _, by go_num, by omega, by omega, rfl, HST.out, rfl⟩
               case measure => simp [intOf]; omega)
            | exact ⟨⟨j + 1, _, by go_num, by omega, by omega, rfl, HST.out, rfl⟩, by simp [intOf]; omega⟩
        · obtain rfl : j = k := by omega
          have hc4 := HC4.out
          rw [text_is hV] at hc4
          clear hV hszV
          go_wp2
          go_ret
          exact ⟨ret_bool (by simp), HB2.out⟩

theorem blockDeep_walk (w : World) (a0 : Int) (w0 : (Lit.int .i64 a0).wf = true) :
    Calls Tryd.prog 9 #[.int .i64 a0] w fun e w' => e = .returned (.bool true) ∧ Below w.heap.size w w' := by
  by_cases h1 : a0 < 1
  · have f1 : decide (a0 < 1) = true := by simpa using h1
    go_enter Tryd.func9, Tryd.ntmps9
    go_wp2_with fail
    refine (alive9_any _).mono ?_
    rintro e w1 ⟨rfl, b1⟩
    go_wp2
    go_ret
    exact ⟨rfl, b1⟩
  · have f1 : decide (a0 < 1) = false := by simpa using h1
    by_cases h2 : 20 < a0
    · have f2 : decide (20 < a0) = true := by simpa using h2
      go_enter Tryd.func9, Tryd.ntmps9
      go_wp2_with fail
      refine (alive9_any _).mono ?_
      rintro e w1 ⟨rfl, b1⟩
      go_wp2
      go_ret
      exact ⟨rfl, b1⟩
    · obtain ⟨n, rfl⟩ : ∃ n : Nat, a0 = n := ⟨a0.toNat, by omega⟩
      exact blockDeep_short w n (by omega) (by omega)

end Go.Proofs.YtoleoigpijgboaaDoor
