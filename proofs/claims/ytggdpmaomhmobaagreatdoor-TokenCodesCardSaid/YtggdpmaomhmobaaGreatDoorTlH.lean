/-
  The laws of the layer token: TokenCodes: its walk.
-/
import Derived.Test.YtggdpmaomhmobaaGreatDoorTlE
import Derived.Test.YtggdpmaomhmobaaGreatDoorTlC
import Derived.Test.YtggdpmaomhmobaaGreatDoorTkR
namespace Go.Proofs.YtggdpmaomhmobaaGreatDoor
open Go.RowKit
set_option linter.unusedSimpArgs false
set_option linter.unusedVariables false
set_option maxRecDepth 100000

theorem tk_index_str (s : ByteArray) (i : Int) (k : Nat) (e : i = k) (h : k < s.size) (w : World) :
    (Instr.index 9 (.string s) (.int .i64 i)).run Tryz.prog w = .ok (.int .u8 s[k].toNat) w := by
  subst e
  rw [run_index_string _ _ _ _ _ Tryz.underlying9, dif_pos (by omega)]
  rfl
theorem app_bytes (l k : List UInt8) : (⟨l.toArray⟩ : ByteArray) ++ ⟨k.toArray⟩ = ⟨(l ++ k).toArray⟩ := by rw [str_append]
theorem tk_empty_of (a : ByteArray) (h : a.size = 0) : a = ⟨#[]⟩ := by
  have : a.data.toList = [] := List.length_eq_zero_iff.1 (by rw [size_len']; exact h)
  rw [← Lib.mk_data a, this]
def noTick (b : UInt8) : Bool := b != 96
def TickRel (s : ByteArray) (v : Value) : Prop := ∃ k : Nat, v = .int .i64 k ∧ k ≤ s.size ∧ ∀ b ∈ s.data.toList.take k, noTick b = true
def is32 (b : UInt8) : Bool := b == 32
def FlatRel (s : ByteArray) (w : World) (t al i : Value) (wr : World) : Prop :=
  ∃ k : Nat, i = .int .i64 k ∧ k ≤ s.size ∧ t = .string ⟨(tkFlat (s.data.toList.take k)).toArray⟩ ∧ al = .bool ((tkFlat (s.data.toList.take k)).all is32) ∧ Below w.heap.size w wr
theorem flat_snoc (s : ByteArray) (k : Nat) (h : k < s.size) : tkFlat (s.data.toList.take (k + 1)) = tkFlat (s.data.toList.take k) ++ [if s[k] == 10 then 32 else s[k]] := by
  rw [List.take_succ_eq_append_getElem (by simpa using h)]
  unfold tkFlat
  rw [List.map_append]
  rfl
theorem flat_snoc_all (s : ByteArray) (k : Nat) (h : k < s.size) : (tkFlat (s.data.toList.take (k + 1))).all is32 = ((tkFlat (s.data.toList.take k)).all is32 && is32 (if s[k] == 10 then 32 else s[k])) := by
  rw [flat_snoc s k h, List.all_append]
  simp
theorem takeWhile_full (p : UInt8 → Bool) : ∀ l : List UInt8, (l.takeWhile p).length = l.length ↔ l.all p = true
  | [] => by simp
  | a :: l => by
    rw [List.takeWhile_cons]
    cases h : p a with
    | true => simp [h, takeWhile_full p l]
    | false => simp [h]
theorem row_all (l : List UInt8) (hl : l ≠ []) (h0 : l.headD 0 = 32) : decide (rowL l < l.length) = !l.all is32 := by
  obtain ⟨c, t, rfl⟩ : ∃ c t, l = c :: t := by cases l with | nil => exact absurd rfl hl | cons c t => exact ⟨c, t, rfl⟩
  have hc : c = 32 := h0
  subst hc
  have e : rowL (32 :: t) = 1 + (t.takeWhile is32).length := rfl
  have hf := takeWhile_full is32 t
  have hle := takeWhile_le is32 t
  rw [e]
  have ha : (32 :: t).all is32 = t.all is32 := by simp [is32]
  rw [ha]
  cases h : t.all is32 with
  | true =>
    have := hf.2 h
    simp; omega
  | false =>
    have hne : (t.takeWhile is32).length ≠ t.length := fun e2 => by rw [hf.1 e2] at h; cases h
    simp; omega
theorem hasL_first (l : List UInt8) (c : UInt8) (t : List UInt8) (h : l = c :: t) (b : UInt8) : hasL l 0 b = (c == b) := by
  subst h
  exact hasL_at [] t c b 0 rfl
theorem shown_all (l : List UInt8) (h : (tkFlat l).all is32 = true) (hne : l ≠ []) : shownL l = tkFlat l := by
  have hn : tkFlat l ≠ [] := by intro e; have := tkFlat_length l; rw [e] at this; exact hne (List.length_eq_zero_iff.1 this.symm)
  have h0 : (tkFlat l).headD 0 = 32 := by
    cases hl : tkFlat l with
    | nil => exact absurd hl hn
    | cons c t => rw [hl] at h; simp [is32] at h; exact h.1
  rw [shownL_flat, row_all _ hn h0, h]
  simp
theorem shown_no (l : List UInt8) (h : hasL (tkFlat l) 0 32 = false ∨ hasL (tkFlat l) ((tkFlat l).length - 1) 32 = false) : shownL l = tkFlat l := by
  rw [shownL_flat]
  rcases h with h | h <;> rw [h] <;> simp
theorem shown_cut (l : List UInt8) (hne : l ≠ []) (h : (tkFlat l).all is32 = false) (h1 : hasL (tkFlat l) 0 32 = true) (h2 : hasL (tkFlat l) ((tkFlat l).length - 1) 32 = true) :
    shownL l = ((tkFlat l).take ((tkFlat l).length - 1)).drop 1 := by
  have hn : tkFlat l ≠ [] := by intro e; have := tkFlat_length l; rw [e] at this; exact hne (List.length_eq_zero_iff.1 this.symm)
  have h0 : (tkFlat l).headD 0 = 32 := by
    cases hl : tkFlat l with
    | nil => exact absurd hl hn
    | cons c t =>
      rw [hl, hasL_first _ c t rfl] at h1
      exact eq_of_beq h1
  rw [shownL_flat, row_all _ hn h0, h, h1, h2]
  rfl
theorem hasL_get (M : ByteArray) (k : Nat) (h : k < M.size) (b : UInt8) : hasL M.data.toList k b = (M[k] == b) := by
  unfold hasL
  rw [List.getElem?_eq_getElem (by simpa using h)]
  show (some M[k] == some b) = _
  rfl

set_option maxHeartbeats 8000000 in
theorem tokenCodes_walk (w : World) (h7 : TkW w) (a0 : Int) (w0 : (Lit.int .i64 a0).wf = true) (a1 : ByteArray) (w1 : a1.size ≤ maxLen) :
    Calls Tryz.prog 4 #[.int .i64 a0, .string a1] w fun e w' => e = .returned (.bool true) ∧ Below w.heap.size w w' := by
  have CA := Lib.hid (alive12_any w h7)
  have H7 := Lib.hid h7
  have hw0 : -9223372036854775808 ≤ a0 ∧ a0 ≤ 9223372036854775807 := by simpa [Lit.wf, IntKind.min, IntKind.max, IntKind.signed, IntKind.bits] using w0
  unfold maxLen at w1
  clear h7 w0
  by_cases hz : a0 < 1 ∨ 6 < a0 ∨ a1.size = 0 ∨ 60 < a1.size
  · have hcase : a0 < 1 ∨ (1 ≤ a0 ∧ 6 < a0) ∨ (1 ≤ a0 ∧ a0 ≤ 6 ∧ a1.size = 0) ∨ (1 ≤ a0 ∧ a0 ≤ 6 ∧ 0 < a1.size ∧ 60 < a1.size) := by omega
    clear hz
    rcases hcase with h1 | ⟨h1, h2⟩ | ⟨h1, h2, h3⟩ | ⟨h1, h2, h3, h4⟩
    · go_enter Tryz.func4, Tryz.ntmps4
      go_wp2_with fail
      refine CA.out.mono ?_
      rintro e w1 ⟨rfl, b1⟩
      go_wp2
      go_ret
      exact ⟨rfl, b1⟩
    · go_enter Tryz.func4, Tryz.ntmps4
      go_wp2_with fail
      refine CA.out.mono ?_
      rintro e w1 ⟨rfl, b1⟩
      go_wp2
      go_ret
      exact ⟨rfl, b1⟩
    · obtain rfl := tk_empty_of a1 h3
      clear h3 w1
      go_enter Tryz.func4, Tryz.ntmps4
      go_wp2_with fail
      refine CA.out.mono ?_
      rintro e w1 ⟨rfl, b1⟩
      go_wp2
      go_ret
      exact ⟨rfl, b1⟩
    · have e1 := toList_ne h3
      have e2 := toList_empty h3
      go_enter Tryz.func4, Tryz.ntmps4
      go_wp2_with fail
      refine CA.out.mono ?_
      rintro e w1 ⟨rfl, b1⟩
      go_wp2
      go_ret
      exact ⟨rfl, b1⟩
  · obtain ⟨n, rfl, hn1, hn2⟩ : ∃ n : Nat, a0 = n ∧ 1 ≤ n ∧ n ≤ 6 := ⟨a0.toNat, by omega, by omega, by omega⟩
    have hz1 : a1.size ≤ 60 := by omega
    have hz3 : 0 < a1.size := by omega
    have e1 := toList_ne hz3
    have e2 := toList_empty hz3
    clear hz hw0
    go_enter Tryz.func4, Tryz.ntmps4
    go_wp2_with fail
    refine CA.out.mono ?_
    rintro e w1 ⟨rfl, b1⟩
    have HB1 := Lib.hid b1
    clear b1
    go_wp2_with fail
    clear e1 e2
    go_loop [5] (fun v => TickRel a1 v) (fun v => a1.size - (intOf v).toNat)
    case atStart => exact ⟨0, rfl, Nat.zero_le _, by simp⟩
    case round =>
      obtain ⟨k, rfl, hk, hall⟩ := hrel
      by_cases hlt : k < a1.size
      · have e96 := eq_byte a1[k] 96
        rw [show (((96 : UInt8).toNat : Nat) : Int) = 96 from rfl] at e96
        cases hb : noTick a1[k] with
        | true =>
          have HA := Lib.hid (take_mem a1 k hlt noTick hall hb)
          unfold noTick at hb
          rw [show (a1[k] == 96) = false from by simpa using hb] at e96
          clear hb hall
          go_wp2
          all_goals first
            | exact ⟨⟨k + 1, by go_num, by omega, HA.out⟩, by simp only [intOf]; omega⟩
            | (go_round
               case rel => exact ⟨k + 1, by go_num, by omega, HA.out⟩
               case measure => simp [intOf]; omega)
        | false =>
          unfold noTick at hb
          rw [show (a1[k] == 96) = true from by simpa using hb] at e96
          clear hb hall
          go_wp2
          go_ret
          exact ⟨rfl, HB1.out⟩
      · obtain rfl : k = a1.size := by omega
        rw [List.take_of_length_le (by rw [size_len']; exact Nat.le_refl _)] at hall
        have HT := Lib.hid (show ∀ b ∈ a1.data.toList, b ≠ 96 from fun b hb => by simpa [noTick] using hall b hb)
        clear hall
        have S1 := Lib.hid (fun (j : Nat) (hj : j < n) W => run_string_add_sum (P := Tryz.prog) W (⟨([] ++ List.replicate j (96 : UInt8)).toArray⟩ : ByteArray) ⟨#[96]⟩ (by rw [rep_size]; show 0 + j + 1 ≤ _; omega))
        go_wp2_with fail
        go_loop [6, 7] (fun s k => RepRel [] 96 n s k) (fun _ k => n - (intOf k).toNat)
        case atStart => exact ⟨0, rfl, Nat.zero_le _, rfl⟩
        case round =>
          obtain ⟨j, rfl, hj, rfl⟩ := hrel
          by_cases hlt : j < n
          · have hs := S1.out j hlt
            rw [rep_snoc] at hs
            generalize hgA : (⟨([] ++ List.replicate j (96 : UInt8)).toArray⟩ : ByteArray) = t at *
            generalize hgB : (⟨([] ++ List.replicate (j + 1) (96 : UInt8)).toArray⟩ : ByteArray) = t2 at *
            have HGB := Lib.hid hgB
            clear hgA hgB
            go_wp2
            go_round
            case rel => exact ⟨j + 1, by go_num, by omega, by rw [HGB.out]⟩
            case measure => simp [intOf]; omega
          · obtain rfl : j = n := by omega
            rw [List.nil_append]
            have hQl : (⟨(List.replicate j (96 : UInt8)).toArray⟩ : ByteArray).data.toList = List.replicate j 96 := rfl
            have hQs : (⟨(List.replicate j (96 : UInt8)).toArray⟩ : ByteArray).size = j := by rw [str_size]; simp
            generalize (⟨(List.replicate j (96 : UInt8)).toArray⟩ : ByteArray) = Q at *
            have HQ := Lib.hid hQl
            clear hQl
            go_wp2_with fail
            go_loopw [8, 9, 10] (fun t al i wr => FlatRel a1 w1 t al i wr) (fun _ _ i _ => a1.size - (intOf i).toNat)
            case atStart => exact ⟨0, rfl, Nat.zero_le _, rfl, rfl, Below.refl _ _⟩
            case round =>
              obtain ⟨k, rfl, hk, rfl, rfl, hbw⟩ := hrel
              by_cases hlt : k < a1.size
              · have hsn := flat_snoc a1 k hlt
                have hal := flat_snoc_all a1 k hlt
                have e10 := eq_byte a1[k] 10
                have e32 := eq_byte a1[k] 32
                rw [show (((10 : UInt8).toNat : Nat) : Int) = 10 from rfl] at e10
                rw [show (((32 : UInt8).toNat : Nat) : Int) = 32 from rfl] at e32
                have hln : (tkFlat (a1.data.toList.take k)).length = k := by rw [tkFlat_length, List.length_take, size_len']; omega
                have HB := Lib.hid hbw
                clear hbw
                cases h10 : (a1[k] == 10) with
                | true =>
                  rw [h10] at hsn hal e10
                  rw [if_pos rfl] at hsn hal
                  rw [show is32 32 = true from rfl, Bool.and_true] at hal
                  have hs := fun W => run_string_add_sum (P := Tryz.prog) W (⟨(tkFlat (a1.data.toList.take k)).toArray⟩ : ByteArray) ⟨#[32]⟩ (by rw [str_size, hln]; show k + 1 ≤ _; omega)
                  rw [show (⟨(tkFlat (a1.data.toList.take k)).toArray⟩ : ByteArray) ++ (⟨#[32]⟩ : ByteArray) = ⟨(tkFlat (a1.data.toList.take (k + 1))).toArray⟩ from by rw [hsn]; exact app_bytes _ [32]] at hs
                  have HX := Lib.hid hal
                  have hcv := fun W => conv_u8 32 W
                  rw [show (((32 : UInt8).toNat : Nat) : Int) = 32 from rfl] at hcv
                  clear hal hsn hln e32 h10
                  generalize (tkFlat (a1.data.toList.take k)).all is32 = al at *
                  generalize hgA : (⟨(tkFlat (a1.data.toList.take k)).toArray⟩ : ByteArray) = t at *
                  generalize hgB : (⟨(tkFlat (a1.data.toList.take (k + 1))).toArray⟩ : ByteArray) = t2 at *
                  have HGB := Lib.hid hgB
                  clear hgA hgB
                  cases al
                  all_goals
                    go_wp2
                    all_goals first
                      | exact ⟨⟨k + 1, by go_num, by omega, by rw [HGB.out], by rw [HX.out], HB.out.alloc HB.out.size _⟩, by simp only [intOf]; omega⟩
                      | (go_roundw
                         case rel => exact ⟨k + 1, by go_num, by omega, by rw [HGB.out], by rw [HX.out], HB.out.alloc HB.out.size _⟩
                         case measure => simp [intOf]; omega)
                | false =>
                  rw [h10] at hsn hal e10
                  rw [if_neg (by decide)] at hsn hal
                  have hs := fun W => run_string_add_sum (P := Tryz.prog) W (⟨(tkFlat (a1.data.toList.take k)).toArray⟩ : ByteArray) ⟨#[a1[k]]⟩ (by rw [str_size, hln]; show k + 1 ≤ _; omega)
                  rw [show (⟨(tkFlat (a1.data.toList.take k)).toArray⟩ : ByteArray) ++ (⟨#[a1[k]]⟩ : ByteArray) = ⟨(tkFlat (a1.data.toList.take (k + 1))).toArray⟩ from by rw [hsn]; exact app_bytes _ [a1[k]]] at hs
                  have hcv := fun W => conv_u8 a1[k] W
                  rw [show is32 a1[k] = (a1[k] == 32) from rfl] at hal
                  clear hsn hln h10
                  cases h32 : (a1[k] == 32)
                  all_goals
                    rw [h32] at e32 hal
                    generalize (tkFlat (a1.data.toList.take k)).all is32 = al at *
                    generalize hgA : (⟨(tkFlat (a1.data.toList.take k)).toArray⟩ : ByteArray) = t at *
                    generalize hgB : (⟨(tkFlat (a1.data.toList.take (k + 1))).toArray⟩ : ByteArray) = t2 at *
                    have HGB := Lib.hid hgB
                    have HX := Lib.hid hal
                    clear hgA hgB hal h32
                    cases al
                    all_goals
                      go_wp2
                      all_goals first
                        | exact ⟨⟨k + 1, by go_num, by omega, by rw [HGB.out], by rw [HX.out]; rfl, HB.out.alloc HB.out.size _⟩, by simp only [intOf]; omega⟩
                        | (go_roundw
                           case rel => exact ⟨k + 1, by go_num, by omega, by rw [HGB.out], by rw [HX.out]; rfl, HB.out.alloc HB.out.size _⟩
                           case measure => simp [intOf]; omega)
              · obtain rfl : k = a1.size := by omega
                rw [List.take_of_length_le (by rw [size_len']; exact Nat.le_refl _)]
                have HB2 := Lib.hid (HB1.out.then hbw)
                clear hbw
                have hne : a1.data.toList ≠ [] := by intro e; have := size_len' a1; rw [e] at this; simp at this; omega
                obtain ⟨M, hM⟩ : ∃ M : ByteArray, M = ⟨(tkFlat a1.data.toList).toArray⟩ := ⟨_, rfl⟩
                have hM2 : tkFlat a1.data.toList = M.data.toList := by rw [hM]
                have hMs : M.size = a1.size := by rw [← size_len' M, ← hM2, tkFlat_length, size_len']
                rw [← hM]
                have s1 := shown_all a1.data.toList
                have s2 := shown_no a1.data.toList
                have s3 := shown_cut a1.data.toList hne
                have hMl := size_len' M
                rw [hM2] at s1 s2 s3
                rw [hMl] at s2 s3
                have hal2 : (tkFlat a1.data.toList).all is32 = M.data.toList.all is32 := by rw [hM2]
                rw [hal2]
                clear hM
                have r1 := fun W => run_string_add_sum (P := Tryz.prog) W Q a1 (by rw [hQs]; omega)
                have r2 := fun W => run_string_add_sum (P := Tryz.prog) W (Q ++ a1) Q (by rw [ByteArray.size_append, hQs]; omega)
                have hn3 := next_code j hn1 a1.data.toList hne HT.out
                have hn4 := next_open j hn1 a1.data.toList hne HT.out
                have hT1 : ((Q ++ a1) ++ Q).data.toList = List.replicate j 96 ++ (a1.data.toList ++ List.replicate j 96) := by simp [HQ.out]
                have hT1s : ((Q ++ a1) ++ Q).size = 2 * j + a1.size := by rw [ByteArray.size_append, ByteArray.size_append, hQs]; omega
                have hT2 : (Q ++ a1).data.toList = List.replicate j 96 ++ a1.data.toList := by simp [HQ.out]
                have hT2s : (Q ++ a1).size = j + a1.size := by rw [ByteArray.size_append, hQs]
                rw [← hT1] at hn3
                rw [← hT2] at hn4
                generalize (Q ++ a1) ++ Q = T1 at *
                generalize Q ++ a1 = T2 at *
                have c1 := fun W h => next_at0 T1 (by omega) (by omega) hn3 W h
                have c2 := fun W h => next_at0 T2 (by omega) (by omega) hn4 W h
                have hm1 : ((2 * j + a1.data.toList.length : Nat) : Int) = 2 * (j : Int) + (a1.size : Int) := by rw [size_len']; omega
                rw [hm1] at c1
                have ct1 := fun W => tok_code (shownL a1.data.toList) W
                have ct2 := fun W => tok_word (List.replicate j 96) W
                generalize tkV (.code (shownL a1.data.toList)) = v1 at *
                generalize tkV (.word (List.replicate j 96)) = v2 at *
                unfold tokV at ct1 ct2
                simp only [kindV, textTk, urlTk, numTk] at ct1 ct2
                rw [show (⟨(List.replicate j (96 : UInt8)).toArray⟩ : ByteArray) = Q from by rw [← HQ.out, Lib.mk_data]] at ct2
                have C1 := Lib.hid c1
                have C2 := Lib.hid c2
                have CT2 := Lib.hid ct2
                have m0 : 0 < M.size := by omega
                have m1 : M.size - 1 < M.size := by omega
                have q0 := hasL_get M 0 m0 32
                have q1 := hasL_get M (M.size - 1) m1 32
                have f0 := eq_byte M[0] 32
                have f1 := eq_byte M[M.size - 1] 32
                rw [show (((32 : UInt8).toNat : Nat) : Int) = 32 from rfl, ← q0] at f0
                rw [show (((32 : UInt8).toNat : Nat) : Int) = 32 from rfl, ← q1] at f1
                have hix := fun W => tk_index_str M ((M.size : Int) - 1) (M.size - 1) (by omega) m1 W
                have hMb : M.size ≤ 60 := by omega
                clear c1 c2 ct2 hn3 hn4 hT1 hT1s hT2 hT2s hm1 hal2 hMl hM2 q0 q1 hne hMs hQs
                cases hal : M.data.toList.all is32 with
                | true =>
                  rw [s1 hal (by intro e; have := size_len' a1; rw [e] at this; simp at this; omega), Lib.mk_data] at ct1
                  have CT1 := Lib.hid ct1
                  clear ct1 s1 s2 s3 hal f0 f1
                  go_wp2_with fail
                  refine (C1.out _ (H7.out.below HB2.out)).mono ?_
                  rintro e w3 ⟨rfl, b3⟩
                  have HB3 := Lib.hid (HB2.out.then b3)
                  clear b3
                  go_wp2_with fail
                  refine (C2.out _ (H7.out.below HB3.out)).mono ?_
                  rintro e w4 ⟨rfl, b4⟩
                  have HB4 := Lib.hid (HB3.out.then b4)
                  clear b4
                  go_wp2_with fail
                  refine (CT1.out _).mono ?_
                  rintro e w5 ⟨rfl, b5⟩
                  have HB5 := Lib.hid (HB4.out.then b5)
                  clear b5
                  go_wp2_with fail
                  refine (CT2.out _).mono ?_
                  rintro e w6 ⟨rfl, b6⟩
                  have HB6 := Lib.hid (HB5.out.then b6)
                  clear b6
                  go_wp2
                  go_ret
                  exact ⟨ret_bool (by simp), HB6.out⟩
                | false =>
                  rw [hal] at s3
                  cases h1 : hasL M.data.toList 0 32 with
                  | false =>
                    rw [s2 (Or.inl h1), Lib.mk_data] at ct1
                    rw [h1] at f0
                    have CT1 := Lib.hid ct1
                    clear ct1 s1 s2 s3 hal h1 f1
                    go_wp2_with fail
                    refine (C1.out _ (H7.out.below HB2.out)).mono ?_
                    rintro e w3 ⟨rfl, b3⟩
                    have HB3 := Lib.hid (HB2.out.then b3)
                    clear b3
                    go_wp2_with fail
                    refine (C2.out _ (H7.out.below HB3.out)).mono ?_
                    rintro e w4 ⟨rfl, b4⟩
                    have HB4 := Lib.hid (HB3.out.then b4)
                    clear b4
                    go_wp2_with fail
                    refine (CT1.out _).mono ?_
                    rintro e w5 ⟨rfl, b5⟩
                    have HB5 := Lib.hid (HB4.out.then b5)
                    clear b5
                    go_wp2_with fail
                    refine (CT2.out _).mono ?_
                    rintro e w6 ⟨rfl, b6⟩
                    have HB6 := Lib.hid (HB5.out.then b6)
                    clear b6
                    go_wp2
                    go_ret
                    exact ⟨ret_bool (by simp), HB6.out⟩
                  | true =>
                    rw [h1] at f0 s3
                    cases h2 : hasL M.data.toList (M.size - 1) 32 with
                    | false =>
                      rw [s2 (Or.inr h2), Lib.mk_data] at ct1
                      rw [h2] at f1
                      have CT1 := Lib.hid ct1
                      clear ct1 s1 s2 s3 hal h1 h2
                      go_wp2_with fail
                      refine (C1.out _ (H7.out.below HB2.out)).mono ?_
                      rintro e w3 ⟨rfl, b3⟩
                      have HB3 := Lib.hid (HB2.out.then b3)
                      clear b3
                      go_wp2_with fail
                      refine (C2.out _ (H7.out.below HB3.out)).mono ?_
                      rintro e w4 ⟨rfl, b4⟩
                      have HB4 := Lib.hid (HB3.out.then b4)
                      clear b4
                      go_wp2_with fail
                      refine (CT1.out _).mono ?_
                      rintro e w5 ⟨rfl, b5⟩
                      have HB5 := Lib.hid (HB4.out.then b5)
                      clear b5
                      go_wp2_with fail
                      refine (CT2.out _).mono ?_
                      rintro e w6 ⟨rfl, b6⟩
                      have HB6 := Lib.hid (HB5.out.then b6)
                      clear b6
                      go_wp2
                      go_ret
                      exact ⟨ret_bool (by simp), HB6.out⟩
                    | true =>
                      rw [h2] at f1
                      rw [s3 rfl rfl h2] at ct1
                      have hm2 : 2 ≤ M.size := by
                        by_cases hh : 2 ≤ M.size
                        · exact hh
                        · exfalso
                          have hs1 : M.size = 1 := by omega
                          have : M.data.toList.all is32 = true := by
                            have hlen := size_len' M
                            rw [hs1] at hlen
                            obtain ⟨x, hx⟩ := List.length_eq_one_iff.1 hlen
                            rw [hx, hasL_first _ x [] rfl] at h1
                            rw [hx]
                            simpa [is32] using h1
                          rw [this] at hal
                          cases hal
                      rw [show (⟨((M.data.toList.take (M.size - 1)).drop 1).toArray⟩ : ByteArray) = M.extract 1 (M.size - 1) from by rw [ext_bytes, List.drop_take]] at ct1
                      have hsl := fun W => slice_lohi M 1 ((M.size : Int) - 1) 1 (M.size - 1) rfl (by omega) (by omega) (by omega) W
                      generalize M.extract 1 (M.size - 1) = M2 at *
                      have CT1 := Lib.hid ct1
                      clear ct1 s1 s2 s3 hal h1 h2
                      go_wp2_with fail
                      refine (C1.out _ (H7.out.below HB2.out)).mono ?_
                      rintro e w3 ⟨rfl, b3⟩
                      have HB3 := Lib.hid (HB2.out.then b3)
                      clear b3
                      go_wp2_with fail
                      refine (C2.out _ (H7.out.below HB3.out)).mono ?_
                      rintro e w4 ⟨rfl, b4⟩
                      have HB4 := Lib.hid (HB3.out.then b4)
                      clear b4
                      go_wp2_with fail
                      refine (CT1.out _).mono ?_
                      rintro e w5 ⟨rfl, b5⟩
                      have HB5 := Lib.hid (HB4.out.then b5)
                      clear b5
                      go_wp2_with fail
                      refine (CT2.out _).mono ?_
                      rintro e w6 ⟨rfl, b6⟩
                      have HB6 := Lib.hid (HB5.out.then b6)
                      clear b6
                      go_wp2
                      go_ret
                      exact ⟨ret_bool (by simp), HB6.out⟩

end Go.Proofs.YtggdpmaomhmobaaGreatDoor
