/-
  Package entity: digit, text, byNumber, byName, At: what each answers, in plain words.
  Package entity: byNumber: what it answers, in plain words.
  Package entity: byName, At: what each answers, in plain words.
-/
import Derived.Test.YtggdpmaomhmobaaGreatDoorEntA
namespace Go.Proofs.YtggdpmaomhmobaaGreatDoor
open Go.RowKit
set_option linter.unusedSimpArgs false
set_option linter.unusedVariables false

theorem ret_i32b {a b : Int} {c d : Bool} (h : a = b) (k : c = d) : Ending.returned (.tuple #[.int .i32 a, .bool c]) = .returned (.tuple #[.int .i32 b, .bool d]) := by rw [h, k]
theorem ret_strint {a b : ByteArray} {c d : Int} (h : a = b) (k : c = d) : Ending.returned (.tuple #[.string a, .int .i64 c]) = .returned (.tuple #[.string b, .int .i64 d]) := by rw [h, k]

theorem digit_any (r base : Int) (w : World) (hb : base = 10 ∨ base = 16) :
    Calls Tryz.prog 70 #[.int .i32 r, .int .i32 base] w fun e w' => e = .returned (.tuple #[.int .i32 (digV base r), .bool (digOk base r)]) ∧ w = w' := by
  rcases hb with rfl | rfl
  · by_cases h1 : 48 ≤ r ∧ r ≤ 57
    · have HV := Lib.hid (show digV 10 r = r - 48 ∧ digOk 10 r = true from by simp [digV, digOk, (inR_iff _ _ _).2 h1])
      obtain ⟨h1, h2⟩ := h1
      go_enter Tryz.func70, Tryz.ntmps70
      go_wp2
      go_ret2
      exact ⟨ret_i32b HV.out.1.symm HV.out.2.symm, rfl⟩
    · have HV := Lib.hid (show digV 10 r = 0 ∧ digOk 10 r = false from by simp [digV, digOk, (inR_f _ _ _).2 h1])
      go_enter Tryz.func70, Tryz.ntmps70
      go_wp2
      all_goals first | omega | (go_ret2; exact ⟨ret_i32b HV.out.1.symm HV.out.2.symm, rfl⟩)
  · by_cases h1 : 48 ≤ r ∧ r ≤ 57
    · have HV := Lib.hid (show digV 16 r = r - 48 ∧ digOk 16 r = true from by simp [digV, digOk, (inR_iff _ _ _).2 h1])
      obtain ⟨h1, h2⟩ := h1
      go_enter Tryz.func70, Tryz.ntmps70
      go_wp2
      go_ret2
      exact ⟨ret_i32b HV.out.1.symm HV.out.2.symm, rfl⟩
    · have n1 := (inR_f _ _ _).2 h1
      by_cases h2 : 97 ≤ r ∧ r ≤ 102
      · have HV := Lib.hid (show digV 16 r = r - 97 + 10 ∧ digOk 16 r = true from by simp [digV, digOk, n1, (inR_iff _ _ _).2 h2]; omega)
        clear n1 h1
        obtain ⟨h1, h2⟩ := h2
        go_enter Tryz.func70, Tryz.ntmps70
        go_wp2
        go_ret2
        exact ⟨ret_i32b HV.out.1.symm HV.out.2.symm, rfl⟩
      · have n2 := (inR_f _ _ _).2 h2
        by_cases h3 : 65 ≤ r ∧ r ≤ 70
        · have HV := Lib.hid (show digV 16 r = r - 65 + 10 ∧ digOk 16 r = true from by simp [digV, digOk, n1, n2, (inR_iff _ _ _).2 h3]; omega)
          clear n1 n2 h1 h2
          obtain ⟨h1, h2⟩ := h3
          go_enter Tryz.func70, Tryz.ntmps70
          go_wp2
          go_ret2
          exact ⟨ret_i32b HV.out.1.symm HV.out.2.symm, rfl⟩
        · have HV := Lib.hid (show digV 16 r = 0 ∧ digOk 16 r = false from by simp [digV, digOk, n1, n2, (inR_f _ _ _).2 h3])
          clear n1 n2
          go_enter Tryz.func70, Tryz.ntmps70
          go_wp2
          all_goals first | omega | (go_ret2; exact ⟨ret_i32b HV.out.1.symm HV.out.2.symm, rfl⟩)

theorem validRune_ok (v : Int) (h : v ≠ 0) : Lib.validRune v = okRune v := by
  rw [Bool.eq_iff_iff]
  simp [Lib.validRune, okRune, inR]
  omega
theorem etext_any (v : Int) (w : World) :
    Calls Tryz.prog 69 #[.int .i32 v] w fun e w' => e = .returned (.string (chrB v)) ∧ w = w' := by
  by_cases h0 : v = 0
  · subst h0
    have HV := Lib.hid (show chrB 0 = Utf8.encode 65533 from rfl)
    go_enter Tryz.func69, Tryz.ntmps69
    go_wp2
    go_ret
    exact ⟨ret_string HV.out.symm, rfl⟩
  · have f0 : (v == 0) = false := by simpa using h0
    have hr := Tryz.utf8_ValidRune v w
    rw [validRune_ok v h0] at hr
    cases ho : okRune v with
    | false =>
      have HV := Lib.hid (show chrB v = Utf8.encode 65533 from by simp [chrB, ho])
      rw [ho] at hr
      have HR := Lib.hid hr
      clear hr ho h0
      go_enter Tryz.func69, Tryz.ntmps69
      go_wp2_with (go_at_call 80; refine HR.out.mono ?_; rintro e w' ⟨rfl, rfl⟩)
      go_ret
      exact ⟨ret_string HV.out.symm, rfl⟩
    | true =>
      have HV := Lib.hid (show chrB v = Utf8.encode v from by simp [chrB, ho])
      rw [ho] at hr
      have HR := Lib.hid hr
      clear hr ho h0
      go_enter Tryz.func69, Tryz.ntmps69
      go_wp2_with (go_at_call 80; refine HR.out.mono ?_; rintro e w' ⟨rfl, rfl⟩)
      go_ret
      exact ⟨ret_string HV.out.symm, rfl⟩

end Go.Proofs.YtggdpmaomhmobaaGreatDoor

namespace Go.Proofs.YtggdpmaomhmobaaGreatDoor
open Go.RowKit
set_option linter.unusedSimpArgs false
set_option linter.unusedVariables false

theorem drop_ext (s : ByteArray) (f : Nat) : (s.extract f s.size).data.toList = s.data.toList.drop f := by
  rw [ByteArray.data_extract, Array.toList_extract, List.extract_eq_take_drop, List.take_of_length_le]
  simp
theorem ext_size (s : ByteArray) (f : Nat) : (s.extract f s.size).size = s.size - f := by rw [ByteArray.size_extract]; omega
theorem step_lt (base v d : Int) (i : Nat) (hb : 0 ≤ base) (hv : v < base ^ i) (hd : d < base) : v * base + d < base ^ (i + 1) := by
  have h := Int.mul_le_mul_of_nonneg_right (show v + 1 ≤ base ^ i from by omega) hb
  rw [Int.pow_succ]
  rw [Int.add_mul, Int.one_mul] at h
  omega
theorem pow_le (base : Int) (hb : 0 < base) {k m : Nat} (h : k ≤ m) : base ^ k ≤ base ^ m := by
  obtain ⟨d, rfl⟩ := Nat.le.dest h
  rw [Int.pow_add]
  have h1 : 0 < base ^ k := Int.pow_pos hb
  have h2 : 1 ≤ base ^ d := by have : 0 < base ^ d := Int.pow_pos hb; omega
  have h3 := Int.mul_le_mul_of_nonneg_left h2 (Int.le_of_lt h1)
  omega
def NumRel (base : Int) (most : Nat) (T : ByteArray) (w : World) (I : Nat) (n : Value) (wr : World) : Prop :=
  ∃ (k : Nat) (v : Int), n = .int .i32 v ∧ k ≤ T.size ∧ k ≤ most ∧ 0 ≤ v ∧ v < base ^ k ∧ wr.heap[I]? = some (.stringIter T k) ∧ Below w.heap.size w wr ∧ numGo base most (T.data.toList.drop k) k v = numGo base most T.data.toList 0 0
theorem numAt_none {base : Int} {f most : Nat} {s T : ByteArray} (hT : T.data.toList = s.data.toList.drop f) (h : numGo base most T.data.toList 0 0 = none) : numAt base f most s.data.toList = (ByteArray.empty, 0) := by
  unfold numAt
  rw [← hT, h]
theorem numAt_some {base : Int} {f most : Nat} {s T : ByteArray} {v : Int} {i : Nat} (hT : T.data.toList = s.data.toList.drop f) (h : numGo base most T.data.toList 0 0 = some (v, i)) : numAt base f most s.data.toList = (chrB v, f + i + 1) := by
  unfold numAt
  rw [← hT, h]
theorem digOk_high (base r : Int) (h : 128 ≤ r) : digOk base r = false := by
  simp [digOk, inR]; omega

set_option maxHeartbeats 2000000 in
set_option maxRecDepth 100000 in
theorem byNumber10 (s : ByteArray) (w : World) (hf : 2 ≤ s.size) (hs : s.size ≤ 70368744177664) :
    Calls Tryz.prog 51 #[.string s, .int .i64 2, .int .i32 10, .int .i64 7] w fun e w' => e = .returned (.tuple #[.string (numAt 10 2 7 s.data.toList).1, .int .i64 (numAt 10 2 7 s.data.toList).2]) ∧ Below w.heap.size w w' := by
  have hT := drop_ext s 2
  have hz := ext_size s 2
  have HT := Lib.hid hT
  have hz2 : (s.extract 2 s.size).size ≤ 70368744177664 := by omega
  clear hT hz
  go_enter Tryz.func51, Tryz.ntmps51
  go_wp2_with fail
  generalize s.extract 2 s.size = T at *
  go_loopw [10] (fun n wr => NumRel 10 7 T w w.heap.size n wr) (fun _ wr => T.size - wr.iterPos w.heap.size)
  case atStart => exact ⟨0, 0, rfl, Nat.zero_le _, Nat.zero_le _, Int.le_refl _, by decide, World.iter_heap w T 0, (Below.refl _ w).alloc (Nat.le_refl _) _, by simp⟩
  case round =>
    obtain ⟨k, v, rfl, hk, hm, hv0, hv1, hit, hbw, hgo⟩ := hrel
    by_cases hp : k < T.size
    · have hnx : ∀ ty, (Instr.next (.pointer (some ⟨w.heap.size, 0, none⟩)) true ty).run Tryz.prog wr = _ := fun ty => Lib.run_next_any_at wr w.heap.size T k ty hit hp
      have hit2 := Lib.iterAt_heap wr w.heap.size T k (k + (Utf8.decode T k).2) hit
      have hbw2 := Lib.below_iterAt hbw (k := w.heap.size) (by omega) T (k + (Utf8.decode T k).2)
      have Hit := Lib.hid hit
      rw [get_list T k hp] at hgo
      have HG := Lib.hid hgo
      clear hit hbw hgo
      by_cases ha : T[k].toNat < 128
      · have hd : Utf8.decode T k = (T[k].toNat, 1) := decode_ascii T k hp ha
        rw [hd] at hnx hit2 hbw2
        simp only at hnx hit2 hbw2
        clear hd
        obtain ⟨b, hb⟩ : ∃ b, T[k] = b := ⟨_, rfl⟩
        have HB := Lib.hid hb
        rw [hb] at hnx ha
        clear hb
        by_cases h59 : b.toNat = 59
        · have f59 : ((b.toNat : Int) == 59) = true := by simp; omega
          by_cases hk0 : 0 < k
          · have HR := Lib.hid (numAt_some HT.out (HG.out.symm.trans (by rw [HB.out]; exact numGo_end h59 hk0)))
            have HV := Lib.hid hv1
            clear h59 hv1
            go_wp2_with (go_at_call 69; refine (etext_any _ _).mono ?_; rintro e w' ⟨rfl, rfl⟩)
            go_ret2
            exact ⟨ret_strint (by rw [HR.out]) (by rw [HR.out]; simp), hbw2⟩
          · obtain rfl : k = 0 := by omega
            have h59i : (b.toNat : Int) = 59 := by omega
            have hdg := fun w => digit_any b.toNat 10 w (by omega)
            have hok : digOk 10 b.toNat = false := by rw [h59i]; rfl
            rw [hok] at hdg
            have HR := Lib.hid (numAt_none HT.out (HG.out.symm.trans (by rw [HB.out]; exact numGo_none (by omega) (Or.inl hok))))
            have HV := Lib.hid hv1
            have HD := Lib.hid hdg
            clear h59 h59i hv1 hok hdg
            go_wp2_with (go_at_call 70; refine (HD.out _).mono ?_; rintro e w' ⟨rfl, rfl⟩)
            go_ret2
            exact ⟨by rw [HR.out]; rfl, hbw2⟩
        · have f59 : ((b.toNat : Int) == 59) = false := by simp; omega
          have hdg := fun w => digit_any b.toNat 10 w (by omega)
          cases hok : digOk 10 b.toNat with
          | false =>
            rw [hok] at hdg
            have HR := Lib.hid (numAt_none HT.out (HG.out.symm.trans (by rw [HB.out]; exact numGo_none (by omega) (Or.inl hok))))
            have HV := Lib.hid hv1
            have HD := Lib.hid hdg
            clear h59 hv1 hok hdg
            go_wp2_with (go_at_call 70; refine (HD.out _).mono ?_; rintro e w' ⟨rfl, rfl⟩)
            go_ret2
            exact ⟨by rw [HR.out]; rfl, hbw2⟩
          | true =>
            rw [hok] at hdg
            have hbd := digV_bd 10 b.toNat hok (by omega)
            by_cases hmm : k = 7
            · have HR := Lib.hid (numAt_none HT.out (HG.out.symm.trans (by rw [HB.out]; exact numGo_none (by omega) (Or.inr hmm))))
              have HV := Lib.hid hv1
              have HD := Lib.hid hdg
              subst hmm
              clear h59 hv1 hok hdg
              generalize digV 10 b.toNat = d at *
              go_wp2_with (go_at_call 70; refine (HD.out _).mono ?_; rintro e w' ⟨rfl, rfl⟩)
              go_ret2
              exact ⟨by rw [HR.out]; rfl, hbw2⟩
            · have HR := Lib.hid (show numGo 10 7 (T.data.toList.drop (k + 1)) (k + 1) (v * 10 + digV 10 b.toNat) = numGo 10 7 T.data.toList 0 0 from by rw [← numGo_more hok hmm, ← HG.out, HB.out])
              have HP := Lib.hid (step_lt 10 v (digV 10 b.toNat) k (by omega) hv1 hbd.2)
              have hv2 : v < 1000000 := Int.lt_of_lt_of_le hv1 (pow_le 10 (by omega) (show k ≤ 7 - 1 from by omega))
              have fm : ((k : Int) == 7) = false := by simp; omega
              have hkm : k < 7 := by omega
              have HD := Lib.hid hdg
              obtain ⟨hb0, hb1⟩ := hbd
              clear h59 hv1 hok hdg hmm
              generalize digV 10 b.toNat = d at *
              go_wp2_with (go_at_call 70; refine (HD.out _).mono ?_; rintro e w' ⟨rfl, rfl⟩)
              go_roundw
              case rel => exact ⟨k + 1, v * 10 + d, by go_num, by omega, by omega, by omega, HP.out, hit2, hbw2, HR.out⟩
              case measure => simp only [World.iterPos, hit2, Hit.out]; omega
      · have hh := (decode_high T k hp (by omega)).1
        have hdg := fun w => digit_any (Utf8.decode T k).1 10 w (by omega)
        rw [digOk_high 10 _ (by omega)] at hdg
        have f59 : (((Utf8.decode T k).1 : Int) == 59) = false := by simp; omega
        have HR := Lib.hid (numAt_none HT.out (HG.out.symm.trans (numGo_none (by omega) (Or.inl (digOk_high 10 _ (by omega))))))
        have HV := Lib.hid hv1
        have HD := Lib.hid hdg
        clear hv1 hdg hh ha
        generalize (Utf8.decode T k).1 = r at *
        go_wp2_with (go_at_call 70; refine (HD.out _).mono ?_; rintro e w' ⟨rfl, rfl⟩)
        go_ret2
        exact ⟨by rw [HR.out]; rfl, hbw2⟩
    · have hnx : ∀ ty, (Instr.next (.pointer (some ⟨w.heap.size, 0, none⟩)) true ty).run Tryz.prog wr = _ := fun ty => Lib.run_next_end_at wr w.heap.size T k ty hit hp
      have e : T.data.toList.drop k = [] := List.drop_eq_nil_of_le (by simp; omega)
      rw [e] at hgo
      have HR := Lib.hid (numAt_none HT.out (hgo.symm.trans rfl))
      have HV := Lib.hid hv1
      clear e hgo hv1
      go_wp2
      go_ret2
      exact ⟨by rw [HR.out]; rfl, hbw⟩

set_option maxHeartbeats 2000000 in
set_option maxRecDepth 100000 in
theorem byNumber16 (s : ByteArray) (w : World) (hf : 3 ≤ s.size) (hs : s.size ≤ 70368744177664) :
    Calls Tryz.prog 51 #[.string s, .int .i64 3, .int .i32 16, .int .i64 6] w fun e w' => e = .returned (.tuple #[.string (numAt 16 3 6 s.data.toList).1, .int .i64 (numAt 16 3 6 s.data.toList).2]) ∧ Below w.heap.size w w' := by
  have hT := drop_ext s 3
  have hz := ext_size s 3
  have HT := Lib.hid hT
  have hz2 : (s.extract 3 s.size).size ≤ 70368744177664 := by omega
  clear hT hz
  go_enter Tryz.func51, Tryz.ntmps51
  go_wp2_with fail
  generalize s.extract 3 s.size = T at *
  go_loopw [10] (fun n wr => NumRel 16 6 T w w.heap.size n wr) (fun _ wr => T.size - wr.iterPos w.heap.size)
  case atStart => exact ⟨0, 0, rfl, Nat.zero_le _, Nat.zero_le _, Int.le_refl _, by decide, World.iter_heap w T 0, (Below.refl _ w).alloc (Nat.le_refl _) _, by simp⟩
  case round =>
    obtain ⟨k, v, rfl, hk, hm, hv0, hv1, hit, hbw, hgo⟩ := hrel
    by_cases hp : k < T.size
    · have hnx : ∀ ty, (Instr.next (.pointer (some ⟨w.heap.size, 0, none⟩)) true ty).run Tryz.prog wr = _ := fun ty => Lib.run_next_any_at wr w.heap.size T k ty hit hp
      have hit2 := Lib.iterAt_heap wr w.heap.size T k (k + (Utf8.decode T k).2) hit
      have hbw2 := Lib.below_iterAt hbw (k := w.heap.size) (by omega) T (k + (Utf8.decode T k).2)
      have Hit := Lib.hid hit
      rw [get_list T k hp] at hgo
      have HG := Lib.hid hgo
      clear hit hbw hgo
      by_cases ha : T[k].toNat < 128
      · have hd : Utf8.decode T k = (T[k].toNat, 1) := decode_ascii T k hp ha
        rw [hd] at hnx hit2 hbw2
        simp only at hnx hit2 hbw2
        clear hd
        obtain ⟨b, hb⟩ : ∃ b, T[k] = b := ⟨_, rfl⟩
        have HB := Lib.hid hb
        rw [hb] at hnx ha
        clear hb
        by_cases h59 : b.toNat = 59
        · have f59 : ((b.toNat : Int) == 59) = true := by simp; omega
          by_cases hk0 : 0 < k
          · have HR := Lib.hid (numAt_some HT.out (HG.out.symm.trans (by rw [HB.out]; exact numGo_end h59 hk0)))
            have HV := Lib.hid hv1
            clear h59 hv1
            go_wp2_with (go_at_call 69; refine (etext_any _ _).mono ?_; rintro e w' ⟨rfl, rfl⟩)
            go_ret2
            exact ⟨ret_strint (by rw [HR.out]) (by rw [HR.out]; simp), hbw2⟩
          · obtain rfl : k = 0 := by omega
            have h59i : (b.toNat : Int) = 59 := by omega
            have hdg := fun w => digit_any b.toNat 16 w (by omega)
            have hok : digOk 16 b.toNat = false := by rw [h59i]; rfl
            rw [hok] at hdg
            have HR := Lib.hid (numAt_none HT.out (HG.out.symm.trans (by rw [HB.out]; exact numGo_none (by omega) (Or.inl hok))))
            have HV := Lib.hid hv1
            have HD := Lib.hid hdg
            clear h59 h59i hv1 hok hdg
            go_wp2_with (go_at_call 70; refine (HD.out _).mono ?_; rintro e w' ⟨rfl, rfl⟩)
            go_ret2
            exact ⟨by rw [HR.out]; rfl, hbw2⟩
        · have f59 : ((b.toNat : Int) == 59) = false := by simp; omega
          have hdg := fun w => digit_any b.toNat 16 w (by omega)
          cases hok : digOk 16 b.toNat with
          | false =>
            rw [hok] at hdg
            have HR := Lib.hid (numAt_none HT.out (HG.out.symm.trans (by rw [HB.out]; exact numGo_none (by omega) (Or.inl hok))))
            have HV := Lib.hid hv1
            have HD := Lib.hid hdg
            clear h59 hv1 hok hdg
            go_wp2_with (go_at_call 70; refine (HD.out _).mono ?_; rintro e w' ⟨rfl, rfl⟩)
            go_ret2
            exact ⟨by rw [HR.out]; rfl, hbw2⟩
          | true =>
            rw [hok] at hdg
            have hbd := digV_bd 16 b.toNat hok (by omega)
            by_cases hmm : k = 6
            · have HR := Lib.hid (numAt_none HT.out (HG.out.symm.trans (by rw [HB.out]; exact numGo_none (by omega) (Or.inr hmm))))
              have HV := Lib.hid hv1
              have HD := Lib.hid hdg
              subst hmm
              clear h59 hv1 hok hdg
              generalize digV 16 b.toNat = d at *
              go_wp2_with (go_at_call 70; refine (HD.out _).mono ?_; rintro e w' ⟨rfl, rfl⟩)
              go_ret2
              exact ⟨by rw [HR.out]; rfl, hbw2⟩
            · have HR := Lib.hid (show numGo 16 6 (T.data.toList.drop (k + 1)) (k + 1) (v * 16 + digV 16 b.toNat) = numGo 16 6 T.data.toList 0 0 from by rw [← numGo_more hok hmm, ← HG.out, HB.out])
              have HP := Lib.hid (step_lt 16 v (digV 16 b.toNat) k (by omega) hv1 hbd.2)
              have hv2 : v < 1048576 := Int.lt_of_lt_of_le hv1 (pow_le 16 (by omega) (show k ≤ 6 - 1 from by omega))
              have fm : ((k : Int) == 6) = false := by simp; omega
              have hkm : k < 6 := by omega
              have HD := Lib.hid hdg
              obtain ⟨hb0, hb1⟩ := hbd
              clear h59 hv1 hok hdg hmm
              generalize digV 16 b.toNat = d at *
              go_wp2_with (go_at_call 70; refine (HD.out _).mono ?_; rintro e w' ⟨rfl, rfl⟩)
              go_roundw
              case rel => exact ⟨k + 1, v * 16 + d, by go_num, by omega, by omega, by omega, HP.out, hit2, hbw2, HR.out⟩
              case measure => simp only [World.iterPos, hit2, Hit.out]; omega
      · have hh := (decode_high T k hp (by omega)).1
        have hdg := fun w => digit_any (Utf8.decode T k).1 16 w (by omega)
        rw [digOk_high 16 _ (by omega)] at hdg
        have f59 : (((Utf8.decode T k).1 : Int) == 59) = false := by simp; omega
        have HR := Lib.hid (numAt_none HT.out (HG.out.symm.trans (numGo_none (by omega) (Or.inl (digOk_high 16 _ (by omega))))))
        have HV := Lib.hid hv1
        have HD := Lib.hid hdg
        clear hv1 hdg hh ha
        generalize (Utf8.decode T k).1 = r at *
        go_wp2_with (go_at_call 70; refine (HD.out _).mono ?_; rintro e w' ⟨rfl, rfl⟩)
        go_ret2
        exact ⟨by rw [HR.out]; rfl, hbw2⟩
    · have hnx : ∀ ty, (Instr.next (.pointer (some ⟨w.heap.size, 0, none⟩)) true ty).run Tryz.prog wr = _ := fun ty => Lib.run_next_end_at wr w.heap.size T k ty hit hp
      have e : T.data.toList.drop k = [] := List.drop_eq_nil_of_le (by simp; omega)
      rw [e] at hgo
      have HR := Lib.hid (numAt_none HT.out (hgo.symm.trans rfl))
      have HV := Lib.hid hv1
      clear e hgo hv1
      go_wp2
      go_ret2
      exact ⟨by rw [HR.out]; rfl, hbw⟩

end Go.Proofs.YtggdpmaomhmobaaGreatDoor

namespace Go.Proofs.YtggdpmaomhmobaaGreatDoor
open Go.RowKit
set_option linter.unusedSimpArgs false
set_option linter.unusedVariables false

theorem nameGo_end {b : UInt8} {l : List UInt8} {i : Nat} (h : b.toNat = 59) : nameGo (b :: l) i = some i := by rw [nameGo, if_pos h]
theorem nameGo_more {b : UInt8} {l : List UInt8} {i : Nat} (h : ¬ b.toNat = 59) (h2 : isLow b = true) : nameGo (b :: l) i = nameGo l (i + 1) := by rw [nameGo, if_neg h, if_pos h2]
theorem nameGo_none {b : UInt8} {l : List UInt8} {i : Nat} (h : ¬ b.toNat = 59) (h2 : isLow b = false) : nameGo (b :: l) i = none := by rw [nameGo, if_neg h, if_neg (by simp [h2])]
theorem nameAt_none {s T : ByteArray} (hT : T.data.toList = s.data.toList.drop 1) (h : nameGo T.data.toList 0 = none) : nameAt s.data.toList = (ByteArray.empty, 0) := by
  unfold nameAt
  rw [← hT, h]
theorem nameAt_some {s T : ByteArray} {i : Nat} (hT : T.data.toList = s.data.toList.drop 1) (h : nameGo T.data.toList 0 = some i) : nameAt s.data.toList = nameOf T.data.toList i := by
  unfold nameAt
  rw [← hT, h]
theorem part_list (s : ByteArray) (i : Nat) : (s.extract 1 (1 + i)).data.toList = (s.data.toList.drop 1).take i := by
  rw [ByteArray.data_extract, Array.toList_extract, List.extract_eq_take_drop]
  simp
theorem slice_part (s : ByteArray) (k : Nat) (h : k + 1 ≤ s.size) (w : World) :
    (Instr.slice 9 (.string s) (some (.int .i64 1)) (some (.int .i64 (1 + (k : Int)))) none).run Tryz.prog w = .ok (.string (s.extract 1 (1 + k))) w := by
  rw [run_slice_string w 9 s .i64 .i64 1 (1 + (k : Int)) Tryz.underlying9 (by omega) (by omega) (by omega)]
  rw [show (1 + (k : Int)).toNat = 1 + k from by omega]; rfl
def ByNameRel (T : ByteArray) (w : World) (I : Nat) (wr : World) : Prop :=
  ∃ k : Nat, k ≤ T.size ∧ wr.heap[I]? = some (.stringIter T k) ∧ Below w.heap.size w wr ∧ w.heap.size < wr.heap.size ∧ nameGo (T.data.toList.drop k) k = nameGo T.data.toList 0

set_option maxHeartbeats 2000000 in
set_option maxRecDepth 100000 in
theorem byName_any (s : ByteArray) (w : World) (hn : NamedIs w) (hf : 1 ≤ s.size) (hs : s.size ≤ 70368744177664) :
    Calls Tryz.prog 52 #[.string s, .int .i64 1] w fun e w' => e = .returned (.tuple #[.string (nameAt s.data.toList).1, .int .i64 (nameAt s.data.toList).2]) ∧ Below w.heap.size w w' := by
  have hT := drop_ext s 1
  have hz := ext_size s 1
  have HT := Lib.hid hT
  have HZ := Lib.hid hz
  have hz2 : (s.extract 1 s.size).size ≤ 70368744177664 := by omega
  have HN := Lib.hid hn
  clear hT hz hn
  go_enter Tryz.func52, Tryz.ntmps52
  go_wp2_with fail
  generalize s.extract 1 s.size = T at *
  go_loopw [] (fun wr => ByNameRel T w w.heap.size wr) (fun wr => T.size - wr.iterPos w.heap.size)
  case atStart => exact ⟨0, Nat.zero_le _, World.iter_heap w T 0, (Below.refl _ w).alloc (Nat.le_refl _) _, (by show _ < (w.heap.push _).size; simp), by rw [List.drop_zero]⟩
  case round =>
    obtain ⟨k, hk, hit, hbw, hsz, hgo⟩ := hrel
    by_cases hp : k < T.size
    · have hnx : ∀ ty, (Instr.next (.pointer (some ⟨w.heap.size, 0, none⟩)) true ty).run Tryz.prog wr = _ := fun ty => Lib.run_next_any_at wr w.heap.size T k ty hit hp
      have hit2 := Lib.iterAt_heap wr w.heap.size T k (k + (Utf8.decode T k).2) hit
      have hbw2 := Lib.below_iterAt hbw (k := w.heap.size) (by omega) T (k + (Utf8.decode T k).2)
      have hsz2 : w.heap.size < (wr.iterAt w.heap.size T (k + (Utf8.decode T k).2)).heap.size := by rw [Lib.iterAt_size]; exact hsz
      have Hit := Lib.hid hit
      have hzz : k + 1 ≤ s.size := by have := HZ.out; omega
      rw [get_list T k hp] at hgo
      have HG := Lib.hid hgo
      clear hit hbw hgo
      by_cases ha : T[k].toNat < 128
      · have hd : Utf8.decode T k = (T[k].toNat, 1) := decode_ascii T k hp ha
        rw [hd] at hnx hit2 hbw2 hsz2
        simp only at hnx hit2 hbw2 hsz2
        clear hd
        obtain ⟨b, hb⟩ : ∃ b, T[k] = b := ⟨_, rfl⟩
        have HB := Lib.hid hb
        rw [hb] at hnx ha
        clear hb
        by_cases h59 : b.toNat = 59
        · have f59 : ((b.toNat : Int) == 59) = true := by simp; omega
          have HR := Lib.hid (nameAt_some HT.out (HG.out.symm.trans (by rw [HB.out]; exact nameGo_end h59)))
          clear h59
          have hc := named_any (s.extract 1 (1 + k)) _ (HN.out.below hbw2)
          have hsl := slice_part s k hzz
          rw [part_list, ← HT.out] at hc
          cases hl : lookL (T.data.toList.take k) with
          | none =>
            have HO := Lib.hid (show nameOf T.data.toList k = (ByteArray.empty, 0) from by unfold nameOf; rw [hl])
            rw [show namedR (T.data.toList.take k) = .tuple #[.string ByteArray.empty, .bool false] from by unfold namedR; rw [hl]] at hc
            have HC := Lib.hid hc
            clear hc hl
            go_wp2_with (go_at_call 17; refine HC.out.mono ?_; rintro e w2 ⟨rfl, b2⟩)
            go_ret2
            exact ⟨by rw [HR.out, HO.out]; rfl, hbw2.trans (b2.mono hbw2.size)⟩
          | some t =>
            have HO := Lib.hid (show nameOf T.data.toList k = (⟨t.toArray⟩, 1 + k + 1) from by unfold nameOf; rw [hl])
            rw [show namedR (T.data.toList.take k) = .tuple #[.string ⟨t.toArray⟩, .bool true] from by unfold namedR; rw [hl]] at hc
            have HC := Lib.hid hc
            clear hc hl
            go_wp2_with (go_at_call 17; refine HC.out.mono ?_; rintro e w2 ⟨rfl, b2⟩)
            go_ret2
            exact ⟨ret_strint (by rw [HR.out, HO.out]) (by rw [HR.out, HO.out]; simp), hbw2.trans (b2.mono hbw2.size)⟩
        · have f59 : ((b.toNat : Int) == 59) = false := by simp; omega
          cases hlow : isLow b with
          | true =>
            have hr := (inR_iff _ _ _).1 hlow
            have HR := Lib.hid (show nameGo (T.data.toList.drop (k + 1)) (k + 1) = nameGo T.data.toList 0 from by rw [← nameGo_more h59 hlow, ← HG.out, HB.out])
            obtain ⟨hr1, hr2⟩ := hr
            clear h59 hlow
            go_wp2
            go_roundw
            case rel => exact ⟨k + 1, by omega, hit2, hbw2, hsz2, HR.out⟩
            case measure => simp only [World.iterPos, hit2, Hit.out]; omega
          | false =>
            have hr := (inR_f _ _ _).1 hlow
            have HR := Lib.hid (nameAt_none HT.out (HG.out.symm.trans (by rw [HB.out]; exact nameGo_none h59 hlow)))
            clear h59 hlow
            by_cases h97 : (b.toNat : Int) < 97
            · clear hr
              go_wp2
              go_ret2
              exact ⟨by rw [HR.out]; rfl, hbw2⟩
            · have h122 : ¬ (b.toNat : Int) ≤ 122 := by omega
              clear hr
              go_wp2
              go_ret2
              exact ⟨by rw [HR.out]; rfl, hbw2⟩
      · have hh := (decode_high T k hp (by omega)).1
        have f59 : (((Utf8.decode T k).1 : Int) == 59) = false := by simp; omega
        have HR := Lib.hid (nameAt_none HT.out (HG.out.symm.trans (nameGo_none (by omega) ((inR_f _ _ _).2 (by omega)))))
        have h97 : ¬ ((Utf8.decode T k).1 : Int) < 97 := by omega
        have h122 : ¬ ((Utf8.decode T k).1 : Int) ≤ 122 := by omega
        clear ha hh
        generalize (Utf8.decode T k).1 = r at *
        go_wp2
        go_ret2
        exact ⟨by rw [HR.out]; rfl, hbw2⟩
    · have hnx : ∀ ty, (Instr.next (.pointer (some ⟨w.heap.size, 0, none⟩)) true ty).run Tryz.prog wr = _ := fun ty => Lib.run_next_end_at wr w.heap.size T k ty hit hp
      have e : T.data.toList.drop k = [] := List.drop_eq_nil_of_le (by simp; omega)
      rw [e] at hgo
      have HR := Lib.hid (nameAt_none HT.out (hgo.symm.trans rfl))
      clear e hgo
      go_wp2
      go_ret2
      exact ⟨by rw [HR.out]; rfl, hbw⟩

theorem hasPrefix_size {s : ByteArray} {p : List UInt8} (h : Lib.hasPrefix s.data.toList p = true) : p.length ≤ s.size := by
  unfold Lib.hasPrefix at h
  have := (List.isPrefixOf_iff_prefix.1 h).length_le
  simpa using this

/-- The entity that a text begins with. -/
def atRet (l : List UInt8) : Value := .tuple #[.string (atL l).1, .int .i64 (atL l).2]

set_option maxHeartbeats 1000000 in
theorem at_any (s : ByteArray) (w : World) (hn : NamedIs w) (hs : s.size ≤ 70368744177664) :
    Calls Tryz.prog 38 #[.string s] w fun e w' => e = .returned (atRet s.data.toList) ∧ Below w.heap.size w w' := by
  have p1 := fun w => Tryz.strings_HasPrefix s ⟨#[38, 35, 120]⟩ w
  have p2 := fun w => Tryz.strings_HasPrefix s ⟨#[38, 35, 88]⟩ w
  have p3 := fun w => Tryz.strings_HasPrefix s ⟨#[38, 35]⟩ w
  have p4 := fun w => Tryz.strings_HasPrefix s ⟨#[38]⟩ w
  have e1 : (⟨#[38, 35, 120]⟩ : ByteArray).data.toList = [38, 35, 120] := rfl
  have e2 : (⟨#[38, 35, 88]⟩ : ByteArray).data.toList = [38, 35, 88] := rfl
  have e3 : (⟨#[38, 35]⟩ : ByteArray).data.toList = [38, 35] := rfl
  have e4 : (⟨#[38]⟩ : ByteArray).data.toList = [38] := rfl
  rw [e1] at p1
  rw [e2] at p2
  rw [e3] at p3
  rw [e4] at p4
  have HN := Lib.hid hn
  clear e1 e2 e3 e4 hn
  cases h1 : Lib.hasPrefix s.data.toList [38, 35, 120] with
  | true =>
    rw [h1] at p1
    have hz := hasPrefix_size h1
    have HR := Lib.hid (show atL s.data.toList = numAt 16 3 6 s.data.toList from by unfold atL; rw [if_pos h1])
    have P1 := Lib.hid p1
    clear p1 p2 p3 p4 h1
    go_enter Tryz.func38, Tryz.ntmps38
    go_wp2_with (first | (go_at_call 46; refine (P1.out _).mono ?_; rintro e w' ⟨rfl, rfl⟩) | (go_at_call 51; refine (byNumber16 s _ hz hs).mono ?_; rintro e w1 ⟨rfl, b1⟩))
    go_ret2
    exact ⟨by unfold atRet; rw [HR.out]; rfl, b1⟩
  | false =>
    rw [h1] at p1
    cases h2 : Lib.hasPrefix s.data.toList [38, 35, 88] with
    | true =>
      rw [h2] at p2
      have hz := hasPrefix_size h2
      have HR := Lib.hid (show atL s.data.toList = numAt 16 3 6 s.data.toList from by unfold atL; rw [if_neg (by simp [h1]), if_pos h2])
      have P1 := Lib.hid p1
      have P2 := Lib.hid p2
      clear p1 p2 p3 p4 h1 h2
      go_enter Tryz.func38, Tryz.ntmps38
      go_wp2_with fail
      refine (P1.out _).mono ?_
      rintro e w' ⟨rfl, rfl⟩
      go_wp2_with fail
      refine (P2.out _).mono ?_
      rintro e w' ⟨rfl, rfl⟩
      go_wp2_with (go_at_call 51; refine (byNumber16 s _ hz hs).mono ?_; rintro e w1 ⟨rfl, b1⟩)
      go_ret2
      exact ⟨by unfold atRet; rw [HR.out]; rfl, b1⟩
    | false =>
      rw [h2] at p2
      cases h3 : Lib.hasPrefix s.data.toList [38, 35] with
      | true =>
        rw [h3] at p3
        have hz := hasPrefix_size h3
        have HR := Lib.hid (show atL s.data.toList = numAt 10 2 7 s.data.toList from by unfold atL; rw [if_neg (by simp [h1]), if_neg (by simp [h2]), if_pos h3])
        have P1 := Lib.hid p1
        have P2 := Lib.hid p2
        have P3 := Lib.hid p3
        clear p1 p2 p3 p4 h1 h2 h3
        go_enter Tryz.func38, Tryz.ntmps38
        go_wp2_with fail
        refine (P1.out _).mono ?_
        rintro e w' ⟨rfl, rfl⟩
        go_wp2_with fail
        refine (P2.out _).mono ?_
        rintro e w' ⟨rfl, rfl⟩
        go_wp2_with fail
        refine (P3.out _).mono ?_
        rintro e w' ⟨rfl, rfl⟩
        go_wp2_with (go_at_call 51; refine (byNumber10 s _ hz hs).mono ?_; rintro e w1 ⟨rfl, b1⟩)
        go_ret2
        exact ⟨by unfold atRet; rw [HR.out]; rfl, b1⟩
      | false =>
        rw [h3] at p3
        cases h4 : Lib.hasPrefix s.data.toList [38] with
        | true =>
          rw [h4] at p4
          have hz := hasPrefix_size h4
          have HR := Lib.hid (show atL s.data.toList = nameAt s.data.toList from by unfold atL; rw [if_neg (by simp [h1]), if_neg (by simp [h2]), if_neg (by simp [h3]), if_pos h4])
          have P1 := Lib.hid p1
          have P2 := Lib.hid p2
          have P3 := Lib.hid p3
          have P4 := Lib.hid p4
          clear p1 p2 p3 p4 h1 h2 h3 h4
          go_enter Tryz.func38, Tryz.ntmps38
          go_wp2_with fail
          refine (P1.out _).mono ?_
          rintro e w' ⟨rfl, rfl⟩
          go_wp2_with fail
          refine (P2.out _).mono ?_
          rintro e w' ⟨rfl, rfl⟩
          go_wp2_with fail
          refine (P3.out _).mono ?_
          rintro e w' ⟨rfl, rfl⟩
          go_wp2_with fail
          refine (P4.out _).mono ?_
          rintro e w' ⟨rfl, rfl⟩
          go_wp2_with (go_at_call 52; refine (byName_any s _ HN.out hz hs).mono ?_; rintro e w1 ⟨rfl, b1⟩)
          go_ret2
          exact ⟨by unfold atRet; rw [HR.out]; rfl, b1⟩
        | false =>
          rw [h4] at p4
          have HR := Lib.hid (show atL s.data.toList = (ByteArray.empty, 0) from by unfold atL; rw [if_neg (by simp [h1]), if_neg (by simp [h2]), if_neg (by simp [h3]), if_neg (by simp [h4])])
          have P1 := Lib.hid p1
          have P2 := Lib.hid p2
          have P3 := Lib.hid p3
          have P4 := Lib.hid p4
          clear p1 p2 p3 p4 h1 h2 h3 h4
          go_enter Tryz.func38, Tryz.ntmps38
          go_wp2_with fail
          refine (P1.out _).mono ?_
          rintro e w' ⟨rfl, rfl⟩
          go_wp2_with fail
          refine (P2.out _).mono ?_
          rintro e w' ⟨rfl, rfl⟩
          go_wp2_with fail
          refine (P3.out _).mono ?_
          rintro e w' ⟨rfl, rfl⟩
          go_wp2_with fail
          refine (P4.out _).mono ?_
          rintro e w' ⟨rfl, rfl⟩
          go_wp2
          go_ret2
          exact ⟨by unfold atRet; rw [HR.out]; rfl, Below.refl _ _⟩

end Go.Proofs.YtggdpmaomhmobaaGreatDoor
