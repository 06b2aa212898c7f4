/-
  Package entity: byNumber: what it answers, in plain words.
-/
import Derived.Test.YtioolcnoiaoflaaDoorEntB
namespace Go.Proofs.YtioolcnoiaoflaaDoor
open Go.RowKit
set_option linter.unusedSimpArgs false
set_option linter.unusedVariables false

theorem drop_ext (s : ByteArray) (f : Nat) : (s.extract f s.size).data.toList = s.data.toList.drop f := by
  rw [ByteArray.data_extract, Array.toList_extract, List.extract_eq_take_drop, List.take_of_length_le]
  simp
theorem ext_size (s : ByteArray) (f : Nat) : (s.extract f s.size).size = s.size - f := by rw [ByteArray.size_extract]; omega
theorem step_lt (base v d : Int) (i : Nat) (hb : 0 ≤ base) (hv : v < base ^ i) (hd : d < base) : v * base + d < base ^ (i + 1) := by
  have h := Int.mul_le_mul_of_nonneg_right (show v + 1 ≤ base ^ i from by omega) hb
  rw [Int.pow_succ]
  rw [Int.add_mul, Int.one_mul] at h
  omega
theorem pow_le (base : Int) (hb : 0 < base) {k m : Nat} (h : k ≤ m) : base ^ k ≤ base ^ m := by
  obtain ⟨d, rfl⟩ := Nat.le.dest h
  rw [Int.pow_add]
  have h1 : 0 < base ^ k := Int.pow_pos hb
  have h2 : 1 ≤ base ^ d := by have : 0 < base ^ d := Int.pow_pos hb; omega
  have h3 := Int.mul_le_mul_of_nonneg_left h2 (Int.le_of_lt h1)
  omega
def NumRel (base : Int) (most : Nat) (T : ByteArray) (w : World) (I : Nat) (n : Value) (wr : World) : Prop :=
  ∃ (k : Nat) (v : Int), n = .int .i32 v ∧ k ≤ T.size ∧ k ≤ most ∧ 0 ≤ v ∧ v < base ^ k ∧ wr.heap[I]? = some (.stringIter T k) ∧ Below w.heap.size w wr ∧ numGo base most (T.data.toList.drop k) k v = numGo base most T.data.toList 0 0
theorem numAt_none {base : Int} {f most : Nat} {s T : ByteArray} (hT : T.data.toList = s.data.toList.drop f) (h : numGo base most T.data.toList 0 0 = none) : numAt base f most s.data.toList = (ByteArray.empty, 0) := by
  unfold numAt
  rw [← hT, h]
theorem numAt_some {base : Int} {f most : Nat} {s T : ByteArray} {v : Int} {i : Nat} (hT : T.data.toList = s.data.toList.drop f) (h : numGo base most T.data.toList 0 0 = some (v, i)) : numAt base f most s.data.toList = (chrB v, f + i + 1) := by
  unfold numAt
  rw [← hT, h]
theorem digOk_high (base r : Int) (h : 128 ≤ r) : digOk base r = false := by
  simp [digOk, inR]; omega

set_option maxHeartbeats 2000000 in
set_option maxRecDepth 100000 in
theorem byNumber10 (s : ByteArray) (w : World) (hf : 2 ≤ s.size) (hs : s.size ≤ 70368744177664) :
    Calls Tryd.prog 58 #[.string s, .int .i64 2, .int .i32 10, .int .i64 7] w fun e w' => e = .returned (.tuple #[.string (numAt 10 2 7 s.data.toList).1, .int .i64 (numAt 10 2 7 s.data.toList).2]) ∧ Below w.heap.size w w' := by
  have hT := drop_ext s 2
  have hz := ext_size s 2
  have HT := Lib.hid hT
  have hz2 : (s.extract 2 s.size).size ≤ 70368744177664 := by omega
  clear hT hz
  go_enter Tryd.func58, Tryd.ntmps58
  go_wp2_with fail
  generalize s.extract 2 s.size = T at *
  go_loopw [10] (fun n wr => NumRel 10 7 T w w.heap.size n wr) (fun _ wr => T.size - wr.iterPos w.heap.size)
  case atStart => exact ⟨0, 0, rfl, Nat.zero_le _, Nat.zero_le _, Int.le_refl _, by decide, World.iter_heap w T 0, (Below.refl _ w).alloc (Nat.le_refl _) _, by simp⟩
  case round =>
    obtain ⟨k, v, rfl, hk, hm, hv0, hv1, hit, hbw, hgo⟩ := hrel
    by_cases hp : k < T.size
    · have hnx : ∀ ty, (Instr.next (.pointer (some ⟨w.heap.size, 0, none⟩)) true ty).run Tryd.prog wr = _ := fun ty => Lib.run_next_any_at wr w.heap.size T k ty hit hp
      have hit2 := Lib.iterAt_heap wr w.heap.size T k (k + (Utf8.decode T k).2) hit
      have hbw2 := Lib.below_iterAt hbw (k := w.heap.size) (by omega) T (k + (Utf8.decode T k).2)
      have Hit := Lib.hid hit
      rw [get_list T k hp] at hgo
      have HG := Lib.hid hgo
      clear hit hbw hgo
      by_cases ha : T[k].toNat < 128
      · have hd : Utf8.decode T k = (T[k].toNat, 1) := decode_ascii T k hp ha
        rw [hd] at hnx hit2 hbw2
        simp only at hnx hit2 hbw2
        clear hd
        obtain ⟨b, hb⟩ : ∃ b, T[k] = b := ⟨_, rfl⟩
        have HB := Lib.hid hb
        rw [hb] at hnx ha
        clear hb
        by_cases h59 : b.toNat = 59
        · have f59 : ((b.toNat : Int) == 59) = true := by simp; omega
          by_cases hk0 : 0 < k
          · have HR := Lib.hid (numAt_some HT.out (HG.out.symm.trans (by rw [HB.out]; exact numGo_end h59 hk0)))
            have HV := Lib.hid hv1
            clear h59 hv1
            go_wp2_with (go_at_call 60; refine (etext_any _ _).mono ?_; rintro e w' ⟨rfl, rfl⟩)
            go_ret2
            exact ⟨ret_strint (by rw [HR.out]) (by rw [HR.out]; simp), hbw2⟩
          · obtain rfl : k = 0 := by omega
            have h59i : (b.toNat : Int) = 59 := by omega
            have hdg := fun w => digit_any b.toNat 10 w (by omega)
            have hok : digOk 10 b.toNat = false := by rw [h59i]; rfl
            rw [hok] at hdg
            have HR := Lib.hid (numAt_none HT.out (HG.out.symm.trans (by rw [HB.out]; exact numGo_none (by omega) (Or.inl hok))))
            have HV := Lib.hid hv1
            have HD := Lib.hid hdg
            clear h59 h59i hv1 hok hdg
            go_wp2_with (go_at_call 61; refine (HD.out _).mono ?_; rintro e w' ⟨rfl, rfl⟩)
            go_ret2
            exact ⟨by rw [HR.out]; rfl, hbw2⟩
        · have f59 : ((b.toNat : Int) == 59) = false := by simp; omega
          have hdg := fun w => digit_any b.toNat 10 w (by omega)
          cases hok : digOk 10 b.toNat with
          | false =>
            rw [hok] at hdg
            have HR := Lib.hid (numAt_none HT.out (HG.out.symm.trans (by rw [HB.out]; exact numGo_none (by omega) (Or.inl hok))))
            have HV := Lib.hid hv1
            have HD := Lib.hid hdg
            clear h59 hv1 hok hdg
            go_wp2_with (go_at_call 61; refine (HD.out _).mono ?_; rintro e w' ⟨rfl, rfl⟩)
            go_ret2
            exact ⟨by rw [HR.out]; rfl, hbw2⟩
          | true =>
            rw [hok] at hdg
            have hbd := digV_bd 10 b.toNat hok (by omega)
            by_cases hmm : k = 7
            · have HR := Lib.hid (numAt_none HT.out (HG.out.symm.trans (by rw [HB.out]; exact numGo_none (by omega) (Or.inr hmm))))
              have HV := Lib.hid hv1
              have HD := Lib.hid hdg
              subst hmm
              clear h59 hv1 hok hdg
              generalize digV 10 b.toNat = d at *
              go_wp2_with (go_at_call 61; refine (HD.out _).mono ?_; rintro e w' ⟨rfl, rfl⟩)
              go_ret2
              exact ⟨by rw [HR.out]; rfl, hbw2⟩
            · have HR := Lib.hid (show numGo 10 7 (T.data.toList.drop (k + 1)) (k + 1) (v * 10 + digV 10 b.toNat) = numGo 10 7 T.data.toList 0 0 from by rw [← numGo_more hok hmm, ← HG.out, HB.out])
              have HP := Lib.hid (step_lt 10 v (digV 10 b.toNat) k (by omega) hv1 hbd.2)
              have hv2 : v < 1000000 := Int.lt_of_lt_of_le hv1 (pow_le 10 (by omega) (show k ≤ 7 - 1 from by omega))
              have fm : ((k : Int) == 7) = false := by simp; omega
              have hkm : k < 7 := by omega
              have HD := Lib.hid hdg
              obtain ⟨hb0, hb1⟩ := hbd
              clear h59 hv1 hok hdg hmm
              generalize digV 10 b.toNat = d at *
              go_wp2_with (go_at_call 61; refine (HD.out _).mono ?_; rintro e w' ⟨rfl, rfl⟩)
              go_roundw
              case rel => exact ⟨k + 1, v * 10 + d, by go_num, by omega, by omega, by omega, HP.out, hit2, hbw2, HR.out⟩
              case measure => simp only [World.iterPos, hit2, Hit.out]; omega
      · have hh := (decode_high T k hp (by omega)).1
        have hdg := fun w => digit_any (Utf8.decode T k).1 10 w (by omega)
        rw [digOk_high 10 _ (by omega)] at hdg
        have f59 : (((Utf8.decode T k).1 : Int) == 59) = false := by simp; omega
        have HR := Lib.hid (numAt_none HT.out (HG.out.symm.trans (numGo_none (by omega) (Or.inl (digOk_high 10 _ (by omega))))))
        have HV := Lib.hid hv1
        have HD := Lib.hid hdg
        clear hv1 hdg hh ha
        generalize (Utf8.decode T k).1 = r at *
        go_wp2_with (go_at_call 61; refine (HD.out _).mono ?_; rintro e w' ⟨rfl, rfl⟩)
        go_ret2
        exact ⟨by rw [HR.out]; rfl, hbw2⟩
    · have hnx : ∀ ty, (Instr.next (.pointer (some ⟨w.heap.size, 0, none⟩)) true ty).run Tryd.prog wr = _ := fun ty => Lib.run_next_end_at wr w.heap.size T k ty hit hp
      have e : T.data.toList.drop k = [] := List.drop_eq_nil_of_le (by simp; omega)
      rw [e] at hgo
      have HR := Lib.hid (numAt_none HT.out (hgo.symm.trans rfl))
      have HV := Lib.hid hv1
      clear e hgo hv1
      go_wp2
      go_ret2
      exact ⟨by rw [HR.out]; rfl, hbw⟩

set_option maxHeartbeats 2000000 in
set_option maxRecDepth 100000 in
theorem byNumber16 (s : ByteArray) (w : World) (hf : 3 ≤ s.size) (hs : s.size ≤ 70368744177664) :
    Calls Tryd.prog 58 #[.string s, .int .i64 3, .int .i32 16, .int .i64 6] w fun e w' => e = .returned (.tuple #[.string (numAt 16 3 6 s.data.toList).1, .int .i64 (numAt 16 3 6 s.data.toList).2]) ∧ Below w.heap.size w w' := by
  have hT := drop_ext s 3
  have hz := ext_size s 3
  have HT := Lib.hid hT
  have hz2 : (s.extract 3 s.size).size ≤ 70368744177664 := by omega
  clear hT hz
  go_enter Tryd.func58, Tryd.ntmps58
  go_wp2_with fail
  generalize s.extract 3 s.size = T at *
  go_loopw [10] (fun n wr => NumRel 16 6 T w w.heap.size n wr) (fun _ wr => T.size - wr.iterPos w.heap.size)
  case atStart => exact ⟨0, 0, rfl, Nat.zero_le _, Nat.zero_le _, Int.le_refl _, by decide, World.iter_heap w T 0, (Below.refl _ w).alloc (Nat.le_refl _) _, by simp⟩
  case round =>
    obtain ⟨k, v, rfl, hk, hm, hv0, hv1, hit, hbw, hgo⟩ := hrel
    by_cases hp : k < T.size
    · have hnx : ∀ ty, (Instr.next (.pointer (some ⟨w.heap.size, 0, none⟩)) true ty).run Tryd.prog wr = _ := fun ty => Lib.run_next_any_at wr w.heap.size T k ty hit hp
      have hit2 := Lib.iterAt_heap wr w.heap.size T k (k + (Utf8.decode T k).2) hit
      have hbw2 := Lib.below_iterAt hbw (k := w.heap.size) (by omega) T (k + (Utf8.decode T k).2)
      have Hit := Lib.hid hit
      rw [get_list T k hp] at hgo
      have HG := Lib.hid hgo
      clear hit hbw hgo
      by_cases ha : T[k].toNat < 128
      · have hd : Utf8.decode T k = (T[k].toNat, 1) := decode_ascii T k hp ha
        rw [hd] at hnx hit2 hbw2
        simp only at hnx hit2 hbw2
        clear hd
        obtain ⟨b, hb⟩ : ∃ b, T[k] = b := ⟨_, rfl⟩
        have HB := Lib.hid hb
        rw [hb] at hnx ha
        clear hb
        by_cases h59 : b.toNat = 59
        · have f59 : ((b.toNat : Int) == 59) = true := by simp; omega
          by_cases hk0 : 0 < k
          · have HR := Lib.hid (numAt_some HT.out (HG.out.symm.trans (by rw [HB.out]; exact numGo_end h59 hk0)))
            have HV := Lib.hid hv1
            clear h59 hv1
            go_wp2_with (go_at_call 60; refine (etext_any _ _).mono ?_; rintro e w' ⟨rfl, rfl⟩)
            go_ret2
            exact ⟨ret_strint (by rw [HR.out]) (by rw [HR.out]; simp), hbw2⟩
          · obtain rfl : k = 0 := by omega
            have h59i : (b.toNat : Int) = 59 := by omega
            have hdg := fun w => digit_any b.toNat 16 w (by omega)
            have hok : digOk 16 b.toNat = false := by rw [h59i]; rfl
            rw [hok] at hdg
            have HR := Lib.hid (numAt_none HT.out (HG.out.symm.trans (by rw [HB.out]; exact numGo_none (by omega) (Or.inl hok))))
            have HV := Lib.hid hv1
            have HD := Lib.hid hdg
            clear h59 h59i hv1 hok hdg
            go_wp2_with (go_at_call 61; refine (HD.out _).mono ?_; rintro e w' ⟨rfl, rfl⟩)
            go_ret2
            exact ⟨by rw [HR.out]; rfl, hbw2⟩
        · have f59 : ((b.toNat : Int) == 59) = false := by simp; omega
          have hdg := fun w => digit_any b.toNat 16 w (by omega)
          cases hok : digOk 16 b.toNat with
          | false =>
            rw [hok] at hdg
            have HR := Lib.hid (numAt_none HT.out (HG.out.symm.trans (by rw [HB.out]; exact numGo_none (by omega) (Or.inl hok))))
            have HV := Lib.hid hv1
            have HD := Lib.hid hdg
            clear h59 hv1 hok hdg
            go_wp2_with (go_at_call 61; refine (HD.out _).mono ?_; rintro e w' ⟨rfl, rfl⟩)
            go_ret2
            exact ⟨by rw [HR.out]; rfl, hbw2⟩
          | true =>
            rw [hok] at hdg
            have hbd := digV_bd 16 b.toNat hok (by omega)
            by_cases hmm : k = 6
            · have HR := Lib.hid (numAt_none HT.out (HG.out.symm.trans (by rw [HB.out]; exact numGo_none (by omega) (Or.inr hmm))))
              have HV := Lib.hid hv1
              have HD := Lib.hid hdg
              subst hmm
              clear h59 hv1 hok hdg
              generalize digV 16 b.toNat = d at *
              go_wp2_with (go_at_call 61; refine (HD.out _).mono ?_; rintro e w' ⟨rfl, rfl⟩)
              go_ret2
              exact ⟨by rw [HR.out]; rfl, hbw2⟩
            · have HR := Lib.hid (show numGo 16 6 (T.data.toList.drop (k + 1)) (k + 1) (v * 16 + digV 16 b.toNat) = numGo 16 6 T.data.toList 0 0 from by rw [← numGo_more hok hmm, ← HG.out, HB.out])
              have HP := Lib.hid (step_lt 16 v (digV 16 b.toNat) k (by omega) hv1 hbd.2)
              have hv2 : v < 1048576 := Int.lt_of_lt_of_le hv1 (pow_le 16 (by omega) (show k ≤ 6 - 1 from by omega))
              have fm : ((k : Int) == 6) = false := by simp; omega
              have hkm : k < 6 := by omega
              have HD := Lib.hid hdg
              obtain ⟨hb0, hb1⟩ := hbd
              clear h59 hv1 hok hdg hmm
              generalize digV 16 b.toNat = d at *
              go_wp2_with (go_at_call 61; refine (HD.out _).mono ?_; rintro e w' ⟨rfl, rfl⟩)
              go_roundw
              case rel => exact ⟨k + 1, v * 16 + d, by go_num, by omega, by omega, by omega, HP.out, hit2, hbw2, HR.out⟩
              case measure => simp only [World.iterPos, hit2, Hit.out]; omega
      · have hh := (decode_high T k hp (by omega)).1
        have hdg := fun w => digit_any (Utf8.decode T k).1 16 w (by omega)
        rw [digOk_high 16 _ (by omega)] at hdg
        have f59 : (((Utf8.decode T k).1 : Int) == 59) = false := by simp; omega
        have HR := Lib.hid (numAt_none HT.out (HG.out.symm.trans (numGo_none (by omega) (Or.inl (digOk_high 16 _ (by omega))))))
        have HV := Lib.hid hv1
        have HD := Lib.hid hdg
        clear hv1 hdg hh ha
        generalize (Utf8.decode T k).1 = r at *
        go_wp2_with (go_at_call 61; refine (HD.out _).mono ?_; rintro e w' ⟨rfl, rfl⟩)
        go_ret2
        exact ⟨by rw [HR.out]; rfl, hbw2⟩
    · have hnx : ∀ ty, (Instr.next (.pointer (some ⟨w.heap.size, 0, none⟩)) true ty).run Tryd.prog wr = _ := fun ty => Lib.run_next_end_at wr w.heap.size T k ty hit hp
      have e : T.data.toList.drop k = [] := List.drop_eq_nil_of_le (by simp; omega)
      rw [e] at hgo
      have HR := Lib.hid (numAt_none HT.out (hgo.symm.trans rfl))
      have HV := Lib.hid hv1
      clear e hgo hv1
      go_wp2
      go_ret2
      exact ⟨by rw [HR.out]; rfl, hbw⟩

end Go.Proofs.YtioolcnoiaoflaaDoor
