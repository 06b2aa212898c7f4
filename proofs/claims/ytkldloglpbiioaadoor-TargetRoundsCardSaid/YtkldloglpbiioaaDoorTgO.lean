/-
  The laws of the layer target: TargetRounds: its walk.
-/
import Derived.Test.YtkldloglpbiioaaDoorTgN
import Derived.Test.YtkldloglpbiioaaDoorTgJ
import Derived.Laws.Bits128
namespace Go.Proofs.YtkldloglpbiioaaDoor
open Go.RowKit
set_option linter.unusedSimpArgs false
set_option linter.unusedVariables false

theorem i64_and3 (n : Int) : bits .and .i64 n 3 = n % 4 := by
  have h3 : (BitVec.ofInt 64 3).toNat = 2 ^ 2 - 1 := by decide
  have key : (BitVec.ofInt 64 n &&& BitVec.ofInt 64 3).toNat = (n % ((2 ^ 64 : Nat) : Int)).toNat % 2 ^ 2 := by
    rw [BitVec.toNat_and, BitVec.toNat_ofInt, h3, Nat.and_two_pow_sub_one_eq_mod]
  show IntKind.i64.wrap ((BitVec.ofInt 64 n &&& BitVec.ofInt 64 3).toNat : Nat) = n % 4
  rw [key, IntKind.wrap_i64]
  omega
theorem i64_and1 (n : Int) : bits .and .i64 n 1 = n % 2 := by
  have h3 : (BitVec.ofInt 64 1).toNat = 2 ^ 1 - 1 := by decide
  have key : (BitVec.ofInt 64 n &&& BitVec.ofInt 64 1).toNat = (n % ((2 ^ 64 : Nat) : Int)).toNat % 2 ^ 1 := by
    rw [BitVec.toNat_and, BitVec.toNat_ofInt, h3, Nat.and_two_pow_sub_one_eq_mod]
  show IntKind.i64.wrap ((BitVec.ofInt 64 n &&& BitVec.ofInt 64 1).toNat : Nat) = n % 2
  rw [key, IntKind.wrap_i64]
  omega
theorem mask3 (n : Int) : ∃ i : Nat, i < 4 ∧ bits .and .i64 n 3 = (i : Int) := ⟨(n % 4).toNat, by omega, by rw [i64_and3]; omega⟩
theorem mask1 (n : Int) : ∃ i : Nat, i < 2 ∧ bits .and .i64 n 1 = (i : Int) := ⟨(n % 2).toNat, by omega, by rw [i64_and1]; omega⟩
theorem gap_get (j : Nat) (hj : j < 4) : ([Value.string ⟨#[]⟩, Value.string ⟨#[32]⟩, Value.string ⟨#[10]⟩, Value.string ⟨#[32, 9, 32]⟩] : List Value)[j]'hj = .string ⟨(gapT j).toArray⟩ := by
  match j, hj with
  | 0, _ => rfl
  | 1, _ => rfl
  | 2, _ => rfl
  | 3, _ => rfl
theorem gap_get1 (j : Nat) (hj : j < 2) : ([Value.string ⟨#[]⟩, Value.string ⟨#[32]⟩, Value.string ⟨#[10]⟩, Value.string ⟨#[32, 9, 32]⟩] : List Value)[1 + j]? = some (.string ⟨(gapT (1 + j)).toArray⟩) := by
  match j, hj with
  | 0, _ => rfl
  | 1, _ => rfl

set_option maxHeartbeats 4000000 in
set_option maxRecDepth 100000 in
theorem targetRounds_in (w : World) (hn : TenIs w) (a0 a1 : ByteArray) (a2 a3 a4 : Int) (a5 : ByteArray) (h0 : 0 < a0.size) (h1 : a0.size ≤ 40) (h2 : a1.size ≤ 40) (h5 : a5.size ≤ 30) :
    Calls Tryd.prog 5 #[.string a0, .string a1, .int .i64 a2, .int .i64 a3, .int .i64 a4, .string a5] w fun e w' => e = .returned (.bool true) ∧ Below w.heap.size w w' := by
  have ca := alive10_any w hn
  have HN := Lib.hid hn
  have fe := toList_empty h0
  have fe2 : (a0.toList == []) = false := by simpa using toList_ne h0
  clear hn
  go_enter Tryd.func5, Tryd.ntmps5
  go_wp2_with fail
  refine ca.mono ?_
  rintro e' w1 ⟨rfl, b1⟩
  go_wp2_with fail
  have HBL := Lib.hid (show Below w.heap.size w (w1.alloc (.cells #[.string a0, .string a1] 9)) from b1.alloc b1.size _)
  go_loop [48] (fun i => TwoRel a0 a1 i) (fun i => 2 - (intOf i).toNat)
  case atStart => exact ⟨0, rfl, Or.inl rfl⟩
  case round =>
    obtain ⟨k, rfl, hk⟩ := hrel
    rcases hk with rfl | ⟨rfl, hl0⟩ | ⟨rfl, hl0, hl1⟩
    · skip
      go_wp2_with fail
      go_loop [15] (fun i => LetRel a0 i) (fun i => a0.size - (intOf i).toNat)
      case atStart => exact ⟨0, rfl, Nat.zero_le _, by intro b hb; simp at hb⟩
      case round =>
        obtain ⟨m, rfl, hm, hL⟩ := hrel
        by_cases hp : m < a0.size
        · have hix := index_str a0 m m rfl hp
          by_cases hb : 97 ≤ a0[m].toNat ∧ a0[m].toNat ≤ 122
          · have HL := Lib.hid (letters_snoc hL hp hb.1 hb.2)
            obtain ⟨hb1, hb2⟩ := hb
            clear hL
            generalize a0[m] = b at *
            go_wp2
            go_round
            case rel => exact ⟨m + 1, by go_num, by omega, HL.out⟩
            case measure => simp [intOf]; omega
          · have hcase : a0[m].toNat < 97 ∨ 97 ≤ a0[m].toNat ∧ 122 < a0[m].toNat := by omega
            clear hL hb
            generalize a0[m] = b at *
            rcases hcase with hb | ⟨hb, hb2⟩
            all_goals
              go_wp2
              go_ret
              exact ⟨rfl, HBL.out⟩
        · obtain rfl : m = a0.size := by omega
          rw [List.take_of_length_le (by simp)] at hL
          have HL := Lib.hid hL
          clear hL
          go_wp2
          go_round
          case rel => exact ⟨1, rfl, Or.inr (Or.inl ⟨rfl, HL.out⟩)⟩
          case measure => simp [intOf]
    · have HL0 := Lib.hid hl0
      clear hl0
      go_wp2_with fail
      go_loop [15] (fun i => LetRel a1 i) (fun i => a1.size - (intOf i).toNat)
      case atStart => exact ⟨0, rfl, Nat.zero_le _, by intro b hb; simp at hb⟩
      case round =>
        obtain ⟨m, rfl, hm, hL⟩ := hrel
        by_cases hp : m < a1.size
        · have hix := index_str a1 m m rfl hp
          by_cases hb : 97 ≤ a1[m].toNat ∧ a1[m].toNat ≤ 122
          · have HL := Lib.hid (letters_snoc hL hp hb.1 hb.2)
            obtain ⟨hb1, hb2⟩ := hb
            clear hL
            generalize a1[m] = b at *
            go_wp2
            go_round
            case rel => exact ⟨m + 1, by go_num, by omega, HL.out⟩
            case measure => simp [intOf]; omega
          · have hcase : a1[m].toNat < 97 ∨ 97 ≤ a1[m].toNat ∧ 122 < a1[m].toNat := by omega
            clear hL hb
            generalize a1[m] = b at *
            rcases hcase with hb | ⟨hb, hb2⟩
            all_goals
              go_wp2
              go_ret
              exact ⟨rfl, HBL.out⟩
        · obtain rfl : m = a1.size := by omega
          rw [List.take_of_length_le (by simp)] at hL
          have HL := Lib.hid hL
          clear hL
          go_wp2
          go_round
          case rel => exact ⟨2, rfl, Or.inr (Or.inr ⟨rfl, HL0.out, HL.out⟩)⟩
          case measure => simp [intOf]
    · obtain ⟨i1, hi1, hm1⟩ := mask3 a2
      obtain ⟨i2, hi2, hm2⟩ := mask1 a3
      obtain ⟨i3, hi3, hm3⟩ := mask3 a4
      have hg1 := gap_get i1 hi1
      have hg2 := gap_get1 i2 hi2
      have hg3 := gap_get i3 hi3
      have z1 : (⟨(gapT i1).toArray⟩ : ByteArray).size ≤ 3 := by rw [str_size]; exact gap_len i1 hi1
      have z2 : (⟨(gapT (1 + i2)).toArray⟩ : ByteArray).size ≤ 3 := by rw [str_size]; exact gap_len _ (by omega)
      have z3 : (⟨(gapT i3).toArray⟩ : ByteArray).size ≤ 3 := by rw [str_size]; exact gap_len i3 hi3
      have HP := Lib.hid (rnd_plain (more := a5.data.toList) (gap_blanks i1 hi1) (gap_blanks i3 hi3) hl0)
      have HT := Lib.hid (rnd_title (more := a5.data.toList) (t := a1.data.toList) (gap_blanks i1 hi1) (gap_blanks (1 + i2) (by omega)) (gap_ne i2 hi2) (gap_blanks i3 hi3) hl0)
      have HL1 := Lib.hid hl1
      have E1 := Lib.hid (show (⟨(gapT i1).toArray⟩ : ByteArray).data.toList = gapT i1 from rfl)
      have E2 := Lib.hid (show (⟨(gapT (1 + i2)).toArray⟩ : ByteArray).data.toList = gapT (1 + i2) from rfl)
      have E3 := Lib.hid (show (⟨(gapT i3).toArray⟩ : ByteArray).data.toList = gapT i3 from rfl)
      have hbi1 : (i1 : Int) < 4 := by omega
      have hbi2 : (i2 : Int) < 2 := by omega
      have hbi3 : (i3 : Int) < 4 := by omega
      clear hl0 hl1
      generalize (⟨(gapT i1).toArray⟩ : ByteArray) = B1 at *
      generalize (⟨(gapT (1 + i2)).toArray⟩ : ByteArray) = B2 at *
      generalize (⟨(gapT i3).toArray⟩ : ByteArray) = B3 at *
      have hU : a0.data.toList ≠ [] := by
        intro e
        have := list_size a0
        rw [e] at this
        simp at this
        omega
      have HB4 := Lib.hid (show Below w.heap.size w ((w1.alloc (.cells #[.string a0, .string a1] 9)).alloc (.cells #[.string ⟨#[]⟩, .string ⟨#[32]⟩, .string ⟨#[10]⟩, .string ⟨#[32, 9, 32]⟩] 9)) from HBL.out.alloc HBL.out.size _)
      by_cases hT0 : 0 < a1.size
      · have fe3 := toList_empty hT0
        have fe4 : (a1.toList == []) = false := by simpa using toList_ne hT0
        have hSl : (((⟨#[40]⟩ : ByteArray) ++ B1 ++ a0 ++ (B2 ++ (⟨#[34]⟩ : ByteArray) ++ a1 ++ (⟨#[34]⟩ : ByteArray)) ++ (B3 ++ (⟨#[41]⟩ : ByteArray))) ++ a5).data.toList = 40 :: (gapT i1 ++ (a0.data.toList ++ (gapT (1 + i2) ++ 34 :: (a1.data.toList ++ 34 :: (gapT i3 ++ 41 :: a5.data.toList))))) := by simp [E1.out, E2.out, E3.out]
        have hSz : (((⟨#[40]⟩ : ByteArray) ++ B1 ++ a0 ++ (B2 ++ (⟨#[34]⟩ : ByteArray) ++ a1 ++ (⟨#[34]⟩ : ByteArray)) ++ (B3 ++ (⟨#[41]⟩ : ByteArray)))).size = 4 + B1.size + a0.size + B2.size + a1.size + B3.size := by
          simp only [ByteArray.size_append]
          rw [show (⟨#[40]⟩ : ByteArray).size = 1 from rfl, show (⟨#[34]⟩ : ByteArray).size = 1 from rfl, show (⟨#[41]⟩ : ByteArray).size = 1 from rfl]
          omega
        have e1 : (gapT i1).length = B1.size := by rw [← E1.out, list_size]
        have e2 : (gapT (1 + i2)).length = B2.size := by rw [← E2.out, list_size]
        have e3 : (gapT i3).length = B3.size := by rw [← E3.out, list_size]
        have hr := HT.out hU HL1.out
        rw [list_size, list_size, e1, e2, e3, show 4 + B1.size + a0.size + B2.size + a1.size + B3.size = (((⟨#[40]⟩ : ByteArray) ++ B1 ++ a0 ++ (B2 ++ (⟨#[34]⟩ : ByteArray) ++ a1 ++ (⟨#[34]⟩ : ByteArray)) ++ (B3 ++ (⟨#[41]⟩ : ByteArray)))).size from by rw [hSz]] at hr
        have c1 := fun W hn => inside_any (((⟨#[40]⟩ : ByteArray) ++ B1 ++ a0 ++ (B2 ++ (⟨#[34]⟩ : ByteArray) ++ a1 ++ (⟨#[34]⟩ : ByteArray)) ++ (B3 ++ (⟨#[41]⟩ : ByteArray))) ++ a5) W hn (by rw [ByteArray.size_append, hSz]; omega)
        rw [hSl, hr] at c1
        unfold ttib at c1
        simp only at c1
        rw [str_list, str_list] at c1
        have C1 := Lib.hid c1
        have hz9 : (((⟨#[40]⟩ : ByteArray) ++ B1 ++ a0 ++ (B2 ++ (⟨#[34]⟩ : ByteArray) ++ a1 ++ (⟨#[34]⟩ : ByteArray)) ++ (B3 ++ (⟨#[41]⟩ : ByteArray)))).size ≤ 200 := by omega
        clear c1 hr hSl hSz e1 e2 e3
        go_wp2_with fail
        refine (C1.out _ (HN.out.below HB4.out).1).mono ?_
        rintro e' w3 ⟨rfl, b3⟩
        have q3 := HB4.out.then b3
        clear b3 hg1 hg2 hg3
        generalize ((⟨#[40]⟩ : ByteArray) ++ B1 ++ a0 ++ (B2 ++ (⟨#[34]⟩ : ByteArray) ++ a1 ++ (⟨#[34]⟩ : ByteArray)) ++ (B3 ++ (⟨#[41]⟩ : ByteArray))) = S at *
        go_wp2
        go_ret
        exact ⟨rfl, q3⟩
      · obtain rfl : a1 = ByteArray.empty := by
          have h1 : a1.data.toList = [] := List.eq_nil_of_length_eq_zero (by rw [list_size]; omega)
          rw [← str_list a1, h1]; rfl
        have hSl : (((⟨#[40]⟩ : ByteArray) ++ B1 ++ a0 ++ (B3 ++ (⟨#[41]⟩ : ByteArray))) ++ a5).data.toList = 40 :: (gapT i1 ++ (a0.data.toList ++ (gapT i3 ++ 41 :: a5.data.toList))) := by simp [E1.out, E2.out, E3.out]
        have hSz : (((⟨#[40]⟩ : ByteArray) ++ B1 ++ a0 ++ (B3 ++ (⟨#[41]⟩ : ByteArray)))).size = 2 + B1.size + a0.size + B3.size := by
          simp only [ByteArray.size_append]
          rw [show (⟨#[40]⟩ : ByteArray).size = 1 from rfl, show (⟨#[41]⟩ : ByteArray).size = 1 from rfl]
          omega
        have e1 : (gapT i1).length = B1.size := by rw [← E1.out, list_size]
        have e2 : (gapT (1 + i2)).length = B2.size := by rw [← E2.out, list_size]
        have e3 : (gapT i3).length = B3.size := by rw [← E3.out, list_size]
        have hr := HP.out hU
        rw [list_size, e1, e3, show 2 + B1.size + a0.size + B3.size = (((⟨#[40]⟩ : ByteArray) ++ B1 ++ a0 ++ (B3 ++ (⟨#[41]⟩ : ByteArray)))).size from by rw [hSz]] at hr
        have c1 := fun W hn => inside_any (((⟨#[40]⟩ : ByteArray) ++ B1 ++ a0 ++ (B3 ++ (⟨#[41]⟩ : ByteArray))) ++ a5) W hn (by rw [ByteArray.size_append, hSz]; omega)
        rw [hSl, hr] at c1
        unfold ttib at c1
        simp only at c1
        rw [str_list] at c1
        have C1 := Lib.hid c1
        have hz9 : (((⟨#[40]⟩ : ByteArray) ++ B1 ++ a0 ++ (B3 ++ (⟨#[41]⟩ : ByteArray)))).size ≤ 200 := by omega
        clear c1 hr hSl hSz e1 e2 e3
        go_wp2_with fail
        refine (C1.out _ (HN.out.below HB4.out).1).mono ?_
        rintro e' w3 ⟨rfl, b3⟩
        have q3 := HB4.out.then b3
        clear b3 hg1 hg2 hg3
        generalize ((⟨#[40]⟩ : ByteArray) ++ B1 ++ a0 ++ (B3 ++ (⟨#[41]⟩ : ByteArray))) = S at *
        go_wp2
        go_ret
        exact ⟨rfl, q3⟩

set_option maxHeartbeats 1000000 in
set_option maxRecDepth 100000 in
theorem targetRounds_walk (w : World) (hn : TenIs w) (a0 : ByteArray) (w0 : a0.size ≤ maxLen) (a1 : ByteArray) (w1 : a1.size ≤ maxLen) (a2 : Int) (w2 : (Lit.int .i64 a2).wf = true) (a3 : Int) (w3 : (Lit.int .i64 a3).wf = true) (a4 : Int) (w4 : (Lit.int .i64 a4).wf = true) (a5 : ByteArray) (w5 : a5.size ≤ maxLen) :
    Calls Tryd.prog 5 #[.string a0, .string a1, .int .i64 a2, .int .i64 a3, .int .i64 a4, .string a5] w fun e w' => e = .returned (.bool true) ∧ Below w.heap.size w w' := by
  unfold maxLen at w0 w1 w5
  by_cases h : 0 < a0.size ∧ a0.size ≤ 40 ∧ a1.size ≤ 40 ∧ a5.size ≤ 30
  · exact targetRounds_in w hn a0 a1 a2 a3 a4 a5 h.1 h.2.1 h.2.2.1 h.2.2.2
  · have ca := alive10_any w hn
    clear hn w2 w3 w4
    by_cases h0 : 0 < a0.size
    · have fe := toList_empty h0
      have fe2 : (a0.toList == []) = false := by simpa using toList_ne h0
      have hcase : 40 < a0.size ∨ a0.size ≤ 40 ∧ 40 < a1.size ∨ a0.size ≤ 40 ∧ a1.size ≤ 40 ∧ 30 < a5.size := by omega
      clear h
      rcases hcase with h1 | ⟨h1, h2⟩ | ⟨h1, h2, h3⟩
      all_goals
        go_enter Tryd.func5, Tryd.ntmps5
        go_wp2_with (go_at_call 9; refine ca.mono ?_; rintro e w1 ⟨rfl, b1⟩)
        go_ret
        exact ⟨rfl, b1⟩
    · obtain rfl : a0 = ByteArray.empty := by
        have h1 : a0.data.toList = [] := List.eq_nil_of_length_eq_zero (by rw [list_size]; omega)
        rw [← str_list a0, h1]; rfl
      clear h h0
      go_enter Tryd.func5, Tryd.ntmps5
      go_wp2_with (go_at_call 9; refine ca.mono ?_; rintro e w1 ⟨rfl, b1⟩)
      go_ret
      exact ⟨rfl, b1⟩

end Go.Proofs.YtkldloglpbiioaaDoor
