/-
  PolicyLines: remarks and blank lines change nothing, wherever they stand: the law's walk.
-/
import Derived.Test.YtobmmbhmaaednaaPolN
namespace Go.Proofs.Ytobmmbhmaaednaa
open Go.RowKit
set_option linter.unusedSimpArgs false
set_option linter.unusedVariables false

theorem policyLines_out (w : World) (hml : MaxL w) (A B : Option Addr) (c d : Nat) (st : St) (a : Int) (x : ByteArray) (hrow : RowOf w A c (strs st.1)) (hpr : PairsAt w B d st.2) (hz : ∀ y ∈ st.1, y.length ≤ 9223372036854775807) (hx : x.size ≤ 9223372036854775807)
    (h : 20 < st.1.length ∨ (st.1.length ≤ 20 ∧ 30 < st.2.length) ∨ (st.1.length ≤ 20 ∧ st.2.length ≤ 30 ∧ 40 < x.size) ∨ (st.1.length ≤ 20 ∧ st.2.length ≤ 30 ∧ x.size ≤ 40 ∧ rightL st = false)) :
    Calls Try.prog 3 #[.slice A st.1.length c, .slice B st.2.length d, .int .i64 a, .string x] w fun e w' => e = .returned (.bool true) ∧ Below w.heap.size w w' := by
  have hc1 := hrow.1
  have hc2 := hrow.2.1
  rw [strs_length] at hc1
  have hd1 := hpr.1
  have hd2 := hpr.2.1
  unfold maxLen at hc2 hd2
  have hb0 : Below w.heap.size w (w.alloc (.cells #[.slice A st.1.length c, .slice B st.2.length d] 25)) := (Below.refl _ w).alloc (Nat.le_refl _) _
  have hm0 := hml.below hb0
  have cr := right_any A c B d st (w.alloc (.cells #[.slice A st.1.length c, .slice B st.2.length d] 25)) (hrow.below hb0) (hpr.below hb0) hz
  have HB := Lib.hid hb0
  have HM := Lib.hid hm0
  have CR := Lib.hid cr
  clear hb0 hm0 cr
  rcases h with h | h | h | ⟨h1, h2, h3, h4⟩
  · go_enter Try.func3, Try.ntmps3
    go_wp2_with fail
    refine (alive4_any _ HM.out).mono ?_
    rintro e w1 ⟨rfl, b1⟩
    go_wp2
    go_ret
    exact ⟨rfl, HB.out.then b1⟩
  · obtain ⟨h1, h2⟩ := h
    go_enter Try.func3, Try.ntmps3
    go_wp2_with fail
    refine (alive4_any _ HM.out).mono ?_
    rintro e w1 ⟨rfl, b1⟩
    go_wp2
    go_ret
    exact ⟨rfl, HB.out.then b1⟩
  · obtain ⟨h1, h2, h3⟩ := h
    go_enter Try.func3, Try.ntmps3
    go_wp2_with fail
    refine (alive4_any _ HM.out).mono ?_
    rintro e w1 ⟨rfl, b1⟩
    go_wp2
    go_ret
    exact ⟨rfl, HB.out.then b1⟩
  · have cr := CR.out
    rw [h4] at cr
    clear h4
    go_enter Try.func3, Try.ntmps3
    go_wp2_with fail
    refine cr.mono ?_
    rintro e w2 ⟨rfl, b2⟩
    go_wp2_with fail
    refine (alive4_any _ (HM.out.below b2)).mono ?_
    rintro e w1 ⟨rfl, b1⟩
    go_wp2
    go_ret
    exact ⟨rfl, (HB.out.then b2).then b1⟩

def MoreRel (x : ByteArray) (w1 : World) (i : Value) (wr : World) : Prop := ∃ k : Nat, i = .int .i64 k ∧ k ≤ x.size ∧ (∀ m (h : m < x.size), m < k → x[m].toNat ≠ 10 ∧ x[m].toNat ≠ 13) ∧ wr = w1
def BackTo (n : Nat) (w1 : World) (i : Value) (wr : World) : Prop := ∃ k : Nat, i = .int .i64 k ∧ k ≤ n ∧ wr = w1
theorem more_bytes {x : ByteArray} (h : ∀ m (h : m < x.size), m < x.size → x[m].toNat ≠ 10 ∧ x[m].toNat ≠ 13) : ∀ b ∈ x.data.toList, b ≠ 10 ∧ b ≠ 13 := by
  intro b hb
  obtain ⟨m, hm, rfl⟩ := List.mem_iff_getElem.1 hb
  have hm2 : m < x.size := by simpa using hm
  have h1 := h m hm2 hm2
  have e : x.data.toList[m] = x[m] := rfl
  rw [e]
  exact ⟨fun e2 => h1.1 (by rw [e2]; rfl), fun e2 => h1.2 (by rw [e2]; rfl)⟩

/-- What is behind the law's last call: the policy that was read is the one that was written. -/
structure ReadBack (w1 w4 : World) (st : St) (A3 B3 : Option Addr) (c3 d3 : Nat) : Prop where
  row : RowOf w4 A3 c3 (strs st.1)
  prs : PairsAt w4 B3 d3 st.2
  bel : Below w1.heap.size w1 w4

set_option maxHeartbeats 8000000 in
set_option maxRecDepth 100000 in
theorem policyLines_in (w : World) (hml : MaxL w) (A B : Option Addr) (c d : Nat) (st : St) (a : Int) (ha : -9223372036854775808 ≤ a ∧ a ≤ 9223372036854775807) (x : ByteArray) (hrow : RowOf w A c (strs st.1)) (hpr : PairsAt w B d st.2)
    (hz : ∀ y ∈ st.1, y.length ≤ 9223372036854775807) (h1 : st.1.length ≤ 20) (h2 : st.2.length ≤ 30) (h3 : x.size ≤ 40) (h4 : rightL st = true) :
    Calls Try.prog 3 #[.slice A st.1.length c, .slice B st.2.length d, .int .i64 a, .string x] w fun e w' => e = .returned (.bool true) ∧ Below w.heap.size w w' := by
  have hc1 := hrow.1
  have hc2 := hrow.2.1
  rw [strs_length] at hc1
  have hd1 := hpr.1
  have hd2 := hpr.2.1
  unfold maxLen at hc2 hd2
  have hb0 : Below w.heap.size w (w.alloc (.cells #[.slice A st.1.length c, .slice B st.2.length d] 25)) := (Below.refl _ w).alloc (Nat.le_refl _) _
  have hm0 := hml.below hb0
  have hbx := box_cell w (.slice A st.1.length c) (.slice B st.2.length d) 25
  have cr := right_any A c B d st (w.alloc (.cells #[.slice A st.1.length c, .slice B st.2.length d] 25)) (hrow.below hb0) (hpr.below hb0) hz
  have cw := fun w1 g1 g2 => write_any A c B d st w1 g1 g2 hz (by omega)
  have HLP := Lib.hid (lines_parse st h4)
  have hwl := wLines_len st h4
  have hL : (writeS st).length ≤ 2200 := by
    have e : writeS st = joinL (wLines st) := if_pos h4
    have := joinL_bound 43 _ hwl.1
    rw [e]; omega
  rw [h4] at cr cw
  have CR := Lib.hid cr
  have CW := Lib.hid cw
  have HB := Lib.hid hb0
  have HM := Lib.hid hm0
  have HR := Lib.hid (hrow.below hb0)
  have HP := Lib.hid (hpr.below hb0)
  clear hb0 hm0 cr cw h4 hz hwl
  go_enter Try.func3, Try.ntmps3
  go_wp2_with fail
  refine CR.out.mono ?_
  rintro e w2 ⟨rfl, b2⟩
  go_wp2_with fail
  refine (alive4_any _ (HM.out.below b2)).mono ?_
  rintro e w1 ⟨rfl, b1⟩
  have hb := b2.then b1
  have hx0 := (hb.cell (p := ⟨w.heap.size, 0, none⟩) (World.block_lt_of_cell? _ _ hbx.1)).trans hbx.1
  have hx1 := (hb.cell (p := ⟨w.heap.size, 1, none⟩) (World.block_lt_of_cell? _ _ hbx.2)).trans hbx.2
  have hrow1 := HR.out.below hb
  have hpr1 := HP.out.below hb
  have hm1 := HM.out.below hb
  have HB1 := Lib.hid (HB.out.then hb)
  clear b1 b2 hb hbx CR
  go_wp2_with fail
  go_loopw [10] (fun i wr => MoreRel x w1 i wr) (fun i _ => x.size - (intOf i).toNat)
  case atStart => exact ⟨0, rfl, Nat.zero_le _, fun m _ hm => absurd hm (Nat.not_lt_zero _), rfl⟩
  case round =>
    obtain ⟨k, rfl, hk, hby, rfl⟩ := hrel
    have HBy := Lib.hid hby
    clear hby
    by_cases hp : k < x.size
    · by_cases h10 : x[k].toNat = 10
      · have f10 : ((x[k].toNat : Int) == 10) = true := by simp; omega
        clear h10
        go_wp2
        go_ret
        exact ⟨rfl, HB1.out⟩
      · have f10 : ((x[k].toNat : Int) == 10) = false := by simp; omega
        by_cases h13 : x[k].toNat = 13
        · have f13 : ((x[k].toNat : Int) == 13) = true := by simp; omega
          clear h10 h13
          go_wp2
          go_ret
          exact ⟨rfl, HB1.out⟩
        · have f13 : ((x[k].toNat : Int) == 13) = false := by simp; omega
          have H := Lib.hid (show x[k].toNat ≠ 10 ∧ x[k].toNat ≠ 13 from ⟨h10, h13⟩)
          clear h10 h13
          go_wp2
          go_roundw
          case rel =>
            refine ⟨k + 1, by go_num, by omega, fun q hq hq2 => ?_, rfl⟩
            by_cases e : q = k
            · subst e; exact H.out
            · exact HBy.out q hq (by omega)
          case measure => simp [intOf]; omega
    · obtain rfl : k = x.size := by omega
      have HMo := Lib.hid (more_bytes HBy.out)
      go_wp2_with fail
      refine (CW.out wr hrow1 hpr1).mono ?_
      rintro e w3 ⟨rfl, b3⟩
      have hm3 := hm1.below b3
      have hrow3 := hrow1.below b3
      have hpr3 := hpr1.below b3
      obtain ⟨j0, hj0, hpl⟩ := place_in a (writeS st).length (by omega)
      have HLen := Lib.hid (str_size (writeS st))
      have HXL := Lib.hid (show ((⟨(writeS st).toArray⟩ : ByteArray).data.toList = writeS st) from rfl)
      have hwz : (⟨(writeS st).toArray⟩ : ByteArray).size ≤ 2200 := by rw [str_size]; exact hL
      rw [← HLen.out] at hj0 hpl
      generalize (⟨(writeS st).toArray⟩ : ByteArray) = X at *
      have HPL := Lib.hid hpl
      have htm := tmod_in a ((X.size : Int) + 1) (by omega)
      have hfn : ((X.size : Int) + 1 == 0) = false := by simp; omega
      clear hrow1 hpr1 hm1 hpl
      have hB3 := HB1.out.then b3
      have HB3 := Lib.hid hB3
      have hx03 := (b3.cell (p := ⟨w.heap.size, 0, none⟩) (World.block_lt_of_cell? _ _ hx0)).trans hx0
      have hx13 := (b3.cell (p := ⟨w.heap.size, 1, none⟩) (World.block_lt_of_cell? _ _ hx1)).trans hx1
      clear b3 hB3 hx0 hx1
      go_wp2_with fail
      go_loopw [13] (fun i wr' => BackTo X.size w3 i wr') (fun i _ => (intOf i).toNat)
      case atStart => exact ⟨j0, by rw [HPL.out], hj0, rfl⟩
      case round =>
        obtain ⟨m, rfl, hm, rfl⟩ := hrel
        rcases Nat.eq_zero_or_pos m with hm0 | hpos
        · have f0 : decide (0 < (m : Int)) = false := decide_eq_false (by omega)
          have hle : (m : Int) ≤ 0 := by omega
          have HM0 := Lib.hid hm0
          clear hm0
          have hkX : m ≤ X.size := hm
          have e1 : (X.extract 0 m).size ≤ 2200 := by rw [ByteArray.size_extract]; omega
          have e2 : ((X.extract 0 m) ++ (⟨#[35]⟩ : ByteArray)).size ≤ 2201 := by rw [ByteArray.size_append]; show _ + 1 ≤ _; omega
          have e3 : (((X.extract 0 m) ++ (⟨#[35]⟩ : ByteArray)) ++ x).size ≤ 2241 := by rw [ByteArray.size_append]; omega
          have e4 : ((((X.extract 0 m) ++ (⟨#[35]⟩ : ByteArray)) ++ x) ++ (⟨#[10, 10, 32, 9, 10]⟩ : ByteArray)).size ≤ 2246 := by rw [ByteArray.size_append]; show _ + 5 ≤ _; omega
          have e5 : (X.extract m X.size).size ≤ 2200 := by rw [ByteArray.size_extract]; omega
          have e6 : (((((X.extract 0 m) ++ (⟨#[35]⟩ : ByteArray)) ++ x) ++ (⟨#[10, 10, 32, 9, 10]⟩ : ByteArray)) ++ X.extract m X.size).size ≤ 5000 := by rw [ByteArray.size_append]; omega
          have t1 := fun W => run_string_add_sum (P := Try.prog) W (X.extract 0 m) ⟨#[35]⟩ (by show _ + 1 ≤ _; omega)
          have t2 := fun W => run_string_add_sum (P := Try.prog) W ((X.extract 0 m) ++ (⟨#[35]⟩ : ByteArray)) x (by omega)
          have t3 := fun W => run_string_add_sum (P := Try.prog) W (((X.extract 0 m) ++ (⟨#[35]⟩ : ByteArray)) ++ x) ⟨#[10, 10, 32, 9, 10]⟩ (by show _ + 5 ≤ _; omega)
          have t4 := fun W => run_string_add_sum (P := Try.prog) W ((((X.extract 0 m) ++ (⟨#[35]⟩ : ByteArray)) ++ x) ++ (⟨#[10, 10, 32, 9, 10]⟩ : ByteArray)) (X.extract m X.size) (by omega)
          have cp := fun w9 hm9 => parse_any (((((X.extract 0 m) ++ (⟨#[35]⟩ : ByteArray)) ++ x) ++ (⟨#[10, 10, 32, 9, 10]⟩ : ByteArray)) ++ X.extract m X.size) w9 (by omega) hm9
          rw [mid_list X x m hkX, HXL.out, HLP.out x.data.toList HMo.out m (by rw [← HLen.out]; exact hkX) (Or.inl HM0.out)] at cp
          have CP := Lib.hid cp
          clear cp
          go_wp2_with fail
          refine wp_region_N (fun _ => True) (fun _ => true) (by kernel_rfl) ?_
          refine wpAnyN_take_at 0 90 (v := ?_) rfl rfl (by kernel_rfl) (by kernel_rfl) (by kernel_rfl) (by kernel_rfl) (by kernel_rfl) (fun _ _ _ h => h) (by rfl) ?_ trivial ?_
          rotate_left
          · intro w hSw; go_simp; (try with_reducible rfl)
          simp only [Act.put, List.setIfInBounds_toArray, List.set_cons_zero, List.set_cons_succ]
          refine wpAnyN_take_at 1 91 (v := ?_) rfl rfl (by kernel_rfl) (by kernel_rfl) (by kernel_rfl) (by kernel_rfl) (by kernel_rfl) (fun _ _ _ h => h) (by rfl) ?_ trivial ?_
          rotate_left
          · intro w hSw; go_simp; (try with_reducible rfl)
          simp only [Act.put, List.setIfInBounds_toArray, List.set_cons_zero, List.set_cons_succ]
          refine wpAnyN_take_at 2 92 (v := ?_) rfl rfl (by kernel_rfl) (by kernel_rfl) (by kernel_rfl) (by kernel_rfl) (by kernel_rfl) (fun _ _ _ h => h) (by rfl) ?_ trivial ?_
          rotate_left
          · intro w hSw; go_simp; (try with_reducible rfl)
          simp only [Act.put, List.setIfInBounds_toArray, List.set_cons_zero, List.set_cons_succ]
          refine wpAnyN_take_at 3 93 (v := ?_) rfl rfl (by kernel_rfl) (by kernel_rfl) (by kernel_rfl) (by kernel_rfl) (by kernel_rfl) (fun _ _ _ h => h) (by rfl) ?_ trivial ?_
          rotate_left
          · intro w hSw; go_simp; (try with_reducible rfl)
          simp only [Act.put, List.setIfInBounds_toArray, List.set_cons_zero, List.set_cons_succ]
          refine wpAnyN_take_at 4 94 (v := ?_) rfl rfl (by kernel_rfl) (by kernel_rfl) (by kernel_rfl) (by kernel_rfl) (by kernel_rfl) (fun _ _ _ h => h) (by rfl) ?_ trivial ?_
          rotate_left
          · intro w hSw; go_simp; (try with_reducible rfl)
          simp only [Act.put, List.setIfInBounds_toArray, List.set_cons_zero, List.set_cons_succ]
          refine wpAnyN_take_at 5 95 (v := ?_) rfl rfl (by kernel_rfl) (by kernel_rfl) (by kernel_rfl) (by kernel_rfl) (by kernel_rfl) (fun _ _ _ h => h) (by rfl) ?_ trivial ?_
          rotate_left
          · intro w hSw; go_simp; (try with_reducible rfl)
          simp only [Act.put, List.setIfInBounds_toArray, List.set_cons_zero, List.set_cons_succ]
          refine wpAnyN_take_at 6 96 (v := ?_) rfl rfl (by kernel_rfl) (by kernel_rfl) (by kernel_rfl) (by kernel_rfl) (by kernel_rfl) (fun _ _ _ h => h) (by rfl) ?_ trivial ?_
          rotate_left
          · intro w hSw; go_simp; (try with_reducible rfl)
          simp only [Act.put, List.setIfInBounds_toArray, List.set_cons_zero, List.set_cons_succ]
          refine wpAnyN_take_at 7 97 (v := ?_) rfl rfl (by kernel_rfl) (by kernel_rfl) (by kernel_rfl) (by kernel_rfl) (by kernel_rfl) (fun _ _ _ h => h) (by rfl) ?_ trivial ?_
          rotate_left
          · intro w hSw; go_simp; (try with_reducible rfl)
          simp only [Act.put, List.setIfInBounds_toArray, List.set_cons_zero, List.set_cons_succ]
          refine wpAnyN_take_at 8 98 (v := ?_) rfl rfl (by kernel_rfl) (by kernel_rfl) (by kernel_rfl) (by kernel_rfl) (by kernel_rfl) (fun _ _ _ h => h) (by rfl) ?_ trivial ?_
          rotate_left
          · intro w hSw; go_simp; (try with_reducible rfl)
          simp only [Act.put, List.setIfInBounds_toArray, List.set_cons_zero, List.set_cons_succ]
          refine wpAnyN_take_at 9 99 (v := ?_) rfl rfl (by kernel_rfl) (by kernel_rfl) (by kernel_rfl) (by kernel_rfl) (by kernel_rfl) (fun _ _ _ h => h) (by rfl) ?_ trivial ?_
          rotate_left
          · intro w hSw; go_simp; (try with_reducible rfl)
          simp only [Act.put, List.setIfInBounds_toArray, List.set_cons_zero, List.set_cons_succ]
          refine wpAnyN_take_at 10 100 (v := ?_) rfl rfl (by kernel_rfl) (by kernel_rfl) (by kernel_rfl) (by kernel_rfl) (by kernel_rfl) (fun _ _ _ h => h) (by rfl) ?_ trivial ?_
          rotate_left
          · intro w hSw; go_simp; (try with_reducible rfl)
          simp only [Act.put, List.setIfInBounds_toArray, List.set_cons_zero, List.set_cons_succ]
          refine wpAnyN_two (i := 11) (j := 15) rfl rfl (by kernel_rfl) (fun K hK => ?_) (fun K hK => ?_)
          · go_simp
            refine (CP.out _ hm3.drew).mono ?_
            rintro e w4 ⟨b4, nv, bv, rfl, hn, hb⟩
            obtain ⟨A3, c3, rfl, hrA0, _⟩ := RowOf.own hn
            obtain ⟨B3, d3, rfl, hpA0⟩ := PairsAt.own hb
            have b4' := below_of_drew b4
            have hrA := hrA0.alloc (.cells #[.slice A3 st.1.length c3, .slice B3 st.2.length d3] 25)
            have hpA := hpA0.alloc (.cells #[.slice A3 st.1.length c3, .slice B3 st.2.length d3] 25)
            have hrO := (hrow3.below b4').alloc (.cells #[.slice A3 st.1.length c3, .slice B3 st.2.length d3] 25)
            have hpO := (hpr3.below b4').alloc (.cells #[.slice A3 st.1.length c3, .slice B3 st.2.length d3] 25)
            have hbel := (HB3.out.then b4').then ((Below.refl _ w4).alloc (Nat.le_refl _) (.cells #[.slice A3 st.1.length c3, .slice B3 st.2.length d3] 25))
            have hyc := box_cell w4 (.slice A3 st.1.length c3) (.slice B3 st.2.length d3) 25
            obtain ⟨hy0, hy1⟩ := hyc
            refine hK _ _ (fun _ => trivial) ?_
            clear hK hn hb hrA0 hpA0 b4 b4' hrow3 hpr3 hx03 hx13
            refine wpAnyN_take_at 12 89 (v := ?_) rfl rfl (by kernel_rfl) (by kernel_rfl) (by kernel_rfl) (by kernel_rfl) (by kernel_rfl) (fun _ _ _ h => h) (by rfl) ?_ trivial ?_
            rotate_left
            · intro w hSw; go_simp; (try with_reducible rfl)
            simp only [Act.put, List.setIfInBounds_toArray, List.set_cons_zero, List.set_cons_succ]
            refine wpAnyN_take_at 13 102 (v := ?_) rfl rfl (by kernel_rfl) (by kernel_rfl) (by kernel_rfl) (by kernel_rfl) (by kernel_rfl) (fun _ _ _ h => h) (by rfl) ?_ trivial ?_
            rotate_left
            · intro w hSw; go_simp; (try with_reducible rfl)
            simp only [Act.put, List.setIfInBounds_toArray, List.set_cons_zero, List.set_cons_succ]
            refine wpAnyN_take_at 14 103 (v := ?_) rfl rfl (by kernel_rfl) (by kernel_rfl) (by kernel_rfl) (by kernel_rfl) (by kernel_rfl) (fun _ _ _ h => h) (by rfl) ?_ trivial ?_
            rotate_left
            · intro w hSw; go_simp; (try with_reducible rfl)
            simp only [Act.put, List.setIfInBounds_toArray, List.set_cons_zero, List.set_cons_succ]
            refine wpAnyN_restT 15 [_, _, _] (fun _ => trivial) rfl (by kernel_rfl) ?_
            go_wp2_with fail
            generalize w4.alloc (.cells #[.slice A3 st.1.length c3, .slice B3 st.2.length d3] 25) = w5 at *
            refine (same_any A3 A c3 c st.1 st.1 w5 hrA hrO).mono ?_
            rintro e w6 ⟨rfl, n6, rfl⟩
            rw [decide_eq_true (rfl : st.1 = st.1)]
            have hp6 : PairsAt (w5.drewN n6) B3 d3 st.2 := ⟨hpA.1, hpA.2.1, hpA.2.2⟩
            have hp6' : PairsAt (w5.drewN n6) B d st.2 := ⟨hpO.1, hpO.2.1, hpO.2.2⟩
            go_wp2_with fail
            refine (samePairs_any B3 B d3 d st.2 st.2 _ hp6 hp6').mono ?_
            rintro e w7 ⟨rfl, n7, rfl⟩
            rw [decide_eq_true (rfl : st.2 = st.2)]
            go_wp2
            go_ret
            exact ⟨rfl, below_drewN' hbel (n6 + n7)⟩
          · go_simp
            refine hK _ _ (fun _ => trivial) ?_
            clear hK
            have q0 : Below wr.heap.size wr (wr.alloc (.cells #[.slice none 0 0, .slice none 0 0] 25)) := (Below.refl _ wr).alloc (Nat.le_refl _) _
            have hmB := (hm3.below q0).drew
            have hz0 := heap_alloc_new wr (.cells #[.slice none 0 0, .slice none 0 0] 25)
            have hza := alloc_size wr (.cells #[.slice none 0 0, .slice none 0 0] 25)
            refine wpAnyN_one (i := 11) rfl (by kernel_rfl) (fun K hK => ?_)
            go_simp
            refine (CP.out _ hmB).mono ?_
            rintro e w4 ⟨b4, nv, bv, rfl, hn, hb⟩
            obtain ⟨A3, c3, rfl, _, _⟩ := RowOf.own hn
            obtain ⟨B3, d3, rfl, _⟩ := PairsAt.own hb
            have b4' := below_of_drew b4
            have hblk4 := (b4'.block wr.heap.size (by rw [hza]; omega)).trans hz0
            obtain ⟨hk0, hk1, hk2, hk3⟩ := blk_facts hblk4
            have hq1 : (w4.setCell ⟨wr.heap.size, 0, none⟩ (.slice A3 st.1.length c3)).heap[wr.heap.size]? = some (.cells #[.slice A3 st.1.length c3, .slice none 0 0] 25 (0, 0)) := by simp [World.setCell, Array.getElem?_modify, hblk4]
            have hq2 : ((w4.setCell ⟨wr.heap.size, 0, none⟩ (.slice A3 st.1.length c3)).setCell ⟨wr.heap.size, 1, none⟩ (.slice B3 st.2.length d3)).heap[wr.heap.size]? = some (.cells #[.slice A3 st.1.length c3, .slice B3 st.2.length d3] 25 (0, 0)) := by simp [World.setCell, Array.getElem?_modify, hblk4]
            obtain ⟨hy0, hy1, _, _⟩ := blk_facts hq2
            obtain ⟨A4, c4, e4, hrA, _⟩ := RowOf.own (own_set (own_set hn hblk4 (by decide) 0 (.slice A3 st.1.length c3)) hq1 (by decide) 1 (.slice B3 st.2.length d3))
            cases e4
            obtain ⟨B4, d4, e4, hpA⟩ := PairsAt.own (own_set (own_set hb hblk4 (by decide) 0 (.slice A3 st.1.length c3)) hq1 (by decide) 1 (.slice B3 st.2.length d3))
            cases e4
            have bel5 := ((q0.then b4').setCell (p := ⟨wr.heap.size, 0, none⟩) (Nat.le_refl _) (.slice A3 st.1.length c3)).setCell (p := ⟨wr.heap.size, 1, none⟩) (Nat.le_refl _) (.slice B3 st.2.length d3)
            have hrO := hrow3.below bel5
            have hpO := hpr3.below bel5
            have hbel := HB3.out.then bel5
            refine hK _ _ (fun _ => trivial) ?_
            clear hK hn hb b4 b4' hrow3 hpr3 hx03 hx13 hq1 hq2 hblk4 q0 hz0 hza bel5
            refine wpAnyN_take_at 12 89 (v := ?_) rfl rfl (by kernel_rfl) (by kernel_rfl) (by kernel_rfl) (by kernel_rfl) (by kernel_rfl) (fun _ _ _ h => h) (by rfl) ?_ trivial ?_
            rotate_left
            · intro w hSw; go_simp; (try with_reducible rfl)
            simp only [Act.put, List.setIfInBounds_toArray, List.set_cons_zero, List.set_cons_succ]
            refine wpAnyN_take_at 13 102 (v := ?_) rfl rfl (by kernel_rfl) (by kernel_rfl) (by kernel_rfl) (by kernel_rfl) (by kernel_rfl) (fun _ _ _ h => h) (by rfl) ?_ trivial ?_
            rotate_left
            · intro w hSw; go_simp; (try with_reducible rfl)
            simp only [Act.put, List.setIfInBounds_toArray, List.set_cons_zero, List.set_cons_succ]
            refine wpAnyN_take_at 14 103 (v := ?_) rfl rfl (by kernel_rfl) (by kernel_rfl) (by kernel_rfl) (by kernel_rfl) (by kernel_rfl) (fun _ _ _ h => h) (by rfl) ?_ trivial ?_
            rotate_left
            · intro w hSw; go_simp; (try with_reducible rfl)
            simp only [Act.put, List.setIfInBounds_toArray, List.set_cons_zero, List.set_cons_succ]
            refine wpAnyN_restT 16 [_, _] (fun _ => trivial) rfl (by kernel_rfl) ?_
            go_wp2_with fail
            generalize (w4.setCell ⟨wr.heap.size, 0, none⟩ (.slice A3 st.1.length c3)).setCell ⟨wr.heap.size, 1, none⟩ (.slice B3 st.2.length d3) = w5 at *
            refine (same_any A3 A c3 c st.1 st.1 w5 hrA hrO).mono ?_
            rintro e w6 ⟨rfl, n6, rfl⟩
            rw [decide_eq_true (rfl : st.1 = st.1)]
            have hp6 : PairsAt (w5.drewN n6) B3 d3 st.2 := ⟨hpA.1, hpA.2.1, hpA.2.2⟩
            have hp6' : PairsAt (w5.drewN n6) B d st.2 := ⟨hpO.1, hpO.2.1, hpO.2.2⟩
            go_wp2_with fail
            refine (samePairs_any B3 B d3 d st.2 st.2 _ hp6 hp6').mono ?_
            rintro e w7 ⟨rfl, n7, rfl⟩
            rw [decide_eq_true (rfl : st.2 = st.2)]
            go_wp2
            go_ret
            exact ⟨rfl, below_drewN' hbel (n6 + n7)⟩
        · obtain ⟨q, rfl⟩ : ∃ q, m = q + 1 := ⟨m - 1, by omega⟩
          have hq : q < X.size := by omega
          by_cases h10 : X[q].toNat = 10
          · have f10 : ((X[q].toNat : Int) != 10) = false := by simp; omega
            have HQ := Lib.hid h10
            obtain ⟨m, hmq⟩ : ∃ m : Nat, m = q + 1 := ⟨_, rfl⟩
            have hmX : m ≤ X.size := by omega
            have HMQ := Lib.hid hmq
            clear h10 hmq
            have hkX : m ≤ X.size := hmX
            have e1 : (X.extract 0 m).size ≤ 2200 := by rw [ByteArray.size_extract]; omega
            have e2 : ((X.extract 0 m) ++ (⟨#[35]⟩ : ByteArray)).size ≤ 2201 := by rw [ByteArray.size_append]; show _ + 1 ≤ _; omega
            have e3 : (((X.extract 0 m) ++ (⟨#[35]⟩ : ByteArray)) ++ x).size ≤ 2241 := by rw [ByteArray.size_append]; omega
            have e4 : ((((X.extract 0 m) ++ (⟨#[35]⟩ : ByteArray)) ++ x) ++ (⟨#[10, 10, 32, 9, 10]⟩ : ByteArray)).size ≤ 2246 := by rw [ByteArray.size_append]; show _ + 5 ≤ _; omega
            have e5 : (X.extract m X.size).size ≤ 2200 := by rw [ByteArray.size_extract]; omega
            have e6 : (((((X.extract 0 m) ++ (⟨#[35]⟩ : ByteArray)) ++ x) ++ (⟨#[10, 10, 32, 9, 10]⟩ : ByteArray)) ++ X.extract m X.size).size ≤ 5000 := by rw [ByteArray.size_append]; omega
            have t1 := fun W => run_string_add_sum (P := Try.prog) W (X.extract 0 m) ⟨#[35]⟩ (by show _ + 1 ≤ _; omega)
            have t2 := fun W => run_string_add_sum (P := Try.prog) W ((X.extract 0 m) ++ (⟨#[35]⟩ : ByteArray)) x (by omega)
            have t3 := fun W => run_string_add_sum (P := Try.prog) W (((X.extract 0 m) ++ (⟨#[35]⟩ : ByteArray)) ++ x) ⟨#[10, 10, 32, 9, 10]⟩ (by show _ + 5 ≤ _; omega)
            have t4 := fun W => run_string_add_sum (P := Try.prog) W ((((X.extract 0 m) ++ (⟨#[35]⟩ : ByteArray)) ++ x) ++ (⟨#[10, 10, 32, 9, 10]⟩ : ByteArray)) (X.extract m X.size) (by omega)
            have cp := fun w9 hm9 => parse_any (((((X.extract 0 m) ++ (⟨#[35]⟩ : ByteArray)) ++ x) ++ (⟨#[10, 10, 32, 9, 10]⟩ : ByteArray)) ++ X.extract m X.size) w9 (by omega) hm9
            rw [mid_list X x m hkX, HXL.out, HLP.out x.data.toList HMo.out m (by rw [← HLen.out]; exact hkX) (by rw [HMQ.out]; exact Or.inr (lines_end HXL.out q hq HQ.out))] at cp
            have CP := Lib.hid cp
            clear cp
            go_wp2_with fail
            rw [← HMQ.out]
            refine wp_region_N (fun _ => True) (fun _ => true) (by kernel_rfl) ?_
            refine wpAnyN_take_at 0 90 (v := ?_) rfl rfl (by kernel_rfl) (by kernel_rfl) (by kernel_rfl) (by kernel_rfl) (by kernel_rfl) (fun _ _ _ h => h) (by rfl) ?_ trivial ?_
            rotate_left
            · intro w hSw; go_simp; (try with_reducible rfl)
            simp only [Act.put, List.setIfInBounds_toArray, List.set_cons_zero, List.set_cons_succ]
            refine wpAnyN_take_at 1 91 (v := ?_) rfl rfl (by kernel_rfl) (by kernel_rfl) (by kernel_rfl) (by kernel_rfl) (by kernel_rfl) (fun _ _ _ h => h) (by rfl) ?_ trivial ?_
            rotate_left
            · intro w hSw; go_simp; (try with_reducible rfl)
            simp only [Act.put, List.setIfInBounds_toArray, List.set_cons_zero, List.set_cons_succ]
            refine wpAnyN_take_at 2 92 (v := ?_) rfl rfl (by kernel_rfl) (by kernel_rfl) (by kernel_rfl) (by kernel_rfl) (by kernel_rfl) (fun _ _ _ h => h) (by rfl) ?_ trivial ?_
            rotate_left
            · intro w hSw; go_simp; (try with_reducible rfl)
            simp only [Act.put, List.setIfInBounds_toArray, List.set_cons_zero, List.set_cons_succ]
            refine wpAnyN_take_at 3 93 (v := ?_) rfl rfl (by kernel_rfl) (by kernel_rfl) (by kernel_rfl) (by kernel_rfl) (by kernel_rfl) (fun _ _ _ h => h) (by rfl) ?_ trivial ?_
            rotate_left
            · intro w hSw; go_simp; (try with_reducible rfl)
            simp only [Act.put, List.setIfInBounds_toArray, List.set_cons_zero, List.set_cons_succ]
            refine wpAnyN_take_at 4 94 (v := ?_) rfl rfl (by kernel_rfl) (by kernel_rfl) (by kernel_rfl) (by kernel_rfl) (by kernel_rfl) (fun _ _ _ h => h) (by rfl) ?_ trivial ?_
            rotate_left
            · intro w hSw; go_simp; (try with_reducible rfl)
            simp only [Act.put, List.setIfInBounds_toArray, List.set_cons_zero, List.set_cons_succ]
            refine wpAnyN_take_at 5 95 (v := ?_) rfl rfl (by kernel_rfl) (by kernel_rfl) (by kernel_rfl) (by kernel_rfl) (by kernel_rfl) (fun _ _ _ h => h) (by rfl) ?_ trivial ?_
            rotate_left
            · intro w hSw; go_simp; (try with_reducible rfl)
            simp only [Act.put, List.setIfInBounds_toArray, List.set_cons_zero, List.set_cons_succ]
            refine wpAnyN_take_at 6 96 (v := ?_) rfl rfl (by kernel_rfl) (by kernel_rfl) (by kernel_rfl) (by kernel_rfl) (by kernel_rfl) (fun _ _ _ h => h) (by rfl) ?_ trivial ?_
            rotate_left
            · intro w hSw; go_simp; (try with_reducible rfl)
            simp only [Act.put, List.setIfInBounds_toArray, List.set_cons_zero, List.set_cons_succ]
            refine wpAnyN_take_at 7 97 (v := ?_) rfl rfl (by kernel_rfl) (by kernel_rfl) (by kernel_rfl) (by kernel_rfl) (by kernel_rfl) (fun _ _ _ h => h) (by rfl) ?_ trivial ?_
            rotate_left
            · intro w hSw; go_simp; (try with_reducible rfl)
            simp only [Act.put, List.setIfInBounds_toArray, List.set_cons_zero, List.set_cons_succ]
            refine wpAnyN_take_at 8 98 (v := ?_) rfl rfl (by kernel_rfl) (by kernel_rfl) (by kernel_rfl) (by kernel_rfl) (by kernel_rfl) (fun _ _ _ h => h) (by rfl) ?_ trivial ?_
            rotate_left
            · intro w hSw; go_simp; (try with_reducible rfl)
            simp only [Act.put, List.setIfInBounds_toArray, List.set_cons_zero, List.set_cons_succ]
            refine wpAnyN_take_at 9 99 (v := ?_) rfl rfl (by kernel_rfl) (by kernel_rfl) (by kernel_rfl) (by kernel_rfl) (by kernel_rfl) (fun _ _ _ h => h) (by rfl) ?_ trivial ?_
            rotate_left
            · intro w hSw; go_simp; (try with_reducible rfl)
            simp only [Act.put, List.setIfInBounds_toArray, List.set_cons_zero, List.set_cons_succ]
            refine wpAnyN_take_at 10 100 (v := ?_) rfl rfl (by kernel_rfl) (by kernel_rfl) (by kernel_rfl) (by kernel_rfl) (by kernel_rfl) (fun _ _ _ h => h) (by rfl) ?_ trivial ?_
            rotate_left
            · intro w hSw; go_simp; (try with_reducible rfl)
            simp only [Act.put, List.setIfInBounds_toArray, List.set_cons_zero, List.set_cons_succ]
            refine wpAnyN_two (i := 11) (j := 15) rfl rfl (by kernel_rfl) (fun K hK => ?_) (fun K hK => ?_)
            · go_simp
              refine (CP.out _ hm3.drew).mono ?_
              rintro e w4 ⟨b4, nv, bv, rfl, hn, hb⟩
              obtain ⟨A3, c3, rfl, hrA0, _⟩ := RowOf.own hn
              obtain ⟨B3, d3, rfl, hpA0⟩ := PairsAt.own hb
              have b4' := below_of_drew b4
              have hrA := hrA0.alloc (.cells #[.slice A3 st.1.length c3, .slice B3 st.2.length d3] 25)
              have hpA := hpA0.alloc (.cells #[.slice A3 st.1.length c3, .slice B3 st.2.length d3] 25)
              have hrO := (hrow3.below b4').alloc (.cells #[.slice A3 st.1.length c3, .slice B3 st.2.length d3] 25)
              have hpO := (hpr3.below b4').alloc (.cells #[.slice A3 st.1.length c3, .slice B3 st.2.length d3] 25)
              have hbel := (HB3.out.then b4').then ((Below.refl _ w4).alloc (Nat.le_refl _) (.cells #[.slice A3 st.1.length c3, .slice B3 st.2.length d3] 25))
              have hyc := box_cell w4 (.slice A3 st.1.length c3) (.slice B3 st.2.length d3) 25
              obtain ⟨hy0, hy1⟩ := hyc
              refine hK _ _ (fun _ => trivial) ?_
              clear hK hn hb hrA0 hpA0 b4 b4' hrow3 hpr3 hx03 hx13
              refine wpAnyN_take_at 12 89 (v := ?_) rfl rfl (by kernel_rfl) (by kernel_rfl) (by kernel_rfl) (by kernel_rfl) (by kernel_rfl) (fun _ _ _ h => h) (by rfl) ?_ trivial ?_
              rotate_left
              · intro w hSw; go_simp; (try with_reducible rfl)
              simp only [Act.put, List.setIfInBounds_toArray, List.set_cons_zero, List.set_cons_succ]
              refine wpAnyN_take_at 13 102 (v := ?_) rfl rfl (by kernel_rfl) (by kernel_rfl) (by kernel_rfl) (by kernel_rfl) (by kernel_rfl) (fun _ _ _ h => h) (by rfl) ?_ trivial ?_
              rotate_left
              · intro w hSw; go_simp; (try with_reducible rfl)
              simp only [Act.put, List.setIfInBounds_toArray, List.set_cons_zero, List.set_cons_succ]
              refine wpAnyN_take_at 14 103 (v := ?_) rfl rfl (by kernel_rfl) (by kernel_rfl) (by kernel_rfl) (by kernel_rfl) (by kernel_rfl) (fun _ _ _ h => h) (by rfl) ?_ trivial ?_
              rotate_left
              · intro w hSw; go_simp; (try with_reducible rfl)
              simp only [Act.put, List.setIfInBounds_toArray, List.set_cons_zero, List.set_cons_succ]
              refine wpAnyN_restT 15 [_, _, _] (fun _ => trivial) rfl (by kernel_rfl) ?_
              go_wp2_with fail
              generalize w4.alloc (.cells #[.slice A3 st.1.length c3, .slice B3 st.2.length d3] 25) = w5 at *
              refine (same_any A3 A c3 c st.1 st.1 w5 hrA hrO).mono ?_
              rintro e w6 ⟨rfl, n6, rfl⟩
              rw [decide_eq_true (rfl : st.1 = st.1)]
              have hp6 : PairsAt (w5.drewN n6) B3 d3 st.2 := ⟨hpA.1, hpA.2.1, hpA.2.2⟩
              have hp6' : PairsAt (w5.drewN n6) B d st.2 := ⟨hpO.1, hpO.2.1, hpO.2.2⟩
              go_wp2_with fail
              refine (samePairs_any B3 B d3 d st.2 st.2 _ hp6 hp6').mono ?_
              rintro e w7 ⟨rfl, n7, rfl⟩
              rw [decide_eq_true (rfl : st.2 = st.2)]
              go_wp2
              go_ret
              exact ⟨rfl, below_drewN' hbel (n6 + n7)⟩
            · go_simp
              refine hK _ _ (fun _ => trivial) ?_
              clear hK
              have q0 : Below wr.heap.size wr (wr.alloc (.cells #[.slice none 0 0, .slice none 0 0] 25)) := (Below.refl _ wr).alloc (Nat.le_refl _) _
              have hmB := (hm3.below q0).drew
              have hz0 := heap_alloc_new wr (.cells #[.slice none 0 0, .slice none 0 0] 25)
              have hza := alloc_size wr (.cells #[.slice none 0 0, .slice none 0 0] 25)
              refine wpAnyN_one (i := 11) rfl (by kernel_rfl) (fun K hK => ?_)
              go_simp
              refine (CP.out _ hmB).mono ?_
              rintro e w4 ⟨b4, nv, bv, rfl, hn, hb⟩
              obtain ⟨A3, c3, rfl, _, _⟩ := RowOf.own hn
              obtain ⟨B3, d3, rfl, _⟩ := PairsAt.own hb
              have b4' := below_of_drew b4
              have hblk4 := (b4'.block wr.heap.size (by rw [hza]; omega)).trans hz0
              obtain ⟨hk0, hk1, hk2, hk3⟩ := blk_facts hblk4
              have hq1 : (w4.setCell ⟨wr.heap.size, 0, none⟩ (.slice A3 st.1.length c3)).heap[wr.heap.size]? = some (.cells #[.slice A3 st.1.length c3, .slice none 0 0] 25 (0, 0)) := by simp [World.setCell, Array.getElem?_modify, hblk4]
              have hq2 : ((w4.setCell ⟨wr.heap.size, 0, none⟩ (.slice A3 st.1.length c3)).setCell ⟨wr.heap.size, 1, none⟩ (.slice B3 st.2.length d3)).heap[wr.heap.size]? = some (.cells #[.slice A3 st.1.length c3, .slice B3 st.2.length d3] 25 (0, 0)) := by simp [World.setCell, Array.getElem?_modify, hblk4]
              obtain ⟨hy0, hy1, _, _⟩ := blk_facts hq2
              obtain ⟨A4, c4, e4, hrA, _⟩ := RowOf.own (own_set (own_set hn hblk4 (by decide) 0 (.slice A3 st.1.length c3)) hq1 (by decide) 1 (.slice B3 st.2.length d3))
              cases e4
              obtain ⟨B4, d4, e4, hpA⟩ := PairsAt.own (own_set (own_set hb hblk4 (by decide) 0 (.slice A3 st.1.length c3)) hq1 (by decide) 1 (.slice B3 st.2.length d3))
              cases e4
              have bel5 := ((q0.then b4').setCell (p := ⟨wr.heap.size, 0, none⟩) (Nat.le_refl _) (.slice A3 st.1.length c3)).setCell (p := ⟨wr.heap.size, 1, none⟩) (Nat.le_refl _) (.slice B3 st.2.length d3)
              have hrO := hrow3.below bel5
              have hpO := hpr3.below bel5
              have hbel := HB3.out.then bel5
              refine hK _ _ (fun _ => trivial) ?_
              clear hK hn hb b4 b4' hrow3 hpr3 hx03 hx13 hq1 hq2 hblk4 q0 hz0 hza bel5
              refine wpAnyN_take_at 12 89 (v := ?_) rfl rfl (by kernel_rfl) (by kernel_rfl) (by kernel_rfl) (by kernel_rfl) (by kernel_rfl) (fun _ _ _ h => h) (by rfl) ?_ trivial ?_
              rotate_left
              · intro w hSw; go_simp; (try with_reducible rfl)
              simp only [Act.put, List.setIfInBounds_toArray, List.set_cons_zero, List.set_cons_succ]
              refine wpAnyN_take_at 13 102 (v := ?_) rfl rfl (by kernel_rfl) (by kernel_rfl) (by kernel_rfl) (by kernel_rfl) (by kernel_rfl) (fun _ _ _ h => h) (by rfl) ?_ trivial ?_
              rotate_left
              · intro w hSw; go_simp; (try with_reducible rfl)
              simp only [Act.put, List.setIfInBounds_toArray, List.set_cons_zero, List.set_cons_succ]
              refine wpAnyN_take_at 14 103 (v := ?_) rfl rfl (by kernel_rfl) (by kernel_rfl) (by kernel_rfl) (by kernel_rfl) (by kernel_rfl) (fun _ _ _ h => h) (by rfl) ?_ trivial ?_
              rotate_left
              · intro w hSw; go_simp; (try with_reducible rfl)
              simp only [Act.put, List.setIfInBounds_toArray, List.set_cons_zero, List.set_cons_succ]
              refine wpAnyN_restT 16 [_, _] (fun _ => trivial) rfl (by kernel_rfl) ?_
              go_wp2_with fail
              generalize (w4.setCell ⟨wr.heap.size, 0, none⟩ (.slice A3 st.1.length c3)).setCell ⟨wr.heap.size, 1, none⟩ (.slice B3 st.2.length d3) = w5 at *
              refine (same_any A3 A c3 c st.1 st.1 w5 hrA hrO).mono ?_
              rintro e w6 ⟨rfl, n6, rfl⟩
              rw [decide_eq_true (rfl : st.1 = st.1)]
              have hp6 : PairsAt (w5.drewN n6) B3 d3 st.2 := ⟨hpA.1, hpA.2.1, hpA.2.2⟩
              have hp6' : PairsAt (w5.drewN n6) B d st.2 := ⟨hpO.1, hpO.2.1, hpO.2.2⟩
              go_wp2_with fail
              refine (samePairs_any B3 B d3 d st.2 st.2 _ hp6 hp6').mono ?_
              rintro e w7 ⟨rfl, n7, rfl⟩
              rw [decide_eq_true (rfl : st.2 = st.2)]
              go_wp2
              go_ret
              exact ⟨rfl, below_drewN' hbel (n6 + n7)⟩
          · have f10 : ((X[q].toNat : Int) != 10) = true := by simp; omega
            clear h10
            go_wp2
            go_roundw
            case rel => exact ⟨q, by go_num, by omega, rfl⟩
            case measure => simp [intOf]

theorem policyLines_walk (w : World) (hml : MaxL w) (A0 : Option Addr) (c0 : Nat) (z0 : List ByteArray) (r0 : RowOf w A0 c0 (z0.map Value.string)) (w0 : ∀ s ∈ z0, s.size ≤ maxLen) (A1 : Option Addr) (c1 : Nat) (z1 : List (Int × Int)) (r1 : PairsAt w A1 c1 z1) (a2 : Int) (w2 : (Lit.int .i64 a2).wf = true) (a3 : ByteArray) (w3 : a3.size ≤ maxLen) :
    Calls Try.prog 3 #[.slice A0 z0.length c0, .slice A1 z1.length c1, .int .i64 a2, .string a3] w fun e w' => e = .returned (.bool true) ∧ Below w.heap.size w w' := by
  unfold maxLen at w0 w3
  have ha : -9223372036854775808 ≤ a2 ∧ a2 ≤ 9223372036854775807 := by simpa [Lit.wf, IntKind.min, IntKind.max, IntKind.signed, IntKind.bits] using w2
  rw [strs_of] at r0
  have hz : ∀ y ∈ (z0.map fun s => s.data.toList), y.length ≤ 9223372036854775807 := by
    intro y hy
    obtain ⟨s, hs, rfl⟩ := List.mem_map.1 hy
    have := w0 s hs
    have h2 : s.data.toList.length = s.size := by simp
    omega
  rw [show z0.length = (z0.map fun s => s.data.toList).length from by simp]
  generalize (z0.map fun s => s.data.toList) = ns at *
  have hx : a3.size ≤ 9223372036854775807 := by omega
  by_cases h1 : ns.length ≤ 20
  · by_cases h2 : z1.length ≤ 30
    · by_cases h3 : a3.size ≤ 40
      · cases h4 : rightL (ns, z1) with
        | true => exact policyLines_in w hml A0 A1 c0 c1 (ns, z1) a2 ha a3 r0 r1 hz h1 h2 h3 h4
        | false => exact policyLines_out w hml A0 A1 c0 c1 (ns, z1) a2 a3 r0 r1 hz hx (Or.inr (Or.inr (Or.inr ⟨h1, h2, h3, h4⟩)))
      · exact policyLines_out w hml A0 A1 c0 c1 (ns, z1) a2 a3 r0 r1 hz hx (Or.inr (Or.inr (Or.inl ⟨h1, h2, by show 40 < _; omega⟩)))
    · exact policyLines_out w hml A0 A1 c0 c1 (ns, z1) a2 a3 r0 r1 hz hx (Or.inr (Or.inl ⟨h1, by show 30 < z1.length; omega⟩))
  · exact policyLines_out w hml A0 A1 c0 c1 (ns, z1) a2 a3 r0 r1 hz hx (Or.inl (by show 20 < ns.length; omega))

end Go.Proofs.Ytobmmbhmaaednaa
