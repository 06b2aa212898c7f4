/-
  The laws of the layer define: DefineBack: its walk.
-/
import Derived.Test.YtioolcnoiaoflaaDoorDnE
import Derived.Test.YtioolcnoiaoflaaDoorDnD
import Derived.Test.YtioolcnoiaoflaaDoorDgB
namespace Go.Proofs.YtioolcnoiaoflaaDoor
open Go.RowKit
set_option linter.unusedSimpArgs false
set_option linter.unusedVariables false
set_option maxRecDepth 100000

def DbkRel (a0 a1 a2 : ByteArray) (i : Value) : Prop := ∃ k : Int, i = .int .i64 k ∧ (k = 0 ∨ k = 1 ∧ Lowers a0.data.toList ∨ k = 2 ∧ Lowers a0.data.toList ∧ Lowers a1.data.toList ∨ k = 3 ∧ Lowers a0.data.toList ∧ Lowers a1.data.toList ∧ Lowers a2.data.toList)
theorem dmore : dtL [109, 111, 114, 101] = ([], [109, 111, 114, 101]) := by decide +kernel
theorem noLf_app {a b : List UInt8} (ha : NoLf a) (hb : NoLf b) : NoLf (a ++ b) := by
  intro x hx
  rw [List.mem_append] at hx
  rcases hx with h | h
  · exact ha x h
  · exact hb x h
theorem noLf_of {a : List UInt8} (h : a.all (· != 10) = true) : NoLf a := fun b hb => by
  have := List.all_eq_true.1 h b hb
  simpa using this
theorem noLf_low {a : List UInt8} (h : Lowers a) : NoLf a := fun b hb => by
  have := h b hb
  rintro rfl
  exact absurd this.1 (by decide)
/-- What is taken of the line and the text behind it. -/
theorem back_take {s : List UInt8} (hs : NoLf s) {d : Dfn} (hd : dlL s = (d, true)) : dtL (s ++ [10, 109, 111, 114, 101]) = ([d], [109, 111, 114, 101]) := by
  have := dtL_cons hs hd [109, 111, 114, 101]
  rw [dmore] at this
  exact this

/-- The end of the law: what Line and Take answer of a text. -/
theorem str_back (a : ByteArray) : (⟨a.data.toList.toArray⟩ : ByteArray) = a := Lib.mk_data a
set_option maxHeartbeats 8000000 in
theorem defineBack_in (w : World) (hv : Elv w) (a0 a1 a2 : ByteArray) (a3 : Bool) (h0 : 0 < a0.size) (h1 : 0 < a1.size) (h2 : a0.size ≤ 30) (h3 : a1.size ≤ 40) (h4 : a2.size ≤ 40) :
    Calls Tryd.prog 4 #[.string a0, .string a1, .string a2, .bool a3] w fun e w' => e = .returned (.bool true) ∧ Below w.heap.size w w' := by
  have ca := alive11_any w hv
  have HV := Lib.hid hv
  have hn0 : ¬ a0.data.toList = [] := by
    intro e
    have := str_len a0
    rw [e] at this
    simp at this
    omega
  have hn1 : ¬ a1.data.toList = [] := by
    intro e
    have := str_len a1
    rw [e] at this
    simp at this
    omega
  obtain ⟨e1, e2⟩ := emp_no hn0
  obtain ⟨e3, e4⟩ := emp_no hn1
  clear hv
  go_enter Tryd.func4, Tryd.ntmps4
  go_wp2_with fail
  refine ca.mono ?_
  rintro e' w1 ⟨rfl, b1⟩
  go_wp2_with fail
  have HBL := Lib.hid (show Below w.heap.size w (w1.alloc (.cells #[.string a0, .string a1, .string a2] 9)) from b1.alloc b1.size _)
  have hc0 : (w1.alloc (.cells #[.string a0, .string a1, .string a2] 9)).cell? ⟨w1.heap.size, 0, none⟩ = some (.string a0) :=
    (cell_of_row _ w1.heap.size 0 #[.string a0, .string a1, .string a2] 9 (0, 0) (heap_alloc_new w1 _)).trans rfl
  have hc1 : (w1.alloc (.cells #[.string a0, .string a1, .string a2] 9)).cell? ⟨w1.heap.size, 1, none⟩ = some (.string a1) :=
    (cell_of_row _ w1.heap.size 1 #[.string a0, .string a1, .string a2] 9 (0, 0) (heap_alloc_new w1 _)).trans rfl
  have hc2 : (w1.alloc (.cells #[.string a0, .string a1, .string a2] 9)).cell? ⟨w1.heap.size, 2, none⟩ = some (.string a2) :=
    (cell_of_row _ w1.heap.size 2 #[.string a0, .string a1, .string a2] 9 (0, 0) (heap_alloc_new w1 _)).trans rfl
  go_loop [50] (fun i => DbkRel a0 a1 a2 i) (fun i => 3 - (intOf i).toNat)
  case atStart => exact ⟨0, rfl, Or.inl rfl⟩
  case round =>
    obtain ⟨k, rfl, hk⟩ := hrel
    rcases hk with rfl | ⟨rfl, hl0⟩ | ⟨rfl, hl0, hl1⟩ | ⟨rfl, hl0, hl1, hl2⟩
    · skip
      go_wp2_with fail
      go_loop [11] (fun i => DnonRel a0 i) (fun i => a0.size - (intOf i).toNat)
      case atStart => exact ⟨0, rfl, Nat.zero_le _, by intro b hb; simp at hb⟩
      case round =>
        obtain ⟨m, rfl, hm, hL⟩ := hrel
        by_cases hp : m < a0.size
        · have hix := index_str a0 m m rfl hp
          by_cases hb : 97 ≤ a0[m].toNat ∧ a0[m].toNat ≤ 122
          · have HL := Lib.hid (dlow_snoc hL hp hb.1 hb.2)
            obtain ⟨hb1, hb2⟩ := hb
            clear hL
            generalize a0[m] = b at *
            go_wp2
            go_round
            case rel => exact ⟨m + 1, by go_num, by omega, HL.out⟩
            case measure => simp [intOf]; omega
          · have hcase : a0[m].toNat < 97 ∨ 97 ≤ a0[m].toNat ∧ 122 < a0[m].toNat := by omega
            clear hL hb
            generalize a0[m] = b at *
            rcases hcase with hb | ⟨hb, hb2⟩
            all_goals
              go_wp2
              go_ret
              exact ⟨rfl, HBL.out⟩
        · obtain rfl : m = a0.size := by omega
          rw [List.take_of_length_le (by simp)] at hL
          have HL := Lib.hid hL
          clear hL
          go_wp2
          go_round
          case rel => exact ⟨1, rfl, Or.inr (Or.inl ⟨rfl, HL.out⟩)⟩
          case measure => simp [intOf]
    · have HL0 := Lib.hid hl0
      clear hl0
      go_wp2_with fail
      go_loop [11] (fun i => DnonRel a1 i) (fun i => a1.size - (intOf i).toNat)
      case atStart => exact ⟨0, rfl, Nat.zero_le _, by intro b hb; simp at hb⟩
      case round =>
        obtain ⟨m, rfl, hm, hL⟩ := hrel
        by_cases hp : m < a1.size
        · have hix := index_str a1 m m rfl hp
          by_cases hb : 97 ≤ a1[m].toNat ∧ a1[m].toNat ≤ 122
          · have HL := Lib.hid (dlow_snoc hL hp hb.1 hb.2)
            obtain ⟨hb1, hb2⟩ := hb
            clear hL
            generalize a1[m] = b at *
            go_wp2
            go_round
            case rel => exact ⟨m + 1, by go_num, by omega, HL.out⟩
            case measure => simp [intOf]; omega
          · have hcase : a1[m].toNat < 97 ∨ 97 ≤ a1[m].toNat ∧ 122 < a1[m].toNat := by omega
            clear hL hb
            generalize a1[m] = b at *
            rcases hcase with hb | ⟨hb, hb2⟩
            all_goals
              go_wp2
              go_ret
              exact ⟨rfl, HBL.out⟩
        · obtain rfl : m = a1.size := by omega
          rw [List.take_of_length_le (by simp)] at hL
          have HL := Lib.hid hL
          clear hL
          go_wp2
          go_round
          case rel => exact ⟨2, rfl, Or.inr (Or.inr (Or.inl ⟨rfl, HL0.out, HL.out⟩))⟩
          case measure => simp [intOf]
    · have HL0 := Lib.hid hl0
      have HL1 := Lib.hid hl1
      clear hl0 hl1
      go_wp2_with fail
      go_loop [11] (fun i => DnonRel a2 i) (fun i => a2.size - (intOf i).toNat)
      case atStart => exact ⟨0, rfl, Nat.zero_le _, by intro b hb; simp at hb⟩
      case round =>
        obtain ⟨m, rfl, hm, hL⟩ := hrel
        by_cases hp : m < a2.size
        · have hix := index_str a2 m m rfl hp
          by_cases hb : 97 ≤ a2[m].toNat ∧ a2[m].toNat ≤ 122
          · have HL := Lib.hid (dlow_snoc hL hp hb.1 hb.2)
            obtain ⟨hb1, hb2⟩ := hb
            clear hL
            generalize a2[m] = b at *
            go_wp2
            go_round
            case rel => exact ⟨m + 1, by go_num, by omega, HL.out⟩
            case measure => simp [intOf]; omega
          · have hcase : a2[m].toNat < 97 ∨ 97 ≤ a2[m].toNat ∧ 122 < a2[m].toNat := by omega
            clear hL hb
            generalize a2[m] = b at *
            rcases hcase with hb | ⟨hb, hb2⟩
            all_goals
              go_wp2
              go_ret
              exact ⟨rfl, HBL.out⟩
        · obtain rfl : m = a2.size := by omega
          rw [List.take_of_length_le (by simp)] at hL
          have HL := Lib.hid hL
          clear hL
          go_wp2
          go_round
          case rel => exact ⟨3, rfl, Or.inr (Or.inr (Or.inr ⟨rfl, HL0.out, HL1.out, HL.out⟩))⟩
          case measure => simp [intOf]
    · clear hc0 hc1 hc2
      have hv1 := Lib.hid (HV.out.below HBL.out)
      have hln : a0.data.toList.length ≤ 60 := by rw [str_len]; omega
      cases a3 with
      | true =>
        have s0 := fun W => run_string_add_sum (P := Tryd.prog) W (⟨#[91, 94]⟩ : ByteArray) a0 (by (try simp only [ByteArray.size_append]); show 2 + a0.size ≤ _; omega)
        have s1 := fun W => run_string_add_sum (P := Tryd.prog) W ((⟨#[91, 94]⟩ : ByteArray) ++ a0) (⟨#[93, 58, 32]⟩ : ByteArray) (by (try simp only [ByteArray.size_append]); show 2 + a0.size + 3 ≤ _; omega)
        have s2 := fun W => run_string_add_sum (P := Tryd.prog) W (((⟨#[91, 94]⟩ : ByteArray) ++ a0) ++ (⟨#[93, 58, 32]⟩ : ByteArray)) a1 (by (try simp only [ByteArray.size_append]); show 2 + a0.size + 3 + a1.size ≤ _; omega)
        have hS : ((((⟨#[91, 94]⟩ : ByteArray) ++ a0) ++ (⟨#[93, 58, 32]⟩ : ByteArray)) ++ a1).data.toList = 91 :: 94 :: (a0.data.toList ++ 93 :: 58 :: 32 :: a1.data.toList) := by simp
        have hz : ((((⟨#[91, 94]⟩ : ByteArray) ++ a0) ++ (⟨#[93, 58, 32]⟩ : ByteArray)) ++ a1).size ≤ 1000 := by simp only [ByteArray.size_append]; show 2 + a0.size + 3 + a1.size ≤ _; omega
        have c1 := fun W h => dline_any ((((⟨#[91, 94]⟩ : ByteArray) ++ a0) ++ (⟨#[93, 58, 32]⟩ : ByteArray)) ++ a1) W h (by omega)
        rw [hS, back_note hl0 hn0 hln hl1 hn1] at c1
        unfold dfTib dfV at c1
        simp only at c1
        rw [str_back, str_back] at c1
        have C1 := Lib.hid c1
        clear c1 hS hz hl0 hl1 hl2
        go_wp2_with fail
        refine (C1.out _ hv1.out).mono ?_
        rintro e' w3 ⟨rfl, b3⟩
        have HB := Lib.hid (HBL.out.then b3)
        go_wp2
        go_ret
        exact ⟨rfl, HB.out.alloc HB.out.size _⟩
      | false =>
        have s0 := fun W => run_string_add_sum (P := Tryd.prog) W (⟨#[91]⟩ : ByteArray) a0 (by (try simp only [ByteArray.size_append]); show 1 + a0.size ≤ _; omega)
        have s1 := fun W => run_string_add_sum (P := Tryd.prog) W ((⟨#[91]⟩ : ByteArray) ++ a0) (⟨#[93, 58, 32, 32, 60]⟩ : ByteArray) (by (try simp only [ByteArray.size_append]); show 1 + a0.size + 5 ≤ _; omega)
        have s2 := fun W => run_string_add_sum (P := Tryd.prog) W (((⟨#[91]⟩ : ByteArray) ++ a0) ++ (⟨#[93, 58, 32, 32, 60]⟩ : ByteArray)) a1 (by (try simp only [ByteArray.size_append]); show 1 + a0.size + 5 + a1.size ≤ _; omega)
        have s3 := fun W => run_string_add_sum (P := Tryd.prog) W ((((⟨#[91]⟩ : ByteArray) ++ a0) ++ (⟨#[93, 58, 32, 32, 60]⟩ : ByteArray)) ++ a1) (⟨#[62]⟩ : ByteArray) (by (try simp only [ByteArray.size_append]); show 1 + a0.size + 5 + a1.size + 1 ≤ _; omega)
        by_cases h5 : a2.data.toList = []
        · obtain ⟨e5, e6⟩ := emp_yes h5
          have hS : (((((⟨#[91]⟩ : ByteArray) ++ a0) ++ (⟨#[93, 58, 32, 32, 60]⟩ : ByteArray)) ++ a1) ++ (⟨#[62]⟩ : ByteArray)).data.toList = 91 :: (a0.data.toList ++ 93 :: 58 :: 32 :: 32 :: 60 :: (a1.data.toList ++ [62])) := by simp
          have hz : (((((⟨#[91]⟩ : ByteArray) ++ a0) ++ (⟨#[93, 58, 32, 32, 60]⟩ : ByteArray)) ++ a1) ++ (⟨#[62]⟩ : ByteArray)).size ≤ 1000 := by simp only [ByteArray.size_append]; show 1 + a0.size + 5 + a1.size + 1 ≤ _; omega
          have hlf : NoLf (((((⟨#[91]⟩ : ByteArray) ++ a0) ++ (⟨#[93, 58, 32, 32, 60]⟩ : ByteArray)) ++ a1) ++ (⟨#[62]⟩ : ByteArray)).data.toList := by rw [hS]; exact noLf_app (a := [91]) (noLf_of (by decide)) (noLf_app (noLf_low hl0) (noLf_app (a := [93, 58, 32, 32, 60]) (noLf_of (by decide)) (noLf_app (noLf_low hl1) (noLf_of (by decide)))))
          have hd := back_plain hl0 hn0 hln hl1
          rw [← hS] at hd
          have ht := back_take hlf hd
          have hT : ((((((⟨#[91]⟩ : ByteArray) ++ a0) ++ (⟨#[93, 58, 32, 32, 60]⟩ : ByteArray)) ++ a1) ++ (⟨#[62]⟩ : ByteArray)) ++ (⟨#[10, 109, 111, 114, 101]⟩ : ByteArray)).data.toList = (((((⟨#[91]⟩ : ByteArray) ++ a0) ++ (⟨#[93, 58, 32, 32, 60]⟩ : ByteArray)) ++ a1) ++ (⟨#[62]⟩ : ByteArray)).data.toList ++ [10, 109, 111, 114, 101] := by simp
          have hzt : ((((((⟨#[91]⟩ : ByteArray) ++ a0) ++ (⟨#[93, 58, 32, 32, 60]⟩ : ByteArray)) ++ a1) ++ (⟨#[62]⟩ : ByteArray)) ++ (⟨#[10, 109, 111, 114, 101]⟩ : ByteArray)).size ≤ 1000 := by simp only [ByteArray.size_append]; show 1 + a0.size + 5 + a1.size + 1 + 5 ≤ _; omega
          have c1 := fun W h => dline_any (((((⟨#[91]⟩ : ByteArray) ++ a0) ++ (⟨#[93, 58, 32, 32, 60]⟩ : ByteArray)) ++ a1) ++ (⟨#[62]⟩ : ByteArray)) W h (by omega)
          rw [hd] at c1
          unfold dfTib dfV at c1
          simp only at c1
          rw [str_back, str_back] at c1
          have c2 := fun W h => dtake_any ((((((⟨#[91]⟩ : ByteArray) ++ a0) ++ (⟨#[93, 58, 32, 32, 60]⟩ : ByteArray)) ++ a1) ++ (⟨#[62]⟩ : ByteArray)) ++ (⟨#[10, 109, 111, 114, 101]⟩ : ByteArray)) W h (by omega)
          rw [hT, ht] at c2
          simp only at c2
          have sT := fun W => run_string_add_sum (P := Tryd.prog) W (((((⟨#[91]⟩ : ByteArray) ++ a0) ++ (⟨#[93, 58, 32, 32, 60]⟩ : ByteArray)) ++ a1) ++ (⟨#[62]⟩ : ByteArray)) (⟨#[10, 109, 111, 114, 101]⟩ : ByteArray) (by simp only [ByteArray.size_append]; show 1 + a0.size + 5 + a1.size + 1 + 5 ≤ _; omega)
          have C1 := Lib.hid c1
          have C2 := Lib.hid c2
          clear c1 c2 hS hz hlf hd ht hT hzt hl0 hl1 hl2 e1 e2 e3 e4 hn0 hn1
          go_wp2_with fail
          refine (C1.out _ hv1.out).mono ?_
          rintro e' w3 ⟨rfl, b3⟩
          have hz3 := dfAt_new w3 ⟨a0.data.toList, a1.data.toList, [], [], false⟩
          unfold DfAt at hz3
          simp only at hz3
          rw [str_back, str_back] at hz3
          have HB3 := Lib.hid (HBL.out.then b3)
          have b4 := HB3.out.alloc HB3.out.size (.cells #[.string a0, .string a1, .string ⟨#[]⟩, .string ⟨#[]⟩, .bool false] 29)
          have HB4 := Lib.hid b4
          have HV4 := Lib.hid (HV.out.below b4)
          have hs4 := alloc_size w3 (.cells #[.string a0, .string a1, .string ⟨#[]⟩, .string ⟨#[]⟩, .bool false] 29)
          clear b3 b4
          go_wp2_with fail
          refine (C2.out _ HV4.out).mono ?_
          rintro e' w5 ⟨v, rfl, hown, b5⟩
          have HB5 := Lib.hid (HB4.out.then b5)
          have hz5 := (b5.block w3.heap.size (by omega)).trans hz3
          have cc : ∀ i, w5.cell? ⟨w3.heap.size, i, none⟩ = (#[.string a0, .string a1, .string ⟨#[]⟩, .string ⟨#[]⟩, .bool false] : Array Value)[i]? := fun i => cell_of_row w5 _ i _ _ (0, 0) hz5
          have k0 := cc 0
          have k1 := cc 1
          have k2 := cc 2
          have k3 := cc 3
          have k4 := cc 4
          simp at k0 k1 k2 k3 k4
          obtain ⟨g, cap, rfl, _⟩ := World.ownsRow.form hown Nat.zero_lt_one
          have oo := fun j u hu => own_elt (k := 0) dfC_length hown Nat.zero_lt_one j u hu
          have l0 := oo 0 _ rfl
          have l1 := oo 1 _ rfl
          have l2 := oo 2 _ rfl
          have l3 := oo 3 _ rfl
          have l4 := oo 4 _ rfl
          simp only [List.getElem_cons_zero, Nat.zero_mul, Nat.zero_add, str_back] at l0 l1 l2 l3 l4
          clear oo cc hown hz5 hz3 b5 sT
          go_wp2_with fail
          go_quiet (fail)
          go_wp2
          go_ret
          exact ⟨rfl, below_drewN' HB5.out _⟩
        · obtain ⟨e5, e6⟩ := emp_no h5
          have q0 := fun W => run_string_add_sum (P := Tryd.prog) W (⟨#[32, 39]⟩ : ByteArray) a2 (by (try simp only [ByteArray.size_append]); show 2 + a2.size ≤ _; omega)
          have q1 := fun W => run_string_add_sum (P := Tryd.prog) W ((⟨#[32, 39]⟩ : ByteArray) ++ a2) (⟨#[39, 32]⟩ : ByteArray) (by (try simp only [ByteArray.size_append]); show 2 + a2.size + 2 ≤ _; omega)
          have qs := fun W => run_string_add_sum (P := Tryd.prog) W (((((⟨#[91]⟩ : ByteArray) ++ a0) ++ (⟨#[93, 58, 32, 32, 60]⟩ : ByteArray)) ++ a1) ++ (⟨#[62]⟩ : ByteArray)) (((⟨#[32, 39]⟩ : ByteArray) ++ a2) ++ (⟨#[39, 32]⟩ : ByteArray)) (by simp only [ByteArray.size_append]; show 1 + a0.size + 5 + a1.size + 1 + (2 + a2.size + 2) ≤ _; omega)
          have hS : ((((((⟨#[91]⟩ : ByteArray) ++ a0) ++ (⟨#[93, 58, 32, 32, 60]⟩ : ByteArray)) ++ a1) ++ (⟨#[62]⟩ : ByteArray)) ++ (((⟨#[32, 39]⟩ : ByteArray) ++ a2) ++ (⟨#[39, 32]⟩ : ByteArray))).data.toList = 91 :: (a0.data.toList ++ 93 :: 58 :: 32 :: 32 :: 60 :: (a1.data.toList ++ 62 :: 32 :: 39 :: (a2.data.toList ++ [39, 32]))) := by simp
          have hz : ((((((⟨#[91]⟩ : ByteArray) ++ a0) ++ (⟨#[93, 58, 32, 32, 60]⟩ : ByteArray)) ++ a1) ++ (⟨#[62]⟩ : ByteArray)) ++ (((⟨#[32, 39]⟩ : ByteArray) ++ a2) ++ (⟨#[39, 32]⟩ : ByteArray))).size ≤ 1000 := by simp only [ByteArray.size_append]; show 1 + a0.size + 5 + a1.size + 1 + (2 + a2.size + 2) ≤ _; omega
          have hlf : NoLf ((((((⟨#[91]⟩ : ByteArray) ++ a0) ++ (⟨#[93, 58, 32, 32, 60]⟩ : ByteArray)) ++ a1) ++ (⟨#[62]⟩ : ByteArray)) ++ (((⟨#[32, 39]⟩ : ByteArray) ++ a2) ++ (⟨#[39, 32]⟩ : ByteArray))).data.toList := by rw [hS]; exact noLf_app (a := [91]) (noLf_of (by decide)) (noLf_app (noLf_low hl0) (noLf_app (a := [93, 58, 32, 32, 60]) (noLf_of (by decide)) (noLf_app (noLf_low hl1) (noLf_app (a := [62, 32, 39]) (noLf_of (by decide)) (noLf_app (noLf_low hl2) (noLf_of (by decide)))))))
          have hd := back_title hl0 hn0 hln hl1 hl2
          rw [← hS] at hd
          have ht := back_take hlf hd
          have hT : (((((((⟨#[91]⟩ : ByteArray) ++ a0) ++ (⟨#[93, 58, 32, 32, 60]⟩ : ByteArray)) ++ a1) ++ (⟨#[62]⟩ : ByteArray)) ++ (((⟨#[32, 39]⟩ : ByteArray) ++ a2) ++ (⟨#[39, 32]⟩ : ByteArray))) ++ (⟨#[10, 109, 111, 114, 101]⟩ : ByteArray)).data.toList = ((((((⟨#[91]⟩ : ByteArray) ++ a0) ++ (⟨#[93, 58, 32, 32, 60]⟩ : ByteArray)) ++ a1) ++ (⟨#[62]⟩ : ByteArray)) ++ (((⟨#[32, 39]⟩ : ByteArray) ++ a2) ++ (⟨#[39, 32]⟩ : ByteArray))).data.toList ++ [10, 109, 111, 114, 101] := by simp
          have hzt : (((((((⟨#[91]⟩ : ByteArray) ++ a0) ++ (⟨#[93, 58, 32, 32, 60]⟩ : ByteArray)) ++ a1) ++ (⟨#[62]⟩ : ByteArray)) ++ (((⟨#[32, 39]⟩ : ByteArray) ++ a2) ++ (⟨#[39, 32]⟩ : ByteArray))) ++ (⟨#[10, 109, 111, 114, 101]⟩ : ByteArray)).size ≤ 1000 := by simp only [ByteArray.size_append]; show 1 + a0.size + 5 + a1.size + 1 + (2 + a2.size + 2) + 5 ≤ _; omega
          have c1 := fun W h => dline_any ((((((⟨#[91]⟩ : ByteArray) ++ a0) ++ (⟨#[93, 58, 32, 32, 60]⟩ : ByteArray)) ++ a1) ++ (⟨#[62]⟩ : ByteArray)) ++ (((⟨#[32, 39]⟩ : ByteArray) ++ a2) ++ (⟨#[39, 32]⟩ : ByteArray))) W h (by omega)
          rw [hd] at c1
          unfold dfTib dfV at c1
          simp only at c1
          rw [str_back, str_back, str_back] at c1
          have c2 := fun W h => dtake_any (((((((⟨#[91]⟩ : ByteArray) ++ a0) ++ (⟨#[93, 58, 32, 32, 60]⟩ : ByteArray)) ++ a1) ++ (⟨#[62]⟩ : ByteArray)) ++ (((⟨#[32, 39]⟩ : ByteArray) ++ a2) ++ (⟨#[39, 32]⟩ : ByteArray))) ++ (⟨#[10, 109, 111, 114, 101]⟩ : ByteArray)) W h (by omega)
          rw [hT, ht] at c2
          simp only at c2
          have sT := fun W => run_string_add_sum (P := Tryd.prog) W ((((((⟨#[91]⟩ : ByteArray) ++ a0) ++ (⟨#[93, 58, 32, 32, 60]⟩ : ByteArray)) ++ a1) ++ (⟨#[62]⟩ : ByteArray)) ++ (((⟨#[32, 39]⟩ : ByteArray) ++ a2) ++ (⟨#[39, 32]⟩ : ByteArray))) (⟨#[10, 109, 111, 114, 101]⟩ : ByteArray) (by simp only [ByteArray.size_append]; show 1 + a0.size + 5 + a1.size + 1 + (2 + a2.size + 2) + 5 ≤ _; omega)
          have C1 := Lib.hid c1
          have C2 := Lib.hid c2
          clear c1 c2 hS hz hlf hd ht hT hzt hl0 hl1 hl2 e1 e2 e3 e4 hn0 hn1
          go_wp2_with fail
          refine (C1.out _ hv1.out).mono ?_
          rintro e' w3 ⟨rfl, b3⟩
          have hz3 := dfAt_new w3 ⟨a0.data.toList, a1.data.toList, a2.data.toList, [], false⟩
          unfold DfAt at hz3
          simp only at hz3
          rw [str_back, str_back, str_back] at hz3
          have HB3 := Lib.hid (HBL.out.then b3)
          have b4 := HB3.out.alloc HB3.out.size (.cells #[.string a0, .string a1, .string a2, .string ⟨#[]⟩, .bool false] 29)
          have HB4 := Lib.hid b4
          have HV4 := Lib.hid (HV.out.below b4)
          have hs4 := alloc_size w3 (.cells #[.string a0, .string a1, .string a2, .string ⟨#[]⟩, .bool false] 29)
          clear b3 b4
          go_wp2_with fail
          refine (C2.out _ HV4.out).mono ?_
          rintro e' w5 ⟨v, rfl, hown, b5⟩
          have HB5 := Lib.hid (HB4.out.then b5)
          have hz5 := (b5.block w3.heap.size (by omega)).trans hz3
          have cc : ∀ i, w5.cell? ⟨w3.heap.size, i, none⟩ = (#[.string a0, .string a1, .string a2, .string ⟨#[]⟩, .bool false] : Array Value)[i]? := fun i => cell_of_row w5 _ i _ _ (0, 0) hz5
          have k0 := cc 0
          have k1 := cc 1
          have k2 := cc 2
          have k3 := cc 3
          have k4 := cc 4
          simp at k0 k1 k2 k3 k4
          obtain ⟨g, cap, rfl, _⟩ := World.ownsRow.form hown Nat.zero_lt_one
          have oo := fun j u hu => own_elt (k := 0) dfC_length hown Nat.zero_lt_one j u hu
          have l0 := oo 0 _ rfl
          have l1 := oo 1 _ rfl
          have l2 := oo 2 _ rfl
          have l3 := oo 3 _ rfl
          have l4 := oo 4 _ rfl
          simp only [List.getElem_cons_zero, Nat.zero_mul, Nat.zero_add, str_back] at l0 l1 l2 l3 l4
          clear oo cc hown hz5 hz3 b5 sT
          go_wp2_with fail
          go_quiet (fail)
          go_wp2
          go_ret
          exact ⟨rfl, below_drewN' HB5.out _⟩
set_option maxHeartbeats 2000000 in
theorem defineBack_walk (w : World) (hv : Elv w) (a0 : ByteArray) (w0 : a0.size ≤ maxLen) (a1 : ByteArray) (w1 : a1.size ≤ maxLen) (a2 : ByteArray) (w2 : a2.size ≤ maxLen) (a3 : Bool) :
    Calls Tryd.prog 4 #[.string a0, .string a1, .string a2, .bool a3] w fun e w' => e = .returned (.bool true) ∧ Below w.heap.size w w' := by
  unfold maxLen at w0 w1 w2
  by_cases h : 0 < a0.size ∧ 0 < a1.size ∧ a0.size ≤ 30 ∧ a1.size ≤ 40 ∧ a2.size ≤ 40
  · exact defineBack_in w hv a0 a1 a2 a3 h.1 h.2.1 h.2.2.1 h.2.2.2.1 h.2.2.2.2
  · have ca := alive11_any w hv
    clear hv
    have hcase : 30 < a0.size ∨ a0.size ≤ 30 ∧ (40 < a1.size ∨ a1.size ≤ 40 ∧ (40 < a2.size ∨ a2.size ≤ 40 ∧ (¬ 0 < a0.size ∨ 0 < a0.size ∧ ¬ 0 < a1.size))) := by omega
    clear h
    rcases hcase with h | ⟨h, h | ⟨g, h | ⟨g2, h | ⟨h0, h1⟩⟩⟩⟩
    · go_enter Tryd.func4, Tryd.ntmps4
      go_wp2_with (go_at_call 7; refine ca.mono ?_; rintro e w1 ⟨rfl, b1⟩)
      go_ret
      exact ⟨rfl, b1⟩
    · go_enter Tryd.func4, Tryd.ntmps4
      go_wp2_with (go_at_call 7; refine ca.mono ?_; rintro e w1 ⟨rfl, b1⟩)
      go_ret
      exact ⟨rfl, b1⟩
    · go_enter Tryd.func4, Tryd.ntmps4
      go_wp2_with (go_at_call 7; refine ca.mono ?_; rintro e w1 ⟨rfl, b1⟩)
      go_ret
      exact ⟨rfl, b1⟩
    · obtain ⟨e1, e2⟩ := emp_yes (X := a0) (List.eq_nil_of_length_eq_zero (by rw [str_len]; omega))
      go_enter Tryd.func4, Tryd.ntmps4
      go_wp2_with (go_at_call 7; refine ca.mono ?_; rintro e w1 ⟨rfl, b1⟩)
      go_ret
      exact ⟨rfl, b1⟩
    · obtain ⟨e1, e2⟩ := emp_no (X := a0) (fun e => by have := str_len a0; rw [e] at this; simp at this; omega)
      obtain ⟨e3, e4⟩ := emp_yes (X := a1) (List.eq_nil_of_length_eq_zero (by rw [str_len]; omega))
      go_enter Tryd.func4, Tryd.ntmps4
      go_wp2_with (go_at_call 7; refine ca.mono ?_; rintro e w1 ⟨rfl, b1⟩)
      go_ret
      exact ⟨rfl, b1⟩

end Go.Proofs.YtioolcnoiaoflaaDoor
