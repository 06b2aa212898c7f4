/-
  The laws of the layer define: DefineNone: its walk.
-/
import Derived.Test.YtioolcnoiaoflaaDoorDnE
import Derived.Test.YtioolcnoiaoflaaDoorDefR
namespace Go.Proofs.YtioolcnoiaoflaaDoor
open Go.RowKit
set_option linter.unusedSimpArgs false
set_option linter.unusedVariables false
set_option maxRecDepth 100000

/-- What defines nothing. -/
def nonB (m : ByteArray) : List ByteArray := [((⟨#[120]⟩ : ByteArray) ++ m),
  ((⟨#[91, 120]⟩ : ByteArray) ++ m),
  (((⟨#[91, 120]⟩ : ByteArray) ++ m) ++ (⟨#[93]⟩ : ByteArray)),
  (((⟨#[91, 120]⟩ : ByteArray) ++ m) ++ (⟨#[93, 32, 58, 32, 47, 117]⟩ : ByteArray)),
  (⟨#[91, 93, 58, 32, 47, 117]⟩ : ByteArray),
  (⟨#[91, 32, 93, 58, 32, 47, 117]⟩ : ByteArray),
  (⟨#[91, 94, 93, 58, 32, 116]⟩ : ByteArray),
  (((⟨#[91, 94, 120]⟩ : ByteArray) ++ m) ++ (⟨#[93, 58, 32]⟩ : ByteArray)),
  (((⟨#[91, 120]⟩ : ByteArray) ++ m) ++ (⟨#[93, 58, 32]⟩ : ByteArray)),
  (((⟨#[91, 120]⟩ : ByteArray) ++ m) ++ (⟨#[93, 58, 32, 47, 117, 32, 39, 116]⟩ : ByteArray)),
  (((⟨#[91, 120]⟩ : ByteArray) ++ m) ++ (⟨#[93, 58, 32, 47, 117, 32, 39, 116, 39, 32, 122]⟩ : ByteArray)),
  (⟨#[32, 91, 120, 93, 58, 32, 47, 117]⟩ : ByteArray),
  (((⟨#[91, 120]⟩ : ByteArray) ++ m) ++ (⟨#[93, 58, 32, 47, 117, 32, 122]⟩ : ByteArray))]
def nonAt (m : ByteArray) (j : Nat) : ByteArray := (nonB m).getD j ByteArray.empty
theorem nonAt_none {m : ByteArray} (h : Lowers m.data.toList) (hz : m.size ≤ 20) (j : Nat) (hj : j < 13) : dlL (nonAt m j).data.toList = (noDfn, false) ∧ (nonAt m j).size ≤ 1000 := by
  have hl : m.data.toList.length ≤ 50 := by simp; omega
  match j, hj with
  | 0, _ =>
    refine ⟨?_, ?_⟩
    · rw [show (nonAt m 0).data.toList = 120 :: m.data.toList from by simp [nonAt, nonB]]
      exact none_x _
    · show ((⟨#[120]⟩ : ByteArray) ++ m).size ≤ 1000
      rw [ByteArray.size_append]; show 1 + m.size ≤ _; omega
  | 1, _ =>
    refine ⟨?_, ?_⟩
    · rw [show (nonAt m 1).data.toList = 91 :: 120 :: m.data.toList from by simp [nonAt, nonB]]
      exact none_open h
    · show ((⟨#[91, 120]⟩ : ByteArray) ++ m).size ≤ 1000
      rw [ByteArray.size_append]; show 2 + m.size ≤ _; omega
  | 2, _ =>
    refine ⟨?_, ?_⟩
    · rw [show (nonAt m 2).data.toList = 91 :: 120 :: (m.data.toList ++ 93 :: []) from by simp [nonAt, nonB]]
      exact none_shut h
    · show (((⟨#[91, 120]⟩ : ByteArray) ++ m) ++ (⟨#[93]⟩ : ByteArray)).size ≤ 1000
      rw [ByteArray.size_append, ByteArray.size_append]; show 2 + m.size + 1 ≤ _; omega
  | 3, _ =>
    refine ⟨?_, ?_⟩
    · rw [show (nonAt m 3).data.toList = 91 :: 120 :: (m.data.toList ++ 93 :: 32 :: 58 :: 32 :: 47 :: 117 :: []) from by simp [nonAt, nonB]]
      exact none_gap h _
    · show (((⟨#[91, 120]⟩ : ByteArray) ++ m) ++ (⟨#[93, 32, 58, 32, 47, 117]⟩ : ByteArray)).size ≤ 1000
      rw [ByteArray.size_append, ByteArray.size_append]; show 2 + m.size + 6 ≤ _; omega
  | 4, _ =>
    refine ⟨?_, ?_⟩
    · rw [show (nonAt m 4).data.toList = [91, 93, 58, 32, 47, 117] from by simp [nonAt, nonB]]
      exact none_empty
    · show (⟨#[91, 93, 58, 32, 47, 117]⟩ : ByteArray).size ≤ 1000
      decide
  | 5, _ =>
    refine ⟨?_, ?_⟩
    · rw [show (nonAt m 5).data.toList = [91, 32, 93, 58, 32, 47, 117] from by simp [nonAt, nonB]]
      exact none_blank
    · show (⟨#[91, 32, 93, 58, 32, 47, 117]⟩ : ByteArray).size ≤ 1000
      decide
  | 6, _ =>
    refine ⟨?_, ?_⟩
    · rw [show (nonAt m 6).data.toList = [91, 94, 93, 58, 32, 116] from by simp [nonAt, nonB]]
      exact none_note0
    · show (⟨#[91, 94, 93, 58, 32, 116]⟩ : ByteArray).size ≤ 1000
      decide
  | 7, _ =>
    refine ⟨?_, ?_⟩
    · rw [show (nonAt m 7).data.toList = 91 :: 94 :: 120 :: (m.data.toList ++ 93 :: 58 :: 32 :: []) from by simp [nonAt, nonB]]
      exact none_note h
    · show (((⟨#[91, 94, 120]⟩ : ByteArray) ++ m) ++ (⟨#[93, 58, 32]⟩ : ByteArray)).size ≤ 1000
      rw [ByteArray.size_append, ByteArray.size_append]; show 3 + m.size + 3 ≤ _; omega
  | 8, _ =>
    refine ⟨?_, ?_⟩
    · rw [show (nonAt m 8).data.toList = 91 :: 120 :: (m.data.toList ++ 93 :: 58 :: 32 :: []) from by simp [nonAt, nonB]]
      exact none_url h
    · show (((⟨#[91, 120]⟩ : ByteArray) ++ m) ++ (⟨#[93, 58, 32]⟩ : ByteArray)).size ≤ 1000
      rw [ByteArray.size_append, ByteArray.size_append]; show 2 + m.size + 3 ≤ _; omega
  | 9, _ =>
    refine ⟨?_, ?_⟩
    · rw [show (nonAt m 9).data.toList = 91 :: 120 :: (m.data.toList ++ 93 :: 58 :: 32 :: 47 :: 117 :: 32 :: 39 :: 116 :: []) from by simp [nonAt, nonB]]
      exact none_behind h hl _ none_t1
    · show (((⟨#[91, 120]⟩ : ByteArray) ++ m) ++ (⟨#[93, 58, 32, 47, 117, 32, 39, 116]⟩ : ByteArray)).size ≤ 1000
      rw [ByteArray.size_append, ByteArray.size_append]; show 2 + m.size + 8 ≤ _; omega
  | 10, _ =>
    refine ⟨?_, ?_⟩
    · rw [show (nonAt m 10).data.toList = 91 :: 120 :: (m.data.toList ++ 93 :: 58 :: 32 :: 47 :: 117 :: 32 :: 39 :: 116 :: 39 :: 32 :: 122 :: []) from by simp [nonAt, nonB]]
      exact none_behind h hl _ none_t2
    · show (((⟨#[91, 120]⟩ : ByteArray) ++ m) ++ (⟨#[93, 58, 32, 47, 117, 32, 39, 116, 39, 32, 122]⟩ : ByteArray)).size ≤ 1000
      rw [ByteArray.size_append, ByteArray.size_append]; show 2 + m.size + 11 ≤ _; omega
  | 11, _ =>
    refine ⟨?_, ?_⟩
    · rw [show (nonAt m 11).data.toList = [32, 91, 120, 93, 58, 32, 47, 117] from by simp [nonAt, nonB]]
      exact none_sp _
    · show (⟨#[32, 91, 120, 93, 58, 32, 47, 117]⟩ : ByteArray).size ≤ 1000
      decide
  | 12, _ =>
    refine ⟨?_, ?_⟩
    · rw [show (nonAt m 12).data.toList = 91 :: 120 :: (m.data.toList ++ 93 :: 58 :: 32 :: 47 :: 117 :: 32 :: 122 :: []) from by simp [nonAt, nonB]]
      exact none_behind h hl _ none_t3
    · show (((⟨#[91, 120]⟩ : ByteArray) ++ m) ++ (⟨#[93, 58, 32, 47, 117, 32, 122]⟩ : ByteArray)).size ≤ 1000
      rw [ByteArray.size_append, ByteArray.size_append]; show 2 + m.size + 7 ≤ _; omega
theorem none_bd (a : Int) : -13 < a.tmod 13 ∧ a.tmod 13 < 13 := by
  have h1 := Int.tmod_lt_of_pos a (show (0 : Int) < 13 by decide)
  have h2 := Int.lt_tmod_of_pos a (show (0 : Int) < 13 by decide)
  omega
theorem none_index (a : Int) : ∃ j : Nat, j < 13 ∧ (wrap64 (a.tmod 13 + 13)).tmod 13 = (j : Int) := by
  obtain ⟨h1, h2⟩ := none_bd a
  have e : wrap64 (a.tmod 13 + 13) = a.tmod 13 + 13 := by unfold wrap64; omega
  rw [e, Int.tmod_eq_emod_of_nonneg (by omega)]
  exact ⟨((a.tmod 13 + 13) % 13).toNat, by omega, by omega⟩
theorem none_cell (w : World) (m : ByteArray) (j : Nat) (h : j < 13) : (w.alloc (.cells #[.string ((⟨#[120]⟩ : ByteArray) ++ m), .string ((⟨#[91, 120]⟩ : ByteArray) ++ m), .string (((⟨#[91, 120]⟩ : ByteArray) ++ m) ++ (⟨#[93]⟩ : ByteArray)), .string (((⟨#[91, 120]⟩ : ByteArray) ++ m) ++ (⟨#[93, 32, 58, 32, 47, 117]⟩ : ByteArray)), .string (⟨#[91, 93, 58, 32, 47, 117]⟩ : ByteArray), .string (⟨#[91, 32, 93, 58, 32, 47, 117]⟩ : ByteArray), .string (⟨#[91, 94, 93, 58, 32, 116]⟩ : ByteArray), .string (((⟨#[91, 94, 120]⟩ : ByteArray) ++ m) ++ (⟨#[93, 58, 32]⟩ : ByteArray)), .string (((⟨#[91, 120]⟩ : ByteArray) ++ m) ++ (⟨#[93, 58, 32]⟩ : ByteArray)), .string (((⟨#[91, 120]⟩ : ByteArray) ++ m) ++ (⟨#[93, 58, 32, 47, 117, 32, 39, 116]⟩ : ByteArray)), .string (((⟨#[91, 120]⟩ : ByteArray) ++ m) ++ (⟨#[93, 58, 32, 47, 117, 32, 39, 116, 39, 32, 122]⟩ : ByteArray)), .string (⟨#[32, 91, 120, 93, 58, 32, 47, 117]⟩ : ByteArray), .string (((⟨#[91, 120]⟩ : ByteArray) ++ m) ++ (⟨#[93, 58, 32, 47, 117, 32, 122]⟩ : ByteArray))] 9)).cell? ⟨w.heap.size, j, none⟩ = some (.string (nonAt m j)) := by
  show (w.alloc (.cells ((nonB m).map Value.string).toArray 9)).cell? ⟨w.heap.size, j, none⟩ = _
  rw [cell_of_row _ _ j ((nonB m).map Value.string).toArray 9 (0, 0) (heap_alloc_new w _)]
  have hb : j < (nonB m).length := h
  rw [List.getElem?_toArray, List.getElem?_map, List.getElem?_eq_getElem hb]
  unfold nonAt
  rw [List.getD_eq_getElem?_getD, List.getElem?_eq_getElem hb]
  rfl
def DnonRel (s : ByteArray) (i : Value) : Prop := ∃ k : Nat, i = .int .i64 k ∧ k ≤ s.size ∧ Lowers (s.data.toList.take k)
theorem dlow_snoc {s : ByteArray} {k : Nat} (h : Lowers (s.data.toList.take k)) (hp : k < s.size) (h1 : 97 ≤ s[k].toNat) (h2 : s[k].toNat ≤ 122) : Lowers (s.data.toList.take (k + 1)) := by
  rw [take_snoc s k hp]
  intro b hb
  rw [List.mem_append, List.mem_singleton] at hb
  rcases hb with hb | rfl
  · exact h b hb
  · exact ⟨h1, h2⟩
set_option maxHeartbeats 8000000 in
theorem defineNone_in (w : World) (hv : Elv w) (a : Int) (w0 : (Lit.int .i64 a).wf = true) (m : ByteArray) (h2 : m.size ≤ 20) :
    Calls Tryd.prog 6 #[.int .i64 a, .string m] w fun e w' => e = .returned (.bool true) ∧ Below w.heap.size w w' := by
  have hw0 : -9223372036854775808 ≤ a ∧ a ≤ 9223372036854775807 := by simpa [Lit.wf, IntKind.min, IntKind.max, IntKind.signed, IntKind.bits] using w0
  obtain ⟨k0, k1⟩ := hw0
  have ca := alive11_any w hv
  have HV := Lib.hid hv
  clear hv w0
  go_enter Tryd.func6, Tryd.ntmps6
  go_wp2_with (go_at_call 7; refine ca.mono ?_; rintro e w1 ⟨rfl, b1⟩)
  go_loop [5] (fun i => DnonRel m i) (fun i => m.size - (intOf i).toNat)
  case atStart => exact ⟨0, rfl, Nat.zero_le _, by intro b hb; simp at hb⟩
  case round =>
    obtain ⟨k, rfl, hk, hL⟩ := hrel
    by_cases hp : k < m.size
    · have hix := index_str m k k rfl hp
      by_cases hb : 97 ≤ m[k].toNat ∧ m[k].toNat ≤ 122
      · have HL := Lib.hid (dlow_snoc hL hp hb.1 hb.2)
        obtain ⟨hb1, hb2⟩ := hb
        clear hL
        generalize m[k] = b at *
        go_wp2
        go_round
        case rel => exact ⟨k + 1, by go_num, by omega, HL.out⟩
        case measure => simp [intOf]; omega
      · have hcase : m[k].toNat < 97 ∨ 97 ≤ m[k].toNat ∧ 122 < m[k].toNat := by omega
        clear hL hb
        generalize m[k] = b at *
        rcases hcase with hb | ⟨hb, hb2⟩
        all_goals
          go_wp2
          go_ret
          exact ⟨rfl, b1⟩
    · obtain rfl : k = m.size := by omega
      rw [List.take_of_length_le (by simp)] at hL
      obtain ⟨j, hj, hx⟩ := none_index a
      obtain ⟨hn, hl⟩ := nonAt_none hL h2 j hj
      have cp := fun W h => dline_any (nonAt m j) W h (by omega)
      rw [hn] at cp
      unfold dfTib dfV noDfn at cp
      simp only at cp
      have hcell := none_cell w1 m j hj
      have hv1 := HV.out.below b1
      have bel2 := (Below.refl _ w1).alloc (Nat.le_refl _) (.cells #[.string ((⟨#[120]⟩ : ByteArray) ++ m), .string ((⟨#[91, 120]⟩ : ByteArray) ++ m), .string (((⟨#[91, 120]⟩ : ByteArray) ++ m) ++ (⟨#[93]⟩ : ByteArray)), .string (((⟨#[91, 120]⟩ : ByteArray) ++ m) ++ (⟨#[93, 32, 58, 32, 47, 117]⟩ : ByteArray)), .string (⟨#[91, 93, 58, 32, 47, 117]⟩ : ByteArray), .string (⟨#[91, 32, 93, 58, 32, 47, 117]⟩ : ByteArray), .string (⟨#[91, 94, 93, 58, 32, 116]⟩ : ByteArray), .string (((⟨#[91, 94, 120]⟩ : ByteArray) ++ m) ++ (⟨#[93, 58, 32]⟩ : ByteArray)), .string (((⟨#[91, 120]⟩ : ByteArray) ++ m) ++ (⟨#[93, 58, 32]⟩ : ByteArray)), .string (((⟨#[91, 120]⟩ : ByteArray) ++ m) ++ (⟨#[93, 58, 32, 47, 117, 32, 39, 116]⟩ : ByteArray)), .string (((⟨#[91, 120]⟩ : ByteArray) ++ m) ++ (⟨#[93, 58, 32, 47, 117, 32, 39, 116, 39, 32, 122]⟩ : ByteArray)), .string (⟨#[32, 91, 120, 93, 58, 32, 47, 117]⟩ : ByteArray), .string (((⟨#[91, 120]⟩ : ByteArray) ++ m) ++ (⟨#[93, 58, 32, 47, 117, 32, 122]⟩ : ByteArray))] 9)
      have HV2 := Lib.hid (hv1.below bel2)
      have BEL := Lib.hid bel2
      have s0 := fun W => run_string_add_sum (P := Tryd.prog) W (⟨#[120]⟩ : ByteArray) m (by show 1 + m.size ≤ _; omega)
      have s1 := fun W => run_string_add_sum (P := Tryd.prog) W (⟨#[91, 120]⟩ : ByteArray) m (by show 2 + m.size ≤ _; omega)
      have s2 := fun W => run_string_add_sum (P := Tryd.prog) W ((⟨#[91, 120]⟩ : ByteArray) ++ m) (⟨#[93]⟩ : ByteArray) (by rw [ByteArray.size_append]; show 2 + m.size + 1 ≤ _; omega)
      have s3 := fun W => run_string_add_sum (P := Tryd.prog) W ((⟨#[91, 120]⟩ : ByteArray) ++ m) (⟨#[93, 32, 58, 32, 47, 117]⟩ : ByteArray) (by rw [ByteArray.size_append]; show 2 + m.size + 6 ≤ _; omega)
      have s4 := fun W => run_string_add_sum (P := Tryd.prog) W (⟨#[91, 94, 120]⟩ : ByteArray) m (by show 3 + m.size ≤ _; omega)
      have s5 := fun W => run_string_add_sum (P := Tryd.prog) W ((⟨#[91, 94, 120]⟩ : ByteArray) ++ m) (⟨#[93, 58, 32]⟩ : ByteArray) (by rw [ByteArray.size_append]; show 3 + m.size + 3 ≤ _; omega)
      have s6 := fun W => run_string_add_sum (P := Tryd.prog) W ((⟨#[91, 120]⟩ : ByteArray) ++ m) (⟨#[93, 58, 32]⟩ : ByteArray) (by rw [ByteArray.size_append]; show 2 + m.size + 3 ≤ _; omega)
      have s7 := fun W => run_string_add_sum (P := Tryd.prog) W ((⟨#[91, 120]⟩ : ByteArray) ++ m) (⟨#[93, 58, 32, 47, 117, 32, 39, 116]⟩ : ByteArray) (by rw [ByteArray.size_append]; show 2 + m.size + 8 ≤ _; omega)
      have s8 := fun W => run_string_add_sum (P := Tryd.prog) W ((⟨#[91, 120]⟩ : ByteArray) ++ m) (⟨#[93, 58, 32, 47, 117, 32, 39, 116, 39, 32, 122]⟩ : ByteArray) (by rw [ByteArray.size_append]; show 2 + m.size + 11 ≤ _; omega)
      have s9 := fun W => run_string_add_sum (P := Tryd.prog) W ((⟨#[91, 120]⟩ : ByteArray) ++ m) (⟨#[93, 58, 32, 47, 117, 32, 122]⟩ : ByteArray) (by rw [ByteArray.size_append]; show 2 + m.size + 7 ≤ _; omega)
      have CP := Lib.hid cp
      clear hn hl hL cp hv1 bel2
      generalize nonAt m j = X at *
      go_wp2_with fail
      clear hx hcell
      refine (CP.out _ HV2.out).mono ?_
      rintro e w3 ⟨rfl, b3⟩
      go_wp2
      go_ret
      exact ⟨rfl, ((b1.then BEL.out).then b3).alloc (by have := ((b1.then BEL.out).then b3).size; exact this) _⟩
theorem defineNone_walk (w : World) (hv : Elv w) (a0 : Int) (w0 : (Lit.int .i64 a0).wf = true) (a1 : ByteArray) (w1 : a1.size ≤ maxLen) :
    Calls Tryd.prog 6 #[.int .i64 a0, .string a1] w fun e w' => e = .returned (.bool true) ∧ Below w.heap.size w w' := by
  unfold maxLen at w1
  by_cases h : a1.size ≤ 20
  · exact defineNone_in w hv a0 w0 a1 h
  · have ca := alive11_any w hv
    have hc : 20 < a1.size := by omega
    clear h hv
    go_enter Tryd.func6, Tryd.ntmps6
    go_wp2_with (go_at_call 7; refine ca.mono ?_; rintro e w1 ⟨rfl, b1⟩)
    go_ret
    exact ⟨rfl, b1⟩

end Go.Proofs.YtioolcnoiaoflaaDoor
