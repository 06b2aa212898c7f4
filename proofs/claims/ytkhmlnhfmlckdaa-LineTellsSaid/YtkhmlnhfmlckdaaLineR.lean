/-
  LineStrips: what is stripped twice is stripped once; the law's walk.
-/
import Derived.Test.YtkhmlnhfmlckdaaLineAl
namespace Go.Proofs.Ytkhmlnhfmlckdaa
open Go.RowKit
set_option linter.unusedSimpArgs false
set_option linter.unusedVariables false

theorem mCols_spaces (r : List UInt8) (h : mSize r = 0) : ∀ (j c : Nat), mCols (spaces j ++ r) c = c + j
  | 0, c => by
    have := mCols_le r c
    have := mCols_ge r c
    simp [spaces]; omega
  | j + 1, c => by
    have ih := mCols_spaces r h j (c + 1)
    simp only [spaces, List.replicate_succ, List.cons_append] at ih ⊢
    rw [mCols_sp rfl, ih]; omega
theorem mSize_spaces (r : List UInt8) (h : mSize r = 0) : ∀ j : Nat, mSize (spaces j ++ r) = j
  | 0 => by simp [spaces, h]
  | j + 1 => by
    have ih := mSize_spaces r h j
    simp only [spaces, List.replicate_succ, List.cons_append] at ih ⊢
    rw [mSize_gap rfl, ih]
theorem mSize_rest : ∀ l : List UInt8, mSize (l.drop (mSize l)) = 0
  | [] => rfl
  | b :: l => by
    cases h : isGap b with
    | true => rw [mSize_gap h, List.drop_succ_cons]; exact mSize_rest l
    | false => rw [mSize_other h, List.drop_zero, mSize_other h]
theorem mCols_strip (l : List UInt8) (a : Nat) : mCols (stripL l a) 0 = mCols l 0 - a := by
  unfold stripL
  rw [mCols_spaces _ (mSize_rest l)]; omega
theorem mSize_strip (l : List UInt8) (a : Nat) : mSize (stripL l a) = mCols l 0 - a := by
  unfold stripL
  rw [mSize_spaces _ (mSize_rest l)]
theorem strip_strip (l : List UInt8) (a b : Nat) : stripL (stripL l a) b = stripL l (a + b) := by
  rw [stripL, mCols_strip, mSize_strip]
  unfold stripL
  rw [List.drop_append_of_le_length (by simp [spaces]), List.drop_of_length_le (by simp [spaces]), List.nil_append, Nat.sub_sub]
theorem stripL_length (l : List UInt8) (a : Nat) : (stripL l a).length ≤ 5 * l.length := by
  have h1 := mSize_le l
  have h2 := mCols_le l 0
  simp only [stripL, List.length_append, spaces_length, List.length_drop]
  omega

def stripB (s : ByteArray) (n : Nat) : ByteArray := ⟨(stripL s.data.toList n).toArray⟩
theorem stripB_list (s : ByteArray) (n : Nat) : (stripB s n).data.toList = stripL s.data.toList n := rfl
theorem stripB_size (s : ByteArray) (n : Nat) : (stripB s n).size ≤ 5 * s.size := by
  have := stripL_length s.data.toList n
  have e : s.data.toList.length = s.size := by simp
  rw [e] at this
  show (stripL s.data.toList n).toArray.size ≤ _
  simpa using this
theorem stripB_twice (s : ByteArray) (a b : Nat) : stripB (stripB s a) b = stripB s (a + b) := by
  unfold stripB
  rw [show (⟨(stripL s.data.toList a).toArray⟩ : ByteArray).data.toList = stripL s.data.toList a from rfl, strip_strip]

theorem stripIs (s : ByteArray) (n : Int) (k : Nat) (hk : n.toNat = k) (hs : s.size ≤ 35184372088832) (hn : n ≤ 9223372036854775807) (w : World) :
    Calls Try.prog 24 #[.string s, .int .i64 n] w fun e w' => e = .returned (.string (stripB s k)) ∧ Below w.heap.size w w' := by
  subst hk; exact strip_any s n w hs hn
theorem expandIs (s : ByteArray) (hs : s.size ≤ 35184372088832) (w : World) :
    Calls Try.prog 20 #[.string s] w fun e w' => e = .returned (.string (stripB s 0)) ∧ Below w.heap.size w w' := expand_any s w hs

theorem lineStrips_long (w : World) (l : ByteArray) (a b : Int) (h : 100 < l.size ∨ (l.size ≤ 100 ∧ (a < 0 ∨ (0 ≤ a ∧ (b < 0 ∨ (0 ≤ b ∧ (200 < a ∨ (a ≤ 200 ∧ 200 < b)))))))) (hl : l.size ≤ 9223372036854775807) :
    Calls Try.prog 5 #[.string l, .int .i64 a, .int .i64 b] w fun e w' => e = .returned (.bool true) ∧ Below w.heap.size w w' := by
  rcases h with h | ⟨h1, h | ⟨h2, h | ⟨h3, h | ⟨h4, h⟩⟩⟩⟩
  all_goals
    go_enter Try.func5, Try.ntmps5
    go_wp2_with (go_at_call 9; refine (alive_any _).mono ?_; rintro e w' ⟨rfl, b1⟩)
    go_ret
    exact ⟨rfl, b1⟩

set_option maxHeartbeats 1000000 in
theorem lineStrips_short (w : World) (l : ByteArray) (a b : Int) (h1 : l.size ≤ 100) (h2 : 0 ≤ a) (h3 : 0 ≤ b) (h4 : a ≤ 200) (h5 : b ≤ 200) (X Y E : ByteArray) (i j : Nat)
    (c1 : ∀ w1, Calls Try.prog 24 #[.string l, .int .i64 a] w1 fun e w' => e = .returned (.string X) ∧ Below w1.heap.size w1 w')
    (c2 : ∀ w1, Calls Try.prog 24 #[.string X, .int .i64 b] w1 fun e w' => e = .returned (.string Y) ∧ Below w1.heap.size w1 w')
    (c3 : ∀ w1, Calls Try.prog 24 #[.string l, .int .i64 (a + b)] w1 fun e w' => e = .returned (.string Y) ∧ Below w1.heap.size w1 w')
    (c4 : ∀ w1, Calls Try.prog 20 #[.string l] w1 fun e w' => e = .returned (.string E) ∧ Below w1.heap.size w1 w')
    (c5 : ∀ w1, Calls Try.prog 20 #[.string E] w1 fun e w' => e = .returned (.string E) ∧ Below w1.heap.size w1 w')
    (c6 : ∀ w1, Calls Try.prog 22 #[.string X] w1 fun e w' => e = .returned (.int .i64 i) ∧ Below w1.heap.size w1 w')
    (c7 : ∀ w1, Calls Try.prog 22 #[.string l] w1 fun e w' => e = .returned (.int .i64 j) ∧ Below w1.heap.size w1 w')
    (c8 : ∀ w1, Calls Try.prog 24 #[.string l, .int .i64 0] w1 fun e w' => e = .returned (.string E) ∧ Below w1.heap.size w1 w')
    (hj : j ≤ 1000) (hij : ((i : Int) == max (j - a) 0) = true) :
    Calls Try.prog 5 #[.string l, .int .i64 a, .int .i64 b] w fun e w' => e = .returned (.bool true) ∧ Below w.heap.size w w' := by
  go_enter Try.func5, Try.ntmps5
  go_wp2_with fail
  refine (alive_any _).mono ?_
  rintro e w1 ⟨rfl, b1⟩
  go_wp2_with fail
  refine (c1 _).mono ?_
  rintro e w2 ⟨rfl, b2⟩
  go_wp2_with fail
  refine (c2 _).mono ?_
  rintro e w3 ⟨rfl, b3⟩
  go_wp2_with fail
  refine (c3 _).mono ?_
  rintro e w4 ⟨rfl, b4⟩
  go_wp2_with fail
  refine (c4 _).mono ?_
  rintro e w5 ⟨rfl, b5⟩
  go_wp2_with fail
  refine (c5 _).mono ?_
  rintro e w6 ⟨rfl, b6⟩
  go_wp2_with fail
  refine (c4 _).mono ?_
  rintro e w7 ⟨rfl, b7⟩
  go_wp2_with fail
  refine (c1 _).mono ?_
  rintro e w8 ⟨rfl, b8⟩
  go_wp2_with fail
  refine (c6 _).mono ?_
  rintro e w9 ⟨rfl, b9⟩
  go_wp2_with fail
  refine (c7 _).mono ?_
  rintro e w10 ⟨rfl, b10⟩
  go_wp2_with fail
  refine (c8 _).mono ?_
  rintro e w11 ⟨rfl, b11⟩
  go_wp2_with fail
  refine (c4 _).mono ?_
  rintro e w12 ⟨rfl, b12⟩
  go_wp2
  go_ret
  have q2 := b1.then b2
  have q3 := q2.then b3
  have q4 := q3.then b4
  have q5 := q4.then b5
  have q6 := q5.then b6
  have q7 := q6.then b7
  have q8 := q7.then b8
  have q9 := q8.then b9
  have q10 := q9.then b10
  have q11 := q10.then b11
  exact ⟨rfl, q11.then b12⟩

theorem lineStrips_walk (w : World) (a0 : ByteArray) (w0 : a0.size ≤ maxLen) (a1 : Int) (w1 : (Lit.int .i64 a1).wf = true) (a2 : Int) (w2 : (Lit.int .i64 a2).wf = true) :
    Calls Try.prog 5 #[.string a0, .int .i64 a1, .int .i64 a2] w fun e w' => e = .returned (.bool true) ∧ Below w.heap.size w w' := by
  unfold maxLen at w0
  by_cases h : a0.size ≤ 100 ∧ 0 ≤ a1 ∧ 0 ≤ a2 ∧ a1 ≤ 200 ∧ a2 ≤ 200
  · obtain ⟨h1, h2, h3, h4, h5⟩ := h
    have hz := stripB_size a0 a1.toNat
    have hz0 := stripB_size a0 0
    have hm := mCols_le a0.data.toList 0
    have hm2 := mSize_le a0.data.toList
    have e : a0.data.toList.length = a0.size := by simp
    have c2 := stripIs (stripB a0 a1.toNat) a2 a2.toNat rfl (by omega) (by omega)
    rw [stripB_twice] at c2
    have c5 := expandIs (stripB a0 0) (by omega)
    rw [stripB_twice, Nat.add_zero] at c5
    have c6 := fun w1 => indent_any (stripB a0 a1.toNat) w1 (by omega)
    rw [stripB_list, mCols_strip] at c6
    refine lineStrips_short w a0 a1 a2 h1 h2 h3 h4 h5 _ _ _ _ _ (stripIs a0 a1 a1.toNat rfl (by omega) (by omega)) c2 (stripIs a0 (a1 + a2) _ (by omega) (by omega) (by omega)) (expandIs a0 (by omega)) c5 c6 (fun w1 => indent_any a0 w1 (by omega))
      (stripIs a0 0 0 rfl (by omega) (by omega)) (by omega) ?_
    simp; omega
  · exact lineStrips_long w a0 a1 a2 (by omega) w0

end Go.Proofs.Ytkhmlnhfmlckdaa
