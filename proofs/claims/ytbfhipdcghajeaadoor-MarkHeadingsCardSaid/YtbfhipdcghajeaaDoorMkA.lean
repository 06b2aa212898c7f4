/-
  MarkFour: behind four blanks a line begins nothing; the law's walk.
-/
import Derived.Test.YtbfhipdcghajeaaDoorMrkE
namespace Go.Proofs.YtbfhipdcghajeaaDoor
open Go.RowKit
set_option linter.unusedSimpArgs false
set_option linter.unusedVariables false
set_option maxRecDepth 100000

/-- A text that is made of one sign, again and again, behind another one. -/
def RepRel (pre : List UInt8) (c : UInt8) (n : Nat) (w : World) (v i : Value) (wr : World) : Prop := ∃ (k : Nat) (U : ByteArray), i = .int .i64 k ∧ k ≤ n ∧ v = .string U ∧ U.data.toList = pre ++ List.replicate k c ∧ wr = w
theorem rep_step {U : ByteArray} {pre : List UInt8} {c : UInt8} {k : Nat} (h : U.data.toList = pre ++ List.replicate k c) : (U ++ (⟨#[c]⟩ : ByteArray)).data.toList = pre ++ List.replicate (k + 1) c := by
  rw [ByteArray.data_append, Array.toList_append, h, List.replicate_succ', List.append_assoc]
theorem text_size {U : ByteArray} {l : List UInt8} (h : U.data.toList = l) : U.size = l.length := by rw [← h]; simp
theorem text_is {U : ByteArray} {l : List UInt8} (h : U.data.toList = l) : (⟨l.toArray⟩ : ByteArray) = U := by rw [← h]

set_option maxHeartbeats 8000000 in
theorem markFour_short (w : World) (s : ByteArray) (n : Nat) (h4 : 4 ≤ n) (h20 : n ≤ 20) (h100 : s.size ≤ 100) :
    Calls Tryd.prog 3 #[.string s, .int .i64 n] w fun e w' => e = .returned (.bool true) ∧ Below w.heap.size w w' := by
  go_enter Tryd.func3, Tryd.ntmps3
  go_wp2_with fail
  refine (alive8_any _).mono ?_
  rintro e w1 ⟨rfl, b1⟩
  go_wp2_with fail
  go_loopw [5, 6] (fun v i wr => RepRel [] 32 n w1 v i wr) (fun _ i _ => n - (intOf i).toNat)
  case atStart => exact ⟨0, ⟨#[]⟩, rfl, Nat.zero_le _, rfl, rfl, rfl⟩
  case round =>
    obtain ⟨k, U, rfl, hk, rfl, hU, hwe⟩ := hrel
    have hwe := hwe.symm
    subst hwe
    have hsz := text_size hU
    simp only [List.nil_append, List.length_replicate] at hsz
    by_cases hp : k < n
    · have HST := Lib.hid (rep_step hU)
      clear hU
      go_wp2
      exact ⟨⟨k + 1, _, by go_num, by omega, rfl, HST.out, rfl⟩, by simp [intOf]; omega⟩
    · obtain rfl : k = n := by omega
      have hT : (U ++ s).data.toList = List.replicate k 32 ++ s.data.toList := by
        rw [ByteArray.data_append, Array.toList_append, hU]; rfl
      have hTz : (U ++ s).size ≤ 35184372088832 := by rw [ByteArray.size_append]; omega
      have hz1 : U.size + s.size ≤ 9223372036854775807 := by omega
      have hcat := fun W => run_string_add_sum (P := Tryd.prog) W U s hz1
      obtain ⟨q1, q2, q3, q4, q5, q6, q7, q8⟩ := mk_nothing (l := (U ++ s).data.toList) (by rw [hT]; exact mkBegin_four h4)
      generalize U ++ s = T at *
      have c1 := fun w1 => mkHeading_any T w1 hTz
      have c2 := fun w1 => mkFence_any T w1 hTz
      have c3 := fun w1 => mkQuote_any T w1 hTz
      have c4 := fun w1 => mkItem_any T w1 hTz
      have c5 := fun w1 => mkRule_any T w1 hTz
      have c6 := fun w1 => mkUnder_any T w1 hTz
      have c7 := fun w1 => mkHtml_any T w1 hTz
      have c8 := fun w1 => mkCloses_any T 126 (by decide) 1 w1 hTz
      rw [q1] at c1
      rw [q3] at c2
      rw [q5] at c3
      rw [q6] at c4
      rw [q2] at c5
      rw [q7] at c6
      rw [q8] at c7
      rw [q4] at c8
      unfold mkHeadV at c1
      unfold mkFenceV at c2
      unfold mkQuoteV at c3
      unfold mkItemV at c4
      dsimp only at c1 c2 c3 c4
      clear hU hT q1 q2 q3 q4 q5 q6 q7 q8 hsz hz1
      go_wp2_with fail
      refine (c1 _).mono ?_
      rintro e w2 ⟨rfl, b2⟩
      go_wp2_with fail
      refine (c2 _).mono ?_
      rintro e w3 ⟨rfl, b3⟩
      go_wp2_with fail
      refine (c3 _).mono ?_
      rintro e w4 ⟨rfl, b4⟩
      go_wp2_with fail
      refine (c4 _).mono ?_
      rintro e w5 ⟨rfl, b5⟩
      go_wp2_with fail
      refine (c5 _).mono ?_
      rintro e w6 ⟨rfl, b6⟩
      go_wp2_with fail
      refine (c6 _).mono ?_
      rintro e w7 ⟨rfl, b7⟩
      go_wp2_with fail
      refine (c7 _).mono ?_
      rintro e w8 ⟨rfl, b8⟩
      go_wp2_with fail
      refine (c8 _).mono ?_
      rintro e w9 ⟨rfl, b9⟩
      go_wp2
      go_ret
      exact ⟨rfl, (((((((b1.then b2).then b3).then b4).then b5).then b6).then b7).then b8).then b9⟩

theorem markFour_walk (w : World) (a0 : ByteArray) (w0 : a0.size ≤ maxLen) (a1 : Int) (w1 : (Lit.int .i64 a1).wf = true) :
    Calls Tryd.prog 3 #[.string a0, .int .i64 a1] w fun e w' => e = .returned (.bool true) ∧ Below w.heap.size w w' := by
  unfold maxLen at w0
  have hw1 : -9223372036854775808 ≤ a1 ∧ a1 ≤ 9223372036854775807 := by simpa [Lit.wf, IntKind.min, IntKind.max, IntKind.signed, IntKind.bits] using w1
  by_cases h : a0.size ≤ 100 ∧ 4 ≤ a1 ∧ a1 ≤ 20
  · have := markFour_short w a0 a1.toNat (by omega) (by omega) h.1
    rw [show ((a1.toNat : Nat) : Int) = a1 from by omega] at this
    exact this
  · have hor : 100 < a0.size ∨ (a0.size ≤ 100 ∧ a1 < 4) ∨ (a0.size ≤ 100 ∧ 4 ≤ a1 ∧ 20 < a1) := by omega
    clear h w1 hw1
    rcases hor with h | ⟨h, h2⟩ | ⟨h, h2, h3⟩
    all_goals
      go_enter Tryd.func3, Tryd.ntmps3
      go_wp2_with (go_at_call 10; refine (alive8_any _).mono ?_; rintro e w3 ⟨rfl, b2⟩)
      go_ret
      exact ⟨rfl, b2⟩

end Go.Proofs.YtbfhipdcghajeaaDoor
