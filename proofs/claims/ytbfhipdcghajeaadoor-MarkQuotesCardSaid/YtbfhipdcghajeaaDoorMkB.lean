/-
  MarkQuotes: a quote's sign, and one blank behind it, go; all else of the line stays; the law's walk.
-/
import Derived.Test.YtbfhipdcghajeaaDoorMkP
namespace Go.Proofs.YtbfhipdcghajeaaDoor
open Go.RowKit
set_option linter.unusedSimpArgs false
set_option linter.unusedVariables false
set_option maxRecDepth 100000

theorem cat_two (U s : ByteArray) (x : List UInt8) : ((U ++ (⟨x.toArray⟩ : ByteArray)) ++ s).data.toList = U.data.toList ++ x ++ s.data.toList := by simp

set_option maxHeartbeats 8000000 in
theorem markQuotes_short (w : World) (n : Nat) (s : ByteArray) (h3 : n ≤ 3) (h60 : s.size ≤ 60) :
    Calls Tryd.prog 8 #[.int .i64 n, .string s] w fun e w' => e = .returned (.bool true) ∧ Below w.heap.size w w' := by
  go_enter Tryd.func8, Tryd.ntmps8
  go_wp2_with fail
  refine (alive8_any _).mono ?_
  rintro e w1 ⟨rfl, b1⟩
  go_wp2_with fail
  go_loopw [5, 6] (fun v i wr => RepRel [] 32 n w1 v i wr) (fun _ i _ => n - (intOf i).toNat)
  case atStart => exact ⟨0, ⟨#[]⟩, rfl, Nat.zero_le _, rfl, rfl, rfl⟩
  case round =>
    obtain ⟨k, U, rfl, hk, rfl, hU, hwe⟩ := hrel
    have hwe := hwe.symm
    subst hwe
    have hsz := text_size hU
    simp only [List.nil_append, List.length_replicate] at hsz
    by_cases hp : k < n
    · have HST := Lib.hid (rep_step hU)
      clear hU
      go_wp2
      exact ⟨⟨k + 1, _, by go_num, by omega, rfl, HST.out, rfl⟩, by simp [intOf]; omega⟩
    · obtain rfl : k = n := by omega
      have hz1 : (U ++ (⟨#[62]⟩ : ByteArray)).size ≤ 4 := by rw [ByteArray.size_append]; show _ + 1 ≤ _; omega
      have hz2 : (U ++ (⟨#[62, 32]⟩ : ByteArray)).size ≤ 5 := by rw [ByteArray.size_append]; show _ + 2 ≤ _; omega
      have c1 := fun w1 => mkQuote_any ((U ++ (⟨#[62]⟩ : ByteArray)) ++ s) w1 (by rw [ByteArray.size_append]; omega)
      have c2 := fun w1 => mkQuote_any ((U ++ (⟨#[62, 32]⟩ : ByteArray)) ++ s) w1 (by rw [ByteArray.size_append]; omega)
      rw [cat_two U s [62], hU, List.nil_append, List.append_assoc, List.singleton_append, mkQuote_made h3] at c1
      rw [cat_two U s [62, 32], hU, List.nil_append, List.append_assoc, show [62, 32] ++ s.data.toList = 62 :: (32 :: s.data.toList) from rfl, mkQuote_made h3, trimBlank_yes] at c2
      have k1 := fun W => run_string_add_sum (P := Tryd.prog) W U (⟨#[62]⟩ : ByteArray) (by show _ + 1 ≤ _; omega)
      have k2 := fun W => run_string_add_sum (P := Tryd.prog) W (U ++ (⟨#[62]⟩ : ByteArray)) s (by omega)
      have k3 := fun W => run_string_add_sum (P := Tryd.prog) W U (⟨#[62, 32]⟩ : ByteArray) (by show _ + 2 ≤ _; omega)
      have k4 := fun W => run_string_add_sum (P := Tryd.prog) W (U ++ (⟨#[62, 32]⟩ : ByteArray)) s (by omega)
      unfold mkQuoteV at c1 c2
      dsimp only at c1 c2
      rw [Lib.mk_data] at c2
      clear hU hsz
      have hsl : s.data.toList.length = s.size := by simp
      by_cases h0 : s.size = 0
      · have hnil : s.data.toList = [] := List.eq_nil_of_length_eq_zero (by omega)
        have hse : (⟨([] : List UInt8).toArray⟩ : ByteArray) = s := by rw [← Lib.mk_data s, hnil]
        have hne : s.toList.isEmpty = true := by rw [ByteArray.toList_eq, hnil]; rfl
        rw [hnil, trimBlank_nil, hse] at c1
        clear hnil hsl h0 hse
        go_wp2_with fail
        refine (c1 _).mono ?_
        rintro e w2 ⟨rfl, b2⟩
        go_wp2_with fail
        refine (c2 _).mono ?_
        rintro e w3 ⟨rfl, b3⟩
        go_wp2
        go_ret
        exact ⟨rfl, (b1.then b2).then b3⟩
      · have h1 : 0 < s.size := by omega
        have hl := get_list s 0 h1
        rw [List.drop_zero] at hl
        have hne := toList_empty h1
        have hex := Lib.extract_from s 1
        by_cases hb : s[0] = 32
        · have f1 : ((s[0].toNat : Int) == 32) = true := by simp [hb]
          rw [hl, hb, trimBlank_yes, ← hex] at c1
          clear hl hb hsl h0 hex
          go_wp2_with fail
          refine (c1 _).mono ?_
          rintro e w2 ⟨rfl, b2⟩
          go_wp2_with fail
          refine (c2 _).mono ?_
          rintro e w3 ⟨rfl, b3⟩
          go_wp2
          go_ret
          exact ⟨rfl, (b1.then b2).then b3⟩
        · have f1 : ((s[0].toNat : Int) == 32) = false := by
            simp only [beq_eq_false_iff_ne, ne_eq]
            intro e
            exact hb (UInt8.toNat_inj.1 (by show s[0].toNat = 32; omega))
          have hc := trimBlank_no (l := s.data.toList.drop 1) hb
          rw [show s[0] :: s.data.toList.drop 1 = s.data.toList from hl.symm] at hc
          rw [hc, Lib.mk_data] at c1
          clear hl hb hsl h0 hex hc
          go_wp2_with fail
          refine (c1 _).mono ?_
          rintro e w2 ⟨rfl, b2⟩
          go_wp2_with fail
          refine (c2 _).mono ?_
          rintro e w3 ⟨rfl, b3⟩
          go_wp2
          go_ret
          exact ⟨rfl, (b1.then b2).then b3⟩

theorem markQuotes_walk (w : World) (a0 : Int) (w0 : (Lit.int .i64 a0).wf = true) (a1 : ByteArray) (w1 : a1.size ≤ maxLen) :
    Calls Tryd.prog 8 #[.int .i64 a0, .string a1] w fun e w' => e = .returned (.bool true) ∧ Below w.heap.size w w' := by
  unfold maxLen at w1
  have hw0 : -9223372036854775808 ≤ a0 ∧ a0 ≤ 9223372036854775807 := by simpa [Lit.wf, IntKind.min, IntKind.max, IntKind.signed, IntKind.bits] using w0
  by_cases h : 0 ≤ a0 ∧ a0 ≤ 3 ∧ a1.size ≤ 60
  · have := markQuotes_short w a0.toNat a1 (by omega) h.2.2
    rw [show ((a0.toNat : Nat) : Int) = a0 from by omega] at this
    exact this
  · have hor : a0 < 0 ∨ (0 ≤ a0 ∧ 3 < a0) ∨ (0 ≤ a0 ∧ a0 ≤ 3 ∧ 60 < a1.size) := by omega
    clear h w0 hw0
    rcases hor with h | ⟨h, h2⟩ | ⟨h, h2, h3⟩
    all_goals
      go_enter Tryd.func8, Tryd.ntmps8
      go_wp2_with (go_at_call 10; refine (alive8_any _).mono ?_; rintro e w3 ⟨rfl, b2⟩)
      go_ret
      exact ⟨rfl, b2⟩

end Go.Proofs.YtbfhipdcghajeaaDoor
