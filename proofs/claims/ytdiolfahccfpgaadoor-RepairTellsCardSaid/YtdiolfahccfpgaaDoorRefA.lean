/-
  The document's own answers for chapter 1: Space, Ascii, Punct; and plain facts for Text and Fold.
-/
import Derived.Test.YtdiolfahccfpgaaDoorRepairH
namespace Go.Proofs.YtdiolfahccfpgaaDoor
open Go.RowKit
set_option linter.unusedSimpArgs false
set_option linter.unusedVariables false

theorem u8_of (b : UInt8) (n : Nat) (h : n = b.toNat) : n.toUInt8 = b := (u8_eq b n h.symm).symm
theorem dec_take (b : UInt8) (l : List UInt8) (h : ¬ ((dec (b :: l)).1 = 65533 ∧ (dec (b :: l)).2 = 1)) : (b :: l).take (dec (b :: l)).2 = Lib.encodeRune (dec (b :: l)).1 := by
  unfold dec at h ⊢
  dsimp only at h ⊢
  simp only [List.getD_cons_zero] at h ⊢
  by_cases h1 : b.toNat < 128
  · simp only [h1, if_true]
    rw [enc1 _ h1, u8_of b _ rfl]; rfl
  · simp only [h1, if_false] at h ⊢
    split
    · rename_i h2
      rw [if_pos h2] at h
      rcases l with _ | ⟨x, m⟩
      · simp at h2
      · simp only [List.getD_cons_succ, List.getD_cons_zero] at h h2 ⊢
        simp at h2
        split
        · rw [enc2 _ (by omega) (by omega), u8_of b _ (by omega), u8_of x _ (by omega)]; rfl
        · rename_i h3; rw [if_neg h3] at h; simp at h
    · rename_i h2
      rw [if_neg h2] at h
      split
      · rename_i h3
        rw [if_pos h3] at h
        rcases l with _ | ⟨x, _ | ⟨y, m⟩⟩
        · simp at h3
        · simp at h3
        · simp only [List.getD_cons_succ, List.getD_cons_zero] at h h3 ⊢
          simp at h3
          split
          · rename_i h4
            simp only [Bool.and_eq_true, decide_eq_true_eq] at h4
            have hv := of_valid _ h4.2
            rw [enc3 _ (by omega), u8_of b _ (by omega), u8_of x _ (by omega), u8_of y _ (by omega)]; rfl
          · rename_i h4; rw [if_neg h4] at h; simp at h
      · rename_i h3
        rw [if_neg h3] at h
        split
        · rename_i h4
          rw [if_pos h4] at h
          rcases l with _ | ⟨x, _ | ⟨y, _ | ⟨z, m⟩⟩⟩
          · simp at h4
          · simp at h4
          · simp at h4
          · simp only [List.getD_cons_succ, List.getD_cons_zero] at h h4 ⊢
            simp at h4
            split
            · rename_i h5
              simp only [Bool.and_eq_true, decide_eq_true_eq] at h5
              have hv := of_valid _ h5.2
              rw [enc4 _ (by omega) (by omega), u8_of b _ (by omega), u8_of x _ (by omega), u8_of y _ (by omega), u8_of z _ (by omega)]; rfl
            · rename_i h5; rw [if_neg h5] at h; simp at h
        · rename_i h4; rw [if_neg h4] at h; simp at h

theorem refSpace_any (r : Int) (w : World) :
    Calls Tryd.prog 8 #[.int .i32 r] w fun e w' => e = .returned (.bool (spaceB r)) ∧ w = w' := by
  go_enter Tryd.func8, Tryd.ntmps8
  go_wp2
  all_goals (go_ret; exact ⟨ret_bool (by apply Bool.eq_iff_iff.2; first | (simp [spaceB, inB]; done) | (simp [spaceB, inB]; omega)), rfl⟩)
theorem refAscii_any (c : Int) (w : World) :
    Calls Tryd.prog 12 #[.int .u8 c] w fun e w' => e = .returned (.bool (asciiB c)) ∧ w = w' := by
  go_enter Tryd.func12, Tryd.ntmps12
  go_wp2
  all_goals (go_ret; exact ⟨ret_bool (by apply Bool.eq_iff_iff.2; first | (simp [asciiB, inB]; done) | (simp [asciiB, inB]; omega)), rfl⟩)
theorem punctB_lo (r : Int) (h0 : 0 ≤ r) (h1 : r < 128) : punctB r = asciiB r := by
  unfold punctB
  rw [inB_t h0 (by omega)]; rfl
theorem punctB_hi (r : Int) (h : ¬ (0 ≤ r ∧ r < 128)) : punctB r = (r == 161 || r == 167 || r == 171 || r == 182 || r == 183 || r == 187 || r == 191 || r == 8364 || (inB r 8208 8231 || inB r 8240 8259 || inB r 12289 12305)) := by
  unfold punctB
  rw [inB_f (by omega)]; rfl
set_option maxHeartbeats 4000000 in
theorem refPunct_any (r : Int) (w : World) :
    Calls Tryd.prog 10 #[.int .i32 r] w fun e w' => e = .returned (.bool (punctB r)) ∧ w = w' := by
  by_cases h : 0 ≤ r ∧ r < 128
  · obtain ⟨h0, h1⟩ := h
    rw [punctB_lo r h0 h1]
    go_enter Tryd.func10, Tryd.ntmps10
    go_wp2_with (go_at_call 12; refine (refAscii_any _ _).mono ?_; rintro e w' ⟨rfl, rfl⟩)
    go_ret
    exact ⟨rfl, rfl⟩
  · rw [punctB_hi r h]
    by_cases h0 : 0 ≤ r
    · have h1 : ¬ r < 128 := by omega
      clear h
      go_enter Tryd.func10, Tryd.ntmps10
      go_wp2
      all_goals (go_ret; exact ⟨ret_bool (by apply Bool.eq_iff_iff.2; first | (simp [inB]; done) | (simp [inB]; omega)), rfl⟩)
    · clear h
      go_enter Tryd.func10, Tryd.ntmps10
      go_wp2
      all_goals (go_ret; exact ⟨ret_bool (by apply Bool.eq_iff_iff.2; first | (simp [inB]; done) | (simp [inB]; omega)), rfl⟩)

end Go.Proofs.YtdiolfahccfpgaaDoor
