/-
  Fold over chunks: what was folded stays so; blanks around, and between, do not matter.
-/
import Derived.Test.YtioolcnoiaoflaaDoorRepairC
import Derived.Test.YtioolcnoiaoflaaDoorRepairE
namespace Go.Proofs.YtioolcnoiaoflaaDoor
open Go.RowKit
set_option linter.unusedSimpArgs false
set_option linter.unusedVariables false

def stray (c : Nat × List UInt8) : Bool := c.1 == 65533 && c.2.length == 1
def chunkOut (c : Nat × List UInt8) : List UInt8 := if stray c then c.2 else Lib.encodeRune (smallI c.1)
def foldS : List (Nat × List UInt8) → Bool → Bool → List UInt8
  | [], _, _ => []
  | c :: cs, gap, any => if spaceB c.1 then foldS cs true any else ((if gap && any then [32] else []) ++ chunkOut c) ++ foldS cs false true

theorem dec_goesOn (b : UInt8) (l : List UInt8) (h : goesOn b = true) : dec (b :: l) = (65533, 1) := by
  have h' : b.toNat / 64 = 2 := by simpa [goesOn] using h
  unfold dec
  simp only [List.getD_cons_zero]
  rw [if_neg (by omega), if_neg (by simp; omega), if_neg (by simp; omega), if_neg (by simp; omega)]
theorem enc_fffd : Lib.encodeRune 65533 = [239, 191, 189] := by decide +kernel
theorem dec_fffd (m : List UInt8) : dec (239 :: 191 :: 189 :: m) = (65533, 3) := by
  have := dec_enc 65533 (by decide) m
  rw [show ((65533 : Nat) : Int) = 65533 from rfl, enc_fffd] at this
  exact this
theorem u8_eq (b : UInt8) (n : Nat) (h : b.toNat = n) : b = n.toUInt8 := by
  subst h; simp
theorem dec_stray (b : UInt8) (l : List UInt8) (hr : (dec (b :: l)).1 = 65533) : (!Lib.hasPrefix (b :: l) [239, 191, 189]) = ((dec (b :: l)).2 == 1) := by
  by_cases hp : Lib.hasPrefix (b :: l) [239, 191, 189] = true
  · rw [hp]
    have hp' : [239, 191, 189] <+: b :: l := by simpa [Lib.hasPrefix] using hp
    obtain ⟨m, hm⟩ := hp'
    rw [← hm]
    show _ = ((dec (239 :: 191 :: 189 :: m)).2 == 1)
    rw [dec_fffd]
    rfl
  · have hp2 : Lib.hasPrefix (b :: l) [239, 191, 189] = false := by simpa using hp
    rw [hp2]
    simp only [Bool.not_false]
    symm
    rw [beq_iff_eq]
    unfold dec at hr ⊢
    dsimp only at hr ⊢
    split at hr
    · dsimp only at hr; omega
    · rename_i h1
      rw [if_neg h1]
      split at hr
      · rename_i h2
        rw [if_pos h2]
        split at hr
        · dsimp only at hr; simp at h2; omega
        · rename_i h3; rw [if_neg h3]
      · rename_i h2
        rw [if_neg h2]
        split at hr
        · rename_i h3
          rw [if_pos h3]
          split at hr
          · exfalso
            apply hp
            dsimp only at hr
            rcases l with _ | ⟨x, _ | ⟨y, m⟩⟩
            · simp at h3
            · simp at h3
            · simp only [List.getD_cons_zero, List.getD_cons_succ] at h3 hr
              simp at h3
              have a1 := u8_eq b 239 (by omega)
              have a2 := u8_eq x 191 (by omega)
              have a3 := u8_eq y 189 (by omega)
              rw [a1, a2, a3]
              simp [Lib.hasPrefix]
          · rename_i h4; rw [if_neg h4]
        · rename_i h3
          rw [if_neg h3]
          split at hr
          · rename_i h4
            rw [if_pos h4]
            split at hr
            · rename_i h5; dsimp only at hr; simp only [Bool.and_eq_true, decide_eq_true_eq] at h5; omega
            · rename_i h5; rw [if_neg h5]
          · rename_i h4; rw [if_neg h4]

theorem foldFrom_segs (s : ByteArray) : ∀ (fuel pos : Nat) (g a : Bool), s.size ≤ pos + fuel → foldFrom s fuel pos g a = foldS (segs (s.data.toList.drop pos)) g a
  | 0, pos, g, a, h => by
    rw [List.drop_eq_nil_of_le (by simpa using h)]; rfl
  | f + 1, pos, g, a, h => by
    by_cases hp : pos < s.size
    · have hw := width_pos s pos hp
      have ih := fun g a => foldFrom_segs s f (pos + (Utf8.decode s pos).2) g a (by omega)
      obtain ⟨b, l, e⟩ := drop_cons s pos hp
      have ho : foldOne s pos = chunkOut ((Utf8.decode s pos).1, (b :: l).take (Utf8.decode s pos).2) := by
        have hw2 := dec_width b l
        have hd := decode_dec s pos
        rw [e] at hd
        have hlen : ((b :: l).take (Utf8.decode s pos).2).length = (Utf8.decode s pos).2 := by rw [List.length_take, List.length_cons, hd]; omega
        have hst : strayB s pos = stray ((Utf8.decode s pos).1, (b :: l).take (Utf8.decode s pos).2) := by
          unfold strayB stray
          rw [e, hlen]
          by_cases h1 : (Utf8.decode s pos).1 = 65533
          · have := dec_stray b l (by rw [← hd]; exact h1)
            rw [this, h1, hd]; rfl
          · have h2 : (((Utf8.decode s pos).1 : Int) == 65533) = false := by simp; omega
            have h3 : ((Utf8.decode s pos).1 == 65533) = false := by simpa using h1
            rw [h2, h3]; rfl
        unfold foldOne chunkOut
        rw [← hst]
        by_cases h1 : strayB s pos = true
        · rw [if_pos h1, if_pos h1]
          rw [hst] at h1
          simp only [stray, hlen] at h1
          simp at h1
          rw [h1.2, getD_byte s pos hp]
          have : pos < s.data.toList.length := by simpa using hp
          have e2 := List.drop_eq_getElem_cons this
          rw [e] at e2
          injection e2 with e3 _
          simp only [List.take_succ_cons, List.take_zero]
          rw [e3]; rfl
        · rw [if_neg h1, if_neg h1]
      have hsg : segs (s.data.toList.drop pos) = ((Utf8.decode s pos).1, (b :: l).take (Utf8.decode s pos).2) :: segs (s.data.toList.drop (pos + (Utf8.decode s pos).2)) := by
        rw [e, segs_cons, ← e, ← decode_dec, List.drop_drop]
      rw [hsg]
      simp only [foldFrom, if_pos hp, foldS, ho, ih]
    · rw [foldFrom_end s _ _ _ _ hp, List.drop_eq_nil_of_le (by simpa using hp)]; rfl
def foldL (l : List UInt8) : List UInt8 := foldS (segs l) false false
theorem foldB_segs (s : ByteArray) : foldB s = foldL s.data.toList := by
  unfold foldB foldL
  rw [foldFrom_segs s _ _ _ _ (by omega)]
  rfl

end Go.Proofs.YtioolcnoiaoflaaDoor
