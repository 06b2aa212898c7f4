/-
  RepairFolds' walk.
-/
import Derived.Test.YtdiolfahccfpgaaRepairI
namespace Go.Proofs.Ytdiolfahccfpgaa
open Go.RowKit
set_option linter.unusedSimpArgs false
set_option linter.unusedVariables false

def Inv (a want : List UInt8) (p : Bool) : Prop := ∀ cs, foldS (segs a ++ cs) false false = want ++ foldS cs p p
def InvIn (a want : List UInt8) (p : Bool) (x : List UInt8) (k : Nat) : Prop :=
  ∀ cs, foldS (segs a ++ cs) false false = (want ++ (if k = 0 then [] else if p then [32] else []) ++ x.take k) ++ foldS cs (p && k == 0) (p || k != 0)

theorem inv_start : Inv [] [] false := fun cs => by rw [segs_nil]; rfl
theorem inv_in {a want : List UInt8} {p : Bool} (x : List UInt8) (h : Inv a want p) : InvIn a want p x 0 := fun cs => by
  rw [h cs]; simp
theorem foldS_letter (c : UInt8) (y : UInt8) (cs : List (Nat × List UInt8)) (g a : Bool) (hc : (c = y ∨ (c.toNat + 32 = y.toNat))) (h1 : 97 ≤ y.toNat) (h2 : y.toNat ≤ 122) :
    foldS ((c.toNat, [c]) :: cs) g a = (if g && a then [32] else []) ++ [y] ++ foldS cs false true := by
  have hs : spaceB (c.toNat : Int) = false := by
    apply spaceB_f
    rcases hc with rfl | hc <;> omega
  have hst : stray (c.toNat, [c]) = false := by
    have : c.toNat ≠ 65533 := by rcases hc with rfl | hc <;> omega
    simp [stray, this]
  have hy := u8_eq y y.toNat rfl
  have ho : chunkOut (c.toNat, [c]) = [y] := by
    unfold chunkOut
    rw [hst, if_neg (by simp)]
    have : smallI (c.toNat : Int) = ((y.toNat : Nat) : Int) := by
      rcases smallI_eq (c.toNat : Int) with ⟨a, b, e⟩ | ⟨a, b, d, e⟩ | ⟨a, b, e⟩
      · rw [e]; rcases hc with rfl | hc <;> omega
      · rcases hc with rfl | hc <;> omega
      · rw [e]; rcases hc with rfl | hc <;> omega
    simp only [this]
    rw [enc1 _ (by omega), ← hy]
  simp only [foldS, hs, ho, Bool.false_eq_true, if_false]
theorem inv_step {a want : List UInt8} {p : Bool} {x : List UInt8} {k : Nat} (h : InvIn a want p x k) (hk : k < x.length) (c : UInt8) (hc : (c = x[k] ∨ (c.toNat + 32 = x[k].toNat))) (h1 : 97 ≤ x[k].toNat) (h2 : x[k].toNat ≤ 122) :
    InvIn (a ++ [c]) want p x (k + 1) := fun cs => by
  have hl : c.toNat < 128 := by rcases hc with rfl | hc <;> omega
  have hf : fresh [c] := fresh_cons _ _ (by unfold goesOn; simp; omega)
  rw [segs_app _ hf, segs_ascii c [] hl, List.append_assoc]
  rw [h _]
  show _ ++ foldS ((c.toNat, [c]) :: (segs [] ++ cs)) _ _ = _
  have e0 : ¬ (k + 1 = 0) := by omega
  have e3 : (k + 1 == 0) = false := by simp
  have e4 : (k + 1 != 0) = true := by simp
  rw [foldS_letter c _ _ _ _ hc h1 h2, segs_nil, List.nil_append, if_neg e0, e3, e4, List.take_succ_eq_append_getElem hk]
  by_cases h0 : k = 0
  · subst h0
    cases p <;> simp only [if_true, List.append_nil, List.nil_append, List.take_zero, List.append_assoc, beq_self_eq_true, Bool.and_self, Bool.true_and, Bool.false_and, Bool.false_eq_true, if_false, Bool.true_or, Bool.or_true, Bool.and_false]
  · have e1 : (k == 0) = false := by simpa using h0
    have e2 : (k != 0) = true := by simpa using h0
    rw [if_neg h0, e1, e2]
    simp only [Bool.and_false, Bool.false_and, Bool.false_eq_true, if_false, List.nil_append, List.append_assoc, Bool.or_true]
def blanks (i : Nat) : List UInt8 := if i % 2 = 0 then [32, 9] else [32, 9, 194, 160]
theorem segs_blanks (i : Nat) : ∀ c ∈ segs (blanks i), spaceB c.1 = true := by
  unfold blanks
  split <;> decide +kernel
theorem blanks_ne (i : Nat) : segs (blanks i) ≠ [] := by
  unfold blanks
  split <;> decide +kernel
theorem blanks_fresh (i : Nat) : fresh (blanks i) := by
  unfold blanks
  split
  · exact fresh_cons _ _ (by decide)
  · exact fresh_cons _ _ (by decide)
theorem foldS_spaces : ∀ (sp ds : List (Nat × List UInt8)) (g a : Bool), sp ≠ [] → (∀ c ∈ sp, spaceB c.1 = true) → foldS (sp ++ ds) g a = foldS ds true a
  | [], _, _, _, h, _ => absurd rfl h
  | c :: sp, ds, g, a, _, h => by
    simp only [List.cons_append, foldS, h c (by simp), if_true]
    by_cases hs : sp = []
    · subst hs; rfl
    · exact foldS_spaces sp ds true a hs (fun x hx => h x (by simp [hx]))
theorem inv_end {a want : List UInt8} {p : Bool} {x : List UInt8} (h : InvIn a want p x x.length) (hx : x ≠ []) (i : Nat) : Inv (a ++ blanks i) (want ++ (if p then [32] else []) ++ x) true := fun cs => by
  have hl : x.length ≠ 0 := by simpa using hx
  rw [segs_app _ (blanks_fresh i), List.append_assoc, h _, foldS_spaces _ _ _ _ (blanks_ne i) (segs_blanks i), if_neg hl, List.take_length]
  have e2 : (x.length != 0) = true := by simpa using hl
  rw [e2]
  simp
theorem inv_fold {a want : List UInt8} {p : Bool} (h : Inv a want p) : foldL a = want := by
  have := h []
  rw [List.append_nil] at this
  simpa [foldL, foldS] using this

end Go.Proofs.Ytdiolfahccfpgaa
