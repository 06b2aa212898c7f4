/-
  RepairLines: what a text is, line by line.
-/
import Derived.Test.YtdiolfahccfpgaaRepairK
namespace Go.Proofs.Ytdiolfahccfpgaa
open Go.RowKit
set_option linter.unusedSimpArgs false
set_option linter.unusedVariables false

def enI (z : Int) : Int := (z.tmod 3 + 3).tmod 3
theorem enI_eq (z : Int) : enI z = z % 3 := by
  unfold enI
  have : z.tmod 3 = z % 3 ∨ z.tmod 3 = z % 3 - 3 := by
    rw [Int.tmod_eq_emod]
    split <;> simp
  rcases this with h | h <;> rw [h, Int.tmod_eq_emod] <;> split <;> omega
def endAt (z1 : List Int) (i : Nat) : Int := (z1[i]?.map enI).getD 0
theorem endAt_lt {z1 : List Int} {i : Nat} (h : i < z1.length) : endAt z1 i = enI z1[i] := by simp [endAt, h]
theorem endAt_ge {z1 : List Int} {i : Nat} (h : ¬ i < z1.length) : endAt z1 i = 0 := by
  unfold endAt
  rw [List.getElem?_eq_none (by omega)]; rfl
theorem endAt_bd (z1 : List Int) (i : Nat) : 0 ≤ endAt z1 i ∧ endAt z1 i ≤ 2 := by
  by_cases h : i < z1.length
  · rw [endAt_lt h, enI_eq]; omega
  · rw [endAt_ge h]; omega
def endB (e : Int) : List UInt8 := if e = 0 then [10] else if e = 1 then [13, 10] else [13]
def endLast (e : Int) : Nat := if e = 2 then 13 else 10
def chunks (l : List UInt8) : List (Nat × List UInt8) := l.map fun b => (b.toNat, [b])
theorem segs_asciis : ∀ l : List UInt8, (∀ b ∈ l, b.toNat < 128) → segs l = chunks l
  | [], _ => rfl
  | b :: l, h => by rw [segs_ascii b l (h b (by simp)), segs_asciis l (fun x hx => h x (by simp [hx]))]; rfl
def Printable (x : List UInt8) : Prop := ∀ b ∈ x, 32 ≤ b.toNat ∧ b.toNat < 127
def lastOf : List UInt8 → Nat → Nat
  | [], l => l
  | b :: x, _ => lastOf x b.toNat
theorem lastOf_ne : ∀ (x : List UInt8) (l : Nat), x ≠ [] → Printable x → lastOf x l ≠ 13
  | [], _, h, _ => absurd rfl h
  | [b], _, _, h => by have := h b (by simp); show b.toNat ≠ 13; omega
  | b :: c :: x, _, _, h => lastOf_ne (c :: x) b.toNat (by simp) (fun y hy => h y (by simp at hy ⊢; right; exact hy))
theorem textS_plain : ∀ (x : List UInt8) (l : Nat) (cs : List (Nat × List UInt8)), Printable x → textS (chunks x ++ cs) l = x ++ textS cs (lastOf x l)
  | [], _, _, _ => rfl
  | b :: x, l, cs, h => by
    have hb := h b (by simp)
    have ih := textS_plain x b.toNat cs (fun y hy => h y (by simp [hy]))
    show textOne b.toNat l ++ textS (chunks x ++ cs) b.toNat = _
    rw [ih]
    unfold textOne
    rw [if_neg (by omega), if_neg (by omega), if_neg (by omega), enc1 _ (by omega), ← u8_eq b _ rfl]
    rfl
theorem textS_end (e : Int) (l : Nat) (cs : List (Nat × List UInt8)) (h0 : 0 ≤ e) (h2 : e ≤ 2) (h : l = 13 → e ≠ 0) : textS (chunks (endB e) ++ cs) l = [10] ++ textS cs (endLast e) := by
  have hc : e = 0 ∨ e = 1 ∨ e = 2 := by omega
  have e10 : Lib.encodeRune 10 = [10] := by decide +kernel
  rcases hc with rfl | rfl | rfl
  · show textOne 10 l ++ textS cs 10 = _
    have : textOne 10 l = [10] := by
      unfold textOne
      rw [if_neg (by intro hh; exact h (by omega) rfl), if_neg (by omega), if_neg (by omega), e10]
    rw [this]; rfl
  · show textOne 13 l ++ (textOne 10 13 ++ textS cs 10) = _
    have h1 : textOne 13 l = [10] := by unfold textOne; rw [if_neg (by omega), if_pos rfl]
    have h2 : textOne 10 13 = [] := by unfold textOne; rw [if_pos ⟨rfl, rfl⟩]
    rw [h1, h2]; rfl
  · show textOne 13 l ++ textS cs 13 = _
    have h1 : textOne 13 l = [10] := by unfold textOne; rw [if_neg (by omega), if_pos rfl]
    rw [h1]; rfl
def InvT (b want : List UInt8) (last : Nat) : Prop := ∀ cs, textS (segs b ++ cs) 0 = want ++ textS cs last
theorem invT_start : InvT [] [] 0 := fun cs => rfl
theorem endB_ascii (e : Int) : ∀ b ∈ endB e, b.toNat < 128 := by
  unfold endB
  split
  · decide
  · split <;> decide
theorem ascii_fresh (l : List UInt8) (h : ∀ b ∈ l, b.toNat < 128) : fresh l := by
  cases l with
  | nil => exact fresh_nil
  | cons b l =>
    have := h b (by simp)
    exact fresh_cons _ _ (by unfold goesOn; simp; omega)
theorem chunks_append (a b : List UInt8) : chunks (a ++ b) = chunks a ++ chunks b := by simp [chunks]
theorem invT_step {b want x : List UInt8} {last : Nat} {e : Int} (h : InvT b want last) (hx : Printable x) (h0 : 0 ≤ e) (h2 : e ≤ 2) (hl : last = 13 → x = [] → e ≠ 0) :
    InvT (b ++ (x ++ endB e)) (want ++ (x ++ [10])) (endLast e) := fun cs => by
  have hasc : ∀ y ∈ x ++ endB e, y.toNat < 128 := by
    intro y hy
    rcases List.mem_append.1 hy with hy | hy
    · have := hx y hy; omega
    · exact endB_ascii e y hy
  rw [segs_app _ (ascii_fresh _ hasc), segs_asciis _ hasc, List.append_assoc, h, chunks_append, List.append_assoc, textS_plain _ _ _ hx, textS_end e _ _ h0 h2 ?_]
  · simp
  · intro h13 he
    by_cases hxe : x = []
    · subst hxe; exact hl h13 rfl he
    · exact lastOf_ne x last hxe hx h13
theorem invT_text {b want : List UInt8} {last : Nat} (h : InvT b want last) : textL b = want := by
  have := h []
  rw [List.append_nil] at this
  simpa [textL, textS] using this

end Go.Proofs.Ytdiolfahccfpgaa
