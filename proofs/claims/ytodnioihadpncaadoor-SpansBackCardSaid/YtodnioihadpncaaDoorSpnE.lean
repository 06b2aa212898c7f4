/-
  Two pieces that are one, held against each other.
-/
import Derived.Test.YtodnioihadpncaaDoorFrmI
namespace Go.Proofs.YtodnioihadpncaaDoor
open Go.RowKit
set_option linter.unusedSimpArgs false
set_option linter.unusedVariables false
set_option maxRecDepth 100000

theorem piece_same_at (d : Nat) (w : World) (b : Bool) (l t : ByteArray) (hb : ∀ (a : Bool) (W : World), (Op.equalIn d 4 (.bool a) (.bool a)).run Tryd.prog W = .ok true W)
    (hs : ∀ (a : ByteArray) (W : World), (Op.equalIn d 9 (.string a) (.string a)).run Tryd.prog W = .ok true W) :
    (Op.equalIn (d + 1) 38 (.agg #[.bool b, .string l, .string t]) (.agg #[.bool b, .string l, .string t])).run Tryd.prog w = .ok true w := by
  simp only [Op.equalIn, Sem.run_bind, run_underlying Tryd.underlying38, Result.andThen_ok]
  generalize hE : Op.equalIn d = E at *
  simp [hb, hs, part, Tryd.sizeOf4, Tryd.sizeOf9]
theorem piece_same (w : World) (b : Bool) (l t : ByteArray) : (Op.equalIn 10000 38 (.agg #[.bool b, .string l, .string t]) (.agg #[.bool b, .string l, .string t])).run Tryd.prog w = .ok true w :=
  piece_same_at 9999 w b l t (fun a W => by rw [run_equalIn_bool' (w := W) 9998 4 a a Tryd.underlying4]; simp) (fun a W => by rw [run_equalIn_string (w := W) 9998 9 a a Tryd.underlying9]; simp)

/-- No byte of x is one of these signs. -/
def NoSigns (x : ByteArray) : Prop := ∀ m (h : m < x.size), x[m].toNat ≠ 123 ∧ x[m].toNat ≠ 124 ∧ x[m].toNat ≠ 125
theorem NoSigns.all {x : ByteArray} (h : NoSigns x) : ∀ b ∈ x.data.toList, b ≠ 123 ∧ b ≠ 124 ∧ b ≠ 125 := by
  intro b hb
  obtain ⟨m, hm, rfl⟩ := List.mem_iff_getElem.1 hb
  have hm2 : m < x.size := by simpa using hm
  obtain ⟨h1, h2, h3⟩ := h m hm2
  have e2 : x.data.toList[m] = x[m] := rfl
  rw [e2]
  refine ⟨fun e => ?_, fun e => ?_, fun e => ?_⟩
  · rw [e] at h1; exact h1 rfl
  · rw [e] at h2; exact h2 rfl
  · rw [e] at h3; exact h3 rfl
/-- All bytes of x are small letters. -/
def Letters (x : ByteArray) : Prop := ∀ m (h : m < x.size), 97 ≤ x[m].toNat ∧ x[m].toNat ≤ 122
theorem Letters.all {x : ByteArray} (h : Letters x) : ∀ b ∈ x.data.toList, 97 ≤ b.toNat ∧ b.toNat ≤ 122 := by
  intro b hb
  obtain ⟨m, hm, rfl⟩ := List.mem_iff_getElem.1 hb
  exact h m (by simpa using hm)
theorem letter_sign {b : UInt8} (h : 97 ≤ b.toNat ∧ b.toNat ≤ 122) : labSign b = true := by
  rw [← labI_byte]; unfold labI; simp; omega
theorem Letters.lab {x : ByteArray} (h : Letters x) (h1 : 1 ≤ x.size) (h2 : x.size ≤ 40) : isLab x.data.toList = true := by
  have hl : x.data.toList.length = x.size := by simp
  unfold isLab labOk
  rw [Bool.and_eq_true, List.all_eq_true, hl]
  exact ⟨fun b hb => letter_sign (h.all b hb), by simp; omega⟩

end Go.Proofs.YtodnioihadpncaaDoor
