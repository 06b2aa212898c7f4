/-
  A section: its level, number, anchor, text; its cells.
-/
import Derived.Test.YtpifhjdbcdcelaaDoorFlt
namespace Go.Proofs.YtpifhjdbcdcelaaDoor
open Go.RowKit
set_option linter.unusedSimpArgs false
set_option linter.unusedVariables false

/-- A section. -/
structure Sctn where
  lv : Int
  nu : List UInt8
  an : List UInt8
  tx : List UInt8
deriving DecidableEq, Inhabited
/-- Its four cells. -/
def scC (x : Sctn) : List Value := [.int .i64 x.lv, .string ⟨x.nu.toArray⟩, .string ⟨x.an.toArray⟩, .string ⟨x.tx.toArray⟩]
theorem scC_length (x : Sctn) : (scC x).length = 4 := rfl
theorem scC_one (x : Sctn) : ∀ u ∈ scC x, u.oneCell' = true := by
  intro u hu
  simp [scC] at hu
  rcases hu with rfl | rfl | rfl | rfl <;> rfl
theorem infoSec : (Tryd.prog.info? 36).map (fun i => (i.zero, i.size, i.bytes)) = some (some (.agg #[.int .i64 0, .string ByteArray.empty, .string ByteArray.empty, .string ByteArray.empty]), 4, 56) := by kernel_rfl
/-- Four cells are written over one after the other. -/
theorem flt_set4 {α : Type} {c : α → List Value} (hs : ∀ x, (c x).length = 4) (c0 c1 c2 c3 : Value) (y : α) (hy : c y = [c0, c1, c2, c3]) : ∀ (X : List α) (q : Nat), q < X.length →
    ((((flt c X).set (q * 4) c0).set (q * 4 + 1) c1).set (q * 4 + 2) c2).set (q * 4 + 3) c3 = flt c (X.set q y)
  | x :: X, 0, _ => by
    have hl := hs x
    rw [List.set_cons_zero, flt_cons, flt_cons, hy]
    match c x, hl with
    | [a0, a1, a2, a3], _ => simp
  | x :: X, q + 1, h => by
    have ih := flt_set4 hs c0 c1 c2 c3 y hy X q (by simpa using h)
    have hl := hs x
    rw [List.set_cons_succ, flt_cons, flt_cons, ← ih]
    have e : (q + 1) * 4 = (c x).length + q * 4 := by rw [hl]; omega
    rw [e]
    simp only [Nat.add_assoc, List.set_append_right, Nat.le_add_right, Nat.add_sub_cancel_left]

end Go.Proofs.YtpifhjdbcdcelaaDoor
