/-
  A list of texts behind one of the call's own (for seats that have lists of texts).
-/
import Derived.Test.YthbgcpkgpmlolaaDoorBase
namespace Go.Proofs.YthbgcpkgpmlolaaDoor
open Go.ChangeShapes Go.WideShapes Go.ChangeAt Go.RowKit

/-- A list of texts behind one of the call's own. -/
theorem append_strs {w : World} {ops : Array Oper} {rest : List Oper} {o : Oper} {a : Act} {Q : Exit → Act → World → Prop} (hgd : o.guard = none) (s x : Operand)
    (ho : o.op = .call { callee := .builtin .append, args := #[s, x], argTypes := #[22, 22] }) (base : Nat) (v : Value) (ls : List (List UInt8)) (hs : a.eval s = v)
    (hown : w.ownsRow base 9 1 v ls.length (strs ls)) (A : Option Addr) (c : Nat) (more : List (List UInt8)) (hx : a.eval x = .slice A more.length c) (hrow : RowOf w A c (strs more)) (hnil : A = none → more = [] ∧ c = 0)
    (h63 : ls.length + more.length ≤ 200000000000) (hbase : base ≤ w.heap.size)
    (h : ∀ v' w', w'.ownsRow base 9 1 v' (ls ++ more).length (strs (ls ++ more)) → w.grownBy w' v.ownBlock → wpList Tryd.prog ops Q rest (a.put o.dst v') w') : wpList Tryd.prog ops Q (o :: rest) a w := by
  obtain ⟨i0, hi, hz0, hz1, hz2⟩ := info_parts infoString
  cases A with
  | none =>
    obtain ⟨rfl, rfl⟩ := hnil rfl
    refine wpList_append_own_none hgd s x 22 ho base 9 i0 1 Tryd.underlying22 hi v ls.length (strs ls) hs hown hx ?_
    exact h v w (by rw [List.append_nil]; exact hown) ⟨rfl, rfl, rfl, Nat.le_refl _, fun _ _ _ => rfl⟩
  | some ad =>
    refine wpList_append_own w hgd s x 22 ho base 9 i0 (.string ByteArray.empty) 1 16 Tryd.underlying22 hi hz0 hz1 hz2 rfl (by decide) v ls.length (strs ls) hs hown ad more.length c (strs more) hx (by rw [strs_length, Nat.mul_one]) hrow.cells (strs_one' more) (by unfold maxLen; omega) (by omega) hbase ?_
    intro v' w' h2 h3 _
    exact h v' w' (by rw [List.length_append, strs_append]; exact h2) h3

end Go.Proofs.YthbgcpkgpmlolaaDoor
