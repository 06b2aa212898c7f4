/-
  Package emph's laws: lists of items of the call's own: one of them written out of another one; a flag written.
-/
import Derived.Test.YtoomkhmmgjiniaaEmY
import Derived.Test.YtoomkhmmgjiniaaEmU
import Derived.Test.YtoomkhmmgjiniaaCvB
namespace Go.Proofs.Ytoomkhmmgjiniaa
open Go.RowKit Go.Maps Go.ChangeShapes
set_option linter.unusedSimpArgs false
set_option linter.unusedVariables false
set_option maxRecDepth 100000

theorem infoItem : (Try.prog.info? 26).map (fun i => (i.zero, i.size, i.bytes)) = some (some (.agg #[.int .u8 0, .int .i64 0, .bool false, .bool false, .slice none 0 0]), 5, 48) := by kernel_rfl
theorem itC_one (x : Itm × Value) (h : ∃ A n c, x.2 = Value.slice A n c) : ∀ u ∈ itC x, u.oneCell' = true := by
  intro u hu
  obtain ⟨A, n, c, e⟩ := h
  simp [itC, e] at hu
  rcases hu with rfl | rfl | rfl | rfl | rfl <;> rfl
theorem its_one (X : List (Itm × Value)) (h : ∀ x ∈ X, ∃ A n c, x.2 = Value.slice A n c) : ∀ u ∈ flt itC X, u.oneCell' = true := by
  intro u hu
  obtain ⟨x, hx, hu⟩ := List.mem_flatMap.1 hu
  exact itC_one x (h x hx) u hu
theorem run_append_none_i {w : World} (base : Nat) (t ty e : TypeId) (i : TypeInfo) (size c : Nat) (ht : Try.prog.underlying t = some (.slice e)) (hi : Try.prog.info? e = some i)
    (v : Value) (n : Nat) (xs : List Value) (hown : w.ownsRow base e size v n xs) :
    (Builtin.append_ #[t, t] ty #[v, .slice none 0 c]).run Try.prog w = .ok v w := by
  rcases hown.2 with ⟨rfl, rfl⟩ | ⟨g, cap, cur, rfl, _, _, hnc, _⟩
  · simp [Builtin.append_, run_underlying ht, sizeOf, typeInfo, hi, Builtin.lenOf, Builtin.firstCells]
  · simp [Builtin.append_, run_underlying ht, sizeOf, typeInfo, hi, Builtin.lenOf, Builtin.firstCells, hnc, storeCells]
/-- Items that may be read behind a list of the call's own. -/
theorem append_itms {w : World} {ops : Array Oper} {rest : List Oper} {o : Oper} {a : Act} {Q : Exit → Act → World → Prop} (hgd : o.guard = none) (s x : Operand)
    (ho : o.op = .call { callee := .builtin .append, args := #[s, x], argTypes := #[22, 22] }) (base : Nat) (v : Value) (X : List (Itm × Value)) (hs : a.eval s = v)
    (hown : w.ownsRow base 26 5 v X.length (flt itC X)) (A : Option Addr) (c : Nat) (more : List (Itm × Value)) (hx : a.eval x = .slice A more.length c) (hrow : EltsAt w itC 5 A c more) (hsl : ∀ x ∈ more, ∃ A n c, x.2 = Value.slice A n c)
    (h63 : X.length + more.length ≤ 1000000) (hbase : base ≤ w.heap.size)
    (h : ∀ v' w', w'.ownsRow base 26 5 v' (X ++ more).length (flt itC (X ++ more)) → w.grownBy w' v.ownBlock → wpList Try.prog ops Q rest (a.put o.dst v') w') : wpList Try.prog ops Q (o :: rest) a w := by
  obtain ⟨i0, hi, hz0, hz1, hz2⟩ := info_parts infoItem
  cases A with
  | none =>
    obtain rfl : more = [] := by
      rcases hrow.cells with h | ⟨b, off, e, _⟩
      · exact h
      · cases e
    refine wpList_plain hgd fun K hK => ?_
    have hrun := run_append_none_i (w := w) base 22 o.type 26 i0 5 c Try.underlying22 hi v X.length (flt itC X) hown
    unfold Oper.wp
    rw [List.length_nil] at hx
    simp [execOp, ho, resolve, invoke, builtin, hs, hx, hrun, Result.andThen]
    exact hK _ _ (h v w (by simpa using hown) ⟨rfl, rfl, rfl, Nat.le_refl _, fun _ _ _ => rfl⟩)
  | some ad =>
    refine wpList_append_own w hgd s x 22 ho base 26 i0 (.agg #[.int .u8 0, .int .i64 0, .bool false, .bool false, .slice none 0 0]) 5 48 Try.underlying22 hi hz0 hz1 hz2 rfl (by decide) v X.length (flt itC X) hs hown ad more.length c (flt itC more) hx (flt_length itC_length more) (hrow.flat itC_length (by decide)) (its_one more hsl) (by unfold maxLen; omega) (by omega) hbase ?_
    intro v' w' h2 h3 _
    exact h v' w' (by rw [List.length_append, flt_append]; exact h2) h3

theorem sumN_le : ∀ X : List (Itm × Value), (∀ x ∈ X, x.1.ff ≤ 20) → sumN X ≤ 20 * X.length
  | [], _ => by simp [sumN]
  | x :: X, h => by
    have h1 := sumN_le X fun y hy => h y (List.mem_cons_of_mem _ hy)
    have h2 := h x (List.mem_cons_self ..)
    rw [sumN, List.length_cons]
    split <;> omega
theorem wrapD_rows : ∀ S : List Itm, (∀ x ∈ S, x.sg ≠ 0) → WrapD (allI S)
  | [], _ => by intro x hx; cases hx
  | x :: S, h => by
    rw [allI_cons, wrapD_append]
    exact ⟨wrapD_row (h x (List.mem_cons_self ..)), wrapD_rows S fun y hy => h y (List.mem_cons_of_mem _ hy)⟩
theorem potI_le : ∀ S : List Itm, (∀ x ∈ S, x.sg ≠ 0 ∧ x.n ≤ 20) → potI S ≤ 21 * S.length
  | [], _ => by simp [potI]
  | x :: S, h => by
    have h1 := potI_le S fun y hy => h y (List.mem_cons_of_mem _ hy)
    have h2 := h x (List.mem_cons_self ..)
    rw [potI_cons, List.length_cons]
    have h3 : itN x ≤ 21 := by
      unfold itN
      rw [if_neg h2.1]
      have := h2.2
      omega
    omega

end Go.Proofs.Ytoomkhmmgjiniaa
