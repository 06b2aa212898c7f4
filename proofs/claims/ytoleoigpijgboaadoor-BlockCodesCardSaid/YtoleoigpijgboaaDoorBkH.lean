/-
  SameBlocks, of two lists that hold the same blocks.
-/
import Derived.Test.YtoleoigpijgboaaDoorBkA
import Derived.Test.YtoleoigpijgboaaDoorBkQ
namespace Go.Proofs.YtoleoigpijgboaaDoor
open Go.RowKit
set_option linter.unusedSimpArgs false
set_option linter.unusedVariables false
set_option maxRecDepth 100000

def SbRel (bs : List Blk) (w : World) (i : Value) (wr : World) : Prop := ∃ k n : Nat, i = .int .i64 k ∧ k ≤ bs.length ∧ wr = w.drewN n
theorem BlksAt.drew {w : World} {A : Option Addr} {cap : Nat} {X : List Blk} (h : BlksAt w A cap X) (n : Nat) : BlksAt (w.drewN n) A cap X := BlksAt.heap (w := w) (w' := w.drewN n) rfl h

set_option maxHeartbeats 8000000 in
theorem sameBlocks_same (A B : Option Addr) (ca cb : Nat) (bs : List Blk) (w : World) (ha : BlksAt w A ca bs) (hb : BlksAt w B cb bs) :
    Calls Tryd.prog 19 #[.slice A bs.length ca, .slice B bs.length cb] w fun e w' => e = .returned (.bool true) ∧ ∃ n, w' = w.drewN n := by
  have ha1 := ha.le
  have ha2 := ha.cap
  have hb1 := hb.le
  have hb2 := hb.cap
  unfold maxLen at ha2 hb2
  have HA := Lib.hid ha
  have HB := Lib.hid hb
  clear ha hb
  go_enter Tryd.func19, Tryd.ntmps19
  go_wp2_with fail
  go_loopw [5] (fun i wr => SbRel bs w i wr) (fun i _ => bs.length - (intOf i).toNat)
  case atStart => exact ⟨0, 0, rfl, Nat.zero_le _, rfl⟩
  case round =>
    obtain ⟨k, n, rfl, hk, rfl⟩ := hrel
    by_cases hp : k < bs.length
    · obtain ⟨b1, o1, hA1, _, c0, c1, c2, c3, c4, c5⟩ := HA.out.at hp
      obtain ⟨b2, o2, hB1, _, d0, d1, d2, d3, d4, d5⟩ := HB.out.at hp
      generalize bs[k] = x at *
      obtain ⟨xk, xd, xn, xt, xs, xi⟩ := x
      dsimp only at c0 c1 c2 c3 c4 c5 d0 d1 d2 d3 d4 d5
      subst hA1
      subst hB1
      go_wp2_with fail
      go_quiet (fail)
      go_wp2
      exact ⟨⟨k + 1, _, by go_num, by omega, rfl⟩, by simp [intOf]; omega⟩
    · obtain rfl : k = bs.length := by omega
      go_wp2
      go_ret
      exact ⟨rfl, n, rfl⟩

theorem run_append_none_c {w : World} (base : Nat) (t ty e : TypeId) (i : TypeInfo) (size c : Nat) (ht : Tryd.prog.underlying t = some (.slice e)) (hi : Tryd.prog.info? e = some i)
    (v : Value) (n : Nat) (xs : List Value) (hown : w.ownsRow base e size v n xs) :
    (Builtin.append_ #[t, t] ty #[v, .slice none 0 c]).run Tryd.prog w = .ok v w := by
  rcases hown.2 with ⟨rfl, rfl⟩ | ⟨g, cap, cur, rfl, _, _, hnc, _⟩
  · simp [Builtin.append_, run_underlying ht, sizeOf, typeInfo, hi, Builtin.lenOf, Builtin.firstCells]
  · simp [Builtin.append_, run_underlying ht, sizeOf, typeInfo, hi, Builtin.lenOf, Builtin.firstCells, hnc, storeCells]
/-- A list of texts that may be read, nil or not, behind one of the call's own. -/
theorem append_row {w : World} {ops : Array Oper} {rest : List Oper} {o : Oper} {a : Act} {Q : Exit → Act → World → Prop} (hgd : o.guard = none) (s x : Operand)
    (ho : o.op = .call { callee := .builtin .append, args := #[s, x], argTypes := #[22, 22] }) (base : Nat) (v : Value) (n : Nat) (ls : List (List UInt8)) (hs : a.eval s = v)
    (hown : w.ownsRow base 9 1 v n (strs ls)) (A : Option Addr) (c : Nat) (more : List (List UInt8)) (hx : a.eval x = .slice A more.length c) (hrow : RowOf w A c (strs more))
    (h63 : n + more.length ≤ 200000000000) (hbase : base ≤ w.heap.size)
    (h : ∀ v' w', w'.ownsRow base 9 1 v' (n + more.length) (strs (ls ++ more)) → w.grownBy w' v.ownBlock → wpList Tryd.prog ops Q rest (a.put o.dst v') w') : wpList Tryd.prog ops Q (o :: rest) a w := by
  obtain ⟨i0, hi, hz0, hz1, hz2⟩ := info_parts infoString
  cases A with
  | none =>
    obtain rfl : more = [] := by
      rcases hrow.2.2 with h | ⟨b, off, e, _⟩
      · exact List.map_eq_nil_iff.1 h
      · cases e
    refine wpList_plain hgd fun K hK => ?_
    have hrun := run_append_none_c (w := w) base 22 o.type 9 i0 1 c Tryd.underlying22 hi v n (strs ls) hown
    unfold Oper.wp
    rw [List.length_nil] at hx
    simp [execOp, ho, resolve, invoke, builtin, hs, hx, hrun, Result.andThen]
    exact hK _ _ (h v w (by simpa using hown) ⟨rfl, rfl, rfl, Nat.le_refl _, fun _ _ _ => rfl⟩)
  | some ad =>
    refine wpList_append_own w hgd s x 22 ho base 9 i0 (.string ByteArray.empty) 1 16 Tryd.underlying22 hi hz0 hz1 hz2 rfl (by decide) v n (strs ls) hs hown ad more.length c (strs more) hx (by rw [strs_length, Nat.mul_one]) hrow.cells (strs_one' more) (by unfold maxLen; omega) (by omega) hbase ?_
    intro v' w' h2 h3 _
    exact h v' w' (by rw [strs_append]; exact h2) h3

end Go.Proofs.YtoleoigpijgboaaDoor
