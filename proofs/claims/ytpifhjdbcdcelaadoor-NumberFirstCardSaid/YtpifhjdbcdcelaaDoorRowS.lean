/-
  Slices of lists of ints and of texts; a list that may be read, nil or not, behind one of the call's own, as one operation.
-/
import Derived.Test.YtpifhjdbcdcelaaDoorBase
import Derived.Laws.ResultCell
import Derived.Laws.AppendOwnNone
namespace Go.Proofs.YtpifhjdbcdcelaaDoor
open Go.RowKit
set_option linter.unusedSimpArgs false
set_option linter.unusedVariables false
set_option maxRecDepth 100000

/-- Where a list goes on from its k-th element. -/
def dropR (A : Option Addr) (cap k : Nat) : Option Addr := if cap = k then A else A.map (·.add k)
theorem RowOf.dropG {w : World} {A : Option Addr} {cap : Nat} {xs : List Value} (h : RowOf w A cap xs) {k : Nat} (hk : k ≤ xs.length) : RowOf w (dropR A cap k) (cap - k) (xs.drop k) := by
  have h1 := h.1
  have h2 := h.2.1
  refine ⟨by rw [List.length_drop]; omega, by omega, ?_⟩
  by_cases h0 : xs.drop k = []
  · exact Or.inl h0
  · have hlt : k < xs.length := by
      rw [List.drop_eq_nil_iff] at h0
      omega
    obtain ⟨b, off, e, hb, hc⟩ := h.at (fun e => by rw [e] at hlt; simp at hlt)
    refine Or.inr ⟨b, off + k, ?_, hb, fun i hi => ?_⟩
    · unfold dropR
      rw [if_neg (by omega), e, Option.map_some, addr_add]
    · rw [List.length_drop] at hi
      have := hc (k + i) (by omega)
      rw [← Nat.add_assoc] at this
      rw [this, List.getElem_drop]
theorem slice_hiS (A : Option Addr) (len cap k : Nat) (h : k ≤ cap) (W : World) : (Instr.slice 24 (.slice A len cap) none (some (.int .i64 (k : Int))) none).run Tryd.prog W = .ok (.slice A k cap) W := by
  rw [run_slice_h W 24 A len cap (by kernel_rfl) .i64 (k : Int) (by omega) (by omega)]
  rw [show Tryd.prog.elem 24 = 9 from by kernel_rfl]
  go_simp
theorem slice_hiI (A : Option Addr) (len cap k : Nat) (h : k ≤ cap) (W : World) : (Instr.slice 22 (.slice A len cap) none (some (.int .i64 (k : Int))) none).run Tryd.prog W = .ok (.slice A k cap) W := by
  rw [run_slice_h W 22 A len cap (by kernel_rfl) .i64 (k : Int) (by omega) (by omega)]
  rw [show Tryd.prog.elem 22 = 3 from by kernel_rfl]
  go_simp
theorem slice_loS (A : Option Addr) (len cap k : Nat) (h : k ≤ len) (W : World) : (Instr.slice 24 (.slice A len cap) (some (.int .i64 (k : Int))) none none).run Tryd.prog W = .ok (.slice (dropR A cap k) (len - k) (cap - k)) W := by
  rw [run_slice_l W 24 A len cap (by kernel_rfl) .i64 (k : Int) (by omega) (by omega)]
  rw [show Tryd.prog.elem 24 = 9 from by kernel_rfl]
  go_simp
  simp [sliced, dropR]
theorem slice_loI (A : Option Addr) (len cap k : Nat) (h : k ≤ len) (W : World) : (Instr.slice 22 (.slice A len cap) (some (.int .i64 (k : Int))) none none).run Tryd.prog W = .ok (.slice (dropR A cap k) (len - k) (cap - k)) W := by
  rw [run_slice_l W 22 A len cap (by kernel_rfl) .i64 (k : Int) (by omega) (by omega)]
  rw [show Tryd.prog.elem 22 = 3 from by kernel_rfl]
  go_simp
  simp [sliced, dropR]
theorem run_append_noneR {w : World} (base : Nat) (t ty e : TypeId) (i : TypeInfo) (size c : Nat) (ht : Tryd.prog.underlying t = some (.slice e)) (hi : Tryd.prog.info? e = some i)
    (v : Value) (n : Nat) (xs : List Value) (hown : w.ownsRow base e size v n xs) : (Builtin.append_ #[t, t] ty #[v, .slice none 0 c]).run Tryd.prog w = .ok v w := by
  obtain ⟨hl, h⟩ := hown
  rcases h with ⟨rfl, rfl⟩ | ⟨g, cap, cur, rfl, hb, hg, hnc, hcm, hcs, htk⟩
  · simp [Builtin.append_, run_underlying ht, sizeOf, typeInfo, hi, Builtin.lenOf, Builtin.firstCells, storeCells]
  · simp [Builtin.append_, run_underlying ht, sizeOf, typeInfo, hi, Builtin.lenOf, Builtin.firstCells, hnc, storeCells]
/-- One operation: a row of one-celled elements, nil or not, behind one of the call's own. -/
theorem wp_append_row {w : World} {o : Oper} {a : Act} {K : Act → World → Prop} {Q : Exit → Act → World → Prop} (s x : Operand) (t : TypeId)
    (ho : o.op = .call { callee := .builtin .append, args := #[s, x], argTypes := #[t, t] }) (base : Nat) (e : TypeId) (i : TypeInfo) (z : Value) (bytes : Nat)
    (ht : Tryd.prog.underlying t = some (.slice e)) (hi : Tryd.prog.info? e = some i) (hz : i.zero = some z) (hsize : i.size = 1) (hby : i.bytes = bytes) (hzs : z.cells.size = 1)
    (v : Value) (n : Nat) (xs : List Value) (hs : a.eval s = v) (hown : w.ownsRow base e 1 v n xs) (A : Option Addr) (m c : Nat) (news : List Value) (hx : a.eval x = .slice A m c) (hm : news.length = m) (hrow : RowOf w A c news) (h1 : ∀ u ∈ news, u.oneCell' = true)
    (h63 : n + m ≤ maxLen) (hbytes : (n + m) * bytes ≤ 140737488355328) (hbase : base ≤ w.heap.size)
    (h : ∀ v' w', w'.ownsRow base e 1 v' (n + m) (xs ++ news) → w.grownBy w' v.ownBlock → K (a.put o.dst v') w') : o.wp Tryd.prog a w K Q := by
  cases A with
  | none =>
    obtain rfl : news = [] := by
      rcases hrow.2.2 with h | ⟨b, off, e, _⟩
      · exact h
      · cases e
    have hrun := run_append_noneR (w := w) base t o.type e i 1 c ht hi v n xs hown
    subst hm
    unfold Oper.wp
    rw [List.length_nil] at hx
    simp [execOp, ho, resolve, invoke, builtin, hs, hx, hrun, Result.andThen]
    exact h v w (by simpa using hown) ⟨rfl, rfl, rfl, Nat.le_refl _, fun _ _ _ => rfl⟩
  | some ad =>
    refine wp_append_own w s x t ho base e i z 1 bytes ht hi hz hsize hby hzs (by decide) v n xs hs hown ad m c news hx (by rw [Nat.mul_one]; exact hm) hrow.cells h1 h63 hbytes hbase ?_
    intro v' w' h2 h3 _
    exact h v' w' h2 h3

end Go.Proofs.YtpifhjdbcdcelaaDoor
