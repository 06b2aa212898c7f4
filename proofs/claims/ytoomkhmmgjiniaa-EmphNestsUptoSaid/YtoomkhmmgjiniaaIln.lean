/-
  An inline node: its cells; a list of nodes that may be read.
-/
import Derived.Test.YtoomkhmmgjiniaaIlP
import Derived.Test.YtoomkhmmgjiniaaFlt
namespace Go.Proofs.Ytoomkhmmgjiniaa
open Go.RowKit
set_option linter.unusedSimpArgs false
set_option linter.unusedVariables false

/-- Its five cells. -/
def ilC (x : Iln) : List Value := [.int .i64 x.kd, .int .i64 x.dp, .string ⟨x.txt.toArray⟩, .string ⟨x.url.toArray⟩, .string ⟨x.ttl.toArray⟩]
theorem ilC_length (x : Iln) : (ilC x).length = 5 := rfl
theorem ilC_one (x : Iln) : ∀ u ∈ ilC x, u.oneCell' = true := by
  intro u hu
  simp [ilC] at hu
  rcases hu with rfl | rfl | rfl | rfl | rfl <;> rfl
theorem infoInl : (Try.prog.info? 30).map (fun i => (i.zero, i.size, i.bytes)) = some (some (.agg #[.int .i64 0, .int .i64 0, .string ByteArray.empty, .string ByteArray.empty, .string ByteArray.empty]), 5, 64) := by kernel_rfl

abbrev InlsAt (w : World) (A : Option Addr) (cap : Nat) (X : List Iln) : Prop := EltsAt w ilC 5 A cap X
theorem InlsAt.cells5 {w : World} {A : Option Addr} {cap : Nat} {X : List Iln} (h : InlsAt w A cap X) {k : Nat} (hk : k < X.length) :
    ∃ b off, A = some ⟨b, off, none⟩ ∧ b < w.heap.size ∧ w.cell? ⟨b, off + k * 5, none⟩ = some (.int .i64 X[k].kd) ∧ w.cell? ⟨b, off + k * 5 + 1, none⟩ = some (.int .i64 X[k].dp) ∧
      w.cell? ⟨b, off + k * 5 + 2, none⟩ = some (.string ⟨X[k].txt.toArray⟩) ∧ w.cell? ⟨b, off + k * 5 + 3, none⟩ = some (.string ⟨X[k].url.toArray⟩) ∧ w.cell? ⟨b, off + k * 5 + 4, none⟩ = some (.string ⟨X[k].ttl.toArray⟩) := by
  obtain ⟨b, off, e, hlt, hc⟩ := h.at hk
  exact ⟨b, off, e, hlt, hc 0 _ rfl, hc 1 _ rfl, hc 2 _ rfl, hc 3 _ rfl, hc 4 _ rfl⟩
theorem InlsAt.drew {w : World} {A : Option Addr} {cap : Nat} {X : List Iln} (h : InlsAt w A cap X) (n : Nat) : InlsAt (w.drewN n) A cap X := EltsAt.heap (w := w) (w' := w.drewN n) rfl h

end Go.Proofs.Ytoomkhmmgjiniaa
