/-
  SameInls, of two lists that hold the same inline nodes.
-/
import Derived.Test.YtoomkhmmgjiniaaIlA
namespace Go.Proofs.Ytoomkhmmgjiniaa
open Go.RowKit
set_option linter.unusedSimpArgs false
set_option linter.unusedVariables false
set_option maxRecDepth 100000

def SiRel (X : List Iln) (w : World) (i : Value) (wr : World) : Prop := ∃ k n : Nat, i = .int .i64 k ∧ k ≤ X.length ∧ wr = w.drewN n
set_option maxHeartbeats 8000000 in
theorem sameInls_same (A B : Option Addr) (ca cb : Nat) (X : List Iln) (w : World) (ha : InlsAt w A ca X) (hb : InlsAt w B cb X) :
    Calls Try.prog 9 #[.slice A X.length ca, .slice B X.length cb] w (QuietBool w true) := by
  have ha1 := ha.le
  have ha2 := ha.cap
  have hb1 := hb.le
  have hb2 := hb.cap
  unfold maxLen at ha2 hb2
  have HA := Lib.hid ha
  have HB := Lib.hid hb
  clear ha hb
  go_enter Try.func9, Try.ntmps9
  go_wp2_with fail
  go_loopw [5] (fun i wr => SiRel X w i wr) (fun i _ => X.length - (intOf i).toNat)
  case atStart => exact ⟨0, 0, rfl, Nat.zero_le _, rfl⟩
  case round =>
    obtain ⟨k, n, rfl, hk, rfl⟩ := hrel
    by_cases hp : k < X.length
    · obtain ⟨b1, o1, hA1, _, c0, c1, c2, c3, c4⟩ := InlsAt.cells5 HA.out hp
      obtain ⟨b2, o2, hB1, _, d0, d1, d2, d3, d4⟩ := InlsAt.cells5 HB.out hp
      generalize X[k] = x at *
      obtain ⟨xn, xu, xt, xx, xb⟩ := x
      dsimp only at c0 c1 c2 c3 c4 d0 d1 d2 d3 d4
      subst hA1
      subst hB1
      go_wp2_with fail
      go_quiet (fail)
      go_wp2
      exact ⟨⟨k + 1, _, by go_num, by omega, rfl⟩, by simp [intOf]; omega⟩
    · obtain rfl : k = X.length := by omega
      go_wp2
      go_ret
      exact ⟨rfl, n, rfl⟩

end Go.Proofs.Ytoomkhmmgjiniaa
