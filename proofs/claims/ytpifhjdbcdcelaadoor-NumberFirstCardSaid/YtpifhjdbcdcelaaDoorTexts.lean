/-
  The statements' helpers over lists of texts: SameTexts, copyTexts, LentTexts, StaysTexts.
-/
import Derived.Test.YtpifhjdbcdcelaaDoorBase
import Derived.RegionTactic
namespace Go.Proofs.YtpifhjdbcdcelaaDoor
open Go.RowKit
set_option linter.unusedSimpArgs false
set_option linter.unusedVariables false

def SameRel (la lb : List (List UInt8)) (w : World) (i : Value) (wr : World) : Prop :=
  ∃ k n : Nat, i = .int .i64 k ∧ k ≤ la.length ∧ wr = w.drewN n ∧ la.take k = lb.take k

set_option maxHeartbeats 2000000 in
theorem same_any (A B : Option Addr) (ca cb : Nat) (la lb : List (List UInt8)) (w : World) (ha : RowOf w A ca (strs la)) (hb : RowOf w B cb (strs lb)) :
    Calls Tryd.prog 7 #[.slice A la.length ca, .slice B lb.length cb] w (QuietBool w (decide (la = lb))) := by
  have ha1 := ha.1
  have ha2 := ha.2.1
  have hb1 := hb.1
  have hb2 := hb.2.1
  rw [strs_length] at ha1 hb1
  unfold maxLen at ha2 hb2
  by_cases hn : la.length = lb.length
  · have fn : ((la.length : Int) != lb.length) = false := by simp; omega
    have HN := Lib.hid hn
    clear hn
    go_enter Tryd.func7, Tryd.ntmps7
    go_wp2_with fail
    go_loopw [5] (fun i wr => SameRel la lb w i wr) (fun i wr => la.length - (intOf i).toNat)
    case atStart => exact ⟨0, 0, rfl, Nat.zero_le _, rfl, rfl⟩
    case round =>
      obtain ⟨k, n, rfl, hk, rfl, hs⟩ := hrel
      have HS := Lib.hid hs
      clear hs
      by_cases hp : k < la.length
      · obtain ⟨b1, o1, rfl, hl1, hc1⟩ := ha.cellAt hp
        obtain ⟨b2, o2, rfl, hl2, hc2⟩ := hb.cellAt (k := k) (by rw [← HN.out]; exact hp)
        have hp2 : k < lb.length := by rw [← HN.out]; exact hp
        by_cases he : la[k] = lb[k]
        · have fe : (@BEq.beq (List UInt8) (@List.instBEq UInt8 (@instBEqOfDecidableEq UInt8 instDecidableEqUInt8)) la[k] lb[k]) = true := by rw [he]; simp
          have HE := Lib.hid he
          clear he
          go_wp2_with fail
          go_quiet (fail)
          go_wp2
          exact ⟨⟨k + 1, _, by go_num, by omega, rfl, by rw [List.take_succ_eq_append_getElem hp, List.take_succ_eq_append_getElem hp2, HS.out, HE.out]⟩, by simp [intOf]; omega⟩
        · have fe : (@BEq.beq (List UInt8) (@List.instBEq UInt8 (@instBEqOfDecidableEq UInt8 instDecidableEqUInt8)) la[k] lb[k]) = false := by simpa using he
          have HE := Lib.hid (show decide (la = lb) = false from by
            rw [decide_eq_false_iff_not]
            intro e
            exact he (by simp [e]))
          clear he
          go_wp2_with fail
          go_quiet (fail)
          go_wp2
          go_ret
          exact ⟨ret_bool HE.out.symm, _, World.drewN_drewN _ _ _⟩
      · obtain rfl : k = la.length := by omega
        have HE := Lib.hid (show decide (la = lb) = true from by
          have h := HS.out
          rw [List.take_length, HN.out, List.take_length] at h
          simpa using h)
        go_wp2
        go_ret
        exact ⟨ret_bool HE.out.symm, _, rfl⟩
  · have fn : ((la.length : Int) != lb.length) = true := by simp; omega
    have HE := Lib.hid (show decide (la = lb) = false from by
      rw [decide_eq_false_iff_not]
      intro e
      exact hn (by rw [e]))
    clear hn
    go_enter Tryd.func7, Tryd.ntmps7
    go_wp2
    go_ret
    exact ⟨ret_bool HE.out.symm, 0, rfl⟩

end Go.Proofs.YtpifhjdbcdcelaaDoor
