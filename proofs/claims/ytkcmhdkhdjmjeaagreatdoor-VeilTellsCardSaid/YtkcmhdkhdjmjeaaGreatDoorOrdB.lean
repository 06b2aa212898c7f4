/-
  bowdlerref1's Order: Edge.
-/
import Derived.Test.YtkcmhdkhdjmjeaaGreatDoorOrdA
namespace Go.Proofs.YtkcmhdkhdjmjeaaGreatDoor
open Go.RowKit
set_option linter.unusedVariables false
set_option linter.unusedSimpArgs false

def dirR (up : Bool) (R : Rel) : Rel := if up then R else flipR R
def allTo (R : Rel) (x j : Nat) : Bool := (List.range j).all fun y => R y x
theorem allTo_succ (R : Rel) (x j : Nat) : allTo R x (j + 1) = (allTo R x j && R j x) := by simp [allTo, List.range_succ]
def EdgeRel (n : Nat) (R : Rel) (w : World) (i : Value) (wr : World) : Prop := ∃ k : Nat, i = .int .i64 k ∧ k ≤ n ∧ (∀ x, x < k → allTo R x n = false) ∧ wr = w
def EdgeRel2 (n k : Nat) (R : Rel) (w : World) (v i : Value) (wr : World) : Prop := ∃ j : Nat, v = .bool (allTo R k j) ∧ i = .int .i64 j ∧ j ≤ n ∧ wr = w

set_option maxRecDepth 100000 in
set_option maxHeartbeats 2000000 in
theorem edge_any {p : OPlace} {n : Nat} {lf : Nat → Nat → Bool} {jf mf : Nat → Nat → Int} (up : Bool) (w : World) (h : OMem w p n lf jf mf) (h64 : n ≤ 64) :
    Calls Tryz.prog 42 #[.pointer (some ⟨p.o, 0, none⟩), .bool up] w fun e w' => e = .returned (.int .i64 (topR n (dirR up lf))) ∧ w' = w := by
  have c0 := h.c0
  have c1 := h.c1
  have hcap := h.cap
  have HH := Lib.hid h
  have hn64 : (n : Int) ≤ 64 := by omega
  clear h
  obtain ⟨R, hR⟩ : ∃ R, R = dirR up lf := ⟨_, rfl⟩
  rw [← hR]
  go_enter Tryz.func42, Tryz.ntmps42
  go_wp2_with fail
  go_loopw [5] (fun i wr => EdgeRel n R w i wr) (fun i _ => n - (intOf i).toNat)
  case atStart => exact ⟨0, rfl, Nat.zero_le _, fun x hx => absurd hx (Nat.not_lt_zero _), rfl⟩
  case round =>
    obtain ⟨k, rfl, hk, hno, rfl⟩ := hrel
    have HN := Lib.hid hno
    clear hno
    by_cases hkn : k < n
    · go_wp2_with fail
      go_loopw [6, 7] (fun v i w2 => EdgeRel2 n k R wr v i w2) (fun _ i _ => n - (intOf i).toNat)
      case atStart => exact ⟨0, rfl, rfl, Nat.zero_le _, rfl⟩
      case round =>
        obtain ⟨j, rfl, rfl, hj, rfl⟩ := hrel
        by_cases hjn : j < n
        · have h1 := HH.out.rL j hjn
          have h2 := HH.out.rL k hkn
          have h3 := HH.out.eL j k hjn hkn
          have h4 := HH.out.eL k j hkn hjn
          cases hs : allTo R k j with
          | false =>
            have HE := Lib.hid (show allTo R k (j + 1) = false from by rw [allTo_succ, hs]; rfl)
            clear hs
            go_wp2
            go_roundw
            case rel => exact ⟨j + 1, by rw [HE.out], by go_num, by omega, rfl⟩
            case measure => simp [intOf]; omega
          | true =>
            cases up with
            | true =>
              have hRjk : R j k = lf j k := by rw [hR]; rfl
              cases hq : lf j k with
              | true =>
                rw [hq] at h3
                have HE := Lib.hid (show allTo R k (j + 1) = true from by rw [allTo_succ, hs, hRjk, hq]; rfl)
                clear hs hq hRjk
                go_wp2
                go_roundw
                case rel => exact ⟨j + 1, by rw [HE.out], by go_num, by omega, rfl⟩
                case measure => simp [intOf]; omega
              | false =>
                rw [hq] at h3
                have HE := Lib.hid (show allTo R k (j + 1) = false from by rw [allTo_succ, hs, hRjk, hq]; rfl)
                clear hs hq hRjk
                go_wp2
                go_roundw
                case rel => exact ⟨j + 1, by rw [HE.out], by go_num, by omega, rfl⟩
                case measure => simp [intOf]; omega
            | false =>
              have hRjk : R j k = lf k j := by rw [hR]; rfl
              cases hq : lf k j with
              | true =>
                rw [hq] at h4
                have HE := Lib.hid (show allTo R k (j + 1) = true from by rw [allTo_succ, hs, hRjk, hq]; rfl)
                clear hs hq hRjk
                go_wp2
                go_roundw
                case rel => exact ⟨j + 1, by rw [HE.out], by go_num, by omega, rfl⟩
                case measure => simp [intOf]; omega
              | false =>
                rw [hq] at h4
                have HE := Lib.hid (show allTo R k (j + 1) = false from by rw [allTo_succ, hs, hRjk, hq]; rfl)
                clear hs hq hRjk
                go_wp2
                go_roundw
                case rel => exact ⟨j + 1, by rw [HE.out], by go_num, by omega, rfl⟩
                case measure => simp [intOf]; omega
        · obtain rfl : j = n := by omega
          cases hs : allTo R k j with
          | false =>
            have HE := Lib.hid hs
            clear hs
            go_wp2
            go_roundw
            case rel =>
              refine ⟨k + 1, by go_num, by omega, fun x hx => ?_, rfl⟩
              by_cases e : x = k
              · subst e; exact HE.out
              · exact HN.out x (by omega)
            case measure => simp [intOf]; omega
          | true =>
            have HF := Lib.hid (show topR j R = k from by
              exact congrArg atI (find_first (p := fun x => allTo R x j) hkn hs HN.out))
            clear hs
            go_wp2
            go_ret
            exact ⟨ret_int HF.out.symm, rfl⟩
    · obtain rfl : k = n := by omega
      have HF := Lib.hid (show topR k R = -1 from by
        exact congrArg atI (find_none (p := fun x => allTo R x k) HN.out))
      go_wp2
      go_ret
      exact ⟨ret_int HF.out.symm, rfl⟩

end Go.Proofs.YtkcmhdkhdjmjeaaGreatDoor
