/-
  Package token: has, past, row: where bytes of a kind end.
-/
import Derived.Test.YtggdpmaomhmobaaGreatDoorTkA
import Derived.Test.YtggdpmaomhmobaaGreatDoorTkR
namespace Go.Proofs.YtggdpmaomhmobaaGreatDoor
open Go.RowKit
set_option linter.unusedSimpArgs false
set_option linter.unusedVariables false

theorem has_any (s : ByteArray) (k : Nat) (b : UInt8) (w : World) (hs : s.size ≤ 35184372088832) (hk : k ≤ 70368744177664) :
    Calls Tryz.prog 35 #[.string s, .int .i64 k, .int .u8 b.toNat] w fun e w' => e = .returned (.bool (hasL s.data.toList k b)) ∧ w = w' := by
  by_cases hp : k < s.size
  · by_cases hb : s[k] = b
    · have HV := Lib.hid (show hasL s.data.toList k b = true from by
        unfold hasL
        rw [List.getElem?_eq_getElem (by simpa using hp)]
        exact beq_iff_eq.2 (congrArg some hb))
      have f1 : ((s[k].toNat : Int) == (b.toNat : Int)) = true := by rw [hb]; simp
      clear hb
      go_enter Tryz.func35, Tryz.ntmps35
      go_wp2
      go_ret
      exact ⟨ret_bool HV.out.symm, rfl⟩
    · have HV := Lib.hid (show hasL s.data.toList k b = false from by
        unfold hasL
        rw [List.getElem?_eq_getElem (by simpa using hp)]
        exact beq_eq_false_iff_ne.2 (fun e => hb (Option.some.inj e)))
      have f1 : ((s[k].toNat : Int) == (b.toNat : Int)) = false := by
        rw [beq_eq_false_iff_ne]
        exact fun e => hb (UInt8.toNat_inj.1 (by omega))
      clear hb
      go_enter Tryz.func35, Tryz.ntmps35
      go_wp2
      go_ret
      exact ⟨ret_bool HV.out.symm, rfl⟩
  · have HV := Lib.hid (show hasL s.data.toList k b = false from hasL_no (by simpa using hp))
    go_enter Tryz.func35, Tryz.ntmps35
    go_wp2
    go_ret
    exact ⟨ret_bool HV.out.symm, rfl⟩

/-- What is asked of a function that tells a kind of bytes. -/
def KindAt (g : Nat) (lb : Array Value) (p : UInt8 → Bool) (w : World) : Prop :=
  ∀ (W : World) (b : UInt8), Below w.heap.size w W → Calls Tryz.prog g (#[.int .u8 b.toNat] ++ lb) W fun e w' => e = .returned (.bool (p b)) ∧ W = w'
def PastRel (p : UInt8 → Bool) (l : List UInt8) (n k : Nat) (w : World) (v : Value) (wr : World) : Prop :=
  ∃ j : Nat, v = .int .i64 j ∧ k ≤ j ∧ j ≤ n ∧ pastL p l k = pastL p l j ∧ Below w.heap.size w wr

set_option maxHeartbeats 1000000 in
theorem past_any (s : ByteArray) (k : Nat) (g : Nat) (lb : Array Value) (p : UInt8 → Bool) (w : World) (hs : s.size ≤ 35184372088832) (hk : k ≤ s.size)
    (he : ∀ args w, (callFunc g args).run Tryz.prog w = .ok (.enter g args) w) (hp : KindAt g lb p w) :
    Calls Tryz.prog 32 #[.string s, .int .i64 k, .func (.func g) #[] lb] w fun e w' => e = .returned (.int .i64 (pastL p s.data.toList k)) ∧ Below w.heap.size w w' := by
  go_enter Tryz.func32, Tryz.ntmps32
  go_wp2_with fail
  go_loopw [1] (fun v wr => PastRel p s.data.toList s.size k w v wr) (fun v _ => s.size - (intOf v).toNat)
  case atStart => exact ⟨k, rfl, Nat.le_refl _, hk, rfl, Below.refl _ _⟩
  case round =>
    obtain ⟨j, rfl, hkj, hj, hpl, hbw⟩ := hrel
    by_cases hlt : j < s.size
    · have c1 := hp wr s[j] hbw
      cases hv : p s[j] with
      | true =>
        rw [hv] at c1
        have HP := Lib.hid (show pastL p s.data.toList k = pastL p s.data.toList (j + 1) from by
          rw [hpl]
          exact pastL_step p _ j (by simpa using hlt) hv)
        have HB := Lib.hid hbw
        clear hpl hv hbw
        go_wp2_with (go_at_fn g; refine c1.mono ?_; rintro e w' ⟨rfl, rfl⟩)
        go_roundw
        case rel => exact ⟨j + 1, by go_num, by omega, by omega, HP.out, HB.out⟩
        case measure => simp [intOf]; omega
      | false =>
        rw [hv] at c1
        have HP := Lib.hid (show pastL p s.data.toList k = j from by
          rw [hpl]
          exact pastL_stop p _ j (by simpa using hlt) hv)
        have HB := Lib.hid hbw
        clear hpl hv hbw
        go_wp2_with (go_at_fn g; refine c1.mono ?_; rintro e w' ⟨rfl, rfl⟩)
        go_ret
        exact ⟨by rw [HP.out]; rfl, HB.out⟩
    · have HP := Lib.hid (show pastL p s.data.toList k = j from by
        rw [hpl]
        exact pastL_end p _ j (by simp; omega))
      have HB := Lib.hid hbw
      clear hpl hbw hp
      go_wp2
      go_ret
      exact ⟨by rw [HP.out]; rfl, HB.out⟩

end Go.Proofs.YtggdpmaomhmobaaGreatDoor
