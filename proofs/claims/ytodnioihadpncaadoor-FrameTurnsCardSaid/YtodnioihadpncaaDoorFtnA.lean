/-
  FrameTurns: parts that may be are the parts of their lines; the law's walk.
-/
import Derived.Test.YtodnioihadpncaaDoorRgtC
import Derived.Test.YtodnioihadpncaaDoorRgtD
import Derived.Test.YtodnioihadpncaaDoorPts
namespace Go.Proofs.YtodnioihadpncaaDoor
open Go.RowKit
set_option linter.unusedSimpArgs false
set_option linter.unusedVariables false
set_option maxRecDepth 100000

def PrtOk (p : Prt) : Prop := plainL p.ls = true ∧ p.lab.length ≤ 100
theorem PrtOk.small {p : Prt} (h : PrtOk p) : p.ls.length ≤ 60 ∧ p.lab.length ≤ 100 ∧ ∀ y ∈ p.ls, y.length ≤ 100 := by
  obtain ⟨_, a, b⟩ := plain_lf h.1
  exact ⟨a, h.2, b⟩
theorem writeF_len : ∀ (ps : List Prt) (i : Int) (o : Nat), (∀ p ∈ ps, PrtOk p) → ∀ y ∈ writeF i o ps, y.length ≤ 200
  | [], i, o, _, y, hy => by
    rw [writeF] at hy
    have := List.eq_of_mem_replicate hy
    rw [this]; decide
  | p :: ps, i, o, h, y, hy => by
    rw [writeF] at hy
    obtain ⟨a, b, c⟩ := (h p (by simp)).small
    simp only [List.mem_append] at hy
    rcases hy with ((hy | hy) | hy) | hy
    · have := List.eq_of_mem_replicate hy
      rw [this]; decide
    · split at hy
      · rw [List.mem_singleton] at hy
        rw [hy]
        simp only [divLine, divB, List.length_append, List.length_cons, List.length_nil]
        omega
      · simp at hy
    · have := c y hy; omega
    · exact writeF_len ps _ _ (fun q hq => h q (by simp [hq])) y hy
theorem body_len {ps : List Prt} (hr : rightP ps = true) (hok : ∀ p ∈ ps, PrtOk p) : ∀ k, k ≤ ps.length → (bodyF 0 (ps.take k)).length ≤ (ps.length + 100) * k ∧ 0 ≤ insOf (ps.take k).getLast? ∧ insOf (ps.take k).getLast? ≤ k
  | 0, _ => by simp [bodyF, insOf]
  | k + 1, h => by
    obtain ⟨a, b, c⟩ := body_len hr hok k (by omega)
    have hd := depth_le hr k ps[k] (List.getElem?_eq_getElem (by omega))
    have hs := (hok ps[k] (List.getElem_mem (by omega))).small.1
    rw [bodyF_take ps k (by omega), insOf_take ps k (by omega)]
    refine ⟨?_, ?_, ?_⟩
    · simp only [List.length_append, ends, List.length_replicate]
      have h1 : (if ps[k].dv then [divLine ps[k].lab] else []).length ≤ 1 := by split <;> simp
      have h2 : (insOf (ps.take k).getLast? - ps[k].depth).toNat ≤ ps.length := by omega
      rw [Nat.mul_succ]
      omega
    · split <;> omega
    · split <;> omega
theorem write_len {ps : List Prt} (hr : rightP ps = true) (hok : ∀ p ∈ ps, PrtOk p) (hm : ps.length ≤ 30) : (writeP ps).length ≤ 10000 := by
  obtain ⟨a, b, c⟩ := body_len hr hok ps.length (Nat.le_refl _)
  rw [List.take_length] at a b c
  rw [writeP_eq, List.length_append]
  have h1 : (ends (insOf ps.getLast? - cnt ps).toNat).length ≤ ps.length := by
    simp only [ends, List.length_replicate]; omega
  have h2 : (ps.length + 100) * ps.length ≤ 130 * 30 := Nat.mul_le_mul (by omega) hm
  omega

def FtRel (X : List (Prt × Value)) (w : World) (i : Value) (wr : World) : Prop := ∃ k : Nat, i = .int .i64 k ∧ k ≤ X.length ∧ (∀ x ∈ X.take k, PrtOk x.1) ∧ wr = w

set_option maxHeartbeats 8000000 in
theorem frameTurns_walk (w : World) (hml : MaxL w) (A0 : Option Addr) (c0 : Nat) (z0 : List (Prt × Value)) (r0 : PartsAt w A0 c0 z0) (w0 : PartsWf z0) :
    Calls Tryd.prog 9 #[.slice A0 z0.length c0] w fun e w' => e = .returned (.bool true) ∧ Below w.heap.size w w' := by
  have HML := Lib.hid hml
  clear hml
  have hle := r0.le
  have hcm := r0.cap
  unfold maxLen at hcm
  by_cases h30 : 30 < z0.length
  · have HN := HML
    clear r0 w0
    go_enter Tryd.func9, Tryd.ntmps9
    go_wp2_with (go_at_call 12; refine (alive6_any _ HN.out).mono ?_; rintro e w3 ⟨rfl, b2⟩)
    all_goals go_ret
    all_goals exact ⟨rfl, b2⟩
  · have h30' : z0.length ≤ 30 := by omega
    have HWF := Lib.hid w0
    clear w0 h30
    go_enter Tryd.func9, Tryd.ntmps9
    go_wp2_with fail
    refine (alive6_any _ HML.out).mono ?_
    rintro e w1 ⟨rfl, b1⟩
    have r1 := r0.below b1
    have HB1 := Lib.hid b1
    clear b1
    go_wp2_with fail
    go_loopw [16] (fun i wr => FtRel z0 w1 i wr) (fun i _ => z0.length - (intOf i).toNat)
    case atStart => exact ⟨0, rfl, Nat.zero_le _, by simp, rfl⟩
    case round =>
      obtain ⟨k, rfl, hk, hall, hwe⟩ := hrel
      have hwe := hwe.symm
      subst hwe
      have HA := Lib.hid hall
      clear hall
      by_cases hp : k < z0.length
      · obtain ⟨b, off, rfl, hb, y0, y1, y2, y3, y4⟩ := r1.at hp
        obtain ⟨A9, c9, e9, hr9⟩ := r1.ls z0[k] (List.getElem_mem hp)
        obtain ⟨_, hlw, hyw, _⟩ := HWF.out z0[k] (List.getElem_mem hp)
        have HT := Lib.hid (List.take_succ_eq_append_getElem hp)
        rw [e9] at y4
        have cp := fun w2 (h : RowOf w2 A9 c9 (strs z0[k].1.ls)) => plain_any A9 c9 z0[k].1.ls w2 h (fun y hy => by have := hyw y hy; unfold maxLen at this; omega)
        have HOK := Lib.hid (show plainL z0[k].1.ls = true → z0[k].1.lab.length ≤ 100 → PrtOk z0[k].1 from fun a b => ⟨a, b⟩)
        have hsz : (⟨z0[k].1.lab.toArray⟩ : ByteArray).size = z0[k].1.lab.length := str_size _
        generalize z0[k] = x at *
        obtain ⟨⟨d, dv, lab, opn, ls⟩, xv⟩ := x
        simp only at e9 hr9 hlw hyw cp y0 y1 y2 y3 y4 hsz
        clear hyw
        cases hpl : plainL ls with
        | false =>
          rw [hpl] at cp
          clear hpl hsz
          go_wp2_with fail
          refine (cp _ hr9).mono ?_
          rintro e w2 ⟨rfl, rfl⟩
          go_wp2
          go_ret
          exact ⟨rfl, HB1.out⟩
        | true =>
          rw [hpl] at cp
          have HPL := Lib.hid hpl
          clear hpl
          generalize hX : (⟨lab.toArray⟩ : ByteArray) = Xl at *
          clear hX
          by_cases h100 : 100 < Xl.size
          · clear hsz
            go_wp2_with fail
            refine (cp _ hr9).mono ?_
            rintro e w2 ⟨rfl, rfl⟩
            go_wp2
            go_ret
            exact ⟨rfl, HB1.out⟩
          · have HLB := Lib.hid (show lab.length ≤ 100 from by omega)
            clear hsz
            go_wp2_with fail
            refine (cp _ hr9).mono ?_
            rintro e w2 ⟨rfl, rfl⟩
            go_wp2
            go_roundw
            case rel =>
              refine ⟨k + 1, by go_num, by omega, fun x hx => ?_, rfl⟩
              rw [HT.out, List.mem_append] at hx
              rcases hx with hx | hx
              · exact HA.out x hx
              · rw [List.mem_singleton] at hx
                subst hx
                exact HOK.out HPL.out HLB.out
            case measure => simp [intOf]; omega
      · obtain rfl : k = z0.length := by omega
        have hok : ∀ x ∈ z0, PrtOk x.1 := by have := HA.out; rwa [List.take_length] at this
        have hsm : PartsSmall z0 := fun x hx => by
          have := (hok x hx).small
          exact ⟨by omega, fun y hy => by have := this.2.2 y hy; omega⟩
        have hln : PartsLent z0 := fun x hx => by
          have := (hok x hx).small
          exact ⟨by omega, (HWF.out x hx).2.2.2⟩
        have HOK := Lib.hid (show ∀ p ∈ z0.map Prod.fst, PrtOk p from fun p hp => by
          obtain ⟨x, hx, rfl⟩ := List.mem_map.1 hp
          exact hok x hx)
        have HR1 := Lib.hid r1
        cases hr : rightP (z0.map Prod.fst) with
        | false =>
          have cw := write_no A0 c0 z0 w1 r1 (by omega) hsm hr
          have cr := fun w2 h => right_any A0 c0 z0 w2 h (by omega) hsm
          rw [hr] at cr
          clear hok hln hsm hr r1
          go_wp2_with fail
          refine cw.mono ?_
          rintro e w2 ⟨rfl, b2⟩
          have HB2 := Lib.hid (HB1.out.then b2)
          have HR2 := Lib.hid (HR1.out.below b2)
          clear b2
          go_wp2_with fail
          refine (cr _ HR2.out).mono ?_
          rintro e w3 ⟨rfl, b3⟩
          go_wp2
          go_ret
          exact ⟨rfl, HB2.out.then b3⟩
        | true =>
          have cw := write_yes A0 c0 z0 w1 r1 (by omega) hsm hln hr
          have hwl := write_len hr HOK.out (by rw [List.length_map]; exact h30')
          have hyl := writeF_len (z0.map Prod.fst) 0 0 HOK.out
          have HPW := Lib.hid (parse_write _ hr)
          have hWP : writeF 0 0 (z0.map Prod.fst) = writeP (z0.map Prod.fst) := rfl
          rw [hWP] at hyl
          have HYL := Lib.hid hyl
          clear hok hln hsm hr r1 hWP hyl
          generalize writeP (z0.map Prod.fst) = nf at *
          go_wp2_with fail
          refine cw.mono ?_
          rintro e w2 ⟨v2, rfl, hown2, b2⟩
          obtain ⟨A3, c3, rfl, hr3, _⟩ := RowOf.own hown2
          have HB2 := Lib.hid (HB1.out.then b2)
          have HR2 := Lib.hid (HR1.out.below b2)
          have cq := parse_any A3 c3 nf w2 hr3 (by omega) (fun y hy => by have := HYL.out y hy; omega)
          rw [HPW.out] at cq
          clear b2 hown2
          go_wp2_with fail
          refine cq.mono ?_
          rintro e w5 ⟨v5, X5, rfl, hO5, hX5, b5⟩
          obtain ⟨A5, cap5, rfl, hat5⟩ := hO5.at
          have csp := sameParts_any A5 A0 cap5 c0 X5 z0 w5 hat5 (HR2.out.below b5)
          rw [hX5, decide_eq_true rfl] at csp
          have HB5 := Lib.hid (HB2.out.then b5)
          clear b5 hat5 hX5 hO5
          go_wp2_with fail
          refine csp.mono ?_
          rintro e w6 ⟨rfl, b6⟩
          go_wp2
          go_ret
          exact ⟨rfl, HB5.out.then b6⟩

end Go.Proofs.YtodnioihadpncaaDoor
