/-
  BlockRight: the blocks of every lines may be; none lies deeper than it may: the law's walk.
-/
import Derived.Test.YtoleoigpijgboaaDoorBkA
namespace Go.Proofs.YtoleoigpijgboaaDoor
open Go.RowKit
set_option linter.unusedSimpArgs false
set_option linter.unusedVariables false
set_option maxRecDepth 100000

def BrRel (bs : List Blk) (w : World) (i : Value) (wr : World) : Prop := ∃ k : Nat, i = .int .i64 k ∧ k ≤ bs.length ∧ wr = w
theorem parseB_len {ls : List (List UInt8)} (h : ls.length ≤ 100000) : (parseB ls).length ≤ 2600000 := by
  have h1 := (firstM_count 12).1 ls
  have h2 := Nat.mul_le_mul_left (2 * 12 + 2) h
  show (allL 12 ls).length ≤ _
  omega

set_option maxHeartbeats 8000000 in
theorem blockRight_core (w : World) (A : Option Addr) (cap : Nat) (ls : List (List UInt8)) (hrow : RowOf w A cap (strs ls)) (hz : ∀ x ∈ ls, x.length ≤ 9223372036854775807) :
    Calls Tryd.prog 3 #[.slice A ls.length cap] w fun e w' => e = .returned (.bool true) ∧ Below w.heap.size w w' := by
  have cpl := plain9_any A cap ls w hrow hz
  have hcl := hrow.strs_le
  have HR := Lib.hid hrow
  clear hrow hz
  cases hp : plainL ls with
  | false =>
    rw [hp] at cpl
    clear hp
    go_enter Tryd.func3, Tryd.ntmps3
    go_wp2_with fail
    refine cpl.mono ?_
    rintro e w1 ⟨rfl, hwe⟩
    have hwe := hwe.symm
    subst hwe
    go_wp2_with fail
    refine (alive9_any _).mono ?_
    rintro e w2 ⟨rfl, b2⟩
    go_wp2
    go_ret
    exact ⟨rfl, b2⟩
  | true =>
    rw [hp] at cpl
    obtain ⟨hf, hl40, hz2⟩ := plain_few hp
    have HF := Lib.hid hf
    have hpl := parseB_len hf.len
    have hright := parseB_right ls
    have HSound := Lib.hid (allL_sound 12 ls)
    clear hp hf hz2
    go_enter Tryd.func3, Tryd.ntmps3
    go_wp2_with fail
    refine cpl.mono ?_
    rintro e w1 ⟨rfl, hwe⟩
    have hwe := hwe.symm
    subst hwe
    go_wp2_with fail
    refine (alive9_any _).mono ?_
    rintro e w2 ⟨rfl, b2⟩
    have HB2 := Lib.hid b2
    have cp := bparse_any A cap ls w2 (HR.out.below b2) HF.out
    clear b2 cpl
    go_wp2_with fail
    refine cp.mono ?_
    rintro e w3 ⟨v3, rfl, hown, b3⟩
    obtain ⟨A3, c3, rfl, hat⟩ := BlksAt.own hown
    have hsn : ∀ b ∈ parseB ls, Sound 0 b := fun b hb => by
      have := HSound.out b hb
      rw [show (12 : Int) - ((12 : Nat) : Int) = 0 from by omega] at this
      exact this
    generalize parseB ls = bs at *
    have cr := fun W h => bright_any A3 c3 bs W h (by omega)
    rw [hright] at cr
    have HB3 := Lib.hid (HB2.out.then b3)
    have HAt := Lib.hid hat
    have hle := hat.le
    have hcm := hat.cap
    unfold maxLen at hcm
    have HSn := Lib.hid hsn
    clear hown b3 cp hat hright hsn HSound
    go_wp2_with fail
    go_loopw [17] (fun i wr => BrRel bs w3 i wr) (fun i _ => bs.length - (intOf i).toNat)
    case atStart => exact ⟨0, rfl, Nat.zero_le _, rfl⟩
    case round =>
      obtain ⟨k, rfl, hk, hwe⟩ := hrel
      have hwe := hwe.symm
      subst hwe
      by_cases hp : k < bs.length
      · obtain ⟨b9, off, hA, hb9, hc0, hc1, hc2, hc3, hc4, hc5⟩ := HAt.out.at hp
        obtain ⟨hs1, hs2, hs3, hs4⟩ := HSn.out _ (List.getElem_mem hp)
        generalize bs[k] = x at *
        obtain ⟨xk, xd, xn, xt, xs, xi⟩ := x
        dsimp only at hc0 hc1 hc4 hs1 hs2 hs3 hs4
        have f1 : decide ((13 : Int) < xd) = false := by simp; omega
        have f2 : (xk == 9) = false := by simpa using hs3
        clear hs1 hs2 hs3 hc2 hc3 hc5
        subst hA
        cases h1 : (xk == 1) with
        | false =>
          clear hs4
          go_wp2
          go_roundw
          case rel => exact ⟨k + 1, by go_num, by omega, rfl⟩
          case measure => simp [intOf]; omega
        | true =>
          have hne := hs4 (by simpa using h1)
          have f3 : xs.isEmpty = false := by cases xs with
            | nil => exact absurd rfl hne
            | cons a t => rfl
          have f4 : (xs == []) = false := by simpa using hne
          clear hs4 hne
          go_wp2
          go_roundw
          case rel => exact ⟨k + 1, by go_num, by omega, rfl⟩
          case measure => simp [intOf]; omega
      · obtain rfl : k = bs.length := by omega
        go_wp2_with fail
        refine (cr _ HAt.out).mono ?_
        rintro e w4 ⟨rfl, b4⟩
        have HB4 := Lib.hid (HB3.out.then b4)
        clear b4 cr
        go_wp2
        go_ret
        exact ⟨rfl, HB4.out⟩

theorem blockRight_walk (w : World) (A0 : Option Addr) (c0 : Nat) (z0 : List ByteArray) (r0 : RowOf w A0 c0 (z0.map Value.string)) (w0 : ∀ s ∈ z0, s.size ≤ maxLen) :
    Calls Tryd.prog 3 #[.slice A0 z0.length c0] w fun e w' => e = .returned (.bool true) ∧ Below w.heap.size w w' := by
  rw [strs_of] at r0
  have h := blockRight_core w A0 c0 _ r0 (fun y hy => by
    obtain ⟨s, hs, rfl⟩ := List.mem_map.1 hy
    have := w0 s hs
    unfold maxLen at this
    simpa using this)
  simp only [List.length_map] at h
  exact h

end Go.Proofs.YtoleoigpijgboaaDoor
