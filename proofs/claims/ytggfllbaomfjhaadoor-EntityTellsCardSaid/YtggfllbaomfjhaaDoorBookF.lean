/-
  The statements' book of lists: markedTexts.
-/
import Derived.Test.YtggfllbaomfjhaaDoorBookE
namespace Go.Proofs.YtggfllbaomfjhaaDoor
open Go.RowKit
set_option linter.unusedSimpArgs false
set_option linter.unusedVariables false

/-- Each list of vs is read as its marks. -/
def Marked (w : World) (vs : List Value) : Prop := ∀ (i : Nat) (v : Value), vs[i]? = some v → ∃ A n c, v = .slice A n c ∧ n ≤ 1000000 ∧ RowOf w A c (strs (marks i 0 n))
theorem Marked.below {w w' : World} {vs : List Value} (h : Marked w vs) (hb : Below w.heap.size w w') : Marked w' vs := fun i v hv => by
  obtain ⟨A, n, c, e, hn, hr⟩ := h i v hv
  exact ⟨A, n, c, e, hn, hr.below hb⟩

/-- What is held while a list is looked at: a cell, and that nothing below has turned. -/
def HeldC (w : World) (p : Addr) (u : Value) (W : World) : Prop := W.cell? p = some u ∧ Below w.heap.size w W

theorem mark_at (w : World) (p : Addr) (u : Value) (hp : p.block < w.heap.size) (i : Int) (n : Nat) (hi : 0 ≤ i) (hi2 : i ≤ 100000) (hn : n ≤ 1000000) (W : World) (h : W.cell? p = some u ∧ Below w.heap.size w W) :
    Calls Tryd.prog 66 #[.int .i64 i, .int .i64 0, .int .i64 n] W fun e w' => ∃ A2 c2, e = .returned (.slice A2 n c2) ∧ (w'.cell? p = some u ∧ Below w.heap.size w w') ∧ RowOf w' A2 c2 (strs (marks i 0 n)) := by
  refine (markTexts_any i 0 n W hi hi2 (by omega) hn).mono ?_
  rintro e w' ⟨v, rfl, hown, hb⟩
  obtain ⟨A2, c2, rfl, hr, _⟩ := RowOf.own hown
  exact ⟨A2, c2, rfl, ⟨(hb.cell (p := p) (Nat.lt_of_lt_of_le hp h.2.size)).trans h.1, h.2.then hb⟩, hr⟩

theorem same_at (w : World) (p : Addr) (u : Value) (A1 : Option Addr) (c1 : Nat) (ls : List (List UInt8)) (n : Nat) (hl : ls.length = n) (hr1 : RowOf w A1 c1 (strs ls)) (A2 : Option Addr) (c2 : Nat) (W : World) (h : W.cell? p = some u ∧ Below w.heap.size w W)
    (hr2 : RowOf W A2 c2 (strs ls)) :
    Calls Tryd.prog 16 #[.slice A1 n c1, .slice A2 n c2] W fun e w' => e = .returned (.bool true) ∧ (w'.cell? p = some u ∧ Below w.heap.size w w') := by
  subst hl
  refine (same_any A1 A2 c1 c2 ls ls W (hr1.below h.2) hr2).mono ?_
  rintro e w' ⟨rfl, n, rfl⟩
  exact ⟨by rw [decide_eq_true (rfl : ls = ls)], h.1, below_drewN' h.2 n⟩

def MarkedRel (m : Nat) (w : World) (i : Value) (wr : World) : Prop := ∃ k : Nat, i = .int .i64 k ∧ k ≤ m ∧ Below w.heap.size w wr

set_option maxHeartbeats 2000000 in
theorem markedTexts_any (A : Option Addr) (cap : Nat) (vs : List Value) (w : World) (hrow : RowOf w A cap vs) (hm : Marked w vs) (hl : vs.length ≤ 1000) :
    Calls Tryd.prog 47 #[.slice A vs.length cap] w fun e w' => e = .returned (.bool true) ∧ Below w.heap.size w w' := by
  have hc1 := hrow.1
  have hc2 := hrow.2.1
  unfold maxLen at hc2
  have HM := Lib.hid hm
  clear hm
  go_enter Tryd.func47, Tryd.ntmps47
  go_wp2_with fail
  go_loopw [3] (fun i wr => MarkedRel vs.length w i wr) (fun i _ => vs.length - (intOf i).toNat)
  case atStart => exact ⟨0, rfl, Nat.zero_le _, Below.refl _ _⟩
  case round =>
    obtain ⟨k, rfl, hk, hbw⟩ := hrel
    by_cases hp : k < vs.length
    · have hne : vs ≠ [] := by intro e; rw [e] at hp; simp at hp
      obtain ⟨g, off, rfl, hg, hc⟩ := hrow.at hne
      have hck := (hbw.cell (p := ⟨g, off + k, none⟩) hg).trans (hc k hp)
      obtain ⟨A1, n, c1, e1, hn, hr⟩ := HM.out k vs[k] (List.getElem?_eq_getElem hp)
      rw [e1] at hck
      have hgw : (⟨g, off + k, none⟩ : Addr).block < wr.heap.size := Nat.lt_of_lt_of_le hg hbw.size
      have ca := mark_at wr ⟨g, off + k, none⟩ (.slice A1 n c1) hgw k n (by omega) (by omega) hn
      have cb := fun A2 c2 => same_at wr ⟨g, off + k, none⟩ (.slice A1 n c1) A1 c1 (marks k 0 n) n (marks_length _ _ _) (hr.below hbw) A2 c2
      have CA := Lib.hid ca
      have CB := Lib.hid cb
      have hS : wr.drew.cell? ⟨g, off + k, none⟩ = some (.slice A1 n c1) ∧ Below wr.heap.size wr wr.drew := ⟨hck, (Below.refl _ _).drew⟩
      have hgk : g < wr.heap.size := hgw
      clear ca cb hc hr hne
      go_wp2_with fail
      go_region_held3 (fun W => W.cell? ⟨g, off + k, none⟩ = some (.slice A1 n c1) ∧ Below wr.heap.size wr W) (assumption) (first | (go_at_call 66; (with_reducible refine (CA.out _ (by assumption)).mono ?_); rintro e w5 ⟨A2, c2, rfl, hS5, hr5⟩) | (go_at_call 16; (with_reducible refine (CB.out _ _ _ (by assumption) (by assumption)).mono ?_); rintro e w6 ⟨rfl, hS6⟩))
      go_wp2
      go_roundw
      case rel => exact ⟨k + 1, by go_num, by omega, hbw.then hS6.2⟩
      case measure => simp [intOf]; omega
    · go_wp2
      go_ret
      exact ⟨rfl, hbw⟩

end Go.Proofs.YtggfllbaomfjhaaDoor
