/-
  The laws of package policy: alive, their first call.
-/
import Derived.Test.YtobmmbhmaaednaaPolH
import Derived.KernelRfl
namespace Go.Proofs.Ytobmmbhmaaednaa
open Go.RowKit
set_option linter.unusedSimpArgs false
set_option linter.unusedVariables false

def stA : St := ([[108, 111, 119], [104, 105, 103, 104]], [(0, 1)])
theorem alive_parse : parseS [108, 101, 118, 101, 108, 32, 108, 111, 119, 10, 35, 32, 97, 108, 108, 10, 108, 101, 118, 101, 108, 32, 104, 105, 103, 104, 10, 108, 111, 119, 32, 60, 32, 104, 105, 103, 104, 10] = some stA := by decide +kernel
theorem alive_right : rightL stA = true := by decide +kernel
theorem alive_write : writeS stA = [108, 101, 118, 101, 108, 32, 108, 111, 119, 10, 108, 101, 118, 101, 108, 32, 104, 105, 103, 104, 10, 108, 111, 119, 32, 60, 32, 104, 105, 103, 104, 10] := by decide +kernel
theorem alive_index : idxL stA.1 [104, 105, 103, 104] = 1 := by decide +kernel

set_option maxHeartbeats 2000000 in
theorem alive4_any (w : World) (hml : MaxL w) :
    Calls Try.prog 8 #[] w fun e w' => e = .returned (.bool true) ∧ Below w.heap.size w w' := by
  have cp := fun w1 hm => parse_any ⟨#[108, 101, 118, 101, 108, 32, 108, 111, 119, 10, 35, 32, 97, 108, 108, 10, 108, 101, 118, 101, 108, 32, 104, 105, 103, 104, 10, 108, 111, 119, 32, 60, 32, 104, 105, 103, 104, 10]⟩ w1 (by decide) hm
  rw [show (⟨#[108, 101, 118, 101, 108, 32, 108, 111, 119, 10, 35, 32, 97, 108, 108, 10, 108, 101, 118, 101, 108, 32, 104, 105, 103, 104, 10, 108, 111, 119, 32, 60, 32, 104, 105, 103, 104, 10]⟩ : ByteArray).data.toList = [108, 101, 118, 101, 108, 32, 108, 111, 119, 10, 35, 32, 97, 108, 108, 10, 108, 101, 118, 101, 108, 32, 104, 105, 103, 104, 10, 108, 111, 119, 32, 60, 32, 104, 105, 103, 104, 10] from rfl, alive_parse] at cp
  have cw := fun A ca B cb w1 h1 h2 => write_any A ca B cb stA w1 h1 h2 (by decide) (by decide)
  rw [alive_write, alive_right] at cw
  have cw2 : ∀ (A : Option Addr) (ca : Nat) (B : Option Addr) (cb : Nat) (w1 : World), RowOf w1 A ca (strs stA.1) → PairsAt w1 B cb stA.2 → Calls Try.prog 9 #[.agg #[.slice A 2 ca, .slice B 1 cb]] w1 fun e w' =>
      e = .returned (.tuple #[.string ⟨#[108, 101, 118, 101, 108, 32, 108, 111, 119, 10, 108, 101, 118, 101, 108, 32, 104, 105, 103, 104, 10, 108, 111, 119, 32, 60, 32, 104, 105, 103, 104, 10]⟩, .bool true]) ∧ Below w1.heap.size w1 w' := cw
  have ci := fun A ca V w1 h1 => index_any A ca V stA.1 ⟨#[104, 105, 103, 104]⟩ w1 h1
  rw [show (⟨#[104, 105, 103, 104]⟩ : ByteArray).data.toList = [104, 105, 103, 104] from rfl, alive_index] at ci
  have ci2 : ∀ (A : Option Addr) (ca : Nat) (V : Value) (w1 : World), RowOf w1 A ca (strs stA.1) → Calls Try.prog 13 #[.agg #[.slice A 2 ca, V], .string ⟨#[104, 105, 103, 104]⟩] w1 fun e w' => e = .returned (.int .i64 1) ∧ Below w1.heap.size w1 w' := ci
  have heq : ∀ W : World, (Op.equalIn 10000 41 (.agg #[.int .i64 0, .int .i64 1]) (.agg #[.int .i64 0, .int .i64 1])).run Try.prog W = .ok true W := fun W => run_equal_pair W 0 1 0 1
  clear cw ci
  go_enter Try.func8, Try.ntmps8
  go_wp2_with fail
  refine (cp _ hml).mono ?_
  rintro e w1 ⟨b1, nv, bv, rfl, hn, hb⟩
  obtain ⟨A, ca, rfl, hrow, _⟩ := RowOf.own hn
  obtain ⟨B, cb, rfl, hpr⟩ := PairsAt.own hb
  rw [show stA.1.length = 2 from rfl, show stA.2.length = 1 from rfl]
  have hc1 := hpr.1
  have hc2 := hpr.2.1
  rw [show stA.2.length = 1 from rfl] at hc1
  unfold maxLen at hc2
  obtain ⟨g, off, rfl, hg, hcell, hcell'⟩ := hpr.at (k := 0) (by decide)
  rw [show stA.2[0] = ((0 : Int), (1 : Int)) from rfl, Nat.zero_mul, Nat.add_zero] at hcell
  rw [show stA.2[0] = ((0 : Int), (1 : Int)) from rfl, Nat.zero_mul, Nat.add_zero] at hcell'
  simp only at hcell hcell'
  have CI := Lib.hid ci2
  clear hn hb ci2 cp
  go_wp2_with fail
  refine (cw2 A ca (some ⟨g, off, none⟩) cb _ (hrow.alloc _) (hpr.alloc _)).mono ?_
  rintro e w2 ⟨rfl, b2⟩
  have hbx := box_cell w1 (.slice A 2 ca) (.slice (some ⟨g, off, none⟩) 1 cb) 25
  have hx0 := (b2.cell (p := ⟨w1.heap.size, 0, none⟩) (World.block_lt_of_cell? _ _ hbx.1)).trans hbx.1
  have hx1 := (b2.cell (p := ⟨w1.heap.size, 1, none⟩) (World.block_lt_of_cell? _ _ hbx.2)).trans hbx.2
  have b12 : Below w1.heap.size w1 w2 := ((Below.refl _ w1).alloc (Nat.le_refl _) _).then b2
  have hy0 := (b12.cell (p := ⟨g, off, none⟩) hg).trans hcell
  have hy1 := (b12.cell (p := ⟨g, off + 1, none⟩) hg).trans hcell'
  have hrow2 := hrow.below b12
  have hbb := b1.then b12
  clear b1 b12 hbx hcell hcell' cw2 hrow b2
  go_wp2_with fail
  refine (CI.out A ca _ w2 hrow2).mono ?_
  rintro e w3 ⟨rfl, b3⟩
  go_wp2
  go_ret
  exact ⟨rfl, hbb.then b3⟩

end Go.Proofs.Ytobmmbhmaaednaa
