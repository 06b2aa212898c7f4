/-
  PolicyBad: a level twice, a pair of what is not declared, one of itself, another word: no policy: the law's walk.
-/
import Derived.Test.YtobmmbhmaaednaaPolI
namespace Go.Proofs.Ytobmmbhmaaednaa
open Go.RowKit
set_option linter.unusedSimpArgs false
set_option linter.unusedVariables false

def bads : List (List UInt8) := [[], [35, 32, 110, 111, 116, 104, 105, 110, 103, 10], [108, 101, 118, 101, 108, 32, 97, 10, 108, 101, 118, 101, 108, 32, 97, 10], [108, 101, 118, 101, 108, 32, 97, 10, 97, 32, 60, 32, 98, 10], [108, 101, 118, 101, 108, 32, 97, 10, 97, 32, 60, 32, 97, 10], [108, 101, 118, 101, 108, 32, 65, 10], [108, 101, 118, 101, 108, 32, 97, 32, 98, 10], [108, 101, 118, 101, 108, 32, 32, 97, 10], [32, 108, 101, 118, 101, 108, 32, 97, 10], [108, 101, 118, 101, 108, 32, 97, 10, 97, 60, 97, 10], [108, 101, 118, 101, 108, 32, 97, 10, 108, 101, 118, 101, 108, 32, 98, 10, 97, 32, 62, 32, 98, 10], [108, 101, 118, 101, 108, 32, 97, 10, 108, 101, 118, 101, 108, 32, 98, 10, 97, 32, 60, 32, 98, 32, 10], [97, 32, 60, 32, 98, 10, 108, 101, 118, 101, 108, 32, 97, 10, 108, 101, 118, 101, 108, 32, 98, 10], [108, 101, 118, 101, 108, 32, 97, 98, 99, 100, 101, 102, 103, 104, 105, 106, 107, 108, 109, 110, 111, 112, 113, 114, 115, 116, 117, 10]]
def badAt (j : Nat) : List UInt8 := bads.getD j []
theorem bads_all : ((List.range 14).all fun j => (parseS (badAt j)).isNone && decide ((badAt j).length ≤ 100)) = true := by decide +kernel
theorem bads_none (j : Nat) (h : j < 14) : parseS (badAt j) = none ∧ (badAt j).length ≤ 100 := by
  have := List.all_eq_true.1 bads_all j (List.mem_range.2 h)
  simpa using this
theorem bad_bd (a : Int) : -13 ≤ a.tmod 14 ∧ a.tmod 14 ≤ 13 := by
  have h1 := Int.tmod_lt_of_pos a (show (0 : Int) < 14 by omega)
  have h2 := Int.lt_tmod_of_pos a (show (0 : Int) < 14 by omega)
  omega
theorem bad_index (a : Int) : ∃ j : Nat, j < 14 ∧ (wrap64 (a.tmod 14 + 14)).tmod 14 = (j : Int) := by
  have hb := bad_bd a
  have e : wrap64 (a.tmod 14 + 14) = a.tmod 14 + 14 := by unfold wrap64; omega
  rw [e, Int.tmod_eq_emod_of_nonneg (by omega)]
  exact ⟨((a.tmod 14 + 14) % 14).toNat, by omega, by omega⟩
theorem bad_cell (w : World) (j : Nat) (h : j < 14) : (w.alloc (.cells #[.string ⟨#[]⟩, .string ⟨#[35, 32, 110, 111, 116, 104, 105, 110, 103, 10]⟩, .string ⟨#[108, 101, 118, 101, 108, 32, 97, 10, 108, 101, 118, 101, 108, 32, 97, 10]⟩, .string ⟨#[108, 101, 118, 101, 108, 32, 97, 10, 97, 32, 60, 32, 98, 10]⟩, .string ⟨#[108, 101, 118, 101, 108, 32, 97, 10, 97, 32, 60, 32, 97, 10]⟩, .string ⟨#[108, 101, 118, 101, 108, 32, 65, 10]⟩, .string ⟨#[108, 101, 118, 101, 108, 32, 97, 32, 98, 10]⟩, .string ⟨#[108, 101, 118, 101, 108, 32, 32, 97, 10]⟩, .string ⟨#[32, 108, 101, 118, 101, 108, 32, 97, 10]⟩, .string ⟨#[108, 101, 118, 101, 108, 32, 97, 10, 97, 60, 97, 10]⟩, .string ⟨#[108, 101, 118, 101, 108, 32, 97, 10, 108, 101, 118, 101, 108, 32, 98, 10, 97, 32, 62, 32, 98, 10]⟩, .string ⟨#[108, 101, 118, 101, 108, 32, 97, 10, 108, 101, 118, 101, 108, 32, 98, 10, 97, 32, 60, 32, 98, 32, 10]⟩, .string ⟨#[97, 32, 60, 32, 98, 10, 108, 101, 118, 101, 108, 32, 97, 10, 108, 101, 118, 101, 108, 32, 98, 10]⟩, .string ⟨#[108, 101, 118, 101, 108, 32, 97, 98, 99, 100, 101, 102, 103, 104, 105, 106, 107, 108, 109, 110, 111, 112, 113, 114, 115, 116, 117, 10]⟩] 9)).cell? ⟨w.heap.size, j, none⟩ = some (.string ⟨(badAt j).toArray⟩) := by
  show (w.alloc (.cells (strs bads).toArray 9)).cell? ⟨w.heap.size, j, none⟩ = _
  rw [cell_of_row _ _ j (strs bads).toArray 9 (0, 0) (heap_alloc_new w _)]
  have hb : j < bads.length := h
  have e : badAt j = bads[j] := by unfold badAt; rw [List.getD_eq_getElem?_getD, List.getElem?_eq_getElem hb]; rfl
  have hb2 : j < (strs bads).length := by rw [strs_length]; exact hb
  rw [e, ← strs_get bads j hb2, List.getElem?_toArray, List.getElem?_eq_getElem hb2]

set_option maxHeartbeats 2000000 in
set_option maxRecDepth 100000 in
theorem policyBad_walk (w : World) (hml : MaxL w) (a0 : Int) (w0 : (Lit.int .i64 a0).wf = true) :
    Calls Try.prog 4 #[.int .i64 a0] w fun e w' => e = .returned (.bool true) ∧ Below w.heap.size w w' := by
  have hw0 : -9223372036854775808 ≤ a0 ∧ a0 ≤ 9223372036854775807 := by simpa [Lit.wf, IntKind.min, IntKind.max, IntKind.signed, IntKind.bits] using w0
  obtain ⟨k0, k1⟩ := hw0
  obtain ⟨j, hj, hx⟩ := bad_index a0
  obtain ⟨hn, hl⟩ := bads_none j hj
  have cp := fun w1 hm => parse_any ⟨(badAt j).toArray⟩ w1 (by rw [str_size]; omega) hm
  rw [show (⟨(badAt j).toArray⟩ : ByteArray).data.toList = badAt j from rfl, hn] at cp
  have HX := Lib.hid hx
  have HC := Lib.hid (fun w1 => bad_cell w1 j hj)
  clear hx hn hl w0
  go_enter Try.func4, Try.ntmps4
  go_wp2_with fail
  refine (alive4_any _ hml).mono ?_
  rintro e w1 ⟨rfl, b1⟩
  have hcell := HC.out w1
  have hx := HX.out
  have hm1 := (hml.below b1).below ((Below.refl _ w1).alloc (Nat.le_refl _) (.cells #[.string ⟨#[]⟩, .string ⟨#[35, 32, 110, 111, 116, 104, 105, 110, 103, 10]⟩, .string ⟨#[108, 101, 118, 101, 108, 32, 97, 10, 108, 101, 118, 101, 108, 32, 97, 10]⟩, .string ⟨#[108, 101, 118, 101, 108, 32, 97, 10, 97, 32, 60, 32, 98, 10]⟩, .string ⟨#[108, 101, 118, 101, 108, 32, 97, 10, 97, 32, 60, 32, 97, 10]⟩, .string ⟨#[108, 101, 118, 101, 108, 32, 65, 10]⟩, .string ⟨#[108, 101, 118, 101, 108, 32, 97, 32, 98, 10]⟩, .string ⟨#[108, 101, 118, 101, 108, 32, 32, 97, 10]⟩, .string ⟨#[32, 108, 101, 118, 101, 108, 32, 97, 10]⟩, .string ⟨#[108, 101, 118, 101, 108, 32, 97, 10, 97, 60, 97, 10]⟩, .string ⟨#[108, 101, 118, 101, 108, 32, 97, 10, 108, 101, 118, 101, 108, 32, 98, 10, 97, 32, 62, 32, 98, 10]⟩, .string ⟨#[108, 101, 118, 101, 108, 32, 97, 10, 108, 101, 118, 101, 108, 32, 98, 10, 97, 32, 60, 32, 98, 32, 10]⟩, .string ⟨#[97, 32, 60, 32, 98, 10, 108, 101, 118, 101, 108, 32, 97, 10, 108, 101, 118, 101, 108, 32, 98, 10]⟩, .string ⟨#[108, 101, 118, 101, 108, 32, 97, 98, 99, 100, 101, 102, 103, 104, 105, 106, 107, 108, 109, 110, 111, 112, 113, 114, 115, 116, 117, 10]⟩] 9))
  generalize badAt j = X at *
  go_wp2_with fail
  clear hx hcell
  refine (cp _ hm1).mono ?_
  rintro e w3 ⟨b3, rfl⟩
  go_wp2
  go_ret
  exact ⟨rfl, ((b1.then ((Below.refl _ w1).alloc (Nat.le_refl _) _)).then b3).then ((Below.refl _ _).alloc (Nat.le_refl _) _)⟩

end Go.Proofs.Ytobmmbhmaaednaa
