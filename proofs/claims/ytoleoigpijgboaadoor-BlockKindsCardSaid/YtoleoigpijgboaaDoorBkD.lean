/-
  BlockKinds: each kind of line by itself is one block of its kind: the law's walk.
-/
import Derived.Test.YtoleoigpijgboaaDoorBkA
namespace Go.Proofs.YtoleoigpijgboaaDoor
open Go.RowKit
set_option linter.unusedSimpArgs false
set_option linter.unusedVariables false
set_option maxRecDepth 100000

def kLs : List (List UInt8) := [[97], [35, 32, 97], [62, 32, 97], [45, 32, 97], [32, 32, 32, 32, 97], [45, 45, 45], [60, 98, 62], [126, 126, 126], [49, 41, 32, 97], [91, 120, 93, 58, 32, 47, 117]]
def kNs : List Int := [1, 1, 2, 3, 1, 1, 1, 1, 3, 1]
def kKs : List Int := [1, 2, 3, 4, 6, 7, 8, 6, 4, 1]
theorem kinds_all : ∀ j, j < 10 → ((parseB [kLs.getD j []]).length : Int) = kNs.getD j 0 ∧ ((parseB [kLs.getD j []])[0]?).map (fun b => (b.kind, b.depth)) = some (kKs.getD j 0, 0) ∧ (kLs.getD j []).length ≤ 10 := by decide +kernel
theorem kinds_bd (a : Int) : -10 < a.tmod 10 ∧ a.tmod 10 < 10 := by
  rcases Int.le_total 0 a with h | h
  · rw [Int.tmod_eq_emod_of_nonneg h]; omega
  · have e := Int.neg_tmod (a := -a) (b := 10)
    rw [Int.neg_neg, Int.tmod_eq_emod_of_nonneg (a := -a) (by omega)] at e
    omega
theorem kinds_index (a : Int) : ∃ j : Nat, j < 10 ∧ (wrap64 (a.tmod 10 + 10)).tmod 10 = (j : Int) := by
  have hb := kinds_bd a
  have e : wrap64 (a.tmod 10 + 10) = a.tmod 10 + 10 := by unfold wrap64; omega
  rw [e, Int.tmod_eq_emod_of_nonneg (by omega)]
  exact ⟨((a.tmod 10 + 10) % 10).toNat, by omega, by omega⟩
theorem kinds_cells (w : World) : ∀ j, j < 10 → (w.alloc (.cells #[.string ⟨#[97]⟩, .string ⟨#[35, 32, 97]⟩, .string ⟨#[62, 32, 97]⟩, .string ⟨#[45, 32, 97]⟩, .string ⟨#[32, 32, 32, 32, 97]⟩, .string ⟨#[45, 45, 45]⟩, .string ⟨#[60, 98, 62]⟩, .string ⟨#[126, 126, 126]⟩, .string ⟨#[49, 41, 32, 97]⟩, .string ⟨#[91, 120, 93, 58, 32, 47, 117]⟩] 9)).cell? ⟨w.heap.size, j, none⟩ = some (.string ⟨(kLs.getD j []).toArray⟩)
  | 0, _ => by rw [cell_of_row _ _ _ _ _ (0, 0) (heap_alloc_new w _)]; rfl
  | 1, _ => by rw [cell_of_row _ _ _ _ _ (0, 0) (heap_alloc_new w _)]; rfl
  | 2, _ => by rw [cell_of_row _ _ _ _ _ (0, 0) (heap_alloc_new w _)]; rfl
  | 3, _ => by rw [cell_of_row _ _ _ _ _ (0, 0) (heap_alloc_new w _)]; rfl
  | 4, _ => by rw [cell_of_row _ _ _ _ _ (0, 0) (heap_alloc_new w _)]; rfl
  | 5, _ => by rw [cell_of_row _ _ _ _ _ (0, 0) (heap_alloc_new w _)]; rfl
  | 6, _ => by rw [cell_of_row _ _ _ _ _ (0, 0) (heap_alloc_new w _)]; rfl
  | 7, _ => by rw [cell_of_row _ _ _ _ _ (0, 0) (heap_alloc_new w _)]; rfl
  | 8, _ => by rw [cell_of_row _ _ _ _ _ (0, 0) (heap_alloc_new w _)]; rfl
  | 9, _ => by rw [cell_of_row _ _ _ _ _ (0, 0) (heap_alloc_new w _)]; rfl
  | n + 10, h => by omega
theorem kinds_ns (w : World) : ∀ j, j < 10 → (w.alloc (.cells #[.int .i64 1, .int .i64 1, .int .i64 2, .int .i64 3, .int .i64 1, .int .i64 1, .int .i64 1, .int .i64 1, .int .i64 3, .int .i64 1] 3)).cell? ⟨w.heap.size, j, none⟩ = some (.int .i64 (kNs.getD j 0))
  | 0, _ => by rw [cell_of_row _ _ _ _ _ (0, 0) (heap_alloc_new w _)]; rfl
  | 1, _ => by rw [cell_of_row _ _ _ _ _ (0, 0) (heap_alloc_new w _)]; rfl
  | 2, _ => by rw [cell_of_row _ _ _ _ _ (0, 0) (heap_alloc_new w _)]; rfl
  | 3, _ => by rw [cell_of_row _ _ _ _ _ (0, 0) (heap_alloc_new w _)]; rfl
  | 4, _ => by rw [cell_of_row _ _ _ _ _ (0, 0) (heap_alloc_new w _)]; rfl
  | 5, _ => by rw [cell_of_row _ _ _ _ _ (0, 0) (heap_alloc_new w _)]; rfl
  | 6, _ => by rw [cell_of_row _ _ _ _ _ (0, 0) (heap_alloc_new w _)]; rfl
  | 7, _ => by rw [cell_of_row _ _ _ _ _ (0, 0) (heap_alloc_new w _)]; rfl
  | 8, _ => by rw [cell_of_row _ _ _ _ _ (0, 0) (heap_alloc_new w _)]; rfl
  | 9, _ => by rw [cell_of_row _ _ _ _ _ (0, 0) (heap_alloc_new w _)]; rfl
  | n + 10, h => by omega
theorem kinds_ks (w : World) : ∀ j, j < 10 → (w.alloc (.cells #[.int .i64 1, .int .i64 2, .int .i64 3, .int .i64 4, .int .i64 6, .int .i64 7, .int .i64 8, .int .i64 6, .int .i64 4, .int .i64 1] 3)).cell? ⟨w.heap.size, j, none⟩ = some (.int .i64 (kKs.getD j 0))
  | 0, _ => by rw [cell_of_row _ _ _ _ _ (0, 0) (heap_alloc_new w _)]; rfl
  | 1, _ => by rw [cell_of_row _ _ _ _ _ (0, 0) (heap_alloc_new w _)]; rfl
  | 2, _ => by rw [cell_of_row _ _ _ _ _ (0, 0) (heap_alloc_new w _)]; rfl
  | 3, _ => by rw [cell_of_row _ _ _ _ _ (0, 0) (heap_alloc_new w _)]; rfl
  | 4, _ => by rw [cell_of_row _ _ _ _ _ (0, 0) (heap_alloc_new w _)]; rfl
  | 5, _ => by rw [cell_of_row _ _ _ _ _ (0, 0) (heap_alloc_new w _)]; rfl
  | 6, _ => by rw [cell_of_row _ _ _ _ _ (0, 0) (heap_alloc_new w _)]; rfl
  | 7, _ => by rw [cell_of_row _ _ _ _ _ (0, 0) (heap_alloc_new w _)]; rfl
  | 8, _ => by rw [cell_of_row _ _ _ _ _ (0, 0) (heap_alloc_new w _)]; rfl
  | 9, _ => by rw [cell_of_row _ _ _ _ _ (0, 0) (heap_alloc_new w _)]; rfl
  | n + 10, h => by omega

theorem strs_text' {U : ByteArray} {l : List UInt8} (h : U.data.toList = l) : strs [l] = [.string U] := by rw [strs_one, ← h]

set_option maxHeartbeats 8000000 in
theorem blockKinds_walk (w : World) (a0 : Int) (w0 : (Lit.int .i64 a0).wf = true) :
    Calls Tryd.prog 11 #[.int .i64 a0] w fun e w' => e = .returned (.bool true) ∧ Below w.heap.size w w' := by
  obtain ⟨j, hj, hix⟩ := kinds_index a0
  obtain ⟨hL, hG, hS⟩ := kinds_all j hj
  have HL := Lib.hid hL
  have HG := Lib.hid hG
  have HIX := Lib.hid hix
  clear hL hG hix
  go_enter Tryd.func11, Tryd.ntmps11
  go_wp2_with fail
  refine (alive9_any _).mono ?_
  rintro e w1 ⟨rfl, b1⟩
  have HB1 := Lib.hid b1
  clear b1
  have qA : Below w1.heap.size w1 (w1.alloc (.cells #[.string ⟨#[97]⟩, .string ⟨#[35, 32, 97]⟩, .string ⟨#[62, 32, 97]⟩, .string ⟨#[45, 32, 97]⟩, .string ⟨#[32, 32, 32, 32, 97]⟩, .string ⟨#[45, 45, 45]⟩, .string ⟨#[60, 98, 62]⟩, .string ⟨#[126, 126, 126]⟩, .string ⟨#[49, 41, 32, 97]⟩, .string ⟨#[91, 120, 93, 58, 32, 47, 117]⟩] 9)) := (Below.refl _ w1).alloc (Nat.le_refl _) _
  have xA := kinds_cells w1 j hj
  have sA := alloc_size w1 (.cells #[.string ⟨#[97]⟩, .string ⟨#[35, 32, 97]⟩, .string ⟨#[62, 32, 97]⟩, .string ⟨#[45, 32, 97]⟩, .string ⟨#[32, 32, 32, 32, 97]⟩, .string ⟨#[45, 45, 45]⟩, .string ⟨#[60, 98, 62]⟩, .string ⟨#[126, 126, 126]⟩, .string ⟨#[49, 41, 32, 97]⟩, .string ⟨#[91, 120, 93, 58, 32, 47, 117]⟩] 9)
  generalize hwA : w1.alloc (.cells #[.string ⟨#[97]⟩, .string ⟨#[35, 32, 97]⟩, .string ⟨#[62, 32, 97]⟩, .string ⟨#[45, 32, 97]⟩, .string ⟨#[32, 32, 32, 32, 97]⟩, .string ⟨#[45, 45, 45]⟩, .string ⟨#[60, 98, 62]⟩, .string ⟨#[126, 126, 126]⟩, .string ⟨#[49, 41, 32, 97]⟩, .string ⟨#[91, 120, 93, 58, 32, 47, 117]⟩] 9) = wA at *
  have qB : Below wA.heap.size wA (wA.alloc (.cells #[.int .i64 1, .int .i64 1, .int .i64 2, .int .i64 3, .int .i64 1, .int .i64 1, .int .i64 1, .int .i64 1, .int .i64 3, .int .i64 1] 3)) := (Below.refl _ wA).alloc (Nat.le_refl _) _
  have xB := kinds_ns wA j hj
  have sB := alloc_size wA (.cells #[.int .i64 1, .int .i64 1, .int .i64 2, .int .i64 3, .int .i64 1, .int .i64 1, .int .i64 1, .int .i64 1, .int .i64 3, .int .i64 1] 3)
  generalize hwB : wA.alloc (.cells #[.int .i64 1, .int .i64 1, .int .i64 2, .int .i64 3, .int .i64 1, .int .i64 1, .int .i64 1, .int .i64 1, .int .i64 3, .int .i64 1] 3) = wB at *
  have qC : Below wB.heap.size wB (wB.alloc (.cells #[.int .i64 1, .int .i64 2, .int .i64 3, .int .i64 4, .int .i64 6, .int .i64 7, .int .i64 8, .int .i64 6, .int .i64 4, .int .i64 1] 3)) := (Below.refl _ wB).alloc (Nat.le_refl _) _
  have xC := kinds_ks wB j hj
  have sC := alloc_size wB (.cells #[.int .i64 1, .int .i64 2, .int .i64 3, .int .i64 4, .int .i64 6, .int .i64 7, .int .i64 8, .int .i64 6, .int .i64 4, .int .i64 1] 3)
  generalize hwC : wB.alloc (.cells #[.int .i64 1, .int .i64 2, .int .i64 3, .int .i64 4, .int .i64 6, .int .i64 7, .int .i64 8, .int .i64 6, .int .i64 4, .int .i64 1] 3) = wC at *
  have xAC := (qC.cell (p := ⟨w1.heap.size, j, none⟩) (by show w1.heap.size < _; omega)).trans ((qB.cell (p := ⟨w1.heap.size, j, none⟩) (by show w1.heap.size < _; omega)).trans xA)
  have xBC := (qC.cell (p := ⟨wA.heap.size, j, none⟩) (by show wA.heap.size < _; omega)).trans xB
  generalize hx : kLs.getD j [] = x at *
  obtain ⟨X, hX1, hX⟩ := text_of' x
  rw [hX1] at xAC
  have hrow := rowOf_lit wC 9 [.string X] (by unfold maxLen; simp)
  rw [← strs_text' hX] at hrow
  have hfew : Few [x] := ⟨by simp, fun y hy => by
    simp at hy
    subst hy
    have h3 := wt_le y
    omega⟩
  have cp := bparse_any (some ⟨wC.heap.size, 0, none⟩) 1 [x] _ hrow hfew
  rw [strs_text' hX] at cp
  have hba : Below wC.heap.size wC (wC.alloc (.cells #[.string X] 9)) := (Below.refl _ wC).alloc (Nat.le_refl _) _
  have HBA := Lib.hid (((HB1.out.then qA).then qB).then (qC.then hba))
  have hbaH := Lib.hid hba
  have xB2 := Lib.hid xBC
  have xC2 := Lib.hid xC
  have hix := HIX.out
  have sizes : wC.heap.size = w1.heap.size + 3 := by omega
  have hsz1 : wB.heap.size = w1.heap.size + 1 + 1 := by omega
  have sBA : wA.heap.size = w1.heap.size + 1 := sA
  have SZ := Lib.hid (And.intro sizes (And.intro hsz1 sBA))
  clear hrow hfew hba qA qB qC xA xB xBC xC sizes hsz1 sBA sA sB sC
  have hn2 := HL.out
  have hg2 := HG.out
  go_wp2_with fail
  refine cp.mono ?_
  rintro e w2 ⟨v2, rfl, hown, b2⟩
  obtain ⟨A2, c2, rfl, hat⟩ := BlksAt.own hown
  generalize parseB [x] = bs at *
  have hpos : 0 < bs.length := by
    cases bs with
    | nil => simp at hg2
    | cons a t => simp
  obtain ⟨b9, off, hA, hb9, hc0, hc1, hc2, hc3, hc4, hc5⟩ := hat.at hpos
  rw [List.getElem?_eq_getElem hpos] at hg2
  simp only [Option.map_some, Option.some.injEq, Prod.mk.injEq] at hg2
  rw [hg2.1] at hc0
  rw [hg2.2] at hc1
  have hle := hat.le
  have hcm := hat.cap
  unfold maxLen at hcm
  obtain ⟨z1, z2, z3⟩ := SZ.out
  have b2C := hbaH.out.then b2
  have xB3 := (b2C.cell (p := ⟨wA.heap.size, j, none⟩) (by show wA.heap.size < _; omega)).trans xB2.out
  have xC3 := (b2C.cell (p := ⟨wB.heap.size, j, none⟩) (by show wB.heap.size < _; omega)).trans xC2.out
  rw [← hn2] at xB3
  generalize kKs.getD j 0 = kk at *
  have HB2 := Lib.hid (HBA.out.then b2)
  subst hA
  simp only [Nat.zero_mul, Nat.add_zero] at hc0 hc1
  have hjI : (j : Int) < 10 := by omega
  clear hc2 hc3 hc4 hc5 hg2 hn2 hown b2 b2C cp hat z1 z2 z3 xAC
  go_wp2_with fail
  go_quiet (fail)
  go_wp2
  go_ret
  exact ⟨ret_bool (by simp), below_drewN' HB2.out _⟩

end Go.Proofs.YtoleoigpijgboaaDoor
