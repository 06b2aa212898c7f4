/-
  VeilTwice: what was emptied stays so; who sees all empties nothing; who sees less empties more; the law's walk.
-/
import Derived.Test.YtneiheifjgffaaaGreatDoorVlaD
namespace Go.Proofs.YtneiheifjgffaaaGreatDoor
open Go.RowKit
set_option linter.unusedSimpArgs false
set_option linter.unusedVariables false
set_option maxRecDepth 100000

set_option maxHeartbeats 8000000 in
theorem veilTwice_walk (w : World) (h7 : W7 w) (a0 : ByteArray) (w0 : a0.size ≤ maxLen) (a1 : Int) (w1 : (Lit.int .i64 a1).wf = true) (a2 : Int) (w2 : (Lit.int .i64 a2).wf = true) :
    Calls Tryz.prog 4 #[.string a0, .int .i64 a1, .int .i64 a2] w fun e w' => e = .returned (.bool true) ∧ Below w.heap.size w w' := by
  have ca := alive7_any w h7
  by_cases hbig : 1000 < a0.size
  · go_enter Tryz.func4, Tryz.ntmps4
    go_wp2_with fail
    refine ca.mono ?_
    rintro e w1 ⟨rfl, b1⟩
    go_wp2
    go_ret
    exact ⟨rfl, b1⟩
  have hD : a0.data.toList.length ≤ 1000 := by
    have : a0.data.toList.length = a0.size := by simp
    omega
  have hsz : a0.size ≤ 1000 := by omega
  clear hbig
  obtain ⟨j, hj, hm⟩ := mod4 a1
  obtain ⟨i, hi, hm2⟩ := mod4 a2
  go_enter Tryz.func4, Tryz.ntmps4
  go_wp2_with fail
  refine ca.mono ?_
  rintro e w1 ⟨rfl, b1⟩
  have HB1 := Lib.hid b1
  have HW1 := Lib.hid (h7.below b1)
  clear b1 ca h7
  go_wp2_with fail
  refine (diamond_any _).mono ?_
  rintro e w2 ⟨d1, d2, rfl, hd, b2⟩
  obtain ⟨g, off, rfl, hg, hcell⟩ := dia_cell hd j hj
  have HB2 := Lib.hid (HB1.out.then b2)
  have HW2 := Lib.hid (HW1.out.below b2)
  have hb0 : Below w2.heap.size w2 (w2.alloc (.cells #[.slice (some ⟨g, off, none⟩) 4 4, .slice d2 4 4] 26)) := (Below.refl _ w2).alloc (Nat.le_refl _) _
  have hbx := box_cell w2 (.slice (some ⟨g, off, none⟩) 4 4) (.slice d2 4 4) 26
  have hs0 := alloc_size w2 (.cells #[.slice (some ⟨g, off, none⟩) 4 4, .slice d2 4 4] 26)
  have hc0 := (hb0.cell (p := ⟨g, off + j, none⟩) hg).trans hcell
  have HD3 := Lib.hid (hd.below hb0)
  have HW3 := Lib.hid (HW2.out.below hb0)
  have HB3 := Lib.hid (HB2.out.then hb0)
  clear b2 hd hb0 hcell
  go_wp2_with fail
  generalize w2.alloc (.cells #[.slice (some ⟨g, off, none⟩) 4 4, .slice d2 4 4] 26) = w3 at *
  obtain ⟨hx0, hx1⟩ := hbx
  have hI3 : ((j : Nat) : Int) < 4 := by omega
  have hn3 := World.block_lt_of_cell? _ _ hx0
  have hg3 := World.block_lt_of_cell? _ _ hc0
  have HC := Lib.hid (fun W hW => newD_held (n := w2.heap.size) HW3.out HD3.out hj hn3 hg3 W hW)
  have hS : w3.drew.cell? ⟨w2.heap.size, 0, none⟩ = some (.slice (some ⟨g, off, none⟩) 4 4) ∧ w3.drew.cell? ⟨w2.heap.size, 1, none⟩ = some (.slice d2 4 4) ∧ w3.drew.cell? ⟨g, off + j, none⟩ = some (.string ⟨(dNm j).toArray⟩) ∧ Below w3.heap.size w3 w3.drew := ⟨hx0, hx1, hc0, (Below.refl _ _).drew⟩
  clear hx0 hx1 hc0 hn3 hg3
  refine wp_region_N (fun W => W.cell? ⟨w2.heap.size, 0, none⟩ = some (.slice (some ⟨g, off, none⟩) 4 4) ∧ W.cell? ⟨w2.heap.size, 1, none⟩ = some (.slice d2 4 4) ∧ W.cell? ⟨g, off + j, none⟩ = some (.string ⟨(dNm j).toArray⟩) ∧ Below w3.heap.size w3 W) (fun _ => true) (by kernel_rfl) ?_
  refine wpAnyN_take_at 0 27 (v := ?_) rfl rfl (by kernel_rfl) (by kernel_rfl) (by kernel_rfl) (by kernel_rfl) (by kernel_rfl) (fun _ _ _ h => h) (by rfl) ?_ hS ?_
  rotate_left
  · intro w hSw; (try dsimp only at hSw); obtain ⟨s0, s1, s2, s3⟩ := hSw; go_simp; (try with_reducible rfl)
  simp only [Act.put, List.setIfInBounds_toArray, List.set_cons_zero, List.set_cons_succ]
  refine wpAnyN_take_at 1 28 (v := ?_) rfl rfl (by kernel_rfl) (by kernel_rfl) (by kernel_rfl) (by kernel_rfl) (by kernel_rfl) (fun _ _ _ h => h) (by rfl) ?_ hS ?_
  rotate_left
  · intro w hSw; (try dsimp only at hSw); obtain ⟨s0, s1, s2, s3⟩ := hSw; go_simp; (try with_reducible rfl)
  simp only [Act.put, List.setIfInBounds_toArray, List.set_cons_zero, List.set_cons_succ]
  refine wpAnyN_take_at 2 29 (v := ?_) rfl rfl (by kernel_rfl) (by kernel_rfl) (by kernel_rfl) (by kernel_rfl) (by kernel_rfl) (fun _ _ _ h => h) (by rfl) ?_ hS ?_
  rotate_left
  · intro w hSw; (try dsimp only at hSw); obtain ⟨s0, s1, s2, s3⟩ := hSw; go_simp; (try with_reducible rfl)
  simp only [Act.put, List.setIfInBounds_toArray, List.set_cons_zero, List.set_cons_succ]
  refine wpAnyN_take_at 3 30 (v := ?_) rfl rfl (by kernel_rfl) (by kernel_rfl) (by kernel_rfl) (by kernel_rfl) (by kernel_rfl) (fun _ _ _ h => h) (by rfl) ?_ hS ?_
  rotate_left
  · intro w hSw; (try dsimp only at hSw); obtain ⟨s0, s1, s2, s3⟩ := hSw; go_simp; (try with_reducible rfl)
  simp only [Act.put, List.setIfInBounds_toArray, List.set_cons_zero, List.set_cons_succ]
  refine wpAnyN_take_at 4 31 (v := ?_) rfl rfl (by kernel_rfl) (by kernel_rfl) (by kernel_rfl) (by kernel_rfl) (by kernel_rfl) (fun _ _ _ h => h) (by rfl) ?_ hS ?_
  rotate_left
  · intro w hSw; (try dsimp only at hSw); obtain ⟨s0, s1, s2, s3⟩ := hSw; go_simp; (try with_reducible rfl)
  simp only [Act.put, List.setIfInBounds_toArray, List.set_cons_zero, List.set_cons_succ]
  refine wpAnyN_take_at 5 32 (v := ?_) rfl rfl (by kernel_rfl) (by kernel_rfl) (by kernel_rfl) (by kernel_rfl) (by kernel_rfl) (fun _ _ _ h => h) (by rfl) ?_ hS ?_
  rotate_left
  · intro w hSw; (try dsimp only at hSw); obtain ⟨s0, s1, s2, s3⟩ := hSw; go_simp; (try with_reducible rfl)
  simp only [Act.put, List.setIfInBounds_toArray, List.set_cons_zero, List.set_cons_succ]
  refine wpAnyN_take_at 6 33 (v := .int .i64 ((j : Nat) : Int)) rfl rfl (by kernel_rfl) (by kernel_rfl) (by kernel_rfl) (by kernel_rfl) (by kernel_rfl) (fun _ _ _ h => h) (by rfl) ?_ hS ?_
  · intro w hSw; (try dsimp only at hSw); obtain ⟨s0, s1, s2, s3⟩ := hSw; go_simp; (try rw [hm]); (try with_reducible rfl)
  simp only [Act.put, List.setIfInBounds_toArray, List.set_cons_zero, List.set_cons_succ]
  refine wpAnyN_take_at 7 34 (v := ?_) rfl rfl (by kernel_rfl) (by kernel_rfl) (by kernel_rfl) (by kernel_rfl) (by kernel_rfl) (fun _ _ _ h => h) (by rfl) ?_ hS ?_
  rotate_left
  · intro w hSw; (try dsimp only at hSw); obtain ⟨s0, s1, s2, s3⟩ := hSw; go_simp; (try with_reducible rfl)
  simp only [Act.put, List.setIfInBounds_toArray, List.set_cons_zero, List.set_cons_succ]
  refine wpAnyN_take_at 8 35 (v := ?_) rfl rfl (by kernel_rfl) (by kernel_rfl) (by kernel_rfl) (by kernel_rfl) (by kernel_rfl) (fun _ _ _ h => h) (by rfl) ?_ hS ?_
  rotate_left
  · intro w hSw; (try dsimp only at hSw); obtain ⟨s0, s1, s2, s3⟩ := hSw; go_simp; (try with_reducible rfl)
  simp only [Act.put, List.setIfInBounds_toArray, List.set_cons_zero, List.set_cons_succ]
  refine wpAnyN_one (i := 9) rfl (by kernel_rfl) (fun K hK => ?_)
  go_simp
  refine (HC.out _ hS).mono ?_
  rintro e w5 ⟨b, rfl, hSd, hS5⟩
  refine hK _ _ (fun _ => hS5) ?_
  clear hK hS HC
  have hS := hS5
  refine wpAnyN_take_at 10 26 (v := ?_) rfl rfl (by kernel_rfl) (by kernel_rfl) (by kernel_rfl) (by kernel_rfl) (by kernel_rfl) (fun _ _ _ h => h) (by rfl) ?_ hS ?_
  rotate_left
  · intro w hSw; (try dsimp only at hSw); obtain ⟨s0, s1, s2, s3⟩ := hSw; go_simp; (try with_reducible rfl)
  simp only [Act.put, List.setIfInBounds_toArray, List.set_cons_zero, List.set_cons_succ]
  refine wpAnyN_take_at 11 37 (v := ?_) rfl rfl (by kernel_rfl) (by kernel_rfl) (by kernel_rfl) (by kernel_rfl) (by kernel_rfl) (fun _ _ _ h => h) (by rfl) ?_ hS ?_
  rotate_left
  · intro w hSw; (try dsimp only at hSw); obtain ⟨s0, s1, s2, s3⟩ := hSw; go_simp; (try with_reducible rfl)
  simp only [Act.put, List.setIfInBounds_toArray, List.set_cons_zero, List.set_cons_succ]
  refine wpAnyN_take_at 12 38 (v := ?_) rfl rfl (by kernel_rfl) (by kernel_rfl) (by kernel_rfl) (by kernel_rfl) (by kernel_rfl) (fun _ _ _ h => h) (by rfl) ?_ hS ?_
  rotate_left
  · intro w hSw; (try dsimp only at hSw); obtain ⟨s0, s1, s2, s3⟩ := hSw; go_simp; (try with_reducible rfl)
  simp only [Act.put, List.setIfInBounds_toArray, List.set_cons_zero, List.set_cons_succ]
  refine wpAnyN_take_at 13 8 (v := ?_) rfl rfl (by kernel_rfl) (by kernel_rfl) (by kernel_rfl) (by kernel_rfl) (by kernel_rfl) (fun _ _ _ h => h) (by rfl) ?_ hS ?_
  rotate_left
  · intro w hSw; (try dsimp only at hSw); obtain ⟨s0, s1, s2, s3⟩ := hSw; go_simp; (try with_reducible rfl)
  simp only [Act.put, List.setIfInBounds_toArray, List.set_cons_zero, List.set_cons_succ]
  refine wpAnyN_take_at 14 9 (v := ?_) rfl rfl (by kernel_rfl) (by kernel_rfl) (by kernel_rfl) (by kernel_rfl) (by kernel_rfl) (fun _ _ _ h => h) (by rfl) ?_ hS ?_
  rotate_left
  · intro w hSw; (try dsimp only at hSw); obtain ⟨s0, s1, s2, s3⟩ := hSw; go_simp; (try with_reducible rfl)
  simp only [Act.put, List.setIfInBounds_toArray, List.set_cons_zero, List.set_cons_succ]
  refine wpAnyN_rest 15 [] rfl (by kernel_rfl) (by kernel_rfl) ?_
  have HB5 := Lib.hid (HB3.out.then hS5.2.2.2)
  have HD5 := Lib.hid (HD3.out.below hS5.2.2.2)
  have HW5 := Lib.hid (HW3.out.below hS5.2.2.2)
  have HSb5 := Lib.hid hS5.2.2.2
  obtain ⟨hx0, hx1, _, _⟩ := hS5
  have HSb := Lib.hid hSd
  clear hSd hS hm
  obtain ⟨g2, o2, e2, hg2, hc0⟩ := dia_cell HD5.out i hi
  cases e2
  go_wp2_with fail
  have hI5 : ((i : Nat) : Int) < 4 := by omega
  have hn5 := World.block_lt_of_cell? _ _ hx0
  have hg5 := World.block_lt_of_cell? _ _ hc0
  have HC := Lib.hid (fun W hW => newD_held (n := w2.heap.size) HW5.out HD5.out hi hn5 hg5 W hW)
  have hS : w5.drew.cell? ⟨w2.heap.size, 0, none⟩ = some (.slice (some ⟨g, off, none⟩) 4 4) ∧ w5.drew.cell? ⟨w2.heap.size, 1, none⟩ = some (.slice d2 4 4) ∧ w5.drew.cell? ⟨g, off + i, none⟩ = some (.string ⟨(dNm i).toArray⟩) ∧ Below w5.heap.size w5 w5.drew := ⟨hx0, hx1, hc0, (Below.refl _ _).drew⟩
  clear hx0 hx1 hc0 hn5 hg5
  refine wp_region_N (fun W => W.cell? ⟨w2.heap.size, 0, none⟩ = some (.slice (some ⟨g, off, none⟩) 4 4) ∧ W.cell? ⟨w2.heap.size, 1, none⟩ = some (.slice d2 4 4) ∧ W.cell? ⟨g, off + i, none⟩ = some (.string ⟨(dNm i).toArray⟩) ∧ Below w5.heap.size w5 W) (fun _ => true) (by kernel_rfl) ?_
  refine wpAnyN_take_at 0 40 (v := ?_) rfl rfl (by kernel_rfl) (by kernel_rfl) (by kernel_rfl) (by kernel_rfl) (by kernel_rfl) (fun _ _ _ h => h) (by rfl) ?_ hS ?_
  rotate_left
  · intro w hSw; (try dsimp only at hSw); obtain ⟨s0, s1, s2, s3⟩ := hSw; go_simp; (try with_reducible rfl)
  simp only [Act.put, List.setIfInBounds_toArray, List.set_cons_zero, List.set_cons_succ]
  refine wpAnyN_take_at 1 41 (v := ?_) rfl rfl (by kernel_rfl) (by kernel_rfl) (by kernel_rfl) (by kernel_rfl) (by kernel_rfl) (fun _ _ _ h => h) (by rfl) ?_ hS ?_
  rotate_left
  · intro w hSw; (try dsimp only at hSw); obtain ⟨s0, s1, s2, s3⟩ := hSw; go_simp; (try with_reducible rfl)
  simp only [Act.put, List.setIfInBounds_toArray, List.set_cons_zero, List.set_cons_succ]
  refine wpAnyN_take_at 2 42 (v := ?_) rfl rfl (by kernel_rfl) (by kernel_rfl) (by kernel_rfl) (by kernel_rfl) (by kernel_rfl) (fun _ _ _ h => h) (by rfl) ?_ hS ?_
  rotate_left
  · intro w hSw; (try dsimp only at hSw); obtain ⟨s0, s1, s2, s3⟩ := hSw; go_simp; (try with_reducible rfl)
  simp only [Act.put, List.setIfInBounds_toArray, List.set_cons_zero, List.set_cons_succ]
  refine wpAnyN_take_at 3 43 (v := ?_) rfl rfl (by kernel_rfl) (by kernel_rfl) (by kernel_rfl) (by kernel_rfl) (by kernel_rfl) (fun _ _ _ h => h) (by rfl) ?_ hS ?_
  rotate_left
  · intro w hSw; (try dsimp only at hSw); obtain ⟨s0, s1, s2, s3⟩ := hSw; go_simp; (try with_reducible rfl)
  simp only [Act.put, List.setIfInBounds_toArray, List.set_cons_zero, List.set_cons_succ]
  refine wpAnyN_take_at 4 44 (v := ?_) rfl rfl (by kernel_rfl) (by kernel_rfl) (by kernel_rfl) (by kernel_rfl) (by kernel_rfl) (fun _ _ _ h => h) (by rfl) ?_ hS ?_
  rotate_left
  · intro w hSw; (try dsimp only at hSw); obtain ⟨s0, s1, s2, s3⟩ := hSw; go_simp; (try with_reducible rfl)
  simp only [Act.put, List.setIfInBounds_toArray, List.set_cons_zero, List.set_cons_succ]
  refine wpAnyN_take_at 5 45 (v := ?_) rfl rfl (by kernel_rfl) (by kernel_rfl) (by kernel_rfl) (by kernel_rfl) (by kernel_rfl) (fun _ _ _ h => h) (by rfl) ?_ hS ?_
  rotate_left
  · intro w hSw; (try dsimp only at hSw); obtain ⟨s0, s1, s2, s3⟩ := hSw; go_simp; (try with_reducible rfl)
  simp only [Act.put, List.setIfInBounds_toArray, List.set_cons_zero, List.set_cons_succ]
  refine wpAnyN_take_at 6 46 (v := .int .i64 ((i : Nat) : Int)) rfl rfl (by kernel_rfl) (by kernel_rfl) (by kernel_rfl) (by kernel_rfl) (by kernel_rfl) (fun _ _ _ h => h) (by rfl) ?_ hS ?_
  · intro w hSw; (try dsimp only at hSw); obtain ⟨s0, s1, s2, s3⟩ := hSw; go_simp; (try rw [hm2]); (try with_reducible rfl)
  simp only [Act.put, List.setIfInBounds_toArray, List.set_cons_zero, List.set_cons_succ]
  refine wpAnyN_take_at 7 47 (v := ?_) rfl rfl (by kernel_rfl) (by kernel_rfl) (by kernel_rfl) (by kernel_rfl) (by kernel_rfl) (fun _ _ _ h => h) (by rfl) ?_ hS ?_
  rotate_left
  · intro w hSw; (try dsimp only at hSw); obtain ⟨s0, s1, s2, s3⟩ := hSw; go_simp; (try with_reducible rfl)
  simp only [Act.put, List.setIfInBounds_toArray, List.set_cons_zero, List.set_cons_succ]
  refine wpAnyN_take_at 8 48 (v := ?_) rfl rfl (by kernel_rfl) (by kernel_rfl) (by kernel_rfl) (by kernel_rfl) (by kernel_rfl) (fun _ _ _ h => h) (by rfl) ?_ hS ?_
  rotate_left
  · intro w hSw; (try dsimp only at hSw); obtain ⟨s0, s1, s2, s3⟩ := hSw; go_simp; (try with_reducible rfl)
  simp only [Act.put, List.setIfInBounds_toArray, List.set_cons_zero, List.set_cons_succ]
  refine wpAnyN_one (i := 9) rfl (by kernel_rfl) (fun K hK => ?_)
  go_simp
  refine (HC.out _ hS).mono ?_
  rintro e w7 ⟨c, rfl, hSd, hS5⟩
  refine hK _ _ (fun _ => hS5) ?_
  clear hK hS HC
  have hS := hS5
  refine wpAnyN_take_at 10 39 (v := ?_) rfl rfl (by kernel_rfl) (by kernel_rfl) (by kernel_rfl) (by kernel_rfl) (by kernel_rfl) (fun _ _ _ h => h) (by rfl) ?_ hS ?_
  rotate_left
  · intro w hSw; (try dsimp only at hSw); obtain ⟨s0, s1, s2, s3⟩ := hSw; go_simp; (try with_reducible rfl)
  simp only [Act.put, List.setIfInBounds_toArray, List.set_cons_zero, List.set_cons_succ]
  refine wpAnyN_take_at 11 50 (v := ?_) rfl rfl (by kernel_rfl) (by kernel_rfl) (by kernel_rfl) (by kernel_rfl) (by kernel_rfl) (fun _ _ _ h => h) (by rfl) ?_ hS ?_
  rotate_left
  · intro w hSw; (try dsimp only at hSw); obtain ⟨s0, s1, s2, s3⟩ := hSw; go_simp; (try with_reducible rfl)
  simp only [Act.put, List.setIfInBounds_toArray, List.set_cons_zero, List.set_cons_succ]
  refine wpAnyN_take_at 12 51 (v := ?_) rfl rfl (by kernel_rfl) (by kernel_rfl) (by kernel_rfl) (by kernel_rfl) (by kernel_rfl) (fun _ _ _ h => h) (by rfl) ?_ hS ?_
  rotate_left
  · intro w hSw; (try dsimp only at hSw); obtain ⟨s0, s1, s2, s3⟩ := hSw; go_simp; (try with_reducible rfl)
  simp only [Act.put, List.setIfInBounds_toArray, List.set_cons_zero, List.set_cons_succ]
  refine wpAnyN_take_at 13 10 (v := ?_) rfl rfl (by kernel_rfl) (by kernel_rfl) (by kernel_rfl) (by kernel_rfl) (by kernel_rfl) (fun _ _ _ h => h) (by rfl) ?_ hS ?_
  rotate_left
  · intro w hSw; (try dsimp only at hSw); obtain ⟨s0, s1, s2, s3⟩ := hSw; go_simp; (try with_reducible rfl)
  simp only [Act.put, List.setIfInBounds_toArray, List.set_cons_zero, List.set_cons_succ]
  refine wpAnyN_take_at 14 11 (v := ?_) rfl rfl (by kernel_rfl) (by kernel_rfl) (by kernel_rfl) (by kernel_rfl) (by kernel_rfl) (fun _ _ _ h => h) (by rfl) ?_ hS ?_
  rotate_left
  · intro w hSw; (try dsimp only at hSw); obtain ⟨s0, s1, s2, s3⟩ := hSw; go_simp; (try with_reducible rfl)
  simp only [Act.put, List.setIfInBounds_toArray, List.set_cons_zero, List.set_cons_succ]
  refine wpAnyN_rest 15 [] rfl (by kernel_rfl) (by kernel_rfl) ?_
  have HB7 := Lib.hid (HB5.out.then hS5.2.2.2)
  have HD7 := Lib.hid (HD5.out.below hS5.2.2.2)
  have HW7 := Lib.hid (HW5.out.below hS5.2.2.2)
  have HSb5 := Lib.hid hS5.2.2.2
  obtain ⟨hx0, hx1, _, _⟩ := hS5
  have HSc := Lib.hid hSd
  clear hSd hS hm2
  have HSb7 := Lib.hid (HSb.out.below HSb5.out)
  have HSc7 := HSc
  have cn := newD_any HW7.out HD7.out 3 (by decide)
  rw [show (⟨(dNm 3).toArray⟩ : ByteArray) = ⟨#[104, 105, 103, 104]⟩ from rfl] at cn
  go_wp2_with fail
  refine cn.mono ?_
  rintro e w9 ⟨h, rfl, _, hSd, bb⟩
  have HB9 := Lib.hid (HB7.out.then bb)
  have HD9 := Lib.hid (HD7.out.below bb)
  have HW9 := Lib.hid (HW7.out.below bb)
  have hx0' := (bb.cell (p := ⟨w2.heap.size, 0, none⟩) (World.block_lt_of_cell? _ _ hx0)).trans hx0
  have hx1' := (bb.cell (p := ⟨w2.heap.size, 1, none⟩) (World.block_lt_of_cell? _ _ hx1)).trans hx1
  clear hx0 hx1
  have hx0 := hx0'
  have hx1 := hx1'
  have HSh9 := Lib.hid hSd
  have HSb9 := Lib.hid (HSb7.out.below bb)
  have HSc9 := Lib.hid (HSc7.out.below bb)
  clear hx0' hx1' bb hSd cn
  have cn := newD_any HW9.out HD9.out 0 (by decide)
  rw [show (⟨(dNm 0).toArray⟩ : ByteArray) = ⟨#[108, 111, 119]⟩ from rfl] at cn
  go_wp2_with fail
  refine cn.mono ?_
  rintro e w11 ⟨l, rfl, _, hSd, bb⟩
  have HB11 := Lib.hid (HB9.out.then bb)
  have HD11 := Lib.hid (HD9.out.below bb)
  have HW11 := Lib.hid (HW9.out.below bb)
  have hx0' := (bb.cell (p := ⟨w2.heap.size, 0, none⟩) (World.block_lt_of_cell? _ _ hx0)).trans hx0
  have hx1' := (bb.cell (p := ⟨w2.heap.size, 1, none⟩) (World.block_lt_of_cell? _ _ hx1)).trans hx1
  clear hx0 hx1
  have hx0 := hx0'
  have hx1 := hx1'
  have HSl11 := Lib.hid hSd
  have HSb11 := Lib.hid (HSb9.out.below bb)
  have HSc11 := Lib.hid (HSc9.out.below bb)
  have HSh11 := Lib.hid (HSh9.out.below bb)
  clear hx0' hx1' bb hSd cn
  clear hx0 hx1
  have hXA := andS_self (svD j)
  have hAH := andS_true (svD j)
  rw [← sv_three] at hAH
  have hAL := andS_low hj
  have hBA := andS_comm (svD i) (svD j)
  have hMA := andS_three (svD j) (svD i)
  generalize hDD : a0.data.toList = D at *
  have c11 := veilD_any HSb11.out a0 (by omega)
  rw [hDD] at c11
  go_wp2_with fail
  refine c11.mono ?_
  rintro e w13 ⟨rfl, b13⟩
  have HB13 := Lib.hid (HB11.out.then b13)
  have HSb13 := Lib.hid (HSb11.out.below b13)
  have HSc13 := Lib.hid (HSc11.out.below b13)
  have HSh13 := Lib.hid (HSh11.out.below b13)
  have HSl13 := Lib.hid (HSl11.out.below b13)
  clear b13
  have c13 := veilD_two HSb13.out (svD j) D hD
  rw [hXA] at c13
  go_wp2_with fail
  refine c13.mono ?_
  rintro e w15 ⟨rfl, b15⟩
  have HB15 := Lib.hid (HB13.out.then b15)
  have HSb15 := Lib.hid (HSb13.out.below b15)
  have HSc15 := Lib.hid (HSc13.out.below b15)
  have HSh15 := Lib.hid (HSh13.out.below b15)
  have HSl15 := Lib.hid (HSl13.out.below b15)
  clear b15
  have c15 := veilD_two HSh15.out (svD j) D hD
  rw [hAH] at c15
  go_wp2_with fail
  refine c15.mono ?_
  rintro e w17 ⟨rfl, b17⟩
  have HB17 := Lib.hid (HB15.out.then b17)
  have HSb17 := Lib.hid (HSb15.out.below b17)
  have HSc17 := Lib.hid (HSc15.out.below b17)
  have HSh17 := Lib.hid (HSh15.out.below b17)
  have HSl17 := Lib.hid (HSl15.out.below b17)
  clear b17
  have c17 := veilD_two HSl17.out (svD j) D hD
  rw [hAL] at c17
  go_wp2_with fail
  refine c17.mono ?_
  rintro e w19 ⟨rfl, b19⟩
  have HB19 := Lib.hid (HB17.out.then b19)
  have HSb19 := Lib.hid (HSb17.out.below b19)
  have HSc19 := Lib.hid (HSc17.out.below b19)
  have HSh19 := Lib.hid (HSh17.out.below b19)
  have HSl19 := Lib.hid (HSl17.out.below b19)
  clear b19
  have c19 := veilD_any HSl19.out a0 (by omega)
  rw [hDD] at c19
  go_wp2_with fail
  refine c19.mono ?_
  rintro e w21 ⟨rfl, b21⟩
  have HB21 := Lib.hid (HB19.out.then b21)
  have HSb21 := Lib.hid (HSb19.out.below b21)
  have HSc21 := Lib.hid (HSc19.out.below b21)
  have HSh21 := Lib.hid (HSh19.out.below b21)
  have HSl21 := Lib.hid (HSl19.out.below b21)
  clear b21
  have c21 := veilD_any HSb21.out a0 (by omega)
  rw [hDD] at c21
  go_wp2_with fail
  refine c21.mono ?_
  rintro e w23 ⟨rfl, b23⟩
  have HB23 := Lib.hid (HB21.out.then b23)
  have HSb23 := Lib.hid (HSb21.out.below b23)
  have HSc23 := Lib.hid (HSc21.out.below b23)
  have HSh23 := Lib.hid (HSh21.out.below b23)
  have HSl23 := Lib.hid (HSl21.out.below b23)
  clear b23
  have c23 := veilD_two HSc23.out (svD j) D hD
  go_wp2_with fail
  refine c23.mono ?_
  rintro e w25 ⟨rfl, b25⟩
  have HB25 := Lib.hid (HB23.out.then b25)
  have HSb25 := Lib.hid (HSb23.out.below b25)
  have HSc25 := Lib.hid (HSc23.out.below b25)
  have HSh25 := Lib.hid (HSh23.out.below b25)
  have HSl25 := Lib.hid (HSl23.out.below b25)
  clear b25
  have c25 := veilD_two HSb25.out (andS (svD j) (svD i)) D hD
  rw [hMA] at c25
  go_wp2_with fail
  refine c25.mono ?_
  rintro e w27 ⟨rfl, b27⟩
  have HB27 := Lib.hid (HB25.out.then b27)
  have HSb27 := Lib.hid (HSb25.out.below b27)
  have HSc27 := Lib.hid (HSc25.out.below b27)
  have HSh27 := Lib.hid (HSh25.out.below b27)
  have HSl27 := Lib.hid (HSl25.out.below b27)
  clear b27
  have c27 := veilD_any HSc27.out a0 (by omega)
  rw [hDD] at c27
  go_wp2_with fail
  refine c27.mono ?_
  rintro e w29 ⟨rfl, b29⟩
  have HB29 := Lib.hid (HB27.out.then b29)
  have HSb29 := Lib.hid (HSb27.out.below b29)
  have HSc29 := Lib.hid (HSc27.out.below b29)
  have HSh29 := Lib.hid (HSh27.out.below b29)
  have HSl29 := Lib.hid (HSl27.out.below b29)
  clear b29
  have c29 := veilD_two HSb29.out (svD i) D hD
  rw [hBA] at c29
  go_wp2_with fail
  refine c29.mono ?_
  rintro e w31 ⟨rfl, b31⟩
  have HB31 := Lib.hid (HB29.out.then b31)
  have HSb31 := Lib.hid (HSb29.out.below b31)
  have HSc31 := Lib.hid (HSc29.out.below b31)
  have HSh31 := Lib.hid (HSh29.out.below b31)
  have HSl31 := Lib.hid (HSl29.out.below b31)
  clear b31
  have c31 := veilD_any HSb31.out a0 (by omega)
  rw [hDD] at c31
  go_wp2_with fail
  refine c31.mono ?_
  rintro e w33 ⟨rfl, b33⟩
  have HB33 := Lib.hid (HB31.out.then b33)
  have HSb33 := Lib.hid (HSb31.out.below b33)
  have HSc33 := Lib.hid (HSc31.out.below b33)
  have HSh33 := Lib.hid (HSh31.out.below b33)
  have HSl33 := Lib.hid (HSl31.out.below b33)
  clear b33
  have c33 := veilD_two HSc33.out (svD j) D hD
  go_wp2_with fail
  refine c33.mono ?_
  rintro e w35 ⟨rfl, b35⟩
  have HB35 := Lib.hid (HB33.out.then b35)
  have HSb35 := Lib.hid (HSb33.out.below b35)
  have HSc35 := Lib.hid (HSc33.out.below b35)
  have HSh35 := Lib.hid (HSh33.out.below b35)
  have HSl35 := Lib.hid (HSl33.out.below b35)
  clear b35
  have c35 := veilD_any HSc35.out a0 (by omega)
  rw [hDD] at c35
  go_wp2_with fail
  refine c35.mono ?_
  rintro e w37 ⟨rfl, b37⟩
  have HB37 := Lib.hid (HB35.out.then b37)
  have HSb37 := Lib.hid (HSb35.out.below b37)
  have HSc37 := Lib.hid (HSc35.out.below b37)
  have HSh37 := Lib.hid (HSh35.out.below b37)
  have HSl37 := Lib.hid (HSl35.out.below b37)
  clear b37
  have c37 := veilD_two HSb37.out (svD i) D hD
  rw [hBA] at c37
  go_wp2_with fail
  refine c37.mono ?_
  rintro e w39 ⟨rfl, b39⟩
  have HB39 := Lib.hid (HB37.out.then b39)
  have HSb39 := Lib.hid (HSb37.out.below b39)
  have HSc39 := Lib.hid (HSc37.out.below b39)
  have HSh39 := Lib.hid (HSh37.out.below b39)
  have HSl39 := Lib.hid (HSl37.out.below b39)
  clear b39
  go_wp2
  go_ret
  exact ⟨ret_bool (by simp), HB39.out⟩

end Go.Proofs.YtneiheifjgffaaaGreatDoor
