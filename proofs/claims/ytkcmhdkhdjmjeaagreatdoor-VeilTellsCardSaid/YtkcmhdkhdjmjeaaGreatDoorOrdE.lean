/-
  bowdlerref1's Orders: the first loop.
-/
import Derived.Test.YtkcmhdkhdjmjeaaGreatDoorOrdD
import Derived.Test.YtkcmhdkhdjmjeaaGreatDoorOrdP
import Derived.Test.YtkcmhdkhdjmjeaaGreatDoorReg
import Derived.Test.YtkcmhdkhdjmjeaaGreatDoorLatC
import Derived.Deep.Cut
import Derived.Deep.CutRange
import Derived.StillTailTactics
namespace Go.Proofs.YtkcmhdkhdjmjeaaGreatDoor
open Go.RowKit
set_option linter.unusedVariables false
set_option linter.unusedSimpArgs false

theorem infoBool : (Tryz.prog.info? 4).map (fun i => (i.zero, i.size, i.bytes)) = some (some (.bool false), 1, 1) := by kernel_rfl
theorem infoBools : (Tryz.prog.info? 84).map (fun i => (i.zero, i.size, i.bytes)) = some (some (.slice none 0 0), 1, 24) := by kernel_rfl
theorem infoInts : (Tryz.prog.info? 79).map (fun i => (i.zero, i.size, i.bytes)) = some (some (.slice none 0 0), 1, 24) := by kernel_rfl
def MadeRel (w : World) (n : Nat) (i : Value) (wr : World) : Prop :=
  ∃ (k : Nat) (vL vJ vM : Value) (r : Nat → Nat), i = .int .i64 k ∧ k ≤ n ∧ OGrow wr w.heap.size n k k k vL vJ vM r (3 * k) k ∧ Below w.heap.size w wr
theorem OGrow.cellL {w : World} {o n kL kJ kM : Nat} {vJ vM : Value} {r : Nat → Nat} {m dg g cap : Nat} (h : OGrow w o n kL kJ kM (.slice (some ⟨g, 0, none⟩) kL cap) vJ vM r m dg) {a : Nat} (ha : a < kL) :
    w.cell? ⟨g, a, none⟩ = some (.slice (some ⟨r (3 * a), 0, none⟩) n n) := by
  have ho := h.oL
  have e : kL = (rowV r 0 n kL).length := (rowV_length _ _ _ _).symm
  obtain ⟨hl, hx⟩ := ho
  rcases hx with ⟨e1, h0⟩ | ⟨g', cap', cur, e1, hb, hg, hnc, hcm, hcs, htk⟩
  · omega
  · cases e1
    rw [cell_of_row w g a cur _ (0, 0) hg]
    have h2 : (rowV r 0 n kL)[a]? = some (rowAt (r (3 * a + 0)) n) := by simp [rowV, ha]
    rw [← htk, List.getElem?_take] at h2
    split at h2
    · simpa [rowAt] using h2
    · cases h2
theorem OGrow.diagCell {w : World} {o n kL kJ kM : Nat} {vL vJ vM : Value} {r : Nat → Nat} {m k : Nat} (h : OGrow w o n kL kJ kM vL vJ vM r m k) (hm : 3 * k < m) (hk : k < n) :
    w.cell? ⟨r (3 * k), k, none⟩ = some (.bool false) ∧ w.frozen? ⟨r (3 * k), k, none⟩ = false := by
  have hr := h.rows (3 * k) hm
  constructor
  · rw [cell_of_row w _ _ _ _ (0, 0) hr]
    simp only [rowC, show 3 * k % 3 = 0 from by omega, if_true, show 3 * k / 3 = k from by omega]
    simp [hk]
  · simp [World.frozen?, hr]
def OrdEnd (w : World) (n : Nat) (ps : List (Int × Int)) (e : Ending) (w' : World) : Prop :=
  Below w.heap.size w w' ∧ ((errS n ps = 0 ∧ ∃ p : OPlace, e = .returned (.tuple #[.pointer (some ⟨p.o, 0, none⟩), .int .i64 0]) ∧ OMem w' p n (leqS n ps) (joinR n (leqS n ps)) (meetR n (leqS n ps))) ∨
    (errS n ps ≠ 0 ∧ e = .returned (.tuple #[.pointer none, .int .i64 (errS n ps)])))
theorem OrdEnd.bad {w w' : World} {n : Nat} {ps : List (Int × Int)} {k : Int} (hb : Below w.heap.size w w') (he : errS n ps = k) (hk : k ≠ 0) : OrdEnd w n ps (.returned (.tuple #[.pointer none, .int .i64 k])) w' :=
  ⟨hb, Or.inr ⟨by rw [he]; exact hk, by rw [he]⟩⟩
def OrdR (w : World) (p : OPlace) (n : Nat) (L : Nat → Rel) (J M : Nat → Nat → Nat → Int) (m : Nat) (C : Nat → Prop) (i : Value) (wr : World) : Prop :=
  ∃ k : Nat, i = .int .i64 k ∧ k ≤ m ∧ OMem wr p n (L k) (J k) (M k) ∧ Below w.heap.size w wr ∧ C k
theorem one_row (g n : Nat) : ∀ u ∈ [rowAt g n], u.oneCell' = true := one_slice _ _ _

set_option maxRecDepth 100000 in
set_option maxHeartbeats 8000000 in
theorem orders_any (A : Option Addr) (ca n : Nat) (ps : List (Int × Int)) (w : World) (hpr : PairsAt w A ca ps) (h1 : 1 ≤ n) (h64 : n ≤ 64) (hl60 : ps.length ≤ 60) :
    Calls Tryz.prog 24 #[.int .i64 n, .slice A ps.length ca] w (OrdEnd w n ps) := by
  have i1 : ((1 : Int) ≤ n) := by omega
  have i2 : ((n : Int) ≤ 64) := by omega
  have HPR := Lib.hid hpr
  clear hpr
  have hmkL := fun W => run_make_row' (P := Tryz.prog) 84 4 (.bool false) 1 Tryz.underlying84 infoBool rfl .i64 .i64 n (by omega) (by omega) W
  have hmkI := fun W => run_make_row' (P := Tryz.prog) 79 3 (.int .i64 0) 8 Tryz.underlying79 infoInt1 rfl .i64 .i64 n (by omega) (by omega) W
  obtain ⟨iL, hiL, hzL0, hzL1, hzL2⟩ := info_parts infoBools
  obtain ⟨iI, hiI, hzI0, hzI1, hzI2⟩ := info_parts infoInts
  go_enter Tryz.func24, Tryz.ntmps24
  go_wp2_with fail
  go_loopw [7] (fun i wr => MadeRel w n i wr) (fun i _ => n - (intOf i).toNat)
  case atStart =>
    refine ⟨0, .slice none 0 0, .slice none 0 0, .slice none 0 0, fun _ => 0, rfl, Nat.zero_le _, ⟨heap_alloc_new w _, World.ownsRow_nil _ _ _ _, World.ownsRow_nil _ _ _ _, World.ownsRow_nil _ _ _ _, (fun g h => by cases h), (fun i hi => by omega), (fun i j _ hj => by omega), (fun i hi => by omega)⟩, (Below.refl _ w).alloc (Nat.le_refl _) _⟩
  case round =>
    obtain ⟨k, vL, vJ, vM, r, rfl, hk, hg, hbw⟩ := hrel
    have HG := Lib.hid hg
    have HB := Lib.hid hbw
    clear hg hbw
    by_cases hkn : k < n
    · skip
      as_aux_lemma =>
        go_wp2_with fail
        have Xa := Lib.hid (Below.drew (((Below.refl wr.heap.size wr).alloc (Nat.le_refl _) (.cells (madeCells #[.bool false] n) 4)).alloc (by rw [alloc_size]; omega) (.cells #[rowAt wr.heap.size n] 84)))
        refine wp_region_N (fun W => W.cell? ⟨w.heap.size, 1, none⟩ = some vL) (fun j => decide (j < 9)) (by kernel_rfl) ?_
        have hS : wr.drew.cell? ⟨w.heap.size, 1, none⟩ = some vL := HG.out.cell.2.1
        refine wpAnyN_take_at 0 32 (v := ?_) rfl rfl (by kernel_rfl) (by kernel_rfl) (by kernel_rfl) (by kernel_rfl) (by kernel_rfl) (fun _ _ _ h => h) (by rfl) ?_ hS ?_
        rotate_left
        · intro w hSw; (try dsimp only at hSw); go_simp; (try with_reducible rfl)
        simp only [Act.put, List.setIfInBounds_toArray, List.set_cons_zero, List.set_cons_succ]
        refine wpAnyN_take_at 1 33 (v := ?_) rfl rfl (by kernel_rfl) (by kernel_rfl) (by kernel_rfl) (by kernel_rfl) (by kernel_rfl) (fun _ _ _ h => h) (by rfl) ?_ hS ?_
        rotate_left
        · intro w hSw; (try dsimp only at hSw); go_simp; (try with_reducible rfl)
        simp only [Act.put, List.setIfInBounds_toArray, List.set_cons_zero, List.set_cons_succ]
        refine wpAnyN_take_at 2 34 (v := ?_) rfl rfl (by kernel_rfl) (by kernel_rfl) (by kernel_rfl) (by kernel_rfl) (by kernel_rfl) (fun _ _ _ h => h) (by rfl) ?_ hS ?_
        rotate_left
        · intro w hSw; (try dsimp only at hSw); go_simp; (try with_reducible rfl)
        simp only [Act.put, List.setIfInBounds_toArray, List.set_cons_zero, List.set_cons_succ]
        refine wpAnyN_take_at 3 35 (v := ?_) rfl rfl (by kernel_rfl) (by kernel_rfl) (by kernel_rfl) (by kernel_rfl) (by kernel_rfl) (fun _ _ _ h => h) (by rfl) ?_ hS ?_
        rotate_left
        · intro w hSw; (try dsimp only at hSw); go_simp; (try with_reducible rfl)
        simp only [Act.put, List.setIfInBounds_toArray, List.set_cons_zero, List.set_cons_succ]
        refine wpAnyN_take_at 4 36 (v := ?_) rfl rfl (by kernel_rfl) (by kernel_rfl) (by kernel_rfl) (by kernel_rfl) (by kernel_rfl) (fun _ _ _ h => h) (by rfl) ?_ hS ?_
        rotate_left
        · intro w hSw; (try dsimp only at hSw); go_simp; (try with_reducible rfl)
        simp only [Act.put, List.setIfInBounds_toArray, List.set_cons_zero, List.set_cons_succ]
        refine wpAnyN_take_at 5 37 (v := ?_) rfl rfl (by kernel_rfl) (by kernel_rfl) (by kernel_rfl) (by kernel_rfl) (by kernel_rfl) (fun _ _ _ h => h) (by rfl) ?_ hS ?_
        rotate_left
        · intro w hSw; (try dsimp only at hSw); go_simp; (try with_reducible rfl)
        simp only [Act.put, List.setIfInBounds_toArray, List.set_cons_zero, List.set_cons_succ]
        refine wpAnyN_one (i := 6) rfl (by kernel_rfl) (fun K hK => ?_)
        go_simp
        refine hK _ _ (fun _ => ?_) ?_
        · exact (((Below.refl _ _).alloc (Nat.le_refl _) _).cell (p := ⟨w.heap.size, 1, none⟩) (by exact HG.out.lt)).trans hS
        clear hK
        refine wpAnyN_one (i := 7) rfl (by kernel_rfl) (fun K hK => ?_)
        go_simp
        have hS7 : (World.drew ((wr.alloc (.cells (madeCells #[.bool false] n) 4)).alloc (.cells #[rowAt wr.heap.size n] 84))).cell? ⟨w.heap.size, 1, none⟩ = some vL := (Xa.out.cell (p := ⟨w.heap.size, 1, none⟩) HG.out.lt).trans HG.out.cell.2.1
        refine hK _ _ (fun _ => hS7) ?_
        clear hK hS
        refine wpAnyN_one (i := 8) rfl (by kernel_rfl) (fun K hK => ?_)
        refine step_append_lies (World.drew ((wr.alloc (.cells (madeCells #[.bool false] n) 4)).alloc (.cells #[rowAt wr.heap.size n] 84))) rfl (.tmp 36) (.tmp 39) 80 rfl (w.heap.size + 1) 84 iL (.slice none 0 0) 1 24 Tryz.underlying80 hiL hzL0 hzL1 hzL2 rfl (by decide) vL k (rowV r 0 n k) rfl
          (own_heap (w := (wr.alloc (.cells (madeCells #[.bool false] n) 4)).alloc (.cells #[rowAt wr.heap.size n] 84)) rfl ((HG.out.oL.alloc _).alloc _)) ⟨wr.heap.size + 1, 0, none⟩ 1 1 [rowAt wr.heap.size n] rfl rfl ?c1 (one_row _ _) (by omega) ?c3 ?c4 ?c5 _ rfl ?_
        case c1 =>
          have := cells_one (wr.alloc (.cells (madeCells #[.bool false] n) 4)) (rowAt wr.heap.size n) 84
          rw [alloc_size] at this
          exact this
        case c3 => unfold maxLen; omega
        case c4 => omega
        case c5 => have := Xa.out.size; have := HB.out.size; have := HG.out.lt; omega
        intro ga capa va hown hgrow hvg hlt
        have hS8 : va.cell? ⟨w.heap.size, 1, none⟩ = some vL := (World.cell?_of_block (a := ⟨w.heap.size, 1, none⟩) (hgrow.block w.heap.size (Nat.lt_of_lt_of_le HG.out.lt Xa.out.size) (fun e => own_ne HG.out.oL HG.out.blk (by decide) e.symm))).trans hS7
        have hF8 : va.frozen? ⟨w.heap.size, 1, none⟩ = false := (World.frozen?_of_block (a := ⟨w.heap.size, 1, none⟩) (hgrow.block w.heap.size (Nat.lt_of_lt_of_le HG.out.lt Xa.out.size) (fun e => own_ne HG.out.oL HG.out.blk (by decide) e.symm))).trans
          ((World.frozen?_of_block (a := ⟨w.heap.size, 1, none⟩) (Xa.out.block _ HG.out.lt)).trans (HG.out.cell.2.2.2.2 1))
        have Ga := Lib.hid (HG.out.addL (w1 := (World.drew ((wr.alloc (.cells (madeCells #[.bool false] n) 4)).alloc (.cells #[rowAt wr.heap.size n] 84)))) rfl hgrow hvg hown)
        have Ba := Lib.hid ((((HB.out.trans (Xa.out.mono (by have := HG.out.lt; omega))).grown hgrow (by have := Xa.out.size; have := HG.out.lt; omega) (fun g hg => by have := (HG.out.oL.lt g hg).1; omega)).setCell (p := ⟨w.heap.size, 1, none⟩) (Nat.le_refl _) (.slice (some ⟨ga, 0, none⟩) (k + 1) capa)))
        refine hK _ _ (fun _ => hS8) ?_
        clear hK hS7 hown hgrow hvg hlt
        refine wpAnyN_rest 9 [_, _, _] rfl (by kernel_rfl) (by kernel_rfl) ?_
        go_wp2_with fail
        generalize va.setCell ⟨w.heap.size, 1, none⟩ (.slice (some ⟨ga, 0, none⟩) (k + 1) capa) = ua at *
        clear hS8 hF8 Xa
        generalize extR r (3 * k + 0) wr.heap.size = r1 at *
        clear HG HB
        have Xb := Lib.hid (Below.drew (((Below.refl ua.heap.size ua).alloc (Nat.le_refl _) (.cells (madeCells #[.int .i64 0] n) 3)).alloc (by rw [alloc_size]; omega) (.cells #[rowAt ua.heap.size n] 79)))
        refine wp_region_N (fun W => W.cell? ⟨w.heap.size, 2, none⟩ = some vJ) (fun j => decide (j < 9)) (by kernel_rfl) ?_
        have hS : ua.drew.cell? ⟨w.heap.size, 2, none⟩ = some vJ := Ga.out.cell.2.2.1
        refine wpAnyN_take_at 0 43 (v := ?_) rfl rfl (by kernel_rfl) (by kernel_rfl) (by kernel_rfl) (by kernel_rfl) (by kernel_rfl) (fun _ _ _ h => h) (by rfl) ?_ hS ?_
        rotate_left
        · intro w hSw; (try dsimp only at hSw); go_simp; (try with_reducible rfl)
        simp only [Act.put, List.setIfInBounds_toArray, List.set_cons_zero, List.set_cons_succ]
        refine wpAnyN_take_at 1 44 (v := ?_) rfl rfl (by kernel_rfl) (by kernel_rfl) (by kernel_rfl) (by kernel_rfl) (by kernel_rfl) (fun _ _ _ h => h) (by rfl) ?_ hS ?_
        rotate_left
        · intro w hSw; (try dsimp only at hSw); go_simp; (try with_reducible rfl)
        simp only [Act.put, List.setIfInBounds_toArray, List.set_cons_zero, List.set_cons_succ]
        refine wpAnyN_take_at 2 45 (v := ?_) rfl rfl (by kernel_rfl) (by kernel_rfl) (by kernel_rfl) (by kernel_rfl) (by kernel_rfl) (fun _ _ _ h => h) (by rfl) ?_ hS ?_
        rotate_left
        · intro w hSw; (try dsimp only at hSw); go_simp; (try with_reducible rfl)
        simp only [Act.put, List.setIfInBounds_toArray, List.set_cons_zero, List.set_cons_succ]
        refine wpAnyN_take_at 3 46 (v := ?_) rfl rfl (by kernel_rfl) (by kernel_rfl) (by kernel_rfl) (by kernel_rfl) (by kernel_rfl) (fun _ _ _ h => h) (by rfl) ?_ hS ?_
        rotate_left
        · intro w hSw; (try dsimp only at hSw); go_simp; (try with_reducible rfl)
        simp only [Act.put, List.setIfInBounds_toArray, List.set_cons_zero, List.set_cons_succ]
        refine wpAnyN_take_at 4 47 (v := ?_) rfl rfl (by kernel_rfl) (by kernel_rfl) (by kernel_rfl) (by kernel_rfl) (by kernel_rfl) (fun _ _ _ h => h) (by rfl) ?_ hS ?_
        rotate_left
        · intro w hSw; (try dsimp only at hSw); go_simp; (try with_reducible rfl)
        simp only [Act.put, List.setIfInBounds_toArray, List.set_cons_zero, List.set_cons_succ]
        refine wpAnyN_take_at 5 48 (v := ?_) rfl rfl (by kernel_rfl) (by kernel_rfl) (by kernel_rfl) (by kernel_rfl) (by kernel_rfl) (fun _ _ _ h => h) (by rfl) ?_ hS ?_
        rotate_left
        · intro w hSw; (try dsimp only at hSw); go_simp; (try with_reducible rfl)
        simp only [Act.put, List.setIfInBounds_toArray, List.set_cons_zero, List.set_cons_succ]
        refine wpAnyN_one (i := 6) rfl (by kernel_rfl) (fun K hK => ?_)
        go_simp
        refine hK _ _ (fun _ => ?_) ?_
        · exact (((Below.refl _ _).alloc (Nat.le_refl _) _).cell (p := ⟨w.heap.size, 2, none⟩) (by exact Ga.out.lt)).trans hS
        clear hK
        refine wpAnyN_one (i := 7) rfl (by kernel_rfl) (fun K hK => ?_)
        go_simp
        have hS7 : (World.drew ((ua.alloc (.cells (madeCells #[.int .i64 0] n) 3)).alloc (.cells #[rowAt ua.heap.size n] 79))).cell? ⟨w.heap.size, 2, none⟩ = some vJ := (Xb.out.cell (p := ⟨w.heap.size, 2, none⟩) Ga.out.lt).trans Ga.out.cell.2.2.1
        refine hK _ _ (fun _ => hS7) ?_
        clear hK hS
        refine wpAnyN_one (i := 8) rfl (by kernel_rfl) (fun K hK => ?_)
        refine step_append_lies (World.drew ((ua.alloc (.cells (madeCells #[.int .i64 0] n) 3)).alloc (.cells #[rowAt ua.heap.size n] 79))) rfl (.tmp 47) (.tmp 50) 81 rfl (w.heap.size + 1) 79 iI (.slice none 0 0) 1 24 Tryz.underlying81 hiI hzI0 hzI1 hzI2 rfl (by decide) vJ k (rowV r1 1 n k) rfl
          (own_heap (w := (ua.alloc (.cells (madeCells #[.int .i64 0] n) 3)).alloc (.cells #[rowAt ua.heap.size n] 79)) rfl ((Ga.out.oJ.alloc _).alloc _)) ⟨ua.heap.size + 1, 0, none⟩ 1 1 [rowAt ua.heap.size n] rfl rfl ?c1 (one_row _ _) (by omega) ?c3 ?c4 ?c5 _ rfl ?_
        case c1 =>
          have := cells_one (ua.alloc (.cells (madeCells #[.int .i64 0] n) 3)) (rowAt ua.heap.size n) 79
          rw [alloc_size] at this
          exact this
        case c3 => unfold maxLen; omega
        case c4 => omega
        case c5 => have := Xb.out.size; have := Ba.out.size; have := Ga.out.lt; omega
        intro gb capb vb hown hgrow hvg hlt
        have hS8 : vb.cell? ⟨w.heap.size, 2, none⟩ = some vJ := (World.cell?_of_block (a := ⟨w.heap.size, 2, none⟩) (hgrow.block w.heap.size (Nat.lt_of_lt_of_le Ga.out.lt Xb.out.size) (fun e => own_ne Ga.out.oJ Ga.out.blk (by decide) e.symm))).trans hS7
        have hF8 : vb.frozen? ⟨w.heap.size, 2, none⟩ = false := (World.frozen?_of_block (a := ⟨w.heap.size, 2, none⟩) (hgrow.block w.heap.size (Nat.lt_of_lt_of_le Ga.out.lt Xb.out.size) (fun e => own_ne Ga.out.oJ Ga.out.blk (by decide) e.symm))).trans
          ((World.frozen?_of_block (a := ⟨w.heap.size, 2, none⟩) (Xb.out.block _ Ga.out.lt)).trans (Ga.out.cell.2.2.2.2 2))
        have Gb := Lib.hid (Ga.out.addJ (w1 := (World.drew ((ua.alloc (.cells (madeCells #[.int .i64 0] n) 3)).alloc (.cells #[rowAt ua.heap.size n] 79)))) rfl hgrow hvg hown)
        have Bb := Lib.hid ((((Ba.out.trans (Xb.out.mono (by have := Ga.out.lt; omega))).grown hgrow (by have := Xb.out.size; have := Ga.out.lt; omega) (fun g hg => by have := (Ga.out.oJ.lt g hg).1; omega)).setCell (p := ⟨w.heap.size, 2, none⟩) (Nat.le_refl _) (.slice (some ⟨gb, 0, none⟩) (k + 1) capb)))
        refine hK _ _ (fun _ => hS8) ?_
        clear hK hS7 hown hgrow hvg hlt
        refine wpAnyN_rest 9 [_, _, _] rfl (by kernel_rfl) (by kernel_rfl) ?_
        go_wp2_with fail
        generalize vb.setCell ⟨w.heap.size, 2, none⟩ (.slice (some ⟨gb, 0, none⟩) (k + 1) capb) = ub at *
        clear hS8 hF8 Xb
        generalize extR r1 (3 * k + 1) ua.heap.size = r2 at *
        clear Ga Ba
        have Xc := Lib.hid (Below.drew (((Below.refl ub.heap.size ub).alloc (Nat.le_refl _) (.cells (madeCells #[.int .i64 0] n) 3)).alloc (by rw [alloc_size]; omega) (.cells #[rowAt ub.heap.size n] 79)))
        refine wp_region_N (fun W => W.cell? ⟨w.heap.size, 3, none⟩ = some vM) (fun j => decide (j < 9)) (by kernel_rfl) ?_
        have hS : ub.drew.cell? ⟨w.heap.size, 3, none⟩ = some vM := Gb.out.cell.2.2.2.1
        refine wpAnyN_take_at 0 54 (v := ?_) rfl rfl (by kernel_rfl) (by kernel_rfl) (by kernel_rfl) (by kernel_rfl) (by kernel_rfl) (fun _ _ _ h => h) (by rfl) ?_ hS ?_
        rotate_left
        · intro w hSw; (try dsimp only at hSw); go_simp; (try with_reducible rfl)
        simp only [Act.put, List.setIfInBounds_toArray, List.set_cons_zero, List.set_cons_succ]
        refine wpAnyN_take_at 1 55 (v := ?_) rfl rfl (by kernel_rfl) (by kernel_rfl) (by kernel_rfl) (by kernel_rfl) (by kernel_rfl) (fun _ _ _ h => h) (by rfl) ?_ hS ?_
        rotate_left
        · intro w hSw; (try dsimp only at hSw); go_simp; (try with_reducible rfl)
        simp only [Act.put, List.setIfInBounds_toArray, List.set_cons_zero, List.set_cons_succ]
        refine wpAnyN_take_at 2 56 (v := ?_) rfl rfl (by kernel_rfl) (by kernel_rfl) (by kernel_rfl) (by kernel_rfl) (by kernel_rfl) (fun _ _ _ h => h) (by rfl) ?_ hS ?_
        rotate_left
        · intro w hSw; (try dsimp only at hSw); go_simp; (try with_reducible rfl)
        simp only [Act.put, List.setIfInBounds_toArray, List.set_cons_zero, List.set_cons_succ]
        refine wpAnyN_take_at 3 57 (v := ?_) rfl rfl (by kernel_rfl) (by kernel_rfl) (by kernel_rfl) (by kernel_rfl) (by kernel_rfl) (fun _ _ _ h => h) (by rfl) ?_ hS ?_
        rotate_left
        · intro w hSw; (try dsimp only at hSw); go_simp; (try with_reducible rfl)
        simp only [Act.put, List.setIfInBounds_toArray, List.set_cons_zero, List.set_cons_succ]
        refine wpAnyN_take_at 4 58 (v := ?_) rfl rfl (by kernel_rfl) (by kernel_rfl) (by kernel_rfl) (by kernel_rfl) (by kernel_rfl) (fun _ _ _ h => h) (by rfl) ?_ hS ?_
        rotate_left
        · intro w hSw; (try dsimp only at hSw); go_simp; (try with_reducible rfl)
        simp only [Act.put, List.setIfInBounds_toArray, List.set_cons_zero, List.set_cons_succ]
        refine wpAnyN_take_at 5 59 (v := ?_) rfl rfl (by kernel_rfl) (by kernel_rfl) (by kernel_rfl) (by kernel_rfl) (by kernel_rfl) (fun _ _ _ h => h) (by rfl) ?_ hS ?_
        rotate_left
        · intro w hSw; (try dsimp only at hSw); go_simp; (try with_reducible rfl)
        simp only [Act.put, List.setIfInBounds_toArray, List.set_cons_zero, List.set_cons_succ]
        refine wpAnyN_one (i := 6) rfl (by kernel_rfl) (fun K hK => ?_)
        go_simp
        refine hK _ _ (fun _ => ?_) ?_
        · exact (((Below.refl _ _).alloc (Nat.le_refl _) _).cell (p := ⟨w.heap.size, 3, none⟩) (by exact Gb.out.lt)).trans hS
        clear hK
        refine wpAnyN_one (i := 7) rfl (by kernel_rfl) (fun K hK => ?_)
        go_simp
        have hS7 : (World.drew ((ub.alloc (.cells (madeCells #[.int .i64 0] n) 3)).alloc (.cells #[rowAt ub.heap.size n] 79))).cell? ⟨w.heap.size, 3, none⟩ = some vM := (Xc.out.cell (p := ⟨w.heap.size, 3, none⟩) Gb.out.lt).trans Gb.out.cell.2.2.2.1
        refine hK _ _ (fun _ => hS7) ?_
        clear hK hS
        refine wpAnyN_one (i := 8) rfl (by kernel_rfl) (fun K hK => ?_)
        refine step_append_lies (World.drew ((ub.alloc (.cells (madeCells #[.int .i64 0] n) 3)).alloc (.cells #[rowAt ub.heap.size n] 79))) rfl (.tmp 58) (.tmp 61) 81 rfl (w.heap.size + 1) 79 iI (.slice none 0 0) 1 24 Tryz.underlying81 hiI hzI0 hzI1 hzI2 rfl (by decide) vM k (rowV r2 2 n k) rfl
          (own_heap (w := (ub.alloc (.cells (madeCells #[.int .i64 0] n) 3)).alloc (.cells #[rowAt ub.heap.size n] 79)) rfl ((Gb.out.oM.alloc _).alloc _)) ⟨ub.heap.size + 1, 0, none⟩ 1 1 [rowAt ub.heap.size n] rfl rfl ?c1 (one_row _ _) (by omega) ?c3 ?c4 ?c5 _ rfl ?_
        case c1 =>
          have := cells_one (ub.alloc (.cells (madeCells #[.int .i64 0] n) 3)) (rowAt ub.heap.size n) 79
          rw [alloc_size] at this
          exact this
        case c3 => unfold maxLen; omega
        case c4 => omega
        case c5 => have := Xc.out.size; have := Bb.out.size; have := Gb.out.lt; omega
        intro gc capc vc hown hgrow hvg hlt
        have hS8 : vc.cell? ⟨w.heap.size, 3, none⟩ = some vM := (World.cell?_of_block (a := ⟨w.heap.size, 3, none⟩) (hgrow.block w.heap.size (Nat.lt_of_lt_of_le Gb.out.lt Xc.out.size) (fun e => own_ne Gb.out.oM Gb.out.blk (by decide) e.symm))).trans hS7
        have hF8 : vc.frozen? ⟨w.heap.size, 3, none⟩ = false := (World.frozen?_of_block (a := ⟨w.heap.size, 3, none⟩) (hgrow.block w.heap.size (Nat.lt_of_lt_of_le Gb.out.lt Xc.out.size) (fun e => own_ne Gb.out.oM Gb.out.blk (by decide) e.symm))).trans
          ((World.frozen?_of_block (a := ⟨w.heap.size, 3, none⟩) (Xc.out.block _ Gb.out.lt)).trans (Gb.out.cell.2.2.2.2 3))
        have Gc := Lib.hid (Gb.out.addM (w1 := (World.drew ((ub.alloc (.cells (madeCells #[.int .i64 0] n) 3)).alloc (.cells #[rowAt ub.heap.size n] 79)))) rfl hgrow hvg hown)
        have Bc := Lib.hid ((((Bb.out.trans (Xc.out.mono (by have := Gb.out.lt; omega))).grown hgrow (by have := Xc.out.size; have := Gb.out.lt; omega) (fun g hg => by have := (Gb.out.oM.lt g hg).1; omega)).setCell (p := ⟨w.heap.size, 3, none⟩) (Nat.le_refl _) (.slice (some ⟨gc, 0, none⟩) (k + 1) capc)))
        refine hK _ _ (fun _ => hS8) ?_
        clear hK hS7 hown hgrow hvg hlt
        refine wpAnyN_rest 9 [_, _, _] rfl (by kernel_rfl) (by kernel_rfl) ?_
        go_upto_region 10 with fail
        generalize vc.setCell ⟨w.heap.size, 3, none⟩ (.slice (some ⟨gc, 0, none⟩) (k + 1) capc) = uc at *
        clear hS8 hF8 Xc
        generalize extR r2 (3 * k + 2) ub.heap.size = r3 at *
        clear Gb Bb
        have hc1 := Gc.out.cell.2.1
        have hrow := Gc.out.cellL (a := k) (by omega)
        have hd := Gc.out.diagCell (by omega) hkn
        have hd1 := hd.1
        have hd2 := hd.2
        have HE := Lib.hid (Gc.out.diag hkn)
        have BE := Lib.hid (Bc.out.setCell (p := ⟨r3 (3 * k), k, none⟩) (Nat.le_of_lt (Gc.out.low (3 * k) (by omega))) (.bool true))
        have hcapL : k + 1 ≤ capa := by
          rcases Gc.out.oL.2 with ⟨e1, _⟩ | ⟨g', cap', cur, e1, _, _, hnc, _⟩
          · cases e1
          · cases e1; exact hnc
        generalize r3 (3 * k) = rk at *
        clear hd
        go_wp2
        go_roundw
        case rel => exact ⟨k + 1, _, _, _, r3, by go_num, by omega, HE.out, BE.out⟩
        case measure => simp [intOf]; omega
    · obtain rfl : k = n := by omega
      obtain ⟨p, hpo, hlow, hm⟩ := HG.out.done h1
      have HLOW := Lib.hid (show ∀ i, i < 3 * k → w.heap.size ≤ p.r i from fun i hi => Nat.le_of_lt (hlow i hi))
      have HM := Lib.hid (hm.eq (lf' := baseR (ps.take 0)) (fun a b _ _ => by simp [baseR]) (fun _ _ _ _ => rfl) (fun _ _ _ _ => rfl))
      have hlen : (ps.length : Int) ≤ 60 := by omega
      clear hm HG hlow
      rw [← hpo]
      clear hpo
      go_wp2_with fail
      go_loopw [8] (fun i w2 => OrdR w p k (fun j => baseR (ps.take j)) (fun _ _ _ => 0) (fun _ _ _ => 0) ps.length (fun j => ∀ x ∈ ps.take j, okPair k x = true) i w2) (fun i _ => ps.length - (intOf i).toNat)
      case atStart => exact ⟨0, rfl, Nat.zero_le _, HM.out, HB.out, fun x hx => by simp at hx⟩
      clear HM HB
      case round =>
        obtain ⟨j, rfl, hj, hm, hbw, hall⟩ := hrel
        (try dsimp only at hm)
        have HB := Lib.hid hbw
        have HA := Lib.hid hall
        by_cases hjn : j < ps.length
        · have hpr2 := HPR.out.below hbw
          obtain ⟨ba, off, rfl, hlt, hc, hc'⟩ := hpr2.at hjn
          have HTK := Lib.hid (List.take_succ_eq_append_getElem hjn)
          have HME := Lib.hid (List.getElem_mem hjn)
          have hcapA := hpr2.1
          have hcapB := hpr2.2.1
          unfold maxLen at hcapB
          cases hok : okPair k ps[j] with
          | true =>
            as_aux_lemma =>
              obtain ⟨x, y, hxy, hx, hy⟩ : ∃ x y : Nat, ps[j] = ((x : Int), (y : Int)) ∧ x < k ∧ y < k := by
                have ho := hok
                simp only [okPair, decide_eq_true_eq] at ho
                obtain ⟨o1, o2, o3, o4⟩ := ho
                exact ⟨(ps[j]).1.toNat, (ps[j]).2.toNat, Prod.ext (by simp; omega) (by simp; omega), by omega, by omega⟩
              have HO := Lib.hid (show ∀ z ∈ ps.take (j + 1), okPair k z = true from fun z hz => by
                rw [HTK.out, List.mem_append, List.mem_singleton] at hz
                rcases hz with hz | rfl
                · exact HA.out z hz
                · exact hok)
              have HL := Lib.hid ((hm.setL hx hy true).eq (lf' := baseR (ps.take (j + 1))) (fun a b _ _ => basePair_step hjn hxy a b) (fun _ _ _ _ => rfl) (fun _ _ _ _ => rfl))
              have BL := Lib.hid (HLOW.out (3 * x) (by omega))
              have m1 := hm.c1
              have m2 := hm.rL x hx
              have m3 := hm.eL x y hx hy
              have m4 := hm.fz (3 * x) y (by omega)
              have m5 := hm.cap
              rw [hxy] at hc hc'
              simp only at hc hc'
              have ix : (x : Int) < k := by omega
              have iy : (y : Int) < k := by omega
              have HQ : wr.heap = wr.heap := rfl
              generalize baseR (ps.take j) x y = q at *
              clear hm hbw hall hpr2 hok hxy HTK HME HA
              go_wp2_with fail
              go_quiet (fail)
              rename_i nq
              go_wp2
              go_roundw
              case rel => exact ⟨j + 1, by go_num, by omega, HL.out.heap rfl, (below_drewN' HB.out nq).setCell (p := ⟨p.r (3 * x), y, none⟩) BL.out _, HO.out⟩
              case measure => simp [intOf]; omega
          | false =>
            as_aux_lemma =>
              have HF := Lib.hid (err_pair h1 h64 HME.out hok)
              have hw := bad_ways hok
              generalize ps[j] = z at *
              obtain ⟨x, y⟩ := z
              simp only at hw hc hc'
              clear hm hbw hall hpr2 hok HTK HME HA
              rcases hw with h | ⟨h, h'⟩ | ⟨h, h', h2⟩ | ⟨h, h', h2, h3⟩
              all_goals
                go_wp2_with fail
                go_quiet (fail)
                rename_i nq
                go_wp2
                go_ret2
                exact OrdEnd.bad (below_drewN' HB.out nq) HF.out (by decide)
        · obtain rfl : j = ps.length := by omega
          as_aux_lemma =>
            have HOK := Lib.hid (show ∀ x ∈ ps, okPair k x = true from by rw [List.take_length] at hall; exact hall)
            have HM := Lib.hid (hm.eq (lf' := warN (baseR ps) 0) (fun a b _ _ => by rw [List.take_length]; rfl) (fun _ _ _ _ => rfl) (fun _ _ _ _ => rfl))
            clear hm hbw hall HA HPR
            go_wp2_with fail
            go_loopw [11] (fun i w2 => OrdR w p k (fun j => warN (baseR ps) j) (fun _ _ _ => 0) (fun _ _ _ => 0) k (fun _ => True) i w2) (fun i _ => k - (intOf i).toNat)
            case atStart => exact ⟨0, rfl, Nat.zero_le _, HM.out, HB.out, trivial⟩
            clear HM HB
            case round =>
              obtain ⟨g, rfl, hg, hm, hbw, _⟩ := hrel
              (try dsimp only at hm)
              have HB := Lib.hid hbw
              by_cases hgn : g < k
              · have HM := Lib.hid (hm.eq (lf' := w3 (baseR ps) g 0) (fun a b _ _ => w3_start (baseR ps) g a b) (fun _ _ _ _ => rfl) (fun _ _ _ _ => rfl))
                clear hm hbw
                go_wp2_with fail
                go_loopw [12] (fun i w2 => OrdR w p k (fun a => w3 (baseR ps) g a) (fun _ _ _ => 0) (fun _ _ _ => 0) k (fun _ => True) i w2) (fun i _ => k - (intOf i).toNat)
                case atStart => exact ⟨0, rfl, Nat.zero_le _, HM.out, HB.out, trivial⟩
                clear HM HB
                case round =>
                  obtain ⟨a, rfl, ha, hm, hbw, _⟩ := hrel
                  (try dsimp only at hm)
                  have HB := Lib.hid hbw
                  by_cases han : a < k
                  · have HM := Lib.hid (hm.eq (lf' := w4 (baseR ps) g a 0) (fun x y _ _ => w4_start (baseR ps) g a x y) (fun _ _ _ _ => rfl) (fun _ _ _ _ => rfl))
                    clear hm hbw
                    go_wp2_with fail
                    go_loopw [13] (fun i w2 => OrdR w p k (fun b => w4 (baseR ps) g a b) (fun _ _ _ => 0) (fun _ _ _ => 0) k (fun _ => True) i w2) (fun i _ => k - (intOf i).toNat)
                    case atStart => exact ⟨0, rfl, Nat.zero_le _, HM.out, HB.out, trivial⟩
                    clear HM HB
                    case round =>
                      obtain ⟨b, rfl, hb, hm, hbw, _⟩ := hrel
                      (try dsimp only at hm)
                      have HB := Lib.hid hbw
                      by_cases hbn : b < k
                      · have m1 := hm.c1
                        have m2 := hm.rL a han
                        have m3 := hm.rL g hgn
                        have e1 := hm.eL a b han hbn
                        have e2 := hm.eL a g han hgn
                        have e3 := hm.eL g b hgn hbn
                        have m4 := hm.fz (3 * a) b (by omega)
                        have m5 := hm.cap
                        rw [w4_ab] at e1
                        rw [w4_ak] at e2
                        rw [w4_kb] at e3
                        have BL := Lib.hid (HLOW.out (3 * a) (by omega))
                        cases ht : warN (baseR ps) g a b with
                        | true =>
                          as_aux_lemma =>
                            rw [ht] at e1
                            have HL := Lib.hid ((hm.setL han hbn true).eq (lf' := w4 (baseR ps) g a (b + 1)) (fun x y _ _ => w4_step (baseR ps) g a b (by rw [ht]; rfl) x y) (fun _ _ _ _ => rfl) (fun _ _ _ _ => rfl))
                            clear hm hbw ht e2 e3 m3
                            go_wp2_with fail
                            refine wp_region_N (fun W => W.cell? ⟨p.o, 1, none⟩ = some (.slice (some ⟨p.gL, 0, none⟩) k p.cL) ∧ W.cell? ⟨p.gL, a, none⟩ = some (.slice (some ⟨p.r (3 * a), 0, none⟩) k k) ∧ W.cell? ⟨p.r (3 * a), b, none⟩ = some (.bool true)) (fun j => decide (j < 42)) (by kernel_rfl) ?_
                            have hS : wr.drew.cell? ⟨p.o, 1, none⟩ = some (.slice (some ⟨p.gL, 0, none⟩) k p.cL) ∧ wr.drew.cell? ⟨p.gL, a, none⟩ = some (.slice (some ⟨p.r (3 * a), 0, none⟩) k k) ∧ wr.drew.cell? ⟨p.r (3 * a), b, none⟩ = some (.bool true) := ⟨m1, m2, e1⟩
                            refine wpAnyN_take_at 0 130 (v := ?_) rfl rfl (by kernel_rfl) (by kernel_rfl) (by kernel_rfl) (by kernel_rfl) (by kernel_rfl) (fun _ _ _ h => h) (by rfl) ?_ hS ?_
                            rotate_left
                            · intro w hSw; (try dsimp only at hSw); obtain ⟨s1, s2, s3⟩ := hSw; go_simp; (try with_reducible rfl)
                            simp only [Act.put, List.setIfInBounds_toArray, List.set_cons_zero, List.set_cons_succ]
                            refine wpAnyN_take_at 1 131 (v := ?_) rfl rfl (by kernel_rfl) (by kernel_rfl) (by kernel_rfl) (by kernel_rfl) (by kernel_rfl) (fun _ _ _ h => h) (by rfl) ?_ hS ?_
                            rotate_left
                            · intro w hSw; (try dsimp only at hSw); obtain ⟨s1, s2, s3⟩ := hSw; go_simp; (try with_reducible rfl)
                            simp only [Act.put, List.setIfInBounds_toArray, List.set_cons_zero, List.set_cons_succ]
                            refine wpAnyN_take_at 2 132 (v := ?_) rfl rfl (by kernel_rfl) (by kernel_rfl) (by kernel_rfl) (by kernel_rfl) (by kernel_rfl) (fun _ _ _ h => h) (by rfl) ?_ hS ?_
                            rotate_left
                            · intro w hSw; (try dsimp only at hSw); obtain ⟨s1, s2, s3⟩ := hSw; go_simp; (try with_reducible rfl)
                            simp only [Act.put, List.setIfInBounds_toArray, List.set_cons_zero, List.set_cons_succ]
                            refine wpAnyN_take_at 3 133 (v := ?_) rfl rfl (by kernel_rfl) (by kernel_rfl) (by kernel_rfl) (by kernel_rfl) (by kernel_rfl) (fun _ _ _ h => h) (by rfl) ?_ hS ?_
                            rotate_left
                            · intro w hSw; (try dsimp only at hSw); obtain ⟨s1, s2, s3⟩ := hSw; go_simp; (try with_reducible rfl)
                            simp only [Act.put, List.setIfInBounds_toArray, List.set_cons_zero, List.set_cons_succ]
                            refine wpAnyN_take_at 4 134 (v := ?_) rfl rfl (by kernel_rfl) (by kernel_rfl) (by kernel_rfl) (by kernel_rfl) (by kernel_rfl) (fun _ _ _ h => h) (by rfl) ?_ hS ?_
                            rotate_left
                            · intro w hSw; (try dsimp only at hSw); obtain ⟨s1, s2, s3⟩ := hSw; go_simp; (try with_reducible rfl)
                            simp only [Act.put, List.setIfInBounds_toArray, List.set_cons_zero, List.set_cons_succ]
                            refine wpAnyN_take_at 5 135 (v := ?_) rfl rfl (by kernel_rfl) (by kernel_rfl) (by kernel_rfl) (by kernel_rfl) (by kernel_rfl) (fun _ _ _ h => h) (by rfl) ?_ hS ?_
                            rotate_left
                            · intro w hSw; (try dsimp only at hSw); obtain ⟨s1, s2, s3⟩ := hSw; go_simp; (try with_reducible rfl)
                            simp only [Act.put, List.setIfInBounds_toArray, List.set_cons_zero, List.set_cons_succ]
                            refine wpAnyN_take_at 6 136 (v := ?_) rfl rfl (by kernel_rfl) (by kernel_rfl) (by kernel_rfl) (by kernel_rfl) (by kernel_rfl) (fun _ _ _ h => h) (by rfl) ?_ hS ?_
                            rotate_left
                            · intro w hSw; (try dsimp only at hSw); obtain ⟨s1, s2, s3⟩ := hSw; go_simp; (try with_reducible rfl)
                            simp only [Act.put, List.setIfInBounds_toArray, List.set_cons_zero, List.set_cons_succ]
                            refine wpAnyN_take_at 7 137 (v := ?_) rfl rfl (by kernel_rfl) (by kernel_rfl) (by kernel_rfl) (by kernel_rfl) (by kernel_rfl) (fun _ _ _ h => h) (by rfl) ?_ hS ?_
                            rotate_left
                            · intro w hSw; (try dsimp only at hSw); obtain ⟨s1, s2, s3⟩ := hSw; go_simp; (try with_reducible rfl)
                            simp only [Act.put, List.setIfInBounds_toArray, List.set_cons_zero, List.set_cons_succ]
                            refine wpAnyN_take_at 8 138 (v := ?_) rfl rfl (by kernel_rfl) (by kernel_rfl) (by kernel_rfl) (by kernel_rfl) (by kernel_rfl) (fun _ _ _ h => h) (by rfl) ?_ hS ?_
                            rotate_left
                            · intro w hSw; (try dsimp only at hSw); obtain ⟨s1, s2, s3⟩ := hSw; go_simp; (try with_reducible rfl)
                            simp only [Act.put, List.setIfInBounds_toArray, List.set_cons_zero, List.set_cons_succ]
                            refine wpAnyN_take_at 9 139 (v := ?_) rfl rfl (by kernel_rfl) (by kernel_rfl) (by kernel_rfl) (by kernel_rfl) (by kernel_rfl) (fun _ _ _ h => h) (by rfl) ?_ hS ?_
                            rotate_left
                            · intro w hSw; (try dsimp only at hSw); obtain ⟨s1, s2, s3⟩ := hSw; go_simp; (try with_reducible rfl)
                            simp only [Act.put, List.setIfInBounds_toArray, List.set_cons_zero, List.set_cons_succ]
                            refine wpAnyN_take_at 10 140 (v := ?_) rfl rfl (by kernel_rfl) (by kernel_rfl) (by kernel_rfl) (by kernel_rfl) (by kernel_rfl) (fun _ _ _ h => h) (by rfl) ?_ hS ?_
                            rotate_left
                            · intro w hSw; (try dsimp only at hSw); obtain ⟨s1, s2, s3⟩ := hSw; go_simp; (try with_reducible rfl)
                            simp only [Act.put, List.setIfInBounds_toArray, List.set_cons_zero, List.set_cons_succ]
                            refine wpAnyN_take_at 11 141 (v := ?_) rfl rfl (by kernel_rfl) (by kernel_rfl) (by kernel_rfl) (by kernel_rfl) (by kernel_rfl) (fun _ _ _ h => h) (by rfl) ?_ hS ?_
                            rotate_left
                            · intro w hSw; (try dsimp only at hSw); obtain ⟨s1, s2, s3⟩ := hSw; go_simp; (try with_reducible rfl)
                            simp only [Act.put, List.setIfInBounds_toArray, List.set_cons_zero, List.set_cons_succ]
                            refine wpAnyN_take_at 12 142 (v := ?_) rfl rfl (by kernel_rfl) (by kernel_rfl) (by kernel_rfl) (by kernel_rfl) (by kernel_rfl) (fun _ _ _ h => h) (by rfl) ?_ hS ?_
                            rotate_left
                            · intro w hSw; (try dsimp only at hSw); obtain ⟨s1, s2, s3⟩ := hSw; go_simp; (try with_reducible rfl)
                            simp only [Act.put, List.setIfInBounds_toArray, List.set_cons_zero, List.set_cons_succ]
                            refine wpAnyN_take_at 13 143 (v := ?_) rfl rfl (by kernel_rfl) (by kernel_rfl) (by kernel_rfl) (by kernel_rfl) (by kernel_rfl) (fun _ _ _ h => h) (by rfl) ?_ hS ?_
                            rotate_left
                            · intro w hSw; (try dsimp only at hSw); obtain ⟨s1, s2, s3⟩ := hSw; go_simp; (try with_reducible rfl)
                            simp only [Act.put, List.setIfInBounds_toArray, List.set_cons_zero, List.set_cons_succ]
                            refine wpAnyN_take_at 14 144 (v := ?_) rfl rfl (by kernel_rfl) (by kernel_rfl) (by kernel_rfl) (by kernel_rfl) (by kernel_rfl) (fun _ _ _ h => h) (by rfl) ?_ hS ?_
                            rotate_left
                            · intro w hSw; (try dsimp only at hSw); obtain ⟨s1, s2, s3⟩ := hSw; go_simp; (try with_reducible rfl)
                            simp only [Act.put, List.setIfInBounds_toArray, List.set_cons_zero, List.set_cons_succ]
                            refine wpAnyN_take_at 15 145 (v := ?_) rfl rfl (by kernel_rfl) (by kernel_rfl) (by kernel_rfl) (by kernel_rfl) (by kernel_rfl) (fun _ _ _ h => h) (by rfl) ?_ hS ?_
                            rotate_left
                            · intro w hSw; (try dsimp only at hSw); obtain ⟨s1, s2, s3⟩ := hSw; go_simp; (try with_reducible rfl)
                            simp only [Act.put, List.setIfInBounds_toArray, List.set_cons_zero, List.set_cons_succ]
                            refine wpAnyN_take_at 16 146 (v := ?_) rfl rfl (by kernel_rfl) (by kernel_rfl) (by kernel_rfl) (by kernel_rfl) (by kernel_rfl) (fun _ _ _ h => h) (by rfl) ?_ hS ?_
                            rotate_left
                            · intro w hSw; (try dsimp only at hSw); obtain ⟨s1, s2, s3⟩ := hSw; go_simp; (try with_reducible rfl)
                            simp only [Act.put, List.setIfInBounds_toArray, List.set_cons_zero, List.set_cons_succ]
                            refine wpAnyN_take_at 17 147 (v := ?_) rfl rfl (by kernel_rfl) (by kernel_rfl) (by kernel_rfl) (by kernel_rfl) (by kernel_rfl) (fun _ _ _ h => h) (by rfl) ?_ hS ?_
                            rotate_left
                            · intro w hSw; (try dsimp only at hSw); obtain ⟨s1, s2, s3⟩ := hSw; go_simp; (try with_reducible rfl)
                            simp only [Act.put, List.setIfInBounds_toArray, List.set_cons_zero, List.set_cons_succ]
                            refine wpAnyN_take_at 18 148 (v := ?_) rfl rfl (by kernel_rfl) (by kernel_rfl) (by kernel_rfl) (by kernel_rfl) (by kernel_rfl) (fun _ _ _ h => h) (by rfl) ?_ hS ?_
                            rotate_left
                            · intro w hSw; (try dsimp only at hSw); obtain ⟨s1, s2, s3⟩ := hSw; go_simp; (try with_reducible rfl)
                            simp only [Act.put, List.setIfInBounds_toArray, List.set_cons_zero, List.set_cons_succ]
                            refine wpAnyN_take_no 19 149 rfl rfl (by kernel_rfl) (by kernel_rfl) (by kernel_rfl) (by kernel_rfl) (by kernel_rfl) (fun _ _ _ h => h) (by rfl) hS ?_
                            simp only [Act.put, List.setIfInBounds_toArray, List.set_cons_zero, List.set_cons_succ]
                            refine wpAnyN_take_no 20 150 rfl rfl (by kernel_rfl) (by kernel_rfl) (by kernel_rfl) (by kernel_rfl) (by kernel_rfl) (fun _ _ _ h => h) (by rfl) hS ?_
                            simp only [Act.put, List.setIfInBounds_toArray, List.set_cons_zero, List.set_cons_succ]
                            refine wpAnyN_take_no 21 151 rfl rfl (by kernel_rfl) (by kernel_rfl) (by kernel_rfl) (by kernel_rfl) (by kernel_rfl) (fun _ _ _ h => h) (by rfl) hS ?_
                            simp only [Act.put, List.setIfInBounds_toArray, List.set_cons_zero, List.set_cons_succ]
                            refine wpAnyN_take_no 22 152 rfl rfl (by kernel_rfl) (by kernel_rfl) (by kernel_rfl) (by kernel_rfl) (by kernel_rfl) (fun _ _ _ h => h) (by rfl) hS ?_
                            simp only [Act.put, List.setIfInBounds_toArray, List.set_cons_zero, List.set_cons_succ]
                            refine wpAnyN_take_no 23 153 rfl rfl (by kernel_rfl) (by kernel_rfl) (by kernel_rfl) (by kernel_rfl) (by kernel_rfl) (fun _ _ _ h => h) (by rfl) hS ?_
                            simp only [Act.put, List.setIfInBounds_toArray, List.set_cons_zero, List.set_cons_succ]
                            refine wpAnyN_take_no 24 154 rfl rfl (by kernel_rfl) (by kernel_rfl) (by kernel_rfl) (by kernel_rfl) (by kernel_rfl) (fun _ _ _ h => h) (by rfl) hS ?_
                            simp only [Act.put, List.setIfInBounds_toArray, List.set_cons_zero, List.set_cons_succ]
                            refine wpAnyN_take_no 25 155 rfl rfl (by kernel_rfl) (by kernel_rfl) (by kernel_rfl) (by kernel_rfl) (by kernel_rfl) (fun _ _ _ h => h) (by rfl) hS ?_
                            simp only [Act.put, List.setIfInBounds_toArray, List.set_cons_zero, List.set_cons_succ]
                            refine wpAnyN_take_no 26 156 rfl rfl (by kernel_rfl) (by kernel_rfl) (by kernel_rfl) (by kernel_rfl) (by kernel_rfl) (fun _ _ _ h => h) (by rfl) hS ?_
                            simp only [Act.put, List.setIfInBounds_toArray, List.set_cons_zero, List.set_cons_succ]
                            refine wpAnyN_take_no 27 157 rfl rfl (by kernel_rfl) (by kernel_rfl) (by kernel_rfl) (by kernel_rfl) (by kernel_rfl) (fun _ _ _ h => h) (by rfl) hS ?_
                            simp only [Act.put, List.setIfInBounds_toArray, List.set_cons_zero, List.set_cons_succ]
                            refine wpAnyN_take_no 28 158 rfl rfl (by kernel_rfl) (by kernel_rfl) (by kernel_rfl) (by kernel_rfl) (by kernel_rfl) (fun _ _ _ h => h) (by rfl) hS ?_
                            simp only [Act.put, List.setIfInBounds_toArray, List.set_cons_zero, List.set_cons_succ]
                            refine wpAnyN_take_no 29 159 rfl rfl (by kernel_rfl) (by kernel_rfl) (by kernel_rfl) (by kernel_rfl) (by kernel_rfl) (fun _ _ _ h => h) (by rfl) hS ?_
                            simp only [Act.put, List.setIfInBounds_toArray, List.set_cons_zero, List.set_cons_succ]
                            refine wpAnyN_take_no 30 160 rfl rfl (by kernel_rfl) (by kernel_rfl) (by kernel_rfl) (by kernel_rfl) (by kernel_rfl) (fun _ _ _ h => h) (by rfl) hS ?_
                            simp only [Act.put, List.setIfInBounds_toArray, List.set_cons_zero, List.set_cons_succ]
                            refine wpAnyN_take_no 31 161 rfl rfl (by kernel_rfl) (by kernel_rfl) (by kernel_rfl) (by kernel_rfl) (by kernel_rfl) (fun _ _ _ h => h) (by rfl) hS ?_
                            simp only [Act.put, List.setIfInBounds_toArray, List.set_cons_zero, List.set_cons_succ]
                            refine wpAnyN_take_no 32 162 rfl rfl (by kernel_rfl) (by kernel_rfl) (by kernel_rfl) (by kernel_rfl) (by kernel_rfl) (fun _ _ _ h => h) (by rfl) hS ?_
                            simp only [Act.put, List.setIfInBounds_toArray, List.set_cons_zero, List.set_cons_succ]
                            refine wpAnyN_take_no 33 163 rfl rfl (by kernel_rfl) (by kernel_rfl) (by kernel_rfl) (by kernel_rfl) (by kernel_rfl) (fun _ _ _ h => h) (by rfl) hS ?_
                            simp only [Act.put, List.setIfInBounds_toArray, List.set_cons_zero, List.set_cons_succ]
                            refine wpAnyN_take_no 34 164 rfl rfl (by kernel_rfl) (by kernel_rfl) (by kernel_rfl) (by kernel_rfl) (by kernel_rfl) (fun _ _ _ h => h) (by rfl) hS ?_
                            simp only [Act.put, List.setIfInBounds_toArray, List.set_cons_zero, List.set_cons_succ]
                            refine wpAnyN_take_no 35 165 rfl rfl (by kernel_rfl) (by kernel_rfl) (by kernel_rfl) (by kernel_rfl) (by kernel_rfl) (fun _ _ _ h => h) (by rfl) hS ?_
                            simp only [Act.put, List.setIfInBounds_toArray, List.set_cons_zero, List.set_cons_succ]
                            refine wpAnyN_take_no 36 166 rfl rfl (by kernel_rfl) (by kernel_rfl) (by kernel_rfl) (by kernel_rfl) (by kernel_rfl) (fun _ _ _ h => h) (by rfl) hS ?_
                            simp only [Act.put, List.setIfInBounds_toArray, List.set_cons_zero, List.set_cons_succ]
                            refine wpAnyN_take_no 37 167 rfl rfl (by kernel_rfl) (by kernel_rfl) (by kernel_rfl) (by kernel_rfl) (by kernel_rfl) (fun _ _ _ h => h) (by rfl) hS ?_
                            simp only [Act.put, List.setIfInBounds_toArray, List.set_cons_zero, List.set_cons_succ]
                            refine wpAnyN_take_no 38 168 rfl rfl (by kernel_rfl) (by kernel_rfl) (by kernel_rfl) (by kernel_rfl) (by kernel_rfl) (fun _ _ _ h => h) (by rfl) hS ?_
                            simp only [Act.put, List.setIfInBounds_toArray, List.set_cons_zero, List.set_cons_succ]
                            refine wpAnyN_take_no 39 169 rfl rfl (by kernel_rfl) (by kernel_rfl) (by kernel_rfl) (by kernel_rfl) (by kernel_rfl) (fun _ _ _ h => h) (by rfl) hS ?_
                            simp only [Act.put, List.setIfInBounds_toArray, List.set_cons_zero, List.set_cons_succ]
                            refine wpAnyN_take_no 40 170 rfl rfl (by kernel_rfl) (by kernel_rfl) (by kernel_rfl) (by kernel_rfl) (by kernel_rfl) (fun _ _ _ h => h) (by rfl) hS ?_
                            simp only [Act.put, List.setIfInBounds_toArray, List.set_cons_zero, List.set_cons_succ]
                            refine wpAnyN_take_at 41 171 (v := ?_) rfl rfl (by kernel_rfl) (by kernel_rfl) (by kernel_rfl) (by kernel_rfl) (by kernel_rfl) (fun _ _ _ h => h) (by rfl) ?_ hS ?_
                            rotate_left
                            · intro w hSw; (try dsimp only at hSw); obtain ⟨s1, s2, s3⟩ := hSw; go_simp; (try with_reducible rfl)
                            simp only [Act.put, List.setIfInBounds_toArray, List.set_cons_zero, List.set_cons_succ]
                            clear hS
                            refine wpAnyN_rest 42 [_, _] rfl (by kernel_rfl) (by kernel_rfl) ?_
                            go_wp2
                            go_roundw
                            case rel => exact ⟨b + 1, by go_num, by omega, HL.out.heap rfl, (below_drewN' HB.out 1).setCell (p := ⟨p.r (3 * a), b, none⟩) BL.out _, trivial⟩
                            case measure => simp [intOf]; omega
                        | false =>
                          rw [ht] at e1
                          cases hu : warN (baseR ps) g a g with
                          | false =>
                            as_aux_lemma =>
                              rw [hu] at e2
                              have HL := Lib.hid ((hm.setL han hbn false).eq (lf' := w4 (baseR ps) g a (b + 1)) (fun x y _ _ => w4_step (baseR ps) g a b (by rw [ht, hu]; rfl) x y) (fun _ _ _ _ => rfl) (fun _ _ _ _ => rfl))
                              clear hm hbw ht hu e3 m3
                              go_wp2_with fail
                              refine wp_region_N (fun W => W.cell? ⟨p.o, 1, none⟩ = some (.slice (some ⟨p.gL, 0, none⟩) k p.cL) ∧ W.cell? ⟨p.gL, a, none⟩ = some (.slice (some ⟨p.r (3 * a), 0, none⟩) k k) ∧ W.cell? ⟨p.r (3 * a), b, none⟩ = some (.bool false) ∧ W.cell? ⟨p.r (3 * a), g, none⟩ = some (.bool false)) (fun j => decide (j < 42)) (by kernel_rfl) ?_
                              have hS : wr.drew.cell? ⟨p.o, 1, none⟩ = some (.slice (some ⟨p.gL, 0, none⟩) k p.cL) ∧ wr.drew.cell? ⟨p.gL, a, none⟩ = some (.slice (some ⟨p.r (3 * a), 0, none⟩) k k) ∧ wr.drew.cell? ⟨p.r (3 * a), b, none⟩ = some (.bool false) ∧ wr.drew.cell? ⟨p.r (3 * a), g, none⟩ = some (.bool false) := ⟨m1, m2, e1, e2⟩
                              refine wpAnyN_take_at 0 130 (v := ?_) rfl rfl (by kernel_rfl) (by kernel_rfl) (by kernel_rfl) (by kernel_rfl) (by kernel_rfl) (fun _ _ _ h => h) (by rfl) ?_ hS ?_
                              rotate_left
                              · intro w hSw; (try dsimp only at hSw); obtain ⟨s1, s2, s3, s4⟩ := hSw; go_simp; (try with_reducible rfl)
                              simp only [Act.put, List.setIfInBounds_toArray, List.set_cons_zero, List.set_cons_succ]
                              refine wpAnyN_take_at 1 131 (v := ?_) rfl rfl (by kernel_rfl) (by kernel_rfl) (by kernel_rfl) (by kernel_rfl) (by kernel_rfl) (fun _ _ _ h => h) (by rfl) ?_ hS ?_
                              rotate_left
                              · intro w hSw; (try dsimp only at hSw); obtain ⟨s1, s2, s3, s4⟩ := hSw; go_simp; (try with_reducible rfl)
                              simp only [Act.put, List.setIfInBounds_toArray, List.set_cons_zero, List.set_cons_succ]
                              refine wpAnyN_take_at 2 132 (v := ?_) rfl rfl (by kernel_rfl) (by kernel_rfl) (by kernel_rfl) (by kernel_rfl) (by kernel_rfl) (fun _ _ _ h => h) (by rfl) ?_ hS ?_
                              rotate_left
                              · intro w hSw; (try dsimp only at hSw); obtain ⟨s1, s2, s3, s4⟩ := hSw; go_simp; (try with_reducible rfl)
                              simp only [Act.put, List.setIfInBounds_toArray, List.set_cons_zero, List.set_cons_succ]
                              refine wpAnyN_take_at 3 133 (v := ?_) rfl rfl (by kernel_rfl) (by kernel_rfl) (by kernel_rfl) (by kernel_rfl) (by kernel_rfl) (fun _ _ _ h => h) (by rfl) ?_ hS ?_
                              rotate_left
                              · intro w hSw; (try dsimp only at hSw); obtain ⟨s1, s2, s3, s4⟩ := hSw; go_simp; (try with_reducible rfl)
                              simp only [Act.put, List.setIfInBounds_toArray, List.set_cons_zero, List.set_cons_succ]
                              refine wpAnyN_take_at 4 134 (v := ?_) rfl rfl (by kernel_rfl) (by kernel_rfl) (by kernel_rfl) (by kernel_rfl) (by kernel_rfl) (fun _ _ _ h => h) (by rfl) ?_ hS ?_
                              rotate_left
                              · intro w hSw; (try dsimp only at hSw); obtain ⟨s1, s2, s3, s4⟩ := hSw; go_simp; (try with_reducible rfl)
                              simp only [Act.put, List.setIfInBounds_toArray, List.set_cons_zero, List.set_cons_succ]
                              refine wpAnyN_take_at 5 135 (v := ?_) rfl rfl (by kernel_rfl) (by kernel_rfl) (by kernel_rfl) (by kernel_rfl) (by kernel_rfl) (fun _ _ _ h => h) (by rfl) ?_ hS ?_
                              rotate_left
                              · intro w hSw; (try dsimp only at hSw); obtain ⟨s1, s2, s3, s4⟩ := hSw; go_simp; (try with_reducible rfl)
                              simp only [Act.put, List.setIfInBounds_toArray, List.set_cons_zero, List.set_cons_succ]
                              refine wpAnyN_take_at 6 136 (v := ?_) rfl rfl (by kernel_rfl) (by kernel_rfl) (by kernel_rfl) (by kernel_rfl) (by kernel_rfl) (fun _ _ _ h => h) (by rfl) ?_ hS ?_
                              rotate_left
                              · intro w hSw; (try dsimp only at hSw); obtain ⟨s1, s2, s3, s4⟩ := hSw; go_simp; (try with_reducible rfl)
                              simp only [Act.put, List.setIfInBounds_toArray, List.set_cons_zero, List.set_cons_succ]
                              refine wpAnyN_take_at 7 137 (v := ?_) rfl rfl (by kernel_rfl) (by kernel_rfl) (by kernel_rfl) (by kernel_rfl) (by kernel_rfl) (fun _ _ _ h => h) (by rfl) ?_ hS ?_
                              rotate_left
                              · intro w hSw; (try dsimp only at hSw); obtain ⟨s1, s2, s3, s4⟩ := hSw; go_simp; (try with_reducible rfl)
                              simp only [Act.put, List.setIfInBounds_toArray, List.set_cons_zero, List.set_cons_succ]
                              refine wpAnyN_take_at 8 138 (v := ?_) rfl rfl (by kernel_rfl) (by kernel_rfl) (by kernel_rfl) (by kernel_rfl) (by kernel_rfl) (fun _ _ _ h => h) (by rfl) ?_ hS ?_
                              rotate_left
                              · intro w hSw; (try dsimp only at hSw); obtain ⟨s1, s2, s3, s4⟩ := hSw; go_simp; (try with_reducible rfl)
                              simp only [Act.put, List.setIfInBounds_toArray, List.set_cons_zero, List.set_cons_succ]
                              refine wpAnyN_take_at 9 139 (v := ?_) rfl rfl (by kernel_rfl) (by kernel_rfl) (by kernel_rfl) (by kernel_rfl) (by kernel_rfl) (fun _ _ _ h => h) (by rfl) ?_ hS ?_
                              rotate_left
                              · intro w hSw; (try dsimp only at hSw); obtain ⟨s1, s2, s3, s4⟩ := hSw; go_simp; (try with_reducible rfl)
                              simp only [Act.put, List.setIfInBounds_toArray, List.set_cons_zero, List.set_cons_succ]
                              refine wpAnyN_take_at 10 140 (v := ?_) rfl rfl (by kernel_rfl) (by kernel_rfl) (by kernel_rfl) (by kernel_rfl) (by kernel_rfl) (fun _ _ _ h => h) (by rfl) ?_ hS ?_
                              rotate_left
                              · intro w hSw; (try dsimp only at hSw); obtain ⟨s1, s2, s3, s4⟩ := hSw; go_simp; (try with_reducible rfl)
                              simp only [Act.put, List.setIfInBounds_toArray, List.set_cons_zero, List.set_cons_succ]
                              refine wpAnyN_take_at 11 141 (v := ?_) rfl rfl (by kernel_rfl) (by kernel_rfl) (by kernel_rfl) (by kernel_rfl) (by kernel_rfl) (fun _ _ _ h => h) (by rfl) ?_ hS ?_
                              rotate_left
                              · intro w hSw; (try dsimp only at hSw); obtain ⟨s1, s2, s3, s4⟩ := hSw; go_simp; (try with_reducible rfl)
                              simp only [Act.put, List.setIfInBounds_toArray, List.set_cons_zero, List.set_cons_succ]
                              refine wpAnyN_take_at 12 142 (v := ?_) rfl rfl (by kernel_rfl) (by kernel_rfl) (by kernel_rfl) (by kernel_rfl) (by kernel_rfl) (fun _ _ _ h => h) (by rfl) ?_ hS ?_
                              rotate_left
                              · intro w hSw; (try dsimp only at hSw); obtain ⟨s1, s2, s3, s4⟩ := hSw; go_simp; (try with_reducible rfl)
                              simp only [Act.put, List.setIfInBounds_toArray, List.set_cons_zero, List.set_cons_succ]
                              refine wpAnyN_take_at 13 143 (v := ?_) rfl rfl (by kernel_rfl) (by kernel_rfl) (by kernel_rfl) (by kernel_rfl) (by kernel_rfl) (fun _ _ _ h => h) (by rfl) ?_ hS ?_
                              rotate_left
                              · intro w hSw; (try dsimp only at hSw); obtain ⟨s1, s2, s3, s4⟩ := hSw; go_simp; (try with_reducible rfl)
                              simp only [Act.put, List.setIfInBounds_toArray, List.set_cons_zero, List.set_cons_succ]
                              refine wpAnyN_take_at 14 144 (v := ?_) rfl rfl (by kernel_rfl) (by kernel_rfl) (by kernel_rfl) (by kernel_rfl) (by kernel_rfl) (fun _ _ _ h => h) (by rfl) ?_ hS ?_
                              rotate_left
                              · intro w hSw; (try dsimp only at hSw); obtain ⟨s1, s2, s3, s4⟩ := hSw; go_simp; (try with_reducible rfl)
                              simp only [Act.put, List.setIfInBounds_toArray, List.set_cons_zero, List.set_cons_succ]
                              refine wpAnyN_take_at 15 145 (v := ?_) rfl rfl (by kernel_rfl) (by kernel_rfl) (by kernel_rfl) (by kernel_rfl) (by kernel_rfl) (fun _ _ _ h => h) (by rfl) ?_ hS ?_
                              rotate_left
                              · intro w hSw; (try dsimp only at hSw); obtain ⟨s1, s2, s3, s4⟩ := hSw; go_simp; (try with_reducible rfl)
                              simp only [Act.put, List.setIfInBounds_toArray, List.set_cons_zero, List.set_cons_succ]
                              refine wpAnyN_take_at 16 146 (v := ?_) rfl rfl (by kernel_rfl) (by kernel_rfl) (by kernel_rfl) (by kernel_rfl) (by kernel_rfl) (fun _ _ _ h => h) (by rfl) ?_ hS ?_
                              rotate_left
                              · intro w hSw; (try dsimp only at hSw); obtain ⟨s1, s2, s3, s4⟩ := hSw; go_simp; (try with_reducible rfl)
                              simp only [Act.put, List.setIfInBounds_toArray, List.set_cons_zero, List.set_cons_succ]
                              refine wpAnyN_take_at 17 147 (v := ?_) rfl rfl (by kernel_rfl) (by kernel_rfl) (by kernel_rfl) (by kernel_rfl) (by kernel_rfl) (fun _ _ _ h => h) (by rfl) ?_ hS ?_
                              rotate_left
                              · intro w hSw; (try dsimp only at hSw); obtain ⟨s1, s2, s3, s4⟩ := hSw; go_simp; (try with_reducible rfl)
                              simp only [Act.put, List.setIfInBounds_toArray, List.set_cons_zero, List.set_cons_succ]
                              refine wpAnyN_take_at 18 148 (v := ?_) rfl rfl (by kernel_rfl) (by kernel_rfl) (by kernel_rfl) (by kernel_rfl) (by kernel_rfl) (fun _ _ _ h => h) (by rfl) ?_ hS ?_
                              rotate_left
                              · intro w hSw; (try dsimp only at hSw); obtain ⟨s1, s2, s3, s4⟩ := hSw; go_simp; (try with_reducible rfl)
                              simp only [Act.put, List.setIfInBounds_toArray, List.set_cons_zero, List.set_cons_succ]
                              refine wpAnyN_take_at 19 149 (v := ?_) rfl rfl (by kernel_rfl) (by kernel_rfl) (by kernel_rfl) (by kernel_rfl) (by kernel_rfl) (fun _ _ _ h => h) (by rfl) ?_ hS ?_
                              rotate_left
                              · intro w hSw; (try dsimp only at hSw); obtain ⟨s1, s2, s3, s4⟩ := hSw; go_simp; (try with_reducible rfl)
                              simp only [Act.put, List.setIfInBounds_toArray, List.set_cons_zero, List.set_cons_succ]
                              refine wpAnyN_take_at 20 150 (v := ?_) rfl rfl (by kernel_rfl) (by kernel_rfl) (by kernel_rfl) (by kernel_rfl) (by kernel_rfl) (fun _ _ _ h => h) (by rfl) ?_ hS ?_
                              rotate_left
                              · intro w hSw; (try dsimp only at hSw); obtain ⟨s1, s2, s3, s4⟩ := hSw; go_simp; (try with_reducible rfl)
                              simp only [Act.put, List.setIfInBounds_toArray, List.set_cons_zero, List.set_cons_succ]
                              refine wpAnyN_take_at 21 151 (v := ?_) rfl rfl (by kernel_rfl) (by kernel_rfl) (by kernel_rfl) (by kernel_rfl) (by kernel_rfl) (fun _ _ _ h => h) (by rfl) ?_ hS ?_
                              rotate_left
                              · intro w hSw; (try dsimp only at hSw); obtain ⟨s1, s2, s3, s4⟩ := hSw; go_simp; (try with_reducible rfl)
                              simp only [Act.put, List.setIfInBounds_toArray, List.set_cons_zero, List.set_cons_succ]
                              refine wpAnyN_take_at 22 152 (v := ?_) rfl rfl (by kernel_rfl) (by kernel_rfl) (by kernel_rfl) (by kernel_rfl) (by kernel_rfl) (fun _ _ _ h => h) (by rfl) ?_ hS ?_
                              rotate_left
                              · intro w hSw; (try dsimp only at hSw); obtain ⟨s1, s2, s3, s4⟩ := hSw; go_simp; (try with_reducible rfl)
                              simp only [Act.put, List.setIfInBounds_toArray, List.set_cons_zero, List.set_cons_succ]
                              refine wpAnyN_take_at 23 153 (v := ?_) rfl rfl (by kernel_rfl) (by kernel_rfl) (by kernel_rfl) (by kernel_rfl) (by kernel_rfl) (fun _ _ _ h => h) (by rfl) ?_ hS ?_
                              rotate_left
                              · intro w hSw; (try dsimp only at hSw); obtain ⟨s1, s2, s3, s4⟩ := hSw; go_simp; (try with_reducible rfl)
                              simp only [Act.put, List.setIfInBounds_toArray, List.set_cons_zero, List.set_cons_succ]
                              refine wpAnyN_take_at 24 154 (v := ?_) rfl rfl (by kernel_rfl) (by kernel_rfl) (by kernel_rfl) (by kernel_rfl) (by kernel_rfl) (fun _ _ _ h => h) (by rfl) ?_ hS ?_
                              rotate_left
                              · intro w hSw; (try dsimp only at hSw); obtain ⟨s1, s2, s3, s4⟩ := hSw; go_simp; (try with_reducible rfl)
                              simp only [Act.put, List.setIfInBounds_toArray, List.set_cons_zero, List.set_cons_succ]
                              refine wpAnyN_take_at 25 155 (v := ?_) rfl rfl (by kernel_rfl) (by kernel_rfl) (by kernel_rfl) (by kernel_rfl) (by kernel_rfl) (fun _ _ _ h => h) (by rfl) ?_ hS ?_
                              rotate_left
                              · intro w hSw; (try dsimp only at hSw); obtain ⟨s1, s2, s3, s4⟩ := hSw; go_simp; (try with_reducible rfl)
                              simp only [Act.put, List.setIfInBounds_toArray, List.set_cons_zero, List.set_cons_succ]
                              refine wpAnyN_take_at 26 156 (v := ?_) rfl rfl (by kernel_rfl) (by kernel_rfl) (by kernel_rfl) (by kernel_rfl) (by kernel_rfl) (fun _ _ _ h => h) (by rfl) ?_ hS ?_
                              rotate_left
                              · intro w hSw; (try dsimp only at hSw); obtain ⟨s1, s2, s3, s4⟩ := hSw; go_simp; (try with_reducible rfl)
                              simp only [Act.put, List.setIfInBounds_toArray, List.set_cons_zero, List.set_cons_succ]
                              refine wpAnyN_take_at 27 157 (v := ?_) rfl rfl (by kernel_rfl) (by kernel_rfl) (by kernel_rfl) (by kernel_rfl) (by kernel_rfl) (fun _ _ _ h => h) (by rfl) ?_ hS ?_
                              rotate_left
                              · intro w hSw; (try dsimp only at hSw); obtain ⟨s1, s2, s3, s4⟩ := hSw; go_simp; (try with_reducible rfl)
                              simp only [Act.put, List.setIfInBounds_toArray, List.set_cons_zero, List.set_cons_succ]
                              refine wpAnyN_take_at 28 158 (v := ?_) rfl rfl (by kernel_rfl) (by kernel_rfl) (by kernel_rfl) (by kernel_rfl) (by kernel_rfl) (fun _ _ _ h => h) (by rfl) ?_ hS ?_
                              rotate_left
                              · intro w hSw; (try dsimp only at hSw); obtain ⟨s1, s2, s3, s4⟩ := hSw; go_simp; (try with_reducible rfl)
                              simp only [Act.put, List.setIfInBounds_toArray, List.set_cons_zero, List.set_cons_succ]
                              refine wpAnyN_take_at 29 159 (v := ?_) rfl rfl (by kernel_rfl) (by kernel_rfl) (by kernel_rfl) (by kernel_rfl) (by kernel_rfl) (fun _ _ _ h => h) (by rfl) ?_ hS ?_
                              rotate_left
                              · intro w hSw; (try dsimp only at hSw); obtain ⟨s1, s2, s3, s4⟩ := hSw; go_simp; (try with_reducible rfl)
                              simp only [Act.put, List.setIfInBounds_toArray, List.set_cons_zero, List.set_cons_succ]
                              refine wpAnyN_take_no 30 160 rfl rfl (by kernel_rfl) (by kernel_rfl) (by kernel_rfl) (by kernel_rfl) (by kernel_rfl) (fun _ _ _ h => h) (by rfl) hS ?_
                              simp only [Act.put, List.setIfInBounds_toArray, List.set_cons_zero, List.set_cons_succ]
                              refine wpAnyN_take_no 31 161 rfl rfl (by kernel_rfl) (by kernel_rfl) (by kernel_rfl) (by kernel_rfl) (by kernel_rfl) (fun _ _ _ h => h) (by rfl) hS ?_
                              simp only [Act.put, List.setIfInBounds_toArray, List.set_cons_zero, List.set_cons_succ]
                              refine wpAnyN_take_no 32 162 rfl rfl (by kernel_rfl) (by kernel_rfl) (by kernel_rfl) (by kernel_rfl) (by kernel_rfl) (fun _ _ _ h => h) (by rfl) hS ?_
                              simp only [Act.put, List.setIfInBounds_toArray, List.set_cons_zero, List.set_cons_succ]
                              refine wpAnyN_take_no 33 163 rfl rfl (by kernel_rfl) (by kernel_rfl) (by kernel_rfl) (by kernel_rfl) (by kernel_rfl) (fun _ _ _ h => h) (by rfl) hS ?_
                              simp only [Act.put, List.setIfInBounds_toArray, List.set_cons_zero, List.set_cons_succ]
                              refine wpAnyN_take_no 34 164 rfl rfl (by kernel_rfl) (by kernel_rfl) (by kernel_rfl) (by kernel_rfl) (by kernel_rfl) (fun _ _ _ h => h) (by rfl) hS ?_
                              simp only [Act.put, List.setIfInBounds_toArray, List.set_cons_zero, List.set_cons_succ]
                              refine wpAnyN_take_no 35 165 rfl rfl (by kernel_rfl) (by kernel_rfl) (by kernel_rfl) (by kernel_rfl) (by kernel_rfl) (fun _ _ _ h => h) (by rfl) hS ?_
                              simp only [Act.put, List.setIfInBounds_toArray, List.set_cons_zero, List.set_cons_succ]
                              refine wpAnyN_take_no 36 166 rfl rfl (by kernel_rfl) (by kernel_rfl) (by kernel_rfl) (by kernel_rfl) (by kernel_rfl) (fun _ _ _ h => h) (by rfl) hS ?_
                              simp only [Act.put, List.setIfInBounds_toArray, List.set_cons_zero, List.set_cons_succ]
                              refine wpAnyN_take_no 37 167 rfl rfl (by kernel_rfl) (by kernel_rfl) (by kernel_rfl) (by kernel_rfl) (by kernel_rfl) (fun _ _ _ h => h) (by rfl) hS ?_
                              simp only [Act.put, List.setIfInBounds_toArray, List.set_cons_zero, List.set_cons_succ]
                              refine wpAnyN_take_no 38 168 rfl rfl (by kernel_rfl) (by kernel_rfl) (by kernel_rfl) (by kernel_rfl) (by kernel_rfl) (fun _ _ _ h => h) (by rfl) hS ?_
                              simp only [Act.put, List.setIfInBounds_toArray, List.set_cons_zero, List.set_cons_succ]
                              refine wpAnyN_take_no 39 169 rfl rfl (by kernel_rfl) (by kernel_rfl) (by kernel_rfl) (by kernel_rfl) (by kernel_rfl) (fun _ _ _ h => h) (by rfl) hS ?_
                              simp only [Act.put, List.setIfInBounds_toArray, List.set_cons_zero, List.set_cons_succ]
                              refine wpAnyN_take_at 40 170 (v := ?_) rfl rfl (by kernel_rfl) (by kernel_rfl) (by kernel_rfl) (by kernel_rfl) (by kernel_rfl) (fun _ _ _ h => h) (by rfl) ?_ hS ?_
                              rotate_left
                              · intro w hSw; (try dsimp only at hSw); obtain ⟨s1, s2, s3, s4⟩ := hSw; go_simp; (try with_reducible rfl)
                              simp only [Act.put, List.setIfInBounds_toArray, List.set_cons_zero, List.set_cons_succ]
                              refine wpAnyN_take_at 41 171 (v := ?_) rfl rfl (by kernel_rfl) (by kernel_rfl) (by kernel_rfl) (by kernel_rfl) (by kernel_rfl) (fun _ _ _ h => h) (by rfl) ?_ hS ?_
                              rotate_left
                              · intro w hSw; (try dsimp only at hSw); obtain ⟨s1, s2, s3, s4⟩ := hSw; go_simp; (try with_reducible rfl)
                              simp only [Act.put, List.setIfInBounds_toArray, List.set_cons_zero, List.set_cons_succ]
                              clear hS
                              refine wpAnyN_rest 42 [_, _] rfl (by kernel_rfl) (by kernel_rfl) ?_
                              go_wp2
                              go_roundw
                              case rel => exact ⟨b + 1, by go_num, by omega, HL.out.heap rfl, (below_drewN' HB.out 1).setCell (p := ⟨p.r (3 * a), b, none⟩) BL.out _, trivial⟩
                              case measure => simp [intOf]; omega
                          | true =>
                            as_aux_lemma =>
                              rw [hu] at e2
                              obtain ⟨v, hv⟩ : ∃ v, v = warN (baseR ps) g g b := ⟨_, rfl⟩
                              rw [← hv] at e3
                              have HL := Lib.hid ((hm.setL han hbn v).eq (lf' := w4 (baseR ps) g a (b + 1)) (fun x y _ _ => w4_step (baseR ps) g a b (by rw [ht, hu, hv]; simp) x y) (fun _ _ _ _ => rfl) (fun _ _ _ _ => rfl))
                              clear hm hbw ht hu hv
                              go_wp2_with fail
                              refine wp_region_N (fun W => W.cell? ⟨p.o, 1, none⟩ = some (.slice (some ⟨p.gL, 0, none⟩) k p.cL) ∧ W.cell? ⟨p.gL, a, none⟩ = some (.slice (some ⟨p.r (3 * a), 0, none⟩) k k) ∧ W.cell? ⟨p.gL, g, none⟩ = some (.slice (some ⟨p.r (3 * g), 0, none⟩) k k) ∧ W.cell? ⟨p.r (3 * a), b, none⟩ = some (.bool false) ∧ W.cell? ⟨p.r (3 * a), g, none⟩ = some (.bool true) ∧ W.cell? ⟨p.r (3 * g), b, none⟩ = some (.bool v)) (fun j => decide (j < 42)) (by kernel_rfl) ?_
                              have hS : wr.drew.cell? ⟨p.o, 1, none⟩ = some (.slice (some ⟨p.gL, 0, none⟩) k p.cL) ∧ wr.drew.cell? ⟨p.gL, a, none⟩ = some (.slice (some ⟨p.r (3 * a), 0, none⟩) k k) ∧ wr.drew.cell? ⟨p.gL, g, none⟩ = some (.slice (some ⟨p.r (3 * g), 0, none⟩) k k) ∧ wr.drew.cell? ⟨p.r (3 * a), b, none⟩ = some (.bool false) ∧ wr.drew.cell? ⟨p.r (3 * a), g, none⟩ = some (.bool true) ∧ wr.drew.cell? ⟨p.r (3 * g), b, none⟩ = some (.bool v) := ⟨m1, m2, m3, e1, e2, e3⟩
                              refine wpAnyN_take_at 0 130 (v := ?_) rfl rfl (by kernel_rfl) (by kernel_rfl) (by kernel_rfl) (by kernel_rfl) (by kernel_rfl) (fun _ _ _ h => h) (by rfl) ?_ hS ?_
                              rotate_left
                              · intro w hSw; (try dsimp only at hSw); obtain ⟨s1, s2, s3, s4, s5, s6⟩ := hSw; go_simp; (try with_reducible rfl)
                              simp only [Act.put, List.setIfInBounds_toArray, List.set_cons_zero, List.set_cons_succ]
                              refine wpAnyN_take_at 1 131 (v := ?_) rfl rfl (by kernel_rfl) (by kernel_rfl) (by kernel_rfl) (by kernel_rfl) (by kernel_rfl) (fun _ _ _ h => h) (by rfl) ?_ hS ?_
                              rotate_left
                              · intro w hSw; (try dsimp only at hSw); obtain ⟨s1, s2, s3, s4, s5, s6⟩ := hSw; go_simp; (try with_reducible rfl)
                              simp only [Act.put, List.setIfInBounds_toArray, List.set_cons_zero, List.set_cons_succ]
                              refine wpAnyN_take_at 2 132 (v := ?_) rfl rfl (by kernel_rfl) (by kernel_rfl) (by kernel_rfl) (by kernel_rfl) (by kernel_rfl) (fun _ _ _ h => h) (by rfl) ?_ hS ?_
                              rotate_left
                              · intro w hSw; (try dsimp only at hSw); obtain ⟨s1, s2, s3, s4, s5, s6⟩ := hSw; go_simp; (try with_reducible rfl)
                              simp only [Act.put, List.setIfInBounds_toArray, List.set_cons_zero, List.set_cons_succ]
                              refine wpAnyN_take_at 3 133 (v := ?_) rfl rfl (by kernel_rfl) (by kernel_rfl) (by kernel_rfl) (by kernel_rfl) (by kernel_rfl) (fun _ _ _ h => h) (by rfl) ?_ hS ?_
                              rotate_left
                              · intro w hSw; (try dsimp only at hSw); obtain ⟨s1, s2, s3, s4, s5, s6⟩ := hSw; go_simp; (try with_reducible rfl)
                              simp only [Act.put, List.setIfInBounds_toArray, List.set_cons_zero, List.set_cons_succ]
                              refine wpAnyN_take_at 4 134 (v := ?_) rfl rfl (by kernel_rfl) (by kernel_rfl) (by kernel_rfl) (by kernel_rfl) (by kernel_rfl) (fun _ _ _ h => h) (by rfl) ?_ hS ?_
                              rotate_left
                              · intro w hSw; (try dsimp only at hSw); obtain ⟨s1, s2, s3, s4, s5, s6⟩ := hSw; go_simp; (try with_reducible rfl)
                              simp only [Act.put, List.setIfInBounds_toArray, List.set_cons_zero, List.set_cons_succ]
                              refine wpAnyN_take_at 5 135 (v := ?_) rfl rfl (by kernel_rfl) (by kernel_rfl) (by kernel_rfl) (by kernel_rfl) (by kernel_rfl) (fun _ _ _ h => h) (by rfl) ?_ hS ?_
                              rotate_left
                              · intro w hSw; (try dsimp only at hSw); obtain ⟨s1, s2, s3, s4, s5, s6⟩ := hSw; go_simp; (try with_reducible rfl)
                              simp only [Act.put, List.setIfInBounds_toArray, List.set_cons_zero, List.set_cons_succ]
                              refine wpAnyN_take_at 6 136 (v := ?_) rfl rfl (by kernel_rfl) (by kernel_rfl) (by kernel_rfl) (by kernel_rfl) (by kernel_rfl) (fun _ _ _ h => h) (by rfl) ?_ hS ?_
                              rotate_left
                              · intro w hSw; (try dsimp only at hSw); obtain ⟨s1, s2, s3, s4, s5, s6⟩ := hSw; go_simp; (try with_reducible rfl)
                              simp only [Act.put, List.setIfInBounds_toArray, List.set_cons_zero, List.set_cons_succ]
                              refine wpAnyN_take_at 7 137 (v := ?_) rfl rfl (by kernel_rfl) (by kernel_rfl) (by kernel_rfl) (by kernel_rfl) (by kernel_rfl) (fun _ _ _ h => h) (by rfl) ?_ hS ?_
                              rotate_left
                              · intro w hSw; (try dsimp only at hSw); obtain ⟨s1, s2, s3, s4, s5, s6⟩ := hSw; go_simp; (try with_reducible rfl)
                              simp only [Act.put, List.setIfInBounds_toArray, List.set_cons_zero, List.set_cons_succ]
                              refine wpAnyN_take_at 8 138 (v := ?_) rfl rfl (by kernel_rfl) (by kernel_rfl) (by kernel_rfl) (by kernel_rfl) (by kernel_rfl) (fun _ _ _ h => h) (by rfl) ?_ hS ?_
                              rotate_left
                              · intro w hSw; (try dsimp only at hSw); obtain ⟨s1, s2, s3, s4, s5, s6⟩ := hSw; go_simp; (try with_reducible rfl)
                              simp only [Act.put, List.setIfInBounds_toArray, List.set_cons_zero, List.set_cons_succ]
                              refine wpAnyN_take_at 9 139 (v := ?_) rfl rfl (by kernel_rfl) (by kernel_rfl) (by kernel_rfl) (by kernel_rfl) (by kernel_rfl) (fun _ _ _ h => h) (by rfl) ?_ hS ?_
                              rotate_left
                              · intro w hSw; (try dsimp only at hSw); obtain ⟨s1, s2, s3, s4, s5, s6⟩ := hSw; go_simp; (try with_reducible rfl)
                              simp only [Act.put, List.setIfInBounds_toArray, List.set_cons_zero, List.set_cons_succ]
                              refine wpAnyN_take_at 10 140 (v := ?_) rfl rfl (by kernel_rfl) (by kernel_rfl) (by kernel_rfl) (by kernel_rfl) (by kernel_rfl) (fun _ _ _ h => h) (by rfl) ?_ hS ?_
                              rotate_left
                              · intro w hSw; (try dsimp only at hSw); obtain ⟨s1, s2, s3, s4, s5, s6⟩ := hSw; go_simp; (try with_reducible rfl)
                              simp only [Act.put, List.setIfInBounds_toArray, List.set_cons_zero, List.set_cons_succ]
                              refine wpAnyN_take_at 11 141 (v := ?_) rfl rfl (by kernel_rfl) (by kernel_rfl) (by kernel_rfl) (by kernel_rfl) (by kernel_rfl) (fun _ _ _ h => h) (by rfl) ?_ hS ?_
                              rotate_left
                              · intro w hSw; (try dsimp only at hSw); obtain ⟨s1, s2, s3, s4, s5, s6⟩ := hSw; go_simp; (try with_reducible rfl)
                              simp only [Act.put, List.setIfInBounds_toArray, List.set_cons_zero, List.set_cons_succ]
                              refine wpAnyN_take_at 12 142 (v := ?_) rfl rfl (by kernel_rfl) (by kernel_rfl) (by kernel_rfl) (by kernel_rfl) (by kernel_rfl) (fun _ _ _ h => h) (by rfl) ?_ hS ?_
                              rotate_left
                              · intro w hSw; (try dsimp only at hSw); obtain ⟨s1, s2, s3, s4, s5, s6⟩ := hSw; go_simp; (try with_reducible rfl)
                              simp only [Act.put, List.setIfInBounds_toArray, List.set_cons_zero, List.set_cons_succ]
                              refine wpAnyN_take_at 13 143 (v := ?_) rfl rfl (by kernel_rfl) (by kernel_rfl) (by kernel_rfl) (by kernel_rfl) (by kernel_rfl) (fun _ _ _ h => h) (by rfl) ?_ hS ?_
                              rotate_left
                              · intro w hSw; (try dsimp only at hSw); obtain ⟨s1, s2, s3, s4, s5, s6⟩ := hSw; go_simp; (try with_reducible rfl)
                              simp only [Act.put, List.setIfInBounds_toArray, List.set_cons_zero, List.set_cons_succ]
                              refine wpAnyN_take_at 14 144 (v := ?_) rfl rfl (by kernel_rfl) (by kernel_rfl) (by kernel_rfl) (by kernel_rfl) (by kernel_rfl) (fun _ _ _ h => h) (by rfl) ?_ hS ?_
                              rotate_left
                              · intro w hSw; (try dsimp only at hSw); obtain ⟨s1, s2, s3, s4, s5, s6⟩ := hSw; go_simp; (try with_reducible rfl)
                              simp only [Act.put, List.setIfInBounds_toArray, List.set_cons_zero, List.set_cons_succ]
                              refine wpAnyN_take_at 15 145 (v := ?_) rfl rfl (by kernel_rfl) (by kernel_rfl) (by kernel_rfl) (by kernel_rfl) (by kernel_rfl) (fun _ _ _ h => h) (by rfl) ?_ hS ?_
                              rotate_left
                              · intro w hSw; (try dsimp only at hSw); obtain ⟨s1, s2, s3, s4, s5, s6⟩ := hSw; go_simp; (try with_reducible rfl)
                              simp only [Act.put, List.setIfInBounds_toArray, List.set_cons_zero, List.set_cons_succ]
                              refine wpAnyN_take_at 16 146 (v := ?_) rfl rfl (by kernel_rfl) (by kernel_rfl) (by kernel_rfl) (by kernel_rfl) (by kernel_rfl) (fun _ _ _ h => h) (by rfl) ?_ hS ?_
                              rotate_left
                              · intro w hSw; (try dsimp only at hSw); obtain ⟨s1, s2, s3, s4, s5, s6⟩ := hSw; go_simp; (try with_reducible rfl)
                              simp only [Act.put, List.setIfInBounds_toArray, List.set_cons_zero, List.set_cons_succ]
                              refine wpAnyN_take_at 17 147 (v := ?_) rfl rfl (by kernel_rfl) (by kernel_rfl) (by kernel_rfl) (by kernel_rfl) (by kernel_rfl) (fun _ _ _ h => h) (by rfl) ?_ hS ?_
                              rotate_left
                              · intro w hSw; (try dsimp only at hSw); obtain ⟨s1, s2, s3, s4, s5, s6⟩ := hSw; go_simp; (try with_reducible rfl)
                              simp only [Act.put, List.setIfInBounds_toArray, List.set_cons_zero, List.set_cons_succ]
                              refine wpAnyN_take_at 18 148 (v := ?_) rfl rfl (by kernel_rfl) (by kernel_rfl) (by kernel_rfl) (by kernel_rfl) (by kernel_rfl) (fun _ _ _ h => h) (by rfl) ?_ hS ?_
                              rotate_left
                              · intro w hSw; (try dsimp only at hSw); obtain ⟨s1, s2, s3, s4, s5, s6⟩ := hSw; go_simp; (try with_reducible rfl)
                              simp only [Act.put, List.setIfInBounds_toArray, List.set_cons_zero, List.set_cons_succ]
                              refine wpAnyN_take_at 19 149 (v := ?_) rfl rfl (by kernel_rfl) (by kernel_rfl) (by kernel_rfl) (by kernel_rfl) (by kernel_rfl) (fun _ _ _ h => h) (by rfl) ?_ hS ?_
                              rotate_left
                              · intro w hSw; (try dsimp only at hSw); obtain ⟨s1, s2, s3, s4, s5, s6⟩ := hSw; go_simp; (try with_reducible rfl)
                              simp only [Act.put, List.setIfInBounds_toArray, List.set_cons_zero, List.set_cons_succ]
                              refine wpAnyN_take_at 20 150 (v := ?_) rfl rfl (by kernel_rfl) (by kernel_rfl) (by kernel_rfl) (by kernel_rfl) (by kernel_rfl) (fun _ _ _ h => h) (by rfl) ?_ hS ?_
                              rotate_left
                              · intro w hSw; (try dsimp only at hSw); obtain ⟨s1, s2, s3, s4, s5, s6⟩ := hSw; go_simp; (try with_reducible rfl)
                              simp only [Act.put, List.setIfInBounds_toArray, List.set_cons_zero, List.set_cons_succ]
                              refine wpAnyN_take_at 21 151 (v := ?_) rfl rfl (by kernel_rfl) (by kernel_rfl) (by kernel_rfl) (by kernel_rfl) (by kernel_rfl) (fun _ _ _ h => h) (by rfl) ?_ hS ?_
                              rotate_left
                              · intro w hSw; (try dsimp only at hSw); obtain ⟨s1, s2, s3, s4, s5, s6⟩ := hSw; go_simp; (try with_reducible rfl)
                              simp only [Act.put, List.setIfInBounds_toArray, List.set_cons_zero, List.set_cons_succ]
                              refine wpAnyN_take_at 22 152 (v := ?_) rfl rfl (by kernel_rfl) (by kernel_rfl) (by kernel_rfl) (by kernel_rfl) (by kernel_rfl) (fun _ _ _ h => h) (by rfl) ?_ hS ?_
                              rotate_left
                              · intro w hSw; (try dsimp only at hSw); obtain ⟨s1, s2, s3, s4, s5, s6⟩ := hSw; go_simp; (try with_reducible rfl)
                              simp only [Act.put, List.setIfInBounds_toArray, List.set_cons_zero, List.set_cons_succ]
                              refine wpAnyN_take_at 23 153 (v := ?_) rfl rfl (by kernel_rfl) (by kernel_rfl) (by kernel_rfl) (by kernel_rfl) (by kernel_rfl) (fun _ _ _ h => h) (by rfl) ?_ hS ?_
                              rotate_left
                              · intro w hSw; (try dsimp only at hSw); obtain ⟨s1, s2, s3, s4, s5, s6⟩ := hSw; go_simp; (try with_reducible rfl)
                              simp only [Act.put, List.setIfInBounds_toArray, List.set_cons_zero, List.set_cons_succ]
                              refine wpAnyN_take_at 24 154 (v := ?_) rfl rfl (by kernel_rfl) (by kernel_rfl) (by kernel_rfl) (by kernel_rfl) (by kernel_rfl) (fun _ _ _ h => h) (by rfl) ?_ hS ?_
                              rotate_left
                              · intro w hSw; (try dsimp only at hSw); obtain ⟨s1, s2, s3, s4, s5, s6⟩ := hSw; go_simp; (try with_reducible rfl)
                              simp only [Act.put, List.setIfInBounds_toArray, List.set_cons_zero, List.set_cons_succ]
                              refine wpAnyN_take_at 25 155 (v := ?_) rfl rfl (by kernel_rfl) (by kernel_rfl) (by kernel_rfl) (by kernel_rfl) (by kernel_rfl) (fun _ _ _ h => h) (by rfl) ?_ hS ?_
                              rotate_left
                              · intro w hSw; (try dsimp only at hSw); obtain ⟨s1, s2, s3, s4, s5, s6⟩ := hSw; go_simp; (try with_reducible rfl)
                              simp only [Act.put, List.setIfInBounds_toArray, List.set_cons_zero, List.set_cons_succ]
                              refine wpAnyN_take_at 26 156 (v := ?_) rfl rfl (by kernel_rfl) (by kernel_rfl) (by kernel_rfl) (by kernel_rfl) (by kernel_rfl) (fun _ _ _ h => h) (by rfl) ?_ hS ?_
                              rotate_left
                              · intro w hSw; (try dsimp only at hSw); obtain ⟨s1, s2, s3, s4, s5, s6⟩ := hSw; go_simp; (try with_reducible rfl)
                              simp only [Act.put, List.setIfInBounds_toArray, List.set_cons_zero, List.set_cons_succ]
                              refine wpAnyN_take_at 27 157 (v := ?_) rfl rfl (by kernel_rfl) (by kernel_rfl) (by kernel_rfl) (by kernel_rfl) (by kernel_rfl) (fun _ _ _ h => h) (by rfl) ?_ hS ?_
                              rotate_left
                              · intro w hSw; (try dsimp only at hSw); obtain ⟨s1, s2, s3, s4, s5, s6⟩ := hSw; go_simp; (try with_reducible rfl)
                              simp only [Act.put, List.setIfInBounds_toArray, List.set_cons_zero, List.set_cons_succ]
                              refine wpAnyN_take_at 28 158 (v := ?_) rfl rfl (by kernel_rfl) (by kernel_rfl) (by kernel_rfl) (by kernel_rfl) (by kernel_rfl) (fun _ _ _ h => h) (by rfl) ?_ hS ?_
                              rotate_left
                              · intro w hSw; (try dsimp only at hSw); obtain ⟨s1, s2, s3, s4, s5, s6⟩ := hSw; go_simp; (try with_reducible rfl)
                              simp only [Act.put, List.setIfInBounds_toArray, List.set_cons_zero, List.set_cons_succ]
                              refine wpAnyN_take_at 29 159 (v := ?_) rfl rfl (by kernel_rfl) (by kernel_rfl) (by kernel_rfl) (by kernel_rfl) (by kernel_rfl) (fun _ _ _ h => h) (by rfl) ?_ hS ?_
                              rotate_left
                              · intro w hSw; (try dsimp only at hSw); obtain ⟨s1, s2, s3, s4, s5, s6⟩ := hSw; go_simp; (try with_reducible rfl)
                              simp only [Act.put, List.setIfInBounds_toArray, List.set_cons_zero, List.set_cons_succ]
                              refine wpAnyN_take_at 30 160 (v := ?_) rfl rfl (by kernel_rfl) (by kernel_rfl) (by kernel_rfl) (by kernel_rfl) (by kernel_rfl) (fun _ _ _ h => h) (by rfl) ?_ hS ?_
                              rotate_left
                              · intro w hSw; (try dsimp only at hSw); obtain ⟨s1, s2, s3, s4, s5, s6⟩ := hSw; go_simp; (try with_reducible rfl)
                              simp only [Act.put, List.setIfInBounds_toArray, List.set_cons_zero, List.set_cons_succ]
                              refine wpAnyN_take_at 31 161 (v := ?_) rfl rfl (by kernel_rfl) (by kernel_rfl) (by kernel_rfl) (by kernel_rfl) (by kernel_rfl) (fun _ _ _ h => h) (by rfl) ?_ hS ?_
                              rotate_left
                              · intro w hSw; (try dsimp only at hSw); obtain ⟨s1, s2, s3, s4, s5, s6⟩ := hSw; go_simp; (try with_reducible rfl)
                              simp only [Act.put, List.setIfInBounds_toArray, List.set_cons_zero, List.set_cons_succ]
                              refine wpAnyN_take_at 32 162 (v := ?_) rfl rfl (by kernel_rfl) (by kernel_rfl) (by kernel_rfl) (by kernel_rfl) (by kernel_rfl) (fun _ _ _ h => h) (by rfl) ?_ hS ?_
                              rotate_left
                              · intro w hSw; (try dsimp only at hSw); obtain ⟨s1, s2, s3, s4, s5, s6⟩ := hSw; go_simp; (try with_reducible rfl)
                              simp only [Act.put, List.setIfInBounds_toArray, List.set_cons_zero, List.set_cons_succ]
                              refine wpAnyN_take_at 33 163 (v := ?_) rfl rfl (by kernel_rfl) (by kernel_rfl) (by kernel_rfl) (by kernel_rfl) (by kernel_rfl) (fun _ _ _ h => h) (by rfl) ?_ hS ?_
                              rotate_left
                              · intro w hSw; (try dsimp only at hSw); obtain ⟨s1, s2, s3, s4, s5, s6⟩ := hSw; go_simp; (try with_reducible rfl)
                              simp only [Act.put, List.setIfInBounds_toArray, List.set_cons_zero, List.set_cons_succ]
                              refine wpAnyN_take_at 34 164 (v := ?_) rfl rfl (by kernel_rfl) (by kernel_rfl) (by kernel_rfl) (by kernel_rfl) (by kernel_rfl) (fun _ _ _ h => h) (by rfl) ?_ hS ?_
                              rotate_left
                              · intro w hSw; (try dsimp only at hSw); obtain ⟨s1, s2, s3, s4, s5, s6⟩ := hSw; go_simp; (try with_reducible rfl)
                              simp only [Act.put, List.setIfInBounds_toArray, List.set_cons_zero, List.set_cons_succ]
                              refine wpAnyN_take_at 35 165 (v := ?_) rfl rfl (by kernel_rfl) (by kernel_rfl) (by kernel_rfl) (by kernel_rfl) (by kernel_rfl) (fun _ _ _ h => h) (by rfl) ?_ hS ?_
                              rotate_left
                              · intro w hSw; (try dsimp only at hSw); obtain ⟨s1, s2, s3, s4, s5, s6⟩ := hSw; go_simp; (try with_reducible rfl)
                              simp only [Act.put, List.setIfInBounds_toArray, List.set_cons_zero, List.set_cons_succ]
                              refine wpAnyN_take_at 36 166 (v := ?_) rfl rfl (by kernel_rfl) (by kernel_rfl) (by kernel_rfl) (by kernel_rfl) (by kernel_rfl) (fun _ _ _ h => h) (by rfl) ?_ hS ?_
                              rotate_left
                              · intro w hSw; (try dsimp only at hSw); obtain ⟨s1, s2, s3, s4, s5, s6⟩ := hSw; go_simp; (try with_reducible rfl)
                              simp only [Act.put, List.setIfInBounds_toArray, List.set_cons_zero, List.set_cons_succ]
                              refine wpAnyN_take_at 37 167 (v := ?_) rfl rfl (by kernel_rfl) (by kernel_rfl) (by kernel_rfl) (by kernel_rfl) (by kernel_rfl) (fun _ _ _ h => h) (by rfl) ?_ hS ?_
                              rotate_left
                              · intro w hSw; (try dsimp only at hSw); obtain ⟨s1, s2, s3, s4, s5, s6⟩ := hSw; go_simp; (try with_reducible rfl)
                              simp only [Act.put, List.setIfInBounds_toArray, List.set_cons_zero, List.set_cons_succ]
                              refine wpAnyN_take_at 38 168 (v := ?_) rfl rfl (by kernel_rfl) (by kernel_rfl) (by kernel_rfl) (by kernel_rfl) (by kernel_rfl) (fun _ _ _ h => h) (by rfl) ?_ hS ?_
                              rotate_left
                              · intro w hSw; (try dsimp only at hSw); obtain ⟨s1, s2, s3, s4, s5, s6⟩ := hSw; go_simp; (try with_reducible rfl)
                              simp only [Act.put, List.setIfInBounds_toArray, List.set_cons_zero, List.set_cons_succ]
                              refine wpAnyN_take_at 39 169 (v := ?_) rfl rfl (by kernel_rfl) (by kernel_rfl) (by kernel_rfl) (by kernel_rfl) (by kernel_rfl) (fun _ _ _ h => h) (by rfl) ?_ hS ?_
                              rotate_left
                              · intro w hSw; (try dsimp only at hSw); obtain ⟨s1, s2, s3, s4, s5, s6⟩ := hSw; go_simp; (try with_reducible rfl)
                              simp only [Act.put, List.setIfInBounds_toArray, List.set_cons_zero, List.set_cons_succ]
                              refine wpAnyN_take_at 40 170 (v := ?_) rfl rfl (by kernel_rfl) (by kernel_rfl) (by kernel_rfl) (by kernel_rfl) (by kernel_rfl) (fun _ _ _ h => h) (by rfl) ?_ hS ?_
                              rotate_left
                              · intro w hSw; (try dsimp only at hSw); obtain ⟨s1, s2, s3, s4, s5, s6⟩ := hSw; go_simp; (try with_reducible rfl)
                              simp only [Act.put, List.setIfInBounds_toArray, List.set_cons_zero, List.set_cons_succ]
                              refine wpAnyN_take_at 41 171 (v := ?_) rfl rfl (by kernel_rfl) (by kernel_rfl) (by kernel_rfl) (by kernel_rfl) (by kernel_rfl) (fun _ _ _ h => h) (by rfl) ?_ hS ?_
                              rotate_left
                              · intro w hSw; (try dsimp only at hSw); obtain ⟨s1, s2, s3, s4, s5, s6⟩ := hSw; go_simp; (try with_reducible rfl)
                              simp only [Act.put, List.setIfInBounds_toArray, List.set_cons_zero, List.set_cons_succ]
                              clear hS
                              refine wpAnyN_rest 42 [_, _] rfl (by kernel_rfl) (by kernel_rfl) ?_
                              go_wp2
                              go_roundw
                              case rel => exact ⟨b + 1, by go_num, by omega, HL.out.heap rfl, (below_drewN' HB.out 1).setCell (p := ⟨p.r (3 * a), b, none⟩) BL.out _, trivial⟩
                              case measure => simp [intOf]; omega
                      · obtain rfl : b = k := by omega
                        have HL := Lib.hid (hm.eq (lf' := w3 (baseR ps) g (a + 1)) (fun x y _ hy => w4_end (baseR ps) g a x hy) (fun _ _ _ _ => rfl) (fun _ _ _ _ => rfl))
                        clear hm hbw
                        go_wp2
                        go_roundw
                        case rel => exact ⟨a + 1, by go_num, by omega, HL.out, HB.out, trivial⟩
                        case measure => simp [intOf]; omega
                  · obtain rfl : a = k := by omega
                    have HL := Lib.hid (hm.eq (lf' := warN (baseR ps) (g + 1)) (fun x y hx _ => w3_end (baseR ps) g y hx) (fun _ _ _ _ => rfl) (fun _ _ _ _ => rfl))
                    clear hm hbw
                    go_wp2
                    go_roundw
                    case rel => exact ⟨g + 1, by go_num, by omega, HL.out, HB.out, trivial⟩
                    case measure => simp [intOf]; omega
              · obtain rfl : g = k := by omega
                as_aux_lemma =>
                  have HM := Lib.hid (hm.eq (lf' := leqS g ps) (fun _ _ _ _ => rfl) (fun _ _ _ _ => rfl) (fun _ _ _ _ => rfl))
                  have HUN := Lib.hid (fun h => err_unsound (n := g) h1 h64 HOK.out h)
                  have HSN := Lib.hid (fun h => err_sound (n := g) h1 h64 HOK.out h)
                  have HRF := Lib.hid (leqS_refl g ps)
                  have HTR := Lib.hid (fun a b m (h0 : m < g) h1 h2 => leqS_trans (n := g) (ps := ps) (a := a) (b := b) h0 h1 h2)
                  generalize hRe : leqS g ps = R at *
                  have HRE := Lib.hid hRe
                  clear hRe
                  clear hm hbw HOK
                  go_wp2_with fail
                  go_loopw [14] (fun i w2 => OrdR w p g (fun _ => R) (fun _ _ _ => 0) (fun _ _ _ => 0) g (fun a => ∀ x, x < a → ∀ y, y < g → R x y = true → R y x = true → x = y) i w2) (fun i _ => g - (intOf i).toNat)
                  case atStart => exact ⟨0, rfl, Nat.zero_le _, HM.out, HB.out, fun x hx => absurd hx (Nat.not_lt_zero _)⟩
                  clear HM HB
                  case round =>
                    obtain ⟨a, rfl, ha, hm, hbw, hC⟩ := hrel
                    (try dsimp only at hm)
                    have HB := Lib.hid hbw
                    have HC := Lib.hid hC
                    have HM := Lib.hid hm
                    clear hm hbw hC
                    by_cases han : a < g
                    · go_wp2_with fail
                      go_loopw [15] (fun i w2 => OrdR w p g (fun _ => R) (fun _ _ _ => 0) (fun _ _ _ => 0) g (fun b => ∀ y, y < b → R a y = true → R y a = true → a = y) i w2) (fun i _ => g - (intOf i).toNat)
                      case atStart => exact ⟨0, rfl, Nat.zero_le _, HM.out, HB.out, fun x hx => absurd hx (Nat.not_lt_zero _)⟩
                      clear HM HB
                      case round =>
                        obtain ⟨b, rfl, hb, hm, hbw, hD⟩ := hrel
                        (try dsimp only at hm)
                        have HB := Lib.hid hbw
                        have HD := Lib.hid hD
                        have HM := Lib.hid hm
                        clear hD hbw
                        by_cases hbn : b < g
                        · skip
                          as_aux_lemma =>
                            have m1 := hm.c1
                            have m2 := hm.rL a han
                            have m3 := hm.rL b hbn
                            have e1 := hm.eL a b han hbn
                            have e2 := hm.eL b a hbn han
                            have m5 := hm.cap
                            clear hm
                            by_cases hab : a = b
                            · have fab : ((a : Int) != b) = false := by simp; omega
                              have HN := Lib.hid (show ∀ y, y < b + 1 → R a y = true → R y a = true → a = y from fun y hy h1 h2 => by
                                by_cases e : y = b
                                · subst e; exact hab
                                · exact HD.out y (by omega) h1 h2)
                              clear hab
                              go_wp2
                              go_roundw
                              case rel => exact ⟨b + 1, by go_num, by omega, HM.out, HB.out, HN.out⟩
                              case measure => simp [intOf]; omega
                            · have fab : ((a : Int) != b) = true := by simp; omega
                              have HAB := Lib.hid hab
                              clear hab
                              cases hq : R a b with
                              | false =>
                                rw [hq] at e1
                                have HN := Lib.hid (show ∀ y, y < b + 1 → R a y = true → R y a = true → a = y from fun y hy h1 h2 => by
                                  by_cases e : y = b
                                  · subst e; rw [hq] at h1; cases h1
                                  · exact HD.out y (by omega) h1 h2)
                                clear hq
                                go_wp2
                                go_roundw
                                case rel => exact ⟨b + 1, by go_num, by omega, HM.out, HB.out, HN.out⟩
                                case measure => simp [intOf]; omega
                              | true =>
                                rw [hq] at e1
                                cases hq2 : R b a with
                                | false =>
                                  rw [hq2] at e2
                                  have HN := Lib.hid (show ∀ y, y < b + 1 → R a y = true → R y a = true → a = y from fun y hy h1 h2 => by
                                    by_cases e : y = b
                                    · subst e; rw [hq2] at h2; cases h2
                                    · exact HD.out y (by omega) h1 h2)
                                  clear hq hq2
                                  go_wp2
                                  go_roundw
                                  case rel => exact ⟨b + 1, by go_num, by omega, HM.out, HB.out, HN.out⟩
                                  case measure => simp [intOf]; omega
                                | true =>
                                  rw [hq2] at e2
                                  have HF := Lib.hid (HUN.out fun hs => HAB.out (hs.1 a han b hbn hq hq2))
                                  clear hq hq2
                                  go_wp2
                                  go_ret2
                                  exact OrdEnd.bad HB.out HF.out (by decide)
                        · obtain rfl : b = g := by omega
                          have HN := Lib.hid (show ∀ x, x < a + 1 → ∀ y, y < b → R x y = true → R y x = true → x = y from fun x hx y hy h1 h2 => by
                            by_cases e : x = a
                            · subst e; exact HD.out y hy h1 h2
                            · exact HC.out x (by omega) y hy h1 h2)
                          clear hm
                          go_wp2
                          go_roundw
                          case rel => exact ⟨a + 1, by go_num, by omega, HM.out, HB.out, HN.out⟩
                          case measure => simp [intOf]; omega
                    · obtain rfl : a = g := by omega
                      as_aux_lemma =>
                        have HANT := Lib.hid HC.out
                        have HM2 := Lib.hid (HM.out.eq (jf' := j5 (joinR a R) 0 0) (mf' := j5 (meetR a R) 0 0) (fun _ _ _ _ => rfl) (fun x y _ _ => j5_start (joinR a R) x y) (fun x y _ _ => j5_start (meetR a R) x y))
                        clear HM HC
                        go_wp2_with fail
                        go_loopw [16] (fun i w2 => OrdR w p a (fun _ => R) (fun x => j5 (joinR a R) x 0) (fun x => j5 (meetR a R) x 0) a (fun x => ∀ i, i < x → ∀ y, y < a → 0 ≤ joinR a R i y ∧ 0 ≤ meetR a R i y) i w2) (fun i _ => a - (intOf i).toNat)
                        case atStart => exact ⟨0, rfl, Nat.zero_le _, HM2.out, HB.out, fun x hx => absurd hx (Nat.not_lt_zero _)⟩
                        clear HM2 HB
                        case round =>
                          obtain ⟨x, rfl, hx, hm, hbw, hC⟩ := hrel
                          (try dsimp only at hm)
                          have HB := Lib.hid hbw
                          have HC := Lib.hid hC
                          have HM := Lib.hid hm
                          clear hm hbw hC
                          by_cases hxn : x < a
                          · go_wp2_with fail
                            go_loopw [17] (fun i w2 => OrdR w p a (fun _ => R) (fun y => j5 (joinR a R) x y) (fun y => j5 (meetR a R) x y) a (fun y => ∀ i, i < y → 0 ≤ joinR a R x i ∧ 0 ≤ meetR a R x i) i w2) (fun i _ => a - (intOf i).toNat)
                            case atStart => exact ⟨0, rfl, Nat.zero_le _, HM.out, HB.out, fun x hx => absurd hx (Nat.not_lt_zero _)⟩
                            clear HM HB
                            case round =>
                              obtain ⟨y, rfl, hy, hm, hbw, hD⟩ := hrel
                              (try dsimp only at hm)
                              have HB := Lib.hid hbw
                              have HD := Lib.hid hD
                              by_cases hyn : y < a
                              · skip
                                as_aux_lemma =>
                                  have HM := Lib.hid hm
                                  have m1 := hm.c2
                                  have m2 := hm.rJ x hxn
                                  have m3 := hm.c3
                                  have m4 := hm.rM x hxn
                                  have m5 := hm.cap
                                  have CT : ∀ W, OMem W p a R (j5 (joinR a R) x y) (j5 (meetR a R) x y) → Calls Tryz.prog 58 #[.pointer (some ⟨p.o, 0, none⟩), .int .i64 x, .int .i64 y, .bool true] W fun e w' => e = .returned (.int .i64 (joinR a R x y)) ∧ Below W.heap.size W w' :=
                                    fun W hW => least_any true x y hxn hyn W hW h64
                                  have CF : ∀ W, OMem W p a R (j5 (joinR a R) x y) (j5 (meetR a R) x y) → Calls Tryz.prog 58 #[.pointer (some ⟨p.o, 0, none⟩), .int .i64 x, .int .i64 y, .bool false] W fun e w' => e = .returned (.int .i64 (meetR a R x y)) ∧ Below W.heap.size W w' :=
                                    fun W hW => least_any false x y hxn hyn W hW h64
                                  clear hm hbw hD
                                  go_wp2_with fail
                                  refine wp_region_N (fun W => W.cell? ⟨p.o, 2, none⟩ = some (.slice (some ⟨p.gJ, 0, none⟩) a p.cJ) ∧ W.cell? ⟨p.gJ, x, none⟩ = some (.slice (some ⟨p.r (3 * x + 1), 0, none⟩) a a) ∧ W.cell? ⟨p.o, 3, none⟩ = some (.slice (some ⟨p.gM, 0, none⟩) a p.cM) ∧ W.cell? ⟨p.gM, x, none⟩ = some (.slice (some ⟨p.r (3 * x + 2), 0, none⟩) a a)) (fun j => decide (j < 26)) (by kernel_rfl) ?_
                                  have hS : wr.drew.cell? ⟨p.o, 2, none⟩ = some (.slice (some ⟨p.gJ, 0, none⟩) a p.cJ) ∧ wr.drew.cell? ⟨p.gJ, x, none⟩ = some (.slice (some ⟨p.r (3 * x + 1), 0, none⟩) a a) ∧ wr.drew.cell? ⟨p.o, 3, none⟩ = some (.slice (some ⟨p.gM, 0, none⟩) a p.cM) ∧ wr.drew.cell? ⟨p.gM, x, none⟩ = some (.slice (some ⟨p.r (3 * x + 2), 0, none⟩) a a) := ⟨m1, m2, m3, m4⟩
                                  refine wpAnyN_take_at 0 220 (v := ?_) rfl rfl (by kernel_rfl) (by kernel_rfl) (by kernel_rfl) (by kernel_rfl) (by kernel_rfl) (fun _ _ _ h => h) (by rfl) ?_ hS ?_
                                  rotate_left
                                  · intro w hSw; (try dsimp only at hSw); obtain ⟨s1, s2, s3, s4⟩ := hSw; go_simp; (try with_reducible rfl)
                                  simp only [Act.put, List.setIfInBounds_toArray, List.set_cons_zero, List.set_cons_succ]
                                  refine wpAnyN_take_at 1 221 (v := ?_) rfl rfl (by kernel_rfl) (by kernel_rfl) (by kernel_rfl) (by kernel_rfl) (by kernel_rfl) (fun _ _ _ h => h) (by rfl) ?_ hS ?_
                                  rotate_left
                                  · intro w hSw; (try dsimp only at hSw); obtain ⟨s1, s2, s3, s4⟩ := hSw; go_simp; (try with_reducible rfl)
                                  simp only [Act.put, List.setIfInBounds_toArray, List.set_cons_zero, List.set_cons_succ]
                                  refine wpAnyN_take_at 2 222 (v := ?_) rfl rfl (by kernel_rfl) (by kernel_rfl) (by kernel_rfl) (by kernel_rfl) (by kernel_rfl) (fun _ _ _ h => h) (by rfl) ?_ hS ?_
                                  rotate_left
                                  · intro w hSw; (try dsimp only at hSw); obtain ⟨s1, s2, s3, s4⟩ := hSw; go_simp; (try with_reducible rfl)
                                  simp only [Act.put, List.setIfInBounds_toArray, List.set_cons_zero, List.set_cons_succ]
                                  refine wpAnyN_take_at 3 223 (v := ?_) rfl rfl (by kernel_rfl) (by kernel_rfl) (by kernel_rfl) (by kernel_rfl) (by kernel_rfl) (fun _ _ _ h => h) (by rfl) ?_ hS ?_
                                  rotate_left
                                  · intro w hSw; (try dsimp only at hSw); obtain ⟨s1, s2, s3, s4⟩ := hSw; go_simp; (try with_reducible rfl)
                                  simp only [Act.put, List.setIfInBounds_toArray, List.set_cons_zero, List.set_cons_succ]
                                  refine wpAnyN_take_at 4 224 (v := ?_) rfl rfl (by kernel_rfl) (by kernel_rfl) (by kernel_rfl) (by kernel_rfl) (by kernel_rfl) (fun _ _ _ h => h) (by rfl) ?_ hS ?_
                                  rotate_left
                                  · intro w hSw; (try dsimp only at hSw); obtain ⟨s1, s2, s3, s4⟩ := hSw; go_simp; (try with_reducible rfl)
                                  simp only [Act.put, List.setIfInBounds_toArray, List.set_cons_zero, List.set_cons_succ]
                                  refine wpAnyN_take_at 5 225 (v := ?_) rfl rfl (by kernel_rfl) (by kernel_rfl) (by kernel_rfl) (by kernel_rfl) (by kernel_rfl) (fun _ _ _ h => h) (by rfl) ?_ hS ?_
                                  rotate_left
                                  · intro w hSw; (try dsimp only at hSw); obtain ⟨s1, s2, s3, s4⟩ := hSw; go_simp; (try with_reducible rfl)
                                  simp only [Act.put, List.setIfInBounds_toArray, List.set_cons_zero, List.set_cons_succ]
                                  refine wpAnyN_take_at 6 226 (v := ?_) rfl rfl (by kernel_rfl) (by kernel_rfl) (by kernel_rfl) (by kernel_rfl) (by kernel_rfl) (fun _ _ _ h => h) (by rfl) ?_ hS ?_
                                  rotate_left
                                  · intro w hSw; (try dsimp only at hSw); obtain ⟨s1, s2, s3, s4⟩ := hSw; go_simp; (try with_reducible rfl)
                                  simp only [Act.put, List.setIfInBounds_toArray, List.set_cons_zero, List.set_cons_succ]
                                  refine wpAnyN_take_at 7 227 (v := ?_) rfl rfl (by kernel_rfl) (by kernel_rfl) (by kernel_rfl) (by kernel_rfl) (by kernel_rfl) (fun _ _ _ h => h) (by rfl) ?_ hS ?_
                                  rotate_left
                                  · intro w hSw; (try dsimp only at hSw); obtain ⟨s1, s2, s3, s4⟩ := hSw; go_simp; (try with_reducible rfl)
                                  simp only [Act.put, List.setIfInBounds_toArray, List.set_cons_zero, List.set_cons_succ]
                                  refine wpAnyN_take_at 8 228 (v := ?_) rfl rfl (by kernel_rfl) (by kernel_rfl) (by kernel_rfl) (by kernel_rfl) (by kernel_rfl) (fun _ _ _ h => h) (by rfl) ?_ hS ?_
                                  rotate_left
                                  · intro w hSw; (try dsimp only at hSw); obtain ⟨s1, s2, s3, s4⟩ := hSw; go_simp; (try with_reducible rfl)
                                  simp only [Act.put, List.setIfInBounds_toArray, List.set_cons_zero, List.set_cons_succ]
                                  refine wpAnyN_take_at 9 229 (v := ?_) rfl rfl (by kernel_rfl) (by kernel_rfl) (by kernel_rfl) (by kernel_rfl) (by kernel_rfl) (fun _ _ _ h => h) (by rfl) ?_ hS ?_
                                  rotate_left
                                  · intro w hSw; (try dsimp only at hSw); obtain ⟨s1, s2, s3, s4⟩ := hSw; go_simp; (try with_reducible rfl)
                                  simp only [Act.put, List.setIfInBounds_toArray, List.set_cons_zero, List.set_cons_succ]
                                  refine wpAnyN_take_at 10 230 (v := ?_) rfl rfl (by kernel_rfl) (by kernel_rfl) (by kernel_rfl) (by kernel_rfl) (by kernel_rfl) (fun _ _ _ h => h) (by rfl) ?_ hS ?_
                                  rotate_left
                                  · intro w hSw; (try dsimp only at hSw); obtain ⟨s1, s2, s3, s4⟩ := hSw; go_simp; (try with_reducible rfl)
                                  simp only [Act.put, List.setIfInBounds_toArray, List.set_cons_zero, List.set_cons_succ]
                                  refine wpAnyN_take_at 11 231 (v := ?_) rfl rfl (by kernel_rfl) (by kernel_rfl) (by kernel_rfl) (by kernel_rfl) (by kernel_rfl) (fun _ _ _ h => h) (by rfl) ?_ hS ?_
                                  rotate_left
                                  · intro w hSw; (try dsimp only at hSw); obtain ⟨s1, s2, s3, s4⟩ := hSw; go_simp; (try with_reducible rfl)
                                  simp only [Act.put, List.setIfInBounds_toArray, List.set_cons_zero, List.set_cons_succ]
                                  refine wpAnyN_take_at 12 232 (v := ?_) rfl rfl (by kernel_rfl) (by kernel_rfl) (by kernel_rfl) (by kernel_rfl) (by kernel_rfl) (fun _ _ _ h => h) (by rfl) ?_ hS ?_
                                  rotate_left
                                  · intro w hSw; (try dsimp only at hSw); obtain ⟨s1, s2, s3, s4⟩ := hSw; go_simp; (try with_reducible rfl)
                                  simp only [Act.put, List.setIfInBounds_toArray, List.set_cons_zero, List.set_cons_succ]
                                  refine wpAnyN_take_at 13 233 (v := ?_) rfl rfl (by kernel_rfl) (by kernel_rfl) (by kernel_rfl) (by kernel_rfl) (by kernel_rfl) (fun _ _ _ h => h) (by rfl) ?_ hS ?_
                                  rotate_left
                                  · intro w hSw; (try dsimp only at hSw); obtain ⟨s1, s2, s3, s4⟩ := hSw; go_simp; (try with_reducible rfl)
                                  simp only [Act.put, List.setIfInBounds_toArray, List.set_cons_zero, List.set_cons_succ]
                                  refine wpAnyN_take_at 14 234 (v := ?_) rfl rfl (by kernel_rfl) (by kernel_rfl) (by kernel_rfl) (by kernel_rfl) (by kernel_rfl) (fun _ _ _ h => h) (by rfl) ?_ hS ?_
                                  rotate_left
                                  · intro w hSw; (try dsimp only at hSw); obtain ⟨s1, s2, s3, s4⟩ := hSw; go_simp; (try with_reducible rfl)
                                  simp only [Act.put, List.setIfInBounds_toArray, List.set_cons_zero, List.set_cons_succ]
                                  refine wpAnyN_take_at 15 235 (v := ?_) rfl rfl (by kernel_rfl) (by kernel_rfl) (by kernel_rfl) (by kernel_rfl) (by kernel_rfl) (fun _ _ _ h => h) (by rfl) ?_ hS ?_
                                  rotate_left
                                  · intro w hSw; (try dsimp only at hSw); obtain ⟨s1, s2, s3, s4⟩ := hSw; go_simp; (try with_reducible rfl)
                                  simp only [Act.put, List.setIfInBounds_toArray, List.set_cons_zero, List.set_cons_succ]
                                  refine wpAnyN_take_at 16 236 (v := ?_) rfl rfl (by kernel_rfl) (by kernel_rfl) (by kernel_rfl) (by kernel_rfl) (by kernel_rfl) (fun _ _ _ h => h) (by rfl) ?_ hS ?_
                                  rotate_left
                                  · intro w hSw; (try dsimp only at hSw); obtain ⟨s1, s2, s3, s4⟩ := hSw; go_simp; (try with_reducible rfl)
                                  simp only [Act.put, List.setIfInBounds_toArray, List.set_cons_zero, List.set_cons_succ]
                                  refine wpAnyN_take_at 17 237 (v := ?_) rfl rfl (by kernel_rfl) (by kernel_rfl) (by kernel_rfl) (by kernel_rfl) (by kernel_rfl) (fun _ _ _ h => h) (by rfl) ?_ hS ?_
                                  rotate_left
                                  · intro w hSw; (try dsimp only at hSw); obtain ⟨s1, s2, s3, s4⟩ := hSw; go_simp; (try with_reducible rfl)
                                  simp only [Act.put, List.setIfInBounds_toArray, List.set_cons_zero, List.set_cons_succ]
                                  refine wpAnyN_take_at 18 238 (v := ?_) rfl rfl (by kernel_rfl) (by kernel_rfl) (by kernel_rfl) (by kernel_rfl) (by kernel_rfl) (fun _ _ _ h => h) (by rfl) ?_ hS ?_
                                  rotate_left
                                  · intro w hSw; (try dsimp only at hSw); obtain ⟨s1, s2, s3, s4⟩ := hSw; go_simp; (try with_reducible rfl)
                                  simp only [Act.put, List.setIfInBounds_toArray, List.set_cons_zero, List.set_cons_succ]
                                  refine wpAnyN_take_at 20 240 (v := ?_) rfl rfl (by kernel_rfl) (by kernel_rfl) (by kernel_rfl) (by kernel_rfl) (by kernel_rfl) (fun _ _ _ h => h) (by rfl) ?_ hS ?_
                                  rotate_left
                                  · intro w hSw; (try dsimp only at hSw); obtain ⟨s1, s2, s3, s4⟩ := hSw; go_simp; (try with_reducible rfl)
                                  simp only [Act.put, List.setIfInBounds_toArray, List.set_cons_zero, List.set_cons_succ]
                                  refine wpAnyN_take_at 21 241 (v := ?_) rfl rfl (by kernel_rfl) (by kernel_rfl) (by kernel_rfl) (by kernel_rfl) (by kernel_rfl) (fun _ _ _ h => h) (by rfl) ?_ hS ?_
                                  rotate_left
                                  · intro w hSw; (try dsimp only at hSw); obtain ⟨s1, s2, s3, s4⟩ := hSw; go_simp; (try with_reducible rfl)
                                  simp only [Act.put, List.setIfInBounds_toArray, List.set_cons_zero, List.set_cons_succ]
                                  refine wpAnyN_take_at 22 242 (v := ?_) rfl rfl (by kernel_rfl) (by kernel_rfl) (by kernel_rfl) (by kernel_rfl) (by kernel_rfl) (fun _ _ _ h => h) (by rfl) ?_ hS ?_
                                  rotate_left
                                  · intro w hSw; (try dsimp only at hSw); obtain ⟨s1, s2, s3, s4⟩ := hSw; go_simp; (try with_reducible rfl)
                                  simp only [Act.put, List.setIfInBounds_toArray, List.set_cons_zero, List.set_cons_succ]
                                  have HM1 : OMem wr.drew p a R (j5 (joinR a R) x y) (j5 (meetR a R) x y) := HM.out.heap rfl
                                  refine wpAnyN_one (i := 19) rfl (by kernel_rfl) (fun K hK => ?_)
                                  go_simp
                                  refine (CT _ HM1).mono ?_
                                  rintro e w6 ⟨rfl, b6⟩
                                  have HM6 := HM1.below b6
                                  refine hK _ _ (fun _ => ⟨HM6.c2, HM6.rJ x hxn, HM6.c3, HM6.rM x hxn⟩) ?_
                                  clear hK hS
                                  refine wpAnyN_one (i := 23) rfl (by kernel_rfl) (fun K hK => ?_)
                                  go_simp
                                  refine (CF _ HM6).mono ?_
                                  rintro e w7 ⟨rfl, b7⟩
                                  have HM7 := HM6.below b7
                                  have hS : w7.cell? ⟨p.o, 2, none⟩ = some (.slice (some ⟨p.gJ, 0, none⟩) a p.cJ) ∧ w7.cell? ⟨p.gJ, x, none⟩ = some (.slice (some ⟨p.r (3 * x + 1), 0, none⟩) a a) ∧ w7.cell? ⟨p.o, 3, none⟩ = some (.slice (some ⟨p.gM, 0, none⟩) a p.cM) ∧ w7.cell? ⟨p.gM, x, none⟩ = some (.slice (some ⟨p.r (3 * x + 2), 0, none⟩) a a) := ⟨HM7.c2, HM7.rJ x hxn, HM7.c3, HM7.rM x hxn⟩
                                  refine hK _ _ (fun _ => hS) ?_
                                  clear hK CT CF
                                  have B7 := Lib.hid (((below_drewN' HB.out 1).trans (b6.mono (by have := HB.out.size; exact this))).trans (b7.mono (by have := HB.out.size; have := b6.size; exact Nat.le_trans HB.out.size b6.size)))
                                  have H8 := Lib.hid (HM7.setJ hxn hyn (joinR a R x y))
                                  have H9 := Lib.hid (((HM7.setJ hxn hyn (joinR a R x y)).setM hxn hyn (meetR a R x y)).eq (jf' := j5 (joinR a R) x (y + 1)) (mf' := j5 (meetR a R) x (y + 1)) (fun _ _ _ _ => rfl) (fun u v _ _ => j5_step (joinR a R) x y u v) (fun u v _ _ => j5_step (meetR a R) x y u v))
                                  have B9 := Lib.hid ((B7.out.setCell (p := ⟨p.r (3 * x + 1), y, none⟩) (HLOW.out _ (by omega)) (.int .i64 (joinR a R x y))).setCell (p := ⟨p.r (3 * x + 2), y, none⟩) (HLOW.out _ (by omega)) (.int .i64 (meetR a R x y)))
                                  have n1 := HM7.eJ x y hxn hyn
                                  have n2 := HM7.fz (3 * x + 1) y (by omega)
                                  have n3 := H8.out.eM x y hxn hyn
                                  have n4 := H8.out.fz (3 * x + 2) y (by omega)
                                  clear HM1 HM6 HM7 b6 b7 m1 m2 m3 m4
                                  refine wpAnyN_take_at 24 244 (v := ?_) rfl rfl (by kernel_rfl) (by kernel_rfl) (by kernel_rfl) (by kernel_rfl) (by kernel_rfl) (fun _ _ _ h => h) (by rfl) ?_ hS ?_
                                  rotate_left
                                  · intro w hSw; (try dsimp only at hSw); obtain ⟨s1, s2, s3, s4⟩ := hSw; go_simp; (try with_reducible rfl)
                                  simp only [Act.put, List.setIfInBounds_toArray, List.set_cons_zero, List.set_cons_succ]
                                  refine wpAnyN_one (i := 25) rfl (by kernel_rfl) (fun K hK => ?_)
                                  go_simp
                                  refine hK _ _ (fun _ => ⟨H8.out.c2, H8.out.rJ x hxn, H8.out.c3, H8.out.rM x hxn⟩) ?_
                                  clear hK hS n1 n2
                                  refine wpAnyN_rest 26 [_, _] rfl (by kernel_rfl) (by kernel_rfl) ?_
                                  go_upto_region 43 with fail
                                  generalize (w7.setCell ⟨p.r (3 * x + 1), y, none⟩ (.int .i64 (joinR a R x y))).setCell ⟨p.r (3 * x + 2), y, none⟩ (.int .i64 (meetR a R x y)) = w9 at *
                                  clear H8 B7 n3 n4
                                  have m1 := H9.out.c2
                                  have m2 := H9.out.rJ x hxn
                                  have m3 := H9.out.c3
                                  have m4 := H9.out.rM x hxn
                                  have n1 := H9.out.eJ x y hxn hyn
                                  have n2 := H9.out.eM x y hxn hyn
                                  rw [j5_at] at n1 n2
                                  have HNS := Lib.hid (show ¬ (0 ≤ joinR a R x y ∧ 0 ≤ meetR a R x y) → errS a ps = 1 from fun h0 => HUN.out fun hs => h0 ⟨hs.2.1 x hxn y hyn, hs.2.2 x hxn y hyn⟩)
                                  have HRR := Lib.hid (show 0 ≤ joinR a R x y → 0 ≤ meetR a R x y → ∀ i, i < y + 1 → 0 ≤ joinR a R x i ∧ 0 ≤ meetR a R x i from fun h1 h2 i hi => by
                                    by_cases e : i = y
                                    · subst e; exact ⟨h1, h2⟩
                                    · exact HD.out i (by omega))
                                  generalize joinR a R x y = zj at *
                                  generalize meetR a R x y = zm at *
                                  by_cases hj0 : 0 ≤ zj
                                  · have fj : decide (zj < 0) = false := by simp; omega
                                    by_cases hm0 : 0 ≤ zm
                                    · have fm : decide (zm < 0) = false := by simp; omega
                                      have HN := Lib.hid (HRR.out hj0 hm0)
                                      clear hj0 hm0
                                      go_wp2
                                      go_roundw
                                      case rel => exact ⟨y + 1, by go_num, by omega, H9.out, B9.out, HN.out⟩
                                      case measure => simp [intOf]; omega
                                    · have fm : decide (zm < 0) = true := by simp; omega
                                      have HF := Lib.hid (HNS.out fun h => hm0 h.2)
                                      clear hj0 hm0
                                      go_wp2
                                      go_ret2
                                      exact OrdEnd.bad B9.out HF.out (by decide)
                                  · have fj : decide (zj < 0) = true := by simp; omega
                                    have HF := Lib.hid (HNS.out fun h => hj0 h.1)
                                    clear hj0
                                    go_wp2
                                    go_ret2
                                    exact OrdEnd.bad B9.out HF.out (by decide)
                              · obtain rfl : y = a := by omega
                                have HN := Lib.hid (show ∀ i, i < x + 1 → ∀ z, z < y → 0 ≤ joinR y R i z ∧ 0 ≤ meetR y R i z from fun i hi z hz => by
                                  by_cases e : i = x
                                  · subst e; exact HD.out z hz
                                  · exact HC.out i (by omega) z hz)
                                have HL := Lib.hid (hm.eq (jf' := j5 (joinR y R) (x + 1) 0) (mf' := j5 (meetR y R) (x + 1) 0) (fun _ _ _ _ => rfl) (fun u v _ hv => j5_next (joinR y R) x u hv) (fun u v _ hv => j5_next (meetR y R) x u hv))
                                clear hm hbw hD
                                go_wp2
                                go_roundw
                                case rel => exact ⟨x + 1, by go_num, by omega, HL.out, HB.out, HN.out⟩
                                case measure => simp [intOf]; omega
                          · obtain rfl : x = a := by omega
                            have HL := Lib.hid (HM.out.eq (jf' := joinR x R) (mf' := meetR x R) (fun _ _ _ _ => rfl) (fun u v hu _ => j5_end (joinR x R) v hu) (fun u v hu _ => j5_end (meetR x R) v hu))
                            have HF := Lib.hid (HSN.out ⟨HANT.out, fun u hu v hv => (HC.out u hu v hv).1, fun u hu v hv => (HC.out u hu v hv).2⟩)
                            clear HM
                            go_wp2
                            go_ret2
                            refine ⟨HB.out, Or.inl ⟨HF.out, p, rfl, ?_⟩⟩
                            rw [HRE.out]
                            exact HL.out

end Go.Proofs.YtkcmhdkhdjmjeaaGreatDoor
