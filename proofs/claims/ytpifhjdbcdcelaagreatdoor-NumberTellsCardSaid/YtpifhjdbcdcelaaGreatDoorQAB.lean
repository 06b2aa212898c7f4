/- Texts joined: NuB NuC NuD Flt NuE Scn Asc RepairB Runes FlkP Spc RepairA. -/
import Derived.Test.YtpifhjdbcdcelaaGreatDoorQAA
import Derived.Lib.SliceRun
import Derived.Laws.OwnMore
import Derived.OwnWalk
import Derived.Lib.MinMax
import Derived.WalkKit
import Derived.BigCall
import Derived.BigQuiet
import Derived.Deep.QuietTactic
import Derived.Lib.Hide
import Derived.Lib.OthersKept
import Derived.Lib.RuneBytes
import Derived.Laws.RangeAny
namespace Go.Proofs.YtpifhjdbcdcelaaGreatDoor
open Go.RowKit
set_option linter.unusedSimpArgs false
set_option linter.unusedVariables false
set_option maxRecDepth 100000
/-- All blocks but b stay. -/
structure OneTurn (w w' : World) (b : Nat) : Prop where
  size : w.heap.size ≤ w'.heap.size
  rest : ∀ g : Nat, g < w.heap.size → g ≠ b → w'.heap[g]? = w.heap[g]?
  os : w'.os = w.os
  tape : w'.tape = w.tape
  output : w'.output = w.output
theorem OneTurn.below {w w' : World} {b B : Nat} (h : OneTurn w w' b) (hB : B ≤ b) (hw : B ≤ w.heap.size) : Below B w w' := ⟨h.os, h.tape, h.output, h.size, fun g hg => h.rest g (by omega) (by omega)⟩
theorem OneTurn.of {w w' : World} {b : Nat} (h : Below w.heap.size w w') : OneTurn w w' b := ⟨h.size, fun g hg _ => h.block g hg, h.os, h.tape, h.output⟩
theorem OneTurn.trans {a c d : World} {b : Nat} (h : OneTurn a c b) (k : OneTurn c d b) : OneTurn a d b :=
  ⟨Nat.le_trans h.size k.size, fun g hg hb => (k.rest g (by have := h.size; omega) hb).trans (h.rest g hg hb), k.os.trans h.os, k.tape.trans h.tape, k.output.trans h.output⟩
theorem OneTurn.set (w : World) (b i : Nat) (u : Value) : OneTurn w (w.setCell ⟨b, i, none⟩ u) b :=
  ⟨by simp [World.setCell], fun g hg hb => Below.heap_setCell w ⟨b, i, none⟩ u g hb, rfl, rfl, rfl⟩
theorem nuZero (w : World) : (zeroValue 9).run Tryz.prog w = .ok (.string ⟨#[]⟩) w := by kernel_rfl
theorem clear_none (a : Option Addr) (c : Nat) (ty : TypeId) (w : World) : (Builtin.clear_ #[23] ty #[.slice a 0 c]).run Tryz.prog w = .ok (.tuple #[]) w := by
  cases a <;> simp [Builtin.clear_, run_underlying Tryz.underlying23]
set_option maxHeartbeats 4000000 in
theorem count_1 (b : Nat) (w : World) (d0 d1 d2 d3 d4 d5 : ByteArray) (h : w.heap[b]? = some (.cells #[.string d0, .string d1, .string d2, .string d3, .string d4, .string d5] 54 (0, 0))) (hs : d0.size ≤ 100) (hd : ∀ d ∈ d0.data.toList, 48 ≤ d.toNat ∧ d.toNat ≤ 57) :
    Calls Tryz.prog 17 #[.pointer (some ⟨b, 0, none⟩), .int .i64 1] w fun e w' => e = .returned (.tuple #[]) ∧ w'.heap[b]? = some (.cells #[.string ⟨(oneMoreL d0.data.toList).toArray⟩, .string ⟨#[]⟩, .string ⟨#[]⟩, .string ⟨#[]⟩, .string ⟨#[]⟩, .string ⟨#[]⟩] 54 (0, 0)) ∧ OneTurn w w' b := by
  have co := fun W => oneMore_at d0 W hs hd
  have hb := (Array.getElem?_eq_some_iff.1 h).1
  have hwk : IntKind.i64.wrap (0 : Int) = (0 : Int) := by decide
  generalize (⟨(oneMoreL d0.data.toList).toArray⟩ : ByteArray) = X at *
  have CO := Lib.hid co
  have H := Lib.hid h
  clear co hd h hs
  go_enter Tryz.func17, Tryz.ntmps17
  go_wp2_with fail
  refine wp_region_N (fun W => W.cell? ⟨b, 0, none⟩ = some (.string d0)) (fun n => decide (n < 11)) (by kernel_rfl) ?_
  have HD := Lib.hid (show w.drew.heap[b]? = some (.cells #[.string d0, .string d1, .string d2, .string d3, .string d4, .string d5] 54 (0, 0)) from H.out)
  have HT := Lib.hid (show OneTurn w w.drew b from ⟨Nat.le_refl _, fun _ _ _ => rfl, rfl, rfl, rfl⟩)
  have HS := Lib.hid (show w.drew.cell? ⟨b, 0, none⟩ = some (.string d0) from (cell_of_row w.drew b 0 _ _ (0, 0) HD.out).trans rfl)
  generalize w.drew = w1 at *
  refine wpAnyN_take_at 0 4 (v := ?_) rfl rfl (by kernel_rfl) (by kernel_rfl) (by kernel_rfl) (by kernel_rfl) (by kernel_rfl) (fun _ _ _ h => h) (by rfl) ?_ HS.out ?_
  rotate_left
  · intro W hSw; (try dsimp only at hSw); go_simp; (try with_reducible rfl)
  simp only [Act.put, List.setIfInBounds_toArray, List.set_cons_zero, List.set_cons_succ]
  refine wpAnyN_take_at 1 5 (v := ?_) rfl rfl (by kernel_rfl) (by kernel_rfl) (by kernel_rfl) (by kernel_rfl) (by kernel_rfl) (fun _ _ _ h => h) (by rfl) ?_ HS.out ?_
  rotate_left
  · intro W hSw; (try dsimp only at hSw); go_simp; (try with_reducible rfl)
  simp only [Act.put, List.setIfInBounds_toArray, List.set_cons_zero, List.set_cons_succ]
  refine wpAnyN_take_at 2 6 (v := ?_) rfl rfl (by kernel_rfl) (by kernel_rfl) (by kernel_rfl) (by kernel_rfl) (by kernel_rfl) (fun _ _ _ h => h) (by rfl) ?_ HS.out ?_
  rotate_left
  · intro W hSw; (try dsimp only at hSw); go_simp; (try with_reducible rfl)
  simp only [Act.put, List.setIfInBounds_toArray, List.set_cons_zero, List.set_cons_succ]
  refine wpAnyN_take_at 3 7 (v := ?_) rfl rfl (by kernel_rfl) (by kernel_rfl) (by kernel_rfl) (by kernel_rfl) (by kernel_rfl) (fun _ _ _ h => h) (by rfl) ?_ HS.out ?_
  rotate_left
  · intro W hSw; (try dsimp only at hSw); go_simp; (try with_reducible rfl)
  simp only [Act.put, List.setIfInBounds_toArray, List.set_cons_zero, List.set_cons_succ]
  refine wpAnyN_take_at 4 8 (v := ?_) rfl rfl (by kernel_rfl) (by kernel_rfl) (by kernel_rfl) (by kernel_rfl) (by kernel_rfl) (fun _ _ _ h => h) (by rfl) ?_ HS.out ?_
  rotate_left
  · intro W hSw; (try dsimp only at hSw); go_simp; (try with_reducible rfl)
  simp only [Act.put, List.setIfInBounds_toArray, List.set_cons_zero, List.set_cons_succ]
  refine wpAnyN_take_at 5 9 (v := ?_) rfl rfl (by kernel_rfl) (by kernel_rfl) (by kernel_rfl) (by kernel_rfl) (by kernel_rfl) (fun _ _ _ h => h) (by rfl) ?_ HS.out ?_
  rotate_left
  · intro W hSw; (try dsimp only at hSw); go_simp; (try with_reducible rfl)
  simp only [Act.put, List.setIfInBounds_toArray, List.set_cons_zero, List.set_cons_succ]
  refine wpAnyN_take_at 6 10 (v := ?_) rfl rfl (by kernel_rfl) (by kernel_rfl) (by kernel_rfl) (by kernel_rfl) (by kernel_rfl) (fun _ _ _ h => h) (by rfl) ?_ HS.out ?_
  rotate_left
  · intro W hSw; (try dsimp only at hSw); go_simp; (try with_reducible rfl)
  simp only [Act.put, List.setIfInBounds_toArray, List.set_cons_zero, List.set_cons_succ]
  refine wpAnyN_take_at 7 11 (v := ?_) rfl rfl (by kernel_rfl) (by kernel_rfl) (by kernel_rfl) (by kernel_rfl) (by kernel_rfl) (fun _ _ _ h => h) (by rfl) ?_ HS.out ?_
  rotate_left
  · intro W hSw; (try dsimp only at hSw); go_simp; (try with_reducible rfl)
  simp only [Act.put, List.setIfInBounds_toArray, List.set_cons_zero, List.set_cons_succ]
  refine wpAnyN_take_at 8 12 (v := ?_) rfl rfl (by kernel_rfl) (by kernel_rfl) (by kernel_rfl) (by kernel_rfl) (by kernel_rfl) (fun _ _ _ h => h) (by rfl) ?_ HS.out ?_
  rotate_left
  · intro W hSw; (try dsimp only at hSw); go_simp; (try with_reducible rfl)
  simp only [Act.put, List.setIfInBounds_toArray, List.set_cons_zero, List.set_cons_succ]
  refine wpAnyN_take_at 10 14 (v := ?_) rfl rfl (by kernel_rfl) (by kernel_rfl) (by kernel_rfl) (by kernel_rfl) (by kernel_rfl) (fun _ _ _ h => h) (by rfl) ?_ HS.out ?_
  rotate_left
  · intro W hSw; (try dsimp only at hSw); go_simp; (try with_reducible rfl)
  simp only [Act.put, List.setIfInBounds_toArray, List.set_cons_zero, List.set_cons_succ]
  refine wpAnyN_one (i := 9) rfl (by kernel_rfl) (fun K hK => ?_)
  go_simp
  go_at_call 58
  refine (CO.out _).mono ?_
  rintro e w2 ⟨rfl, b2⟩
  have HD2 := Lib.hid ((b2.block b (Array.getElem?_eq_some_iff.1 HD.out).1).trans HD.out)
  have HT2 := Lib.hid (HT.out.trans (OneTurn.of b2))
  refine hK _ _ (fun _ => (cell_of_row w2 b 0 _ _ (0, 0) HD2.out).trans rfl) ?_
  clear hK HS HD b2
  have HD3 := Lib.hid (show (w2.setCell ⟨b, 0, none⟩ (.string X)).heap[b]? = some (.cells #[.string X, .string d1, .string d2, .string d3, .string d4, .string d5] 54 (0, 0)) from by simp [World.setCell, Array.getElem?_modify, HD2.out])
  have HT3 := Lib.hid (HT2.out.trans (OneTurn.set w2 b 0 (.string X)))
  have hc : w2.cell? ⟨b, 0, none⟩ = some (.string d0) := (cell_of_row w2 b 0 _ _ (0, 0) HD2.out).trans rfl
  have hf : w2.frozen? ⟨b, 0, none⟩ = false := by have := HD2.out; simp [World.frozen?, this]
  have hcl : ∀ ty, (Builtin.clear_ #[23] ty #[.slice (some ⟨b, 1, none⟩) 5 5]).run Tryz.prog (w2.setCell ⟨b, 0, none⟩ (.string X)) = .ok (.tuple #[]) ((w2.setCell ⟨b, 0, none⟩ (.string X)).setCells b 1 (List.replicate 5 (.string ⟨#[]⟩))) := fun ty =>
    Lib.run_clear_slice (w2.setCell ⟨b, 0, none⟩ (.string X)) _ _ ty _ Tryz.underlying23 nuZero rfl rfl b 1 5 5 (by decide) (fun j hj => by rw [cell_of_row _ b (1 + j) _ _ (0, 0) HD3.out]; simp; omega) (fun j hj => by have := HD3.out; simp [World.frozen?, this])
  have HD4 := Lib.hid (show ((w2.setCell ⟨b, 0, none⟩ (.string X)).setCells b 1 (List.replicate 5 (.string ⟨#[]⟩))).heap[b]? = some (.cells #[.string X, .string ⟨#[]⟩, .string ⟨#[]⟩, .string ⟨#[]⟩, .string ⟨#[]⟩, .string ⟨#[]⟩] 54 (0, 0)) from by
    have h3 := HD3.out
    generalize w2.setCell ⟨b, 0, none⟩ (.string X) = w3 at *
    simp [List.replicate, World.setCells, World.setCell, Array.getElem?_modify, h3])
  have HT4 := Lib.hid (show OneTurn w ((w2.setCell ⟨b, 0, none⟩ (.string X)).setCells b 1 (List.replicate 5 (.string ⟨#[]⟩))) b from by
    have h3 := HT3.out
    generalize w2.setCell ⟨b, 0, none⟩ (.string X) = w3 at *
    simp only [List.replicate, World.setCells]
    exact (((((h3).trans (OneTurn.set _ b _ _)).trans (OneTurn.set _ b _ _)).trans (OneTurn.set _ b _ _)).trans (OneTurn.set _ b _ _)).trans (OneTurn.set _ b _ _))
  refine wpAnyN_rest 11 [_, _] rfl (by kernel_rfl) (by kernel_rfl) ?_
  go_wp2_with (simp only [hcl])
  go_end0
  exact ⟨rfl, HD4.out, HT4.out⟩
set_option maxHeartbeats 4000000 in
theorem count_2 (b : Nat) (w : World) (d0 d1 d2 d3 d4 d5 : ByteArray) (h : w.heap[b]? = some (.cells #[.string d0, .string d1, .string d2, .string d3, .string d4, .string d5] 54 (0, 0))) (hs : d1.size ≤ 100) (hd : ∀ d ∈ d1.data.toList, 48 ≤ d.toNat ∧ d.toNat ≤ 57) :
    Calls Tryz.prog 17 #[.pointer (some ⟨b, 0, none⟩), .int .i64 2] w fun e w' => e = .returned (.tuple #[]) ∧ w'.heap[b]? = some (.cells #[.string d0, .string ⟨(oneMoreL d1.data.toList).toArray⟩, .string ⟨#[]⟩, .string ⟨#[]⟩, .string ⟨#[]⟩, .string ⟨#[]⟩] 54 (0, 0)) ∧ OneTurn w w' b := by
  have co := fun W => oneMore_at d1 W hs hd
  have hb := (Array.getElem?_eq_some_iff.1 h).1
  have hwk : IntKind.i64.wrap (1 : Int) = (1 : Int) := by decide
  generalize (⟨(oneMoreL d1.data.toList).toArray⟩ : ByteArray) = X at *
  have CO := Lib.hid co
  have H := Lib.hid h
  clear co hd h hs
  go_enter Tryz.func17, Tryz.ntmps17
  go_wp2_with fail
  refine wp_region_N (fun W => W.cell? ⟨b, 1, none⟩ = some (.string d1)) (fun n => decide (n < 11)) (by kernel_rfl) ?_
  have HD := Lib.hid (show w.drew.heap[b]? = some (.cells #[.string d0, .string d1, .string d2, .string d3, .string d4, .string d5] 54 (0, 0)) from H.out)
  have HT := Lib.hid (show OneTurn w w.drew b from ⟨Nat.le_refl _, fun _ _ _ => rfl, rfl, rfl, rfl⟩)
  have HS := Lib.hid (show w.drew.cell? ⟨b, 1, none⟩ = some (.string d1) from (cell_of_row w.drew b 1 _ _ (0, 0) HD.out).trans rfl)
  generalize w.drew = w1 at *
  refine wpAnyN_take_at 0 4 (v := ?_) rfl rfl (by kernel_rfl) (by kernel_rfl) (by kernel_rfl) (by kernel_rfl) (by kernel_rfl) (fun _ _ _ h => h) (by rfl) ?_ HS.out ?_
  rotate_left
  · intro W hSw; (try dsimp only at hSw); go_simp; (try with_reducible rfl)
  simp only [Act.put, List.setIfInBounds_toArray, List.set_cons_zero, List.set_cons_succ]
  refine wpAnyN_take_at 1 5 (v := ?_) rfl rfl (by kernel_rfl) (by kernel_rfl) (by kernel_rfl) (by kernel_rfl) (by kernel_rfl) (fun _ _ _ h => h) (by rfl) ?_ HS.out ?_
  rotate_left
  · intro W hSw; (try dsimp only at hSw); go_simp; (try with_reducible rfl)
  simp only [Act.put, List.setIfInBounds_toArray, List.set_cons_zero, List.set_cons_succ]
  refine wpAnyN_take_at 2 6 (v := ?_) rfl rfl (by kernel_rfl) (by kernel_rfl) (by kernel_rfl) (by kernel_rfl) (by kernel_rfl) (fun _ _ _ h => h) (by rfl) ?_ HS.out ?_
  rotate_left
  · intro W hSw; (try dsimp only at hSw); go_simp; (try with_reducible rfl)
  simp only [Act.put, List.setIfInBounds_toArray, List.set_cons_zero, List.set_cons_succ]
  refine wpAnyN_take_at 3 7 (v := ?_) rfl rfl (by kernel_rfl) (by kernel_rfl) (by kernel_rfl) (by kernel_rfl) (by kernel_rfl) (fun _ _ _ h => h) (by rfl) ?_ HS.out ?_
  rotate_left
  · intro W hSw; (try dsimp only at hSw); go_simp; (try with_reducible rfl)
  simp only [Act.put, List.setIfInBounds_toArray, List.set_cons_zero, List.set_cons_succ]
  refine wpAnyN_take_at 4 8 (v := ?_) rfl rfl (by kernel_rfl) (by kernel_rfl) (by kernel_rfl) (by kernel_rfl) (by kernel_rfl) (fun _ _ _ h => h) (by rfl) ?_ HS.out ?_
  rotate_left
  · intro W hSw; (try dsimp only at hSw); go_simp; (try with_reducible rfl)
  simp only [Act.put, List.setIfInBounds_toArray, List.set_cons_zero, List.set_cons_succ]
  refine wpAnyN_take_at 5 9 (v := ?_) rfl rfl (by kernel_rfl) (by kernel_rfl) (by kernel_rfl) (by kernel_rfl) (by kernel_rfl) (fun _ _ _ h => h) (by rfl) ?_ HS.out ?_
  rotate_left
  · intro W hSw; (try dsimp only at hSw); go_simp; (try with_reducible rfl)
  simp only [Act.put, List.setIfInBounds_toArray, List.set_cons_zero, List.set_cons_succ]
  refine wpAnyN_take_at 6 10 (v := ?_) rfl rfl (by kernel_rfl) (by kernel_rfl) (by kernel_rfl) (by kernel_rfl) (by kernel_rfl) (fun _ _ _ h => h) (by rfl) ?_ HS.out ?_
  rotate_left
  · intro W hSw; (try dsimp only at hSw); go_simp; (try with_reducible rfl)
  simp only [Act.put, List.setIfInBounds_toArray, List.set_cons_zero, List.set_cons_succ]
  refine wpAnyN_take_at 7 11 (v := ?_) rfl rfl (by kernel_rfl) (by kernel_rfl) (by kernel_rfl) (by kernel_rfl) (by kernel_rfl) (fun _ _ _ h => h) (by rfl) ?_ HS.out ?_
  rotate_left
  · intro W hSw; (try dsimp only at hSw); go_simp; (try with_reducible rfl)
  simp only [Act.put, List.setIfInBounds_toArray, List.set_cons_zero, List.set_cons_succ]
  refine wpAnyN_take_at 8 12 (v := ?_) rfl rfl (by kernel_rfl) (by kernel_rfl) (by kernel_rfl) (by kernel_rfl) (by kernel_rfl) (fun _ _ _ h => h) (by rfl) ?_ HS.out ?_
  rotate_left
  · intro W hSw; (try dsimp only at hSw); go_simp; (try with_reducible rfl)
  simp only [Act.put, List.setIfInBounds_toArray, List.set_cons_zero, List.set_cons_succ]
  refine wpAnyN_take_at 10 14 (v := ?_) rfl rfl (by kernel_rfl) (by kernel_rfl) (by kernel_rfl) (by kernel_rfl) (by kernel_rfl) (fun _ _ _ h => h) (by rfl) ?_ HS.out ?_
  rotate_left
  · intro W hSw; (try dsimp only at hSw); go_simp; (try with_reducible rfl)
  simp only [Act.put, List.setIfInBounds_toArray, List.set_cons_zero, List.set_cons_succ]
  refine wpAnyN_one (i := 9) rfl (by kernel_rfl) (fun K hK => ?_)
  go_simp
  go_at_call 58
  refine (CO.out _).mono ?_
  rintro e w2 ⟨rfl, b2⟩
  have HD2 := Lib.hid ((b2.block b (Array.getElem?_eq_some_iff.1 HD.out).1).trans HD.out)
  have HT2 := Lib.hid (HT.out.trans (OneTurn.of b2))
  refine hK _ _ (fun _ => (cell_of_row w2 b 1 _ _ (0, 0) HD2.out).trans rfl) ?_
  clear hK HS HD b2
  have HD3 := Lib.hid (show (w2.setCell ⟨b, 1, none⟩ (.string X)).heap[b]? = some (.cells #[.string d0, .string X, .string d2, .string d3, .string d4, .string d5] 54 (0, 0)) from by simp [World.setCell, Array.getElem?_modify, HD2.out])
  have HT3 := Lib.hid (HT2.out.trans (OneTurn.set w2 b 1 (.string X)))
  have hc : w2.cell? ⟨b, 1, none⟩ = some (.string d1) := (cell_of_row w2 b 1 _ _ (0, 0) HD2.out).trans rfl
  have hf : w2.frozen? ⟨b, 1, none⟩ = false := by have := HD2.out; simp [World.frozen?, this]
  have hcl : ∀ ty, (Builtin.clear_ #[23] ty #[.slice (some ⟨b, 2, none⟩) 4 4]).run Tryz.prog (w2.setCell ⟨b, 1, none⟩ (.string X)) = .ok (.tuple #[]) ((w2.setCell ⟨b, 1, none⟩ (.string X)).setCells b 2 (List.replicate 4 (.string ⟨#[]⟩))) := fun ty =>
    Lib.run_clear_slice (w2.setCell ⟨b, 1, none⟩ (.string X)) _ _ ty _ Tryz.underlying23 nuZero rfl rfl b 2 4 4 (by decide) (fun j hj => by rw [cell_of_row _ b (2 + j) _ _ (0, 0) HD3.out]; simp; omega) (fun j hj => by have := HD3.out; simp [World.frozen?, this])
  have HD4 := Lib.hid (show ((w2.setCell ⟨b, 1, none⟩ (.string X)).setCells b 2 (List.replicate 4 (.string ⟨#[]⟩))).heap[b]? = some (.cells #[.string d0, .string X, .string ⟨#[]⟩, .string ⟨#[]⟩, .string ⟨#[]⟩, .string ⟨#[]⟩] 54 (0, 0)) from by
    have h3 := HD3.out
    generalize w2.setCell ⟨b, 1, none⟩ (.string X) = w3 at *
    simp [List.replicate, World.setCells, World.setCell, Array.getElem?_modify, h3])
  have HT4 := Lib.hid (show OneTurn w ((w2.setCell ⟨b, 1, none⟩ (.string X)).setCells b 2 (List.replicate 4 (.string ⟨#[]⟩))) b from by
    have h3 := HT3.out
    generalize w2.setCell ⟨b, 1, none⟩ (.string X) = w3 at *
    simp only [List.replicate, World.setCells]
    exact ((((h3).trans (OneTurn.set _ b _ _)).trans (OneTurn.set _ b _ _)).trans (OneTurn.set _ b _ _)).trans (OneTurn.set _ b _ _))
  refine wpAnyN_rest 11 [_, _] rfl (by kernel_rfl) (by kernel_rfl) ?_
  go_wp2_with (simp only [hcl])
  go_end0
  exact ⟨rfl, HD4.out, HT4.out⟩
set_option maxHeartbeats 4000000 in
theorem count_3 (b : Nat) (w : World) (d0 d1 d2 d3 d4 d5 : ByteArray) (h : w.heap[b]? = some (.cells #[.string d0, .string d1, .string d2, .string d3, .string d4, .string d5] 54 (0, 0))) (hs : d2.size ≤ 100) (hd : ∀ d ∈ d2.data.toList, 48 ≤ d.toNat ∧ d.toNat ≤ 57) :
    Calls Tryz.prog 17 #[.pointer (some ⟨b, 0, none⟩), .int .i64 3] w fun e w' => e = .returned (.tuple #[]) ∧ w'.heap[b]? = some (.cells #[.string d0, .string d1, .string ⟨(oneMoreL d2.data.toList).toArray⟩, .string ⟨#[]⟩, .string ⟨#[]⟩, .string ⟨#[]⟩] 54 (0, 0)) ∧ OneTurn w w' b := by
  have co := fun W => oneMore_at d2 W hs hd
  have hb := (Array.getElem?_eq_some_iff.1 h).1
  have hwk : IntKind.i64.wrap (2 : Int) = (2 : Int) := by decide
  generalize (⟨(oneMoreL d2.data.toList).toArray⟩ : ByteArray) = X at *
  have CO := Lib.hid co
  have H := Lib.hid h
  clear co hd h hs
  go_enter Tryz.func17, Tryz.ntmps17
  go_wp2_with fail
  refine wp_region_N (fun W => W.cell? ⟨b, 2, none⟩ = some (.string d2)) (fun n => decide (n < 11)) (by kernel_rfl) ?_
  have HD := Lib.hid (show w.drew.heap[b]? = some (.cells #[.string d0, .string d1, .string d2, .string d3, .string d4, .string d5] 54 (0, 0)) from H.out)
  have HT := Lib.hid (show OneTurn w w.drew b from ⟨Nat.le_refl _, fun _ _ _ => rfl, rfl, rfl, rfl⟩)
  have HS := Lib.hid (show w.drew.cell? ⟨b, 2, none⟩ = some (.string d2) from (cell_of_row w.drew b 2 _ _ (0, 0) HD.out).trans rfl)
  generalize w.drew = w1 at *
  refine wpAnyN_take_at 0 4 (v := ?_) rfl rfl (by kernel_rfl) (by kernel_rfl) (by kernel_rfl) (by kernel_rfl) (by kernel_rfl) (fun _ _ _ h => h) (by rfl) ?_ HS.out ?_
  rotate_left
  · intro W hSw; (try dsimp only at hSw); go_simp; (try with_reducible rfl)
  simp only [Act.put, List.setIfInBounds_toArray, List.set_cons_zero, List.set_cons_succ]
  refine wpAnyN_take_at 1 5 (v := ?_) rfl rfl (by kernel_rfl) (by kernel_rfl) (by kernel_rfl) (by kernel_rfl) (by kernel_rfl) (fun _ _ _ h => h) (by rfl) ?_ HS.out ?_
  rotate_left
  · intro W hSw; (try dsimp only at hSw); go_simp; (try with_reducible rfl)
  simp only [Act.put, List.setIfInBounds_toArray, List.set_cons_zero, List.set_cons_succ]
  refine wpAnyN_take_at 2 6 (v := ?_) rfl rfl (by kernel_rfl) (by kernel_rfl) (by kernel_rfl) (by kernel_rfl) (by kernel_rfl) (fun _ _ _ h => h) (by rfl) ?_ HS.out ?_
  rotate_left
  · intro W hSw; (try dsimp only at hSw); go_simp; (try with_reducible rfl)
  simp only [Act.put, List.setIfInBounds_toArray, List.set_cons_zero, List.set_cons_succ]
  refine wpAnyN_take_at 3 7 (v := ?_) rfl rfl (by kernel_rfl) (by kernel_rfl) (by kernel_rfl) (by kernel_rfl) (by kernel_rfl) (fun _ _ _ h => h) (by rfl) ?_ HS.out ?_
  rotate_left
  · intro W hSw; (try dsimp only at hSw); go_simp; (try with_reducible rfl)
  simp only [Act.put, List.setIfInBounds_toArray, List.set_cons_zero, List.set_cons_succ]
  refine wpAnyN_take_at 4 8 (v := ?_) rfl rfl (by kernel_rfl) (by kernel_rfl) (by kernel_rfl) (by kernel_rfl) (by kernel_rfl) (fun _ _ _ h => h) (by rfl) ?_ HS.out ?_
  rotate_left
  · intro W hSw; (try dsimp only at hSw); go_simp; (try with_reducible rfl)
  simp only [Act.put, List.setIfInBounds_toArray, List.set_cons_zero, List.set_cons_succ]
  refine wpAnyN_take_at 5 9 (v := ?_) rfl rfl (by kernel_rfl) (by kernel_rfl) (by kernel_rfl) (by kernel_rfl) (by kernel_rfl) (fun _ _ _ h => h) (by rfl) ?_ HS.out ?_
  rotate_left
  · intro W hSw; (try dsimp only at hSw); go_simp; (try with_reducible rfl)
  simp only [Act.put, List.setIfInBounds_toArray, List.set_cons_zero, List.set_cons_succ]
  refine wpAnyN_take_at 6 10 (v := ?_) rfl rfl (by kernel_rfl) (by kernel_rfl) (by kernel_rfl) (by kernel_rfl) (by kernel_rfl) (fun _ _ _ h => h) (by rfl) ?_ HS.out ?_
  rotate_left
  · intro W hSw; (try dsimp only at hSw); go_simp; (try with_reducible rfl)
  simp only [Act.put, List.setIfInBounds_toArray, List.set_cons_zero, List.set_cons_succ]
  refine wpAnyN_take_at 7 11 (v := ?_) rfl rfl (by kernel_rfl) (by kernel_rfl) (by kernel_rfl) (by kernel_rfl) (by kernel_rfl) (fun _ _ _ h => h) (by rfl) ?_ HS.out ?_
  rotate_left
  · intro W hSw; (try dsimp only at hSw); go_simp; (try with_reducible rfl)
  simp only [Act.put, List.setIfInBounds_toArray, List.set_cons_zero, List.set_cons_succ]
  refine wpAnyN_take_at 8 12 (v := ?_) rfl rfl (by kernel_rfl) (by kernel_rfl) (by kernel_rfl) (by kernel_rfl) (by kernel_rfl) (fun _ _ _ h => h) (by rfl) ?_ HS.out ?_
  rotate_left
  · intro W hSw; (try dsimp only at hSw); go_simp; (try with_reducible rfl)
  simp only [Act.put, List.setIfInBounds_toArray, List.set_cons_zero, List.set_cons_succ]
  refine wpAnyN_take_at 10 14 (v := ?_) rfl rfl (by kernel_rfl) (by kernel_rfl) (by kernel_rfl) (by kernel_rfl) (by kernel_rfl) (fun _ _ _ h => h) (by rfl) ?_ HS.out ?_
  rotate_left
  · intro W hSw; (try dsimp only at hSw); go_simp; (try with_reducible rfl)
  simp only [Act.put, List.setIfInBounds_toArray, List.set_cons_zero, List.set_cons_succ]
  refine wpAnyN_one (i := 9) rfl (by kernel_rfl) (fun K hK => ?_)
  go_simp
  go_at_call 58
  refine (CO.out _).mono ?_
  rintro e w2 ⟨rfl, b2⟩
  have HD2 := Lib.hid ((b2.block b (Array.getElem?_eq_some_iff.1 HD.out).1).trans HD.out)
  have HT2 := Lib.hid (HT.out.trans (OneTurn.of b2))
  refine hK _ _ (fun _ => (cell_of_row w2 b 2 _ _ (0, 0) HD2.out).trans rfl) ?_
  clear hK HS HD b2
  have HD3 := Lib.hid (show (w2.setCell ⟨b, 2, none⟩ (.string X)).heap[b]? = some (.cells #[.string d0, .string d1, .string X, .string d3, .string d4, .string d5] 54 (0, 0)) from by simp [World.setCell, Array.getElem?_modify, HD2.out])
  have HT3 := Lib.hid (HT2.out.trans (OneTurn.set w2 b 2 (.string X)))
  have hc : w2.cell? ⟨b, 2, none⟩ = some (.string d2) := (cell_of_row w2 b 2 _ _ (0, 0) HD2.out).trans rfl
  have hf : w2.frozen? ⟨b, 2, none⟩ = false := by have := HD2.out; simp [World.frozen?, this]
  have hcl : ∀ ty, (Builtin.clear_ #[23] ty #[.slice (some ⟨b, 3, none⟩) 3 3]).run Tryz.prog (w2.setCell ⟨b, 2, none⟩ (.string X)) = .ok (.tuple #[]) ((w2.setCell ⟨b, 2, none⟩ (.string X)).setCells b 3 (List.replicate 3 (.string ⟨#[]⟩))) := fun ty =>
    Lib.run_clear_slice (w2.setCell ⟨b, 2, none⟩ (.string X)) _ _ ty _ Tryz.underlying23 nuZero rfl rfl b 3 3 3 (by decide) (fun j hj => by rw [cell_of_row _ b (3 + j) _ _ (0, 0) HD3.out]; simp; omega) (fun j hj => by have := HD3.out; simp [World.frozen?, this])
  have HD4 := Lib.hid (show ((w2.setCell ⟨b, 2, none⟩ (.string X)).setCells b 3 (List.replicate 3 (.string ⟨#[]⟩))).heap[b]? = some (.cells #[.string d0, .string d1, .string X, .string ⟨#[]⟩, .string ⟨#[]⟩, .string ⟨#[]⟩] 54 (0, 0)) from by
    have h3 := HD3.out
    generalize w2.setCell ⟨b, 2, none⟩ (.string X) = w3 at *
    simp [List.replicate, World.setCells, World.setCell, Array.getElem?_modify, h3])
  have HT4 := Lib.hid (show OneTurn w ((w2.setCell ⟨b, 2, none⟩ (.string X)).setCells b 3 (List.replicate 3 (.string ⟨#[]⟩))) b from by
    have h3 := HT3.out
    generalize w2.setCell ⟨b, 2, none⟩ (.string X) = w3 at *
    simp only [List.replicate, World.setCells]
    exact (((h3).trans (OneTurn.set _ b _ _)).trans (OneTurn.set _ b _ _)).trans (OneTurn.set _ b _ _))
  refine wpAnyN_rest 11 [_, _] rfl (by kernel_rfl) (by kernel_rfl) ?_
  go_wp2_with (simp only [hcl])
  go_end0
  exact ⟨rfl, HD4.out, HT4.out⟩
set_option maxHeartbeats 4000000 in
theorem count_4 (b : Nat) (w : World) (d0 d1 d2 d3 d4 d5 : ByteArray) (h : w.heap[b]? = some (.cells #[.string d0, .string d1, .string d2, .string d3, .string d4, .string d5] 54 (0, 0))) (hs : d3.size ≤ 100) (hd : ∀ d ∈ d3.data.toList, 48 ≤ d.toNat ∧ d.toNat ≤ 57) :
    Calls Tryz.prog 17 #[.pointer (some ⟨b, 0, none⟩), .int .i64 4] w fun e w' => e = .returned (.tuple #[]) ∧ w'.heap[b]? = some (.cells #[.string d0, .string d1, .string d2, .string ⟨(oneMoreL d3.data.toList).toArray⟩, .string ⟨#[]⟩, .string ⟨#[]⟩] 54 (0, 0)) ∧ OneTurn w w' b := by
  have co := fun W => oneMore_at d3 W hs hd
  have hb := (Array.getElem?_eq_some_iff.1 h).1
  have hwk : IntKind.i64.wrap (3 : Int) = (3 : Int) := by decide
  generalize (⟨(oneMoreL d3.data.toList).toArray⟩ : ByteArray) = X at *
  have CO := Lib.hid co
  have H := Lib.hid h
  clear co hd h hs
  go_enter Tryz.func17, Tryz.ntmps17
  go_wp2_with fail
  refine wp_region_N (fun W => W.cell? ⟨b, 3, none⟩ = some (.string d3)) (fun n => decide (n < 11)) (by kernel_rfl) ?_
  have HD := Lib.hid (show w.drew.heap[b]? = some (.cells #[.string d0, .string d1, .string d2, .string d3, .string d4, .string d5] 54 (0, 0)) from H.out)
  have HT := Lib.hid (show OneTurn w w.drew b from ⟨Nat.le_refl _, fun _ _ _ => rfl, rfl, rfl, rfl⟩)
  have HS := Lib.hid (show w.drew.cell? ⟨b, 3, none⟩ = some (.string d3) from (cell_of_row w.drew b 3 _ _ (0, 0) HD.out).trans rfl)
  generalize w.drew = w1 at *
  refine wpAnyN_take_at 0 4 (v := ?_) rfl rfl (by kernel_rfl) (by kernel_rfl) (by kernel_rfl) (by kernel_rfl) (by kernel_rfl) (fun _ _ _ h => h) (by rfl) ?_ HS.out ?_
  rotate_left
  · intro W hSw; (try dsimp only at hSw); go_simp; (try with_reducible rfl)
  simp only [Act.put, List.setIfInBounds_toArray, List.set_cons_zero, List.set_cons_succ]
  refine wpAnyN_take_at 1 5 (v := ?_) rfl rfl (by kernel_rfl) (by kernel_rfl) (by kernel_rfl) (by kernel_rfl) (by kernel_rfl) (fun _ _ _ h => h) (by rfl) ?_ HS.out ?_
  rotate_left
  · intro W hSw; (try dsimp only at hSw); go_simp; (try with_reducible rfl)
  simp only [Act.put, List.setIfInBounds_toArray, List.set_cons_zero, List.set_cons_succ]
  refine wpAnyN_take_at 2 6 (v := ?_) rfl rfl (by kernel_rfl) (by kernel_rfl) (by kernel_rfl) (by kernel_rfl) (by kernel_rfl) (fun _ _ _ h => h) (by rfl) ?_ HS.out ?_
  rotate_left
  · intro W hSw; (try dsimp only at hSw); go_simp; (try with_reducible rfl)
  simp only [Act.put, List.setIfInBounds_toArray, List.set_cons_zero, List.set_cons_succ]
  refine wpAnyN_take_at 3 7 (v := ?_) rfl rfl (by kernel_rfl) (by kernel_rfl) (by kernel_rfl) (by kernel_rfl) (by kernel_rfl) (fun _ _ _ h => h) (by rfl) ?_ HS.out ?_
  rotate_left
  · intro W hSw; (try dsimp only at hSw); go_simp; (try with_reducible rfl)
  simp only [Act.put, List.setIfInBounds_toArray, List.set_cons_zero, List.set_cons_succ]
  refine wpAnyN_take_at 4 8 (v := ?_) rfl rfl (by kernel_rfl) (by kernel_rfl) (by kernel_rfl) (by kernel_rfl) (by kernel_rfl) (fun _ _ _ h => h) (by rfl) ?_ HS.out ?_
  rotate_left
  · intro W hSw; (try dsimp only at hSw); go_simp; (try with_reducible rfl)
  simp only [Act.put, List.setIfInBounds_toArray, List.set_cons_zero, List.set_cons_succ]
  refine wpAnyN_take_at 5 9 (v := ?_) rfl rfl (by kernel_rfl) (by kernel_rfl) (by kernel_rfl) (by kernel_rfl) (by kernel_rfl) (fun _ _ _ h => h) (by rfl) ?_ HS.out ?_
  rotate_left
  · intro W hSw; (try dsimp only at hSw); go_simp; (try with_reducible rfl)
  simp only [Act.put, List.setIfInBounds_toArray, List.set_cons_zero, List.set_cons_succ]
  refine wpAnyN_take_at 6 10 (v := ?_) rfl rfl (by kernel_rfl) (by kernel_rfl) (by kernel_rfl) (by kernel_rfl) (by kernel_rfl) (fun _ _ _ h => h) (by rfl) ?_ HS.out ?_
  rotate_left
  · intro W hSw; (try dsimp only at hSw); go_simp; (try with_reducible rfl)
  simp only [Act.put, List.setIfInBounds_toArray, List.set_cons_zero, List.set_cons_succ]
  refine wpAnyN_take_at 7 11 (v := ?_) rfl rfl (by kernel_rfl) (by kernel_rfl) (by kernel_rfl) (by kernel_rfl) (by kernel_rfl) (fun _ _ _ h => h) (by rfl) ?_ HS.out ?_
  rotate_left
  · intro W hSw; (try dsimp only at hSw); go_simp; (try with_reducible rfl)
  simp only [Act.put, List.setIfInBounds_toArray, List.set_cons_zero, List.set_cons_succ]
  refine wpAnyN_take_at 8 12 (v := ?_) rfl rfl (by kernel_rfl) (by kernel_rfl) (by kernel_rfl) (by kernel_rfl) (by kernel_rfl) (fun _ _ _ h => h) (by rfl) ?_ HS.out ?_
  rotate_left
  · intro W hSw; (try dsimp only at hSw); go_simp; (try with_reducible rfl)
  simp only [Act.put, List.setIfInBounds_toArray, List.set_cons_zero, List.set_cons_succ]
  refine wpAnyN_take_at 10 14 (v := ?_) rfl rfl (by kernel_rfl) (by kernel_rfl) (by kernel_rfl) (by kernel_rfl) (by kernel_rfl) (fun _ _ _ h => h) (by rfl) ?_ HS.out ?_
  rotate_left
  · intro W hSw; (try dsimp only at hSw); go_simp; (try with_reducible rfl)
  simp only [Act.put, List.setIfInBounds_toArray, List.set_cons_zero, List.set_cons_succ]
  refine wpAnyN_one (i := 9) rfl (by kernel_rfl) (fun K hK => ?_)
  go_simp
  go_at_call 58
  refine (CO.out _).mono ?_
  rintro e w2 ⟨rfl, b2⟩
  have HD2 := Lib.hid ((b2.block b (Array.getElem?_eq_some_iff.1 HD.out).1).trans HD.out)
  have HT2 := Lib.hid (HT.out.trans (OneTurn.of b2))
  refine hK _ _ (fun _ => (cell_of_row w2 b 3 _ _ (0, 0) HD2.out).trans rfl) ?_
  clear hK HS HD b2
  have HD3 := Lib.hid (show (w2.setCell ⟨b, 3, none⟩ (.string X)).heap[b]? = some (.cells #[.string d0, .string d1, .string d2, .string X, .string d4, .string d5] 54 (0, 0)) from by simp [World.setCell, Array.getElem?_modify, HD2.out])
  have HT3 := Lib.hid (HT2.out.trans (OneTurn.set w2 b 3 (.string X)))
  have hc : w2.cell? ⟨b, 3, none⟩ = some (.string d3) := (cell_of_row w2 b 3 _ _ (0, 0) HD2.out).trans rfl
  have hf : w2.frozen? ⟨b, 3, none⟩ = false := by have := HD2.out; simp [World.frozen?, this]
  have hcl : ∀ ty, (Builtin.clear_ #[23] ty #[.slice (some ⟨b, 4, none⟩) 2 2]).run Tryz.prog (w2.setCell ⟨b, 3, none⟩ (.string X)) = .ok (.tuple #[]) ((w2.setCell ⟨b, 3, none⟩ (.string X)).setCells b 4 (List.replicate 2 (.string ⟨#[]⟩))) := fun ty =>
    Lib.run_clear_slice (w2.setCell ⟨b, 3, none⟩ (.string X)) _ _ ty _ Tryz.underlying23 nuZero rfl rfl b 4 2 2 (by decide) (fun j hj => by rw [cell_of_row _ b (4 + j) _ _ (0, 0) HD3.out]; simp; omega) (fun j hj => by have := HD3.out; simp [World.frozen?, this])
  have HD4 := Lib.hid (show ((w2.setCell ⟨b, 3, none⟩ (.string X)).setCells b 4 (List.replicate 2 (.string ⟨#[]⟩))).heap[b]? = some (.cells #[.string d0, .string d1, .string d2, .string X, .string ⟨#[]⟩, .string ⟨#[]⟩] 54 (0, 0)) from by
    have h3 := HD3.out
    generalize w2.setCell ⟨b, 3, none⟩ (.string X) = w3 at *
    simp [List.replicate, World.setCells, World.setCell, Array.getElem?_modify, h3])
  have HT4 := Lib.hid (show OneTurn w ((w2.setCell ⟨b, 3, none⟩ (.string X)).setCells b 4 (List.replicate 2 (.string ⟨#[]⟩))) b from by
    have h3 := HT3.out
    generalize w2.setCell ⟨b, 3, none⟩ (.string X) = w3 at *
    simp only [List.replicate, World.setCells]
    exact ((h3).trans (OneTurn.set _ b _ _)).trans (OneTurn.set _ b _ _))
  refine wpAnyN_rest 11 [_, _] rfl (by kernel_rfl) (by kernel_rfl) ?_
  go_wp2_with (simp only [hcl])
  go_end0
  exact ⟨rfl, HD4.out, HT4.out⟩
set_option maxHeartbeats 4000000 in
theorem count_5 (b : Nat) (w : World) (d0 d1 d2 d3 d4 d5 : ByteArray) (h : w.heap[b]? = some (.cells #[.string d0, .string d1, .string d2, .string d3, .string d4, .string d5] 54 (0, 0))) (hs : d4.size ≤ 100) (hd : ∀ d ∈ d4.data.toList, 48 ≤ d.toNat ∧ d.toNat ≤ 57) :
    Calls Tryz.prog 17 #[.pointer (some ⟨b, 0, none⟩), .int .i64 5] w fun e w' => e = .returned (.tuple #[]) ∧ w'.heap[b]? = some (.cells #[.string d0, .string d1, .string d2, .string d3, .string ⟨(oneMoreL d4.data.toList).toArray⟩, .string ⟨#[]⟩] 54 (0, 0)) ∧ OneTurn w w' b := by
  have co := fun W => oneMore_at d4 W hs hd
  have hb := (Array.getElem?_eq_some_iff.1 h).1
  have hwk : IntKind.i64.wrap (4 : Int) = (4 : Int) := by decide
  generalize (⟨(oneMoreL d4.data.toList).toArray⟩ : ByteArray) = X at *
  have CO := Lib.hid co
  have H := Lib.hid h
  clear co hd h hs
  go_enter Tryz.func17, Tryz.ntmps17
  go_wp2_with fail
  refine wp_region_N (fun W => W.cell? ⟨b, 4, none⟩ = some (.string d4)) (fun n => decide (n < 11)) (by kernel_rfl) ?_
  have HD := Lib.hid (show w.drew.heap[b]? = some (.cells #[.string d0, .string d1, .string d2, .string d3, .string d4, .string d5] 54 (0, 0)) from H.out)
  have HT := Lib.hid (show OneTurn w w.drew b from ⟨Nat.le_refl _, fun _ _ _ => rfl, rfl, rfl, rfl⟩)
  have HS := Lib.hid (show w.drew.cell? ⟨b, 4, none⟩ = some (.string d4) from (cell_of_row w.drew b 4 _ _ (0, 0) HD.out).trans rfl)
  generalize w.drew = w1 at *
  refine wpAnyN_take_at 0 4 (v := ?_) rfl rfl (by kernel_rfl) (by kernel_rfl) (by kernel_rfl) (by kernel_rfl) (by kernel_rfl) (fun _ _ _ h => h) (by rfl) ?_ HS.out ?_
  rotate_left
  · intro W hSw; (try dsimp only at hSw); go_simp; (try with_reducible rfl)
  simp only [Act.put, List.setIfInBounds_toArray, List.set_cons_zero, List.set_cons_succ]
  refine wpAnyN_take_at 1 5 (v := ?_) rfl rfl (by kernel_rfl) (by kernel_rfl) (by kernel_rfl) (by kernel_rfl) (by kernel_rfl) (fun _ _ _ h => h) (by rfl) ?_ HS.out ?_
  rotate_left
  · intro W hSw; (try dsimp only at hSw); go_simp; (try with_reducible rfl)
  simp only [Act.put, List.setIfInBounds_toArray, List.set_cons_zero, List.set_cons_succ]
  refine wpAnyN_take_at 2 6 (v := ?_) rfl rfl (by kernel_rfl) (by kernel_rfl) (by kernel_rfl) (by kernel_rfl) (by kernel_rfl) (fun _ _ _ h => h) (by rfl) ?_ HS.out ?_
  rotate_left
  · intro W hSw; (try dsimp only at hSw); go_simp; (try with_reducible rfl)
  simp only [Act.put, List.setIfInBounds_toArray, List.set_cons_zero, List.set_cons_succ]
  refine wpAnyN_take_at 3 7 (v := ?_) rfl rfl (by kernel_rfl) (by kernel_rfl) (by kernel_rfl) (by kernel_rfl) (by kernel_rfl) (fun _ _ _ h => h) (by rfl) ?_ HS.out ?_
  rotate_left
  · intro W hSw; (try dsimp only at hSw); go_simp; (try with_reducible rfl)
  simp only [Act.put, List.setIfInBounds_toArray, List.set_cons_zero, List.set_cons_succ]
  refine wpAnyN_take_at 4 8 (v := ?_) rfl rfl (by kernel_rfl) (by kernel_rfl) (by kernel_rfl) (by kernel_rfl) (by kernel_rfl) (fun _ _ _ h => h) (by rfl) ?_ HS.out ?_
  rotate_left
  · intro W hSw; (try dsimp only at hSw); go_simp; (try with_reducible rfl)
  simp only [Act.put, List.setIfInBounds_toArray, List.set_cons_zero, List.set_cons_succ]
  refine wpAnyN_take_at 5 9 (v := ?_) rfl rfl (by kernel_rfl) (by kernel_rfl) (by kernel_rfl) (by kernel_rfl) (by kernel_rfl) (fun _ _ _ h => h) (by rfl) ?_ HS.out ?_
  rotate_left
  · intro W hSw; (try dsimp only at hSw); go_simp; (try with_reducible rfl)
  simp only [Act.put, List.setIfInBounds_toArray, List.set_cons_zero, List.set_cons_succ]
  refine wpAnyN_take_at 6 10 (v := ?_) rfl rfl (by kernel_rfl) (by kernel_rfl) (by kernel_rfl) (by kernel_rfl) (by kernel_rfl) (fun _ _ _ h => h) (by rfl) ?_ HS.out ?_
  rotate_left
  · intro W hSw; (try dsimp only at hSw); go_simp; (try with_reducible rfl)
  simp only [Act.put, List.setIfInBounds_toArray, List.set_cons_zero, List.set_cons_succ]
  refine wpAnyN_take_at 7 11 (v := ?_) rfl rfl (by kernel_rfl) (by kernel_rfl) (by kernel_rfl) (by kernel_rfl) (by kernel_rfl) (fun _ _ _ h => h) (by rfl) ?_ HS.out ?_
  rotate_left
  · intro W hSw; (try dsimp only at hSw); go_simp; (try with_reducible rfl)
  simp only [Act.put, List.setIfInBounds_toArray, List.set_cons_zero, List.set_cons_succ]
  refine wpAnyN_take_at 8 12 (v := ?_) rfl rfl (by kernel_rfl) (by kernel_rfl) (by kernel_rfl) (by kernel_rfl) (by kernel_rfl) (fun _ _ _ h => h) (by rfl) ?_ HS.out ?_
  rotate_left
  · intro W hSw; (try dsimp only at hSw); go_simp; (try with_reducible rfl)
  simp only [Act.put, List.setIfInBounds_toArray, List.set_cons_zero, List.set_cons_succ]
  refine wpAnyN_take_at 10 14 (v := ?_) rfl rfl (by kernel_rfl) (by kernel_rfl) (by kernel_rfl) (by kernel_rfl) (by kernel_rfl) (fun _ _ _ h => h) (by rfl) ?_ HS.out ?_
  rotate_left
  · intro W hSw; (try dsimp only at hSw); go_simp; (try with_reducible rfl)
  simp only [Act.put, List.setIfInBounds_toArray, List.set_cons_zero, List.set_cons_succ]
  refine wpAnyN_one (i := 9) rfl (by kernel_rfl) (fun K hK => ?_)
  go_simp
  go_at_call 58
  refine (CO.out _).mono ?_
  rintro e w2 ⟨rfl, b2⟩
  have HD2 := Lib.hid ((b2.block b (Array.getElem?_eq_some_iff.1 HD.out).1).trans HD.out)
  have HT2 := Lib.hid (HT.out.trans (OneTurn.of b2))
  refine hK _ _ (fun _ => (cell_of_row w2 b 4 _ _ (0, 0) HD2.out).trans rfl) ?_
  clear hK HS HD b2
  have HD3 := Lib.hid (show (w2.setCell ⟨b, 4, none⟩ (.string X)).heap[b]? = some (.cells #[.string d0, .string d1, .string d2, .string d3, .string X, .string d5] 54 (0, 0)) from by simp [World.setCell, Array.getElem?_modify, HD2.out])
  have HT3 := Lib.hid (HT2.out.trans (OneTurn.set w2 b 4 (.string X)))
  have hc : w2.cell? ⟨b, 4, none⟩ = some (.string d4) := (cell_of_row w2 b 4 _ _ (0, 0) HD2.out).trans rfl
  have hf : w2.frozen? ⟨b, 4, none⟩ = false := by have := HD2.out; simp [World.frozen?, this]
  have hcl : ∀ ty, (Builtin.clear_ #[23] ty #[.slice (some ⟨b, 5, none⟩) 1 1]).run Tryz.prog (w2.setCell ⟨b, 4, none⟩ (.string X)) = .ok (.tuple #[]) ((w2.setCell ⟨b, 4, none⟩ (.string X)).setCells b 5 (List.replicate 1 (.string ⟨#[]⟩))) := fun ty =>
    Lib.run_clear_slice (w2.setCell ⟨b, 4, none⟩ (.string X)) _ _ ty _ Tryz.underlying23 nuZero rfl rfl b 5 1 1 (by decide) (fun j hj => by rw [cell_of_row _ b (5 + j) _ _ (0, 0) HD3.out]; simp; omega) (fun j hj => by have := HD3.out; simp [World.frozen?, this])
  have HD4 := Lib.hid (show ((w2.setCell ⟨b, 4, none⟩ (.string X)).setCells b 5 (List.replicate 1 (.string ⟨#[]⟩))).heap[b]? = some (.cells #[.string d0, .string d1, .string d2, .string d3, .string X, .string ⟨#[]⟩] 54 (0, 0)) from by
    have h3 := HD3.out
    generalize w2.setCell ⟨b, 4, none⟩ (.string X) = w3 at *
    simp [List.replicate, World.setCells, World.setCell, Array.getElem?_modify, h3])
  have HT4 := Lib.hid (show OneTurn w ((w2.setCell ⟨b, 4, none⟩ (.string X)).setCells b 5 (List.replicate 1 (.string ⟨#[]⟩))) b from by
    have h3 := HT3.out
    generalize w2.setCell ⟨b, 4, none⟩ (.string X) = w3 at *
    simp only [List.replicate, World.setCells]
    exact (h3).trans (OneTurn.set _ b _ _))
  refine wpAnyN_rest 11 [_, _] rfl (by kernel_rfl) (by kernel_rfl) ?_
  go_wp2_with (simp only [hcl])
  go_end0
  exact ⟨rfl, HD4.out, HT4.out⟩
set_option maxHeartbeats 4000000 in
theorem count_6 (b : Nat) (w : World) (d0 d1 d2 d3 d4 d5 : ByteArray) (h : w.heap[b]? = some (.cells #[.string d0, .string d1, .string d2, .string d3, .string d4, .string d5] 54 (0, 0))) (hs : d5.size ≤ 100) (hd : ∀ d ∈ d5.data.toList, 48 ≤ d.toNat ∧ d.toNat ≤ 57) :
    Calls Tryz.prog 17 #[.pointer (some ⟨b, 0, none⟩), .int .i64 6] w fun e w' => e = .returned (.tuple #[]) ∧ w'.heap[b]? = some (.cells #[.string d0, .string d1, .string d2, .string d3, .string d4, .string ⟨(oneMoreL d5.data.toList).toArray⟩] 54 (0, 0)) ∧ OneTurn w w' b := by
  have co := fun W => oneMore_at d5 W hs hd
  have hb := (Array.getElem?_eq_some_iff.1 h).1
  have hwk : IntKind.i64.wrap (5 : Int) = (5 : Int) := by decide
  generalize (⟨(oneMoreL d5.data.toList).toArray⟩ : ByteArray) = X at *
  have CO := Lib.hid co
  have H := Lib.hid h
  clear co hd h hs
  go_enter Tryz.func17, Tryz.ntmps17
  go_wp2_with fail
  refine wp_region_N (fun W => W.cell? ⟨b, 5, none⟩ = some (.string d5)) (fun n => decide (n < 11)) (by kernel_rfl) ?_
  have HD := Lib.hid (show w.drew.heap[b]? = some (.cells #[.string d0, .string d1, .string d2, .string d3, .string d4, .string d5] 54 (0, 0)) from H.out)
  have HT := Lib.hid (show OneTurn w w.drew b from ⟨Nat.le_refl _, fun _ _ _ => rfl, rfl, rfl, rfl⟩)
  have HS := Lib.hid (show w.drew.cell? ⟨b, 5, none⟩ = some (.string d5) from (cell_of_row w.drew b 5 _ _ (0, 0) HD.out).trans rfl)
  generalize w.drew = w1 at *
  refine wpAnyN_take_at 0 4 (v := ?_) rfl rfl (by kernel_rfl) (by kernel_rfl) (by kernel_rfl) (by kernel_rfl) (by kernel_rfl) (fun _ _ _ h => h) (by rfl) ?_ HS.out ?_
  rotate_left
  · intro W hSw; (try dsimp only at hSw); go_simp; (try with_reducible rfl)
  simp only [Act.put, List.setIfInBounds_toArray, List.set_cons_zero, List.set_cons_succ]
  refine wpAnyN_take_at 1 5 (v := ?_) rfl rfl (by kernel_rfl) (by kernel_rfl) (by kernel_rfl) (by kernel_rfl) (by kernel_rfl) (fun _ _ _ h => h) (by rfl) ?_ HS.out ?_
  rotate_left
  · intro W hSw; (try dsimp only at hSw); go_simp; (try with_reducible rfl)
  simp only [Act.put, List.setIfInBounds_toArray, List.set_cons_zero, List.set_cons_succ]
  refine wpAnyN_take_at 2 6 (v := ?_) rfl rfl (by kernel_rfl) (by kernel_rfl) (by kernel_rfl) (by kernel_rfl) (by kernel_rfl) (fun _ _ _ h => h) (by rfl) ?_ HS.out ?_
  rotate_left
  · intro W hSw; (try dsimp only at hSw); go_simp; (try with_reducible rfl)
  simp only [Act.put, List.setIfInBounds_toArray, List.set_cons_zero, List.set_cons_succ]
  refine wpAnyN_take_at 3 7 (v := ?_) rfl rfl (by kernel_rfl) (by kernel_rfl) (by kernel_rfl) (by kernel_rfl) (by kernel_rfl) (fun _ _ _ h => h) (by rfl) ?_ HS.out ?_
  rotate_left
  · intro W hSw; (try dsimp only at hSw); go_simp; (try with_reducible rfl)
  simp only [Act.put, List.setIfInBounds_toArray, List.set_cons_zero, List.set_cons_succ]
  refine wpAnyN_take_at 4 8 (v := ?_) rfl rfl (by kernel_rfl) (by kernel_rfl) (by kernel_rfl) (by kernel_rfl) (by kernel_rfl) (fun _ _ _ h => h) (by rfl) ?_ HS.out ?_
  rotate_left
  · intro W hSw; (try dsimp only at hSw); go_simp; (try with_reducible rfl)
  simp only [Act.put, List.setIfInBounds_toArray, List.set_cons_zero, List.set_cons_succ]
  refine wpAnyN_take_at 5 9 (v := ?_) rfl rfl (by kernel_rfl) (by kernel_rfl) (by kernel_rfl) (by kernel_rfl) (by kernel_rfl) (fun _ _ _ h => h) (by rfl) ?_ HS.out ?_
  rotate_left
  · intro W hSw; (try dsimp only at hSw); go_simp; (try with_reducible rfl)
  simp only [Act.put, List.setIfInBounds_toArray, List.set_cons_zero, List.set_cons_succ]
  refine wpAnyN_take_at 6 10 (v := ?_) rfl rfl (by kernel_rfl) (by kernel_rfl) (by kernel_rfl) (by kernel_rfl) (by kernel_rfl) (fun _ _ _ h => h) (by rfl) ?_ HS.out ?_
  rotate_left
  · intro W hSw; (try dsimp only at hSw); go_simp; (try with_reducible rfl)
  simp only [Act.put, List.setIfInBounds_toArray, List.set_cons_zero, List.set_cons_succ]
  refine wpAnyN_take_at 7 11 (v := ?_) rfl rfl (by kernel_rfl) (by kernel_rfl) (by kernel_rfl) (by kernel_rfl) (by kernel_rfl) (fun _ _ _ h => h) (by rfl) ?_ HS.out ?_
  rotate_left
  · intro W hSw; (try dsimp only at hSw); go_simp; (try with_reducible rfl)
  simp only [Act.put, List.setIfInBounds_toArray, List.set_cons_zero, List.set_cons_succ]
  refine wpAnyN_take_at 8 12 (v := ?_) rfl rfl (by kernel_rfl) (by kernel_rfl) (by kernel_rfl) (by kernel_rfl) (by kernel_rfl) (fun _ _ _ h => h) (by rfl) ?_ HS.out ?_
  rotate_left
  · intro W hSw; (try dsimp only at hSw); go_simp; (try with_reducible rfl)
  simp only [Act.put, List.setIfInBounds_toArray, List.set_cons_zero, List.set_cons_succ]
  refine wpAnyN_take_at 10 14 (v := ?_) rfl rfl (by kernel_rfl) (by kernel_rfl) (by kernel_rfl) (by kernel_rfl) (by kernel_rfl) (fun _ _ _ h => h) (by rfl) ?_ HS.out ?_
  rotate_left
  · intro W hSw; (try dsimp only at hSw); go_simp; (try with_reducible rfl)
  simp only [Act.put, List.setIfInBounds_toArray, List.set_cons_zero, List.set_cons_succ]
  refine wpAnyN_one (i := 9) rfl (by kernel_rfl) (fun K hK => ?_)
  go_simp
  go_at_call 58
  refine (CO.out _).mono ?_
  rintro e w2 ⟨rfl, b2⟩
  have HD2 := Lib.hid ((b2.block b (Array.getElem?_eq_some_iff.1 HD.out).1).trans HD.out)
  have HT2 := Lib.hid (HT.out.trans (OneTurn.of b2))
  refine hK _ _ (fun _ => (cell_of_row w2 b 5 _ _ (0, 0) HD2.out).trans rfl) ?_
  clear hK HS HD b2
  have HD3 := Lib.hid (show (w2.setCell ⟨b, 5, none⟩ (.string X)).heap[b]? = some (.cells #[.string d0, .string d1, .string d2, .string d3, .string d4, .string X] 54 (0, 0)) from by simp [World.setCell, Array.getElem?_modify, HD2.out])
  have HT3 := Lib.hid (HT2.out.trans (OneTurn.set w2 b 5 (.string X)))
  have hc : w2.cell? ⟨b, 5, none⟩ = some (.string d5) := (cell_of_row w2 b 5 _ _ (0, 0) HD2.out).trans rfl
  have hf : w2.frozen? ⟨b, 5, none⟩ = false := by have := HD2.out; simp [World.frozen?, this]
  have hcl := fun ty => clear_none (some ⟨b, 0, none⟩) 0 ty (w2.setCell ⟨b, 5, none⟩ (.string X))
  have HD4 := HD3
  have HT4 := HT3
  refine wpAnyN_rest 11 [_, _] rfl (by kernel_rfl) (by kernel_rfl) ?_
  go_wp2_with (simp only [hcl])
  go_end0
  exact ⟨rfl, HD4.out, HT4.out⟩
end Go.Proofs.YtpifhjdbcdcelaaGreatDoor

namespace Go.Proofs.YtpifhjdbcdcelaaGreatDoor
open Go.RowKit
set_option linter.unusedSimpArgs false
set_option linter.unusedVariables false
set_option maxRecDepth 100000
def NbRel (ds : List (List UInt8)) (w : World) (i : Value) (wr : World) : Prop :=
  ∃ k : Nat, i = .int .i64 k ∧ k ≤ 6 ∧ Lib.IsBuilderF 87 5 w.heap.size w.heap.size (Lib.byteCells (numL (ds.take k))) wr ∧ Below w.heap.size w wr ∧ w.heap.size < wr.heap.size
theorem nb_take (ds : List (List UInt8)) (k : Nat) (h : k < ds.length) : numL (ds.take (k + 1)) = numStep (numL (ds.take k)) ds[k] := by
  rw [List.take_succ_eq_append_getElem h, numL_snoc]
theorem nb_len (ds : List (List UInt8)) (h : ∀ d ∈ ds, d.length ≤ 100) : (numL ds).length ≤ 101 * ds.length := by
  refine snocRec (P := fun ds => (∀ d ∈ ds, d.length ≤ 100) → (numL ds).length ≤ 101 * ds.length) (fun _ => by simp [numL]) (fun l d ih h => ?_) ds h
  have h1 := ih fun x hx => h x (by simp [hx])
  have h2 := h d (by simp)
  have h3 := numStep_len (numL l) d
  rw [numL_snoc]
  simp at *
  omega
set_option maxHeartbeats 4000000 in
theorem number_any (b : Nat) (w : World) (ds : List (List UInt8)) (hd : ds.length = 6) (hs : ∀ d ∈ ds, d.length ≤ 100) (h : w.heap[b]? = some (.cells (strs ds).toArray 54 (0, 0))) :
    Calls Tryz.prog 18 #[.pointer (some ⟨b, 0, none⟩)] w fun e w' => e = .returned (.string ⟨(numL ds).toArray⟩) ∧ Below w.heap.size w w' := by
  have hb := (Array.getElem?_eq_some_iff.1 h).1
  have H := Lib.hid h
  have HSS := Lib.hid hs
  have HDL := Lib.hid hd
  obtain ⟨res, hR⟩ : ∃ res, res = numL ds := ⟨_, rfl⟩
  rw [← hR]
  have HR := Lib.hid hR
  clear h hs hR hd
  go_enter Tryz.func18, Tryz.ntmps18
  go_wp2_with fail
  go_loopw [8] (fun i wr => NbRel ds w i wr) (fun i wr => 6 - (intOf i).toNat)
  case atStart =>
    exact ⟨0, rfl, Nat.zero_le _, Lib.IsBuilderF.of (Lib.fresh_isBuilder 87 5 w), (Below.refl _ w).alloc (Nat.le_refl _) _, (by show _ < (w.heap.push _).size; simp)⟩
  case round =>
    obtain ⟨k, rfl, hk, hI, hbw, hsz⟩ := hrel
    by_cases hp : k < 6
    · have hkl : k < ds.length := by rw [HDL.out]; exact hp
      have hcl : wr.cell? ⟨b, k, none⟩ = some (.string ⟨ds[k].toArray⟩) := by
        have hx := (hbw.block b hb).trans H.out
        rw [cell_of_row wr b k _ _ (0, 0) hx]
        simp [strs, hkl]
      have HT := Lib.hid (nb_take ds k hkl)
      have HL := Lib.hid (nb_len (ds.take k) (fun d hd => HSS.out d (List.mem_of_mem_take hd)))
      have hl2 := HSS.out ds[k] (List.getElem_mem hkl)
      have hsz2 : (⟨ds[k].toArray⟩ : ByteArray).size = ds[k].length := str_size _
      have HI := Lib.hid hI
      have HBW := Lib.hid hbw
      clear hI hbw
      generalize ds[k] = d at *
      by_cases hd0 : d = []
      · subst hd0
        have hst : numL (ds.take (k + 1)) = numL (ds.take k) := by rw [HT.out]; unfold numStep; rw [if_pos rfl]
        have HST := Lib.hid hst
        clear hst
        go_wp2
        go_roundw
        case rel => exact ⟨k + 1, by go_num, by omega, by rw [HST.out]; exact HI.out, HBW.out, hsz⟩
        case measure => simp [intOf]; omega
      · have hac := HL.out
        rw [List.length_take, HDL.out] at hac
        have hlen : (numL (ds.take k)).length ≤ 1000 := by omega
        have hD0 : 0 < (⟨d.toArray⟩ : ByteArray).size := by rw [hsz2]; exact List.length_pos_iff.2 hd0
        have e1 := toList_ne hD0
        have e2 := toList_empty hD0
        have hsc : Lib.strCells (⟨d.toArray⟩ : ByteArray) = Lib.byteCells d := rfl
        have hD2 : (⟨d.toArray⟩ : ByteArray).size ≤ 100 := by rw [hsz2]; exact hl2
        have HT2 : numL (ds.take (k + 1)) = if numL (ds.take k) = [] then d else numL (ds.take k) ++ 46 :: d := by rw [HT.out]; unfold numStep; rw [if_neg hd0]
        generalize hac2 : numL (ds.take k) = acc at *
        generalize (⟨d.toArray⟩ : ByteArray) = D at *
        have cl := Tryz.Builder_Len_f w.heap.size w.heap.size _ _ HI.out
        rw [Lib.byteCells_length] at cl
        have CL := Lib.hid cl
        have HSC := Lib.hid hsc
        have HT3 := Lib.hid HT2
        clear cl hsc HT2 hac HT hd0 hD0 hac2 hsz2 HL
        by_cases ha : acc = []
        · subst ha
          have hr : numL (ds.take (k + 1)) = d := by rw [HT3.out, if_pos rfl]
          have HRR := Lib.hid hr
          have cw := Tryz.Builder_WriteString_k w.heap.size w.heap.size _ D wr HI.out (by simp [Lib.byteCells]; omega) (by omega)
          rw [HSC.out, show Lib.byteCells [] ++ Lib.byteCells d = Lib.byteCells d from rfl, ← HRR.out] at cw
          have CW := Lib.hid cw
          clear hr cw
          go_wp2_with fail
          refine CL.out.mono ?_
          rintro e w1 ⟨rfl, rfl⟩
          go_wp2_with fail
          refine CW.out.mono ?_
          rintro e w2 ⟨rfl, g2, b2, _⟩
          have HG := Lib.hid g2
          have hs2 := b2.size
          have HB2 := Lib.hid (HBW.out.trans b2)
          clear g2 b2
          go_wp2
          go_roundw
          case rel => exact ⟨k + 1, by go_num, by omega, Or.inr HG.out, HB2.out, by omega⟩
          case measure => simp [intOf]; omega
        · have hr : numL (ds.take (k + 1)) = acc ++ 46 :: d := by rw [HT3.out, if_neg ha]
          have HRR := Lib.hid hr
          have hpos : 0 < acc.length := List.length_pos_iff.2 ha
          have cb := Tryz.Builder_WriteByte_k w.heap.size w.heap.size _ 46 wr HI.out (by rw [Lib.byteCells_length]; omega) (by omega)
          have CB := Lib.hid cb
          clear hr cb ha
          go_wp2_with fail
          refine CL.out.mono ?_
          rintro e w1 ⟨rfl, rfl⟩
          go_wp2_with fail
          refine CB.out.mono ?_
          rintro e w2 ⟨rfl, g2, b2, _⟩
          have hs2 := b2.size
          have cw := Tryz.Builder_WriteString_k w.heap.size w.heap.size _ D w2 (Or.inr g2) (by rw [List.length_append, Lib.byteCells_length]; simp; omega) (by omega)
          rw [HSC.out, show Lib.byteCells acc ++ [Value.int IntKind.u8 46] ++ Lib.byteCells d = Lib.byteCells (acc ++ 46 :: d) from by rw [Lib.byteCells_append]; simp [Lib.byteCells], ← HRR.out] at cw
          have CW := Lib.hid cw
          have HB2 := Lib.hid (HBW.out.trans b2)
          clear cw g2 b2
          go_wp2_with fail
          refine CW.out.mono ?_
          rintro e w3 ⟨rfl, g3, b3, _⟩
          have HG := Lib.hid g3
          have hs3 := b3.size
          have HB3 := Lib.hid (HB2.out.trans b3)
          clear g3 b3
          go_wp2
          go_roundw
          case rel => exact ⟨k + 1, by go_num, by omega, Or.inr HG.out, HB3.out, by omega⟩
          case measure => simp [intOf]; omega
    · obtain rfl : k = 6 := by omega
      rw [List.take_of_length_le (by rw [HDL.out]; exact Nat.le_refl _), ← HR.out] at hI
      go_wp2_with fail
      refine (Tryz.Builder_String_any_k w.heap.size w.heap.size _ _ hI (by omega)).mono ?_
      rintro e w1 ⟨rfl, _, b1, _⟩
      go_wp2
      go_ret
      exact ⟨rfl, hbw.trans b1⟩
end Go.Proofs.YtpifhjdbcdcelaaGreatDoor

namespace Go.Proofs.YtpifhjdbcdcelaaGreatDoor
open Go.RowKit
set_option linter.unusedSimpArgs false
set_option linter.unusedVariables false
set_option maxRecDepth 100000
abbrev CntAt (w : World) (b : Nat) (n : List Nat) : Prop := w.heap[b]? = some (.cells (strs (n.map dg)).toArray 54 (0, 0))
theorem count_any (b : Nat) (w : World) (n : List Nat) (hn : n.length = 6) (h : CntAt w b n) (hm : ∀ x ∈ n, x < 99) (k : Nat) (h1 : 1 ≤ k) (h6 : k ≤ 6) :
    Calls Tryz.prog 17 #[.pointer (some ⟨b, 0, none⟩), .int .i64 k] w fun e w' => e = .returned (.tuple #[]) ∧ CntAt w' b (cntStep n k) ∧ OneTurn w w' b := by
  match n, hn with
  | [n0, n1, n2, n3, n4, n5], _ =>
    have hl : ∀ x : Nat, (⟨(dg x).toArray⟩ : ByteArray).size ≤ 100 := fun x => by rw [str_size]; have := dg_len x; omega
    have hk : k = 1 ∨ k = 2 ∨ k = 3 ∨ k = 4 ∨ k = 5 ∨ k = 6 := by omega
    rcases hk with rfl | rfl | rfl | rfl | rfl | rfl
    · have := count_1 b w ⟨(dg n0).toArray⟩ ⟨(dg n1).toArray⟩ ⟨(dg n2).toArray⟩ ⟨(dg n3).toArray⟩ ⟨(dg n4).toArray⟩ ⟨(dg n5).toArray⟩ h (hl _) (dg_digit _ (by have := hm n0 (by simp); omega))
      rw [oneMore_dg n0 (hm n0 (by simp))] at this
      exact this
    · have := count_2 b w ⟨(dg n0).toArray⟩ ⟨(dg n1).toArray⟩ ⟨(dg n2).toArray⟩ ⟨(dg n3).toArray⟩ ⟨(dg n4).toArray⟩ ⟨(dg n5).toArray⟩ h (hl _) (dg_digit _ (by have := hm n1 (by simp); omega))
      rw [oneMore_dg n1 (hm n1 (by simp))] at this
      exact this
    · have := count_3 b w ⟨(dg n0).toArray⟩ ⟨(dg n1).toArray⟩ ⟨(dg n2).toArray⟩ ⟨(dg n3).toArray⟩ ⟨(dg n4).toArray⟩ ⟨(dg n5).toArray⟩ h (hl _) (dg_digit _ (by have := hm n2 (by simp); omega))
      rw [oneMore_dg n2 (hm n2 (by simp))] at this
      exact this
    · have := count_4 b w ⟨(dg n0).toArray⟩ ⟨(dg n1).toArray⟩ ⟨(dg n2).toArray⟩ ⟨(dg n3).toArray⟩ ⟨(dg n4).toArray⟩ ⟨(dg n5).toArray⟩ h (hl _) (dg_digit _ (by have := hm n3 (by simp); omega))
      rw [oneMore_dg n3 (hm n3 (by simp))] at this
      exact this
    · have := count_5 b w ⟨(dg n0).toArray⟩ ⟨(dg n1).toArray⟩ ⟨(dg n2).toArray⟩ ⟨(dg n3).toArray⟩ ⟨(dg n4).toArray⟩ ⟨(dg n5).toArray⟩ h (hl _) (dg_digit _ (by have := hm n4 (by simp); omega))
      rw [oneMore_dg n4 (hm n4 (by simp))] at this
      exact this
    · have := count_6 b w ⟨(dg n0).toArray⟩ ⟨(dg n1).toArray⟩ ⟨(dg n2).toArray⟩ ⟨(dg n3).toArray⟩ ⟨(dg n4).toArray⟩ ⟨(dg n5).toArray⟩ h (hl _) (dg_digit _ (by have := hm n5 (by simp); omega))
      rw [oneMore_dg n5 (hm n5 (by simp))] at this
      exact this
theorem OneTurn.row {w w' : World} {b B : Nat} {e t : TypeId} {size n : Nat} {v : Value} {xs : List Value} (h : OneTurn w w' b) (k : w.ownsRow B e size v n xs) {cs : Array Value} {fz : Nat × Nat} (hb : w.heap[b]? = some (.cells cs t fz)) (hne : e ≠ t) : w'.ownsRow B e size v n xs := by
  have h1 := own_ne k hb hne
  refine ⟨k.1, ?_⟩
  rcases k.2 with hn | ⟨g, cap, cur, rfl, hB, hg, rest⟩
  · exact .inl hn
  · exact .inr ⟨g, cap, cur, rfl, hB, (h.rest g (Array.getElem?_eq_some_iff.1 hg).1 (fun e => h1 (by rw [e]; rfl))).trans hg, rest⟩
/-- The numbers of the first k, and room for the others. -/
def numRow (L : List Int) (k : Nat) : List (List UInt8) := allN (L.take k) ++ List.replicate (L.length - k) []
theorem numRow_zero (L : List Int) : numRow L 0 = List.replicate L.length [] := by simp [numRow, allN, allGo]
theorem numRow_all (L : List Int) : numRow L L.length = allN L := by simp [numRow]
theorem numRow_len (L : List Int) (k : Nat) (h : k ≤ L.length) : (numRow L k).length = L.length := by unfold numRow; rw [List.length_append, allN_len, List.length_take, List.length_replicate]; omega
theorem numRow_step (L : List Int) (k : Nat) (h : k < L.length) : numRow L (k + 1) = (numRow L k).set k (numOne (cntAll zero6 (L.take k)) L[k]) := by
  unfold numRow
  rw [List.take_succ_eq_append_getElem h, allN_snoc, show L.length - k = (L.length - (k + 1)) + 1 from by omega, List.replicate_succ]
  have hl : (allN (L.take k)).length = k := by rw [allN_len, List.length_take]; omega
  rw [List.set_append_right _ _ (by omega), hl, Nat.sub_self, List.set_cons_zero, List.append_assoc]
  rfl
theorem numRow_bad (L : List Int) (k : Nat) (h : k < L.length) (hb : okLevel L[k] = false) : numRow L (k + 1) = numRow L k := by
  unfold numRow
  rw [List.take_succ_eq_append_getElem h, allN_snoc, show L.length - k = (L.length - (k + 1)) + 1 from by omega, List.replicate_succ]
  unfold numOne
  rw [hb, List.append_assoc]
  rfl
def NaRel (L : List Int) (w : World) (g b : Nat) (i : Value) (wr : World) : Prop :=
  ∃ k : Nat, i = .int .i64 k ∧ k ≤ L.length ∧ wr.ownsRow w.heap.size 9 1 (.slice (some ⟨g, 0, none⟩) L.length L.length) L.length (strs (numRow L k)) ∧ CntAt wr b (cntAll zero6 (L.take k)) ∧ Below w.heap.size w wr
theorem strs_setL (ls : List (List UInt8)) (q : Nat) (x : List UInt8) : (strs ls).set q (.string ⟨x.toArray⟩) = strs (ls.set q x) := by simp [strs, List.map_set]
set_option maxHeartbeats 4000000 in
theorem all_any (A : Option Addr) (cap : Nat) (L : List Int) (w : World) (hrow : RowOf w A cap (L.map (Value.int .i64))) (hl : L.length ≤ 90) :
    Calls Tryz.prog 6 #[.slice A L.length cap] w fun e w' => ∃ v, e = .returned v ∧ w'.ownsRow w.heap.size 9 1 v L.length (strs (allN L)) ∧ Below w.heap.size w w' := by
  obtain ⟨i0, hi, hz0, hz1, hz2⟩ := info_parts infoString
  have HROW := Lib.hid hrow
  have hc1 := hrow.1
  have hc2 := hrow.2.1
  rw [List.length_map] at hc1
  unfold maxLen at hc2
  clear hrow
  go_enter Tryz.func6, Tryz.ntmps6
  go_wp2_with (refine wpList_make_full _ rfl _ _ 23 rfl w.heap.size 9 i0 (.string ByteArray.empty) 1 Tryz.underlying23 hi hz0 hz1 .i64 .i64 _ _ L.length rfl rfl rfl rfl (by rw [hz2]; omega) (by unfold maxLen; omega) (Nat.le_refl _) ?_)
  intro w1 hown hgr
  have hs1 := hgr.size
  have hb1 : Below w.heap.size w w1 := below_of_grown hgr (fun g hg => by cases hg) (Nat.le_refl _)
  rw [toList_madeCells_one] at hown
  have hown2 : (w1.alloc (.cells (strs (zero6.map dg)).toArray 54)).ownsRow w.heap.size 9 1 (.slice (some ⟨w.heap.size, 0, none⟩) L.length L.length) L.length (strs (numRow L 0)) := by
    have : strs (numRow L 0) = List.replicate L.length (.string ByteArray.empty) := by rw [numRow_zero]; simp only [strs, List.map_replicate]; rfl
    rw [this]
    exact hown.alloc _
  have hct : CntAt (w1.alloc (.cells (strs (zero6.map dg)).toArray 54)) w1.heap.size zero6 := heap_alloc_new w1 _
  have hb2 := hb1.alloc hs1 (.cells (strs (zero6.map dg)).toArray 54)
  have HO := Lib.hid hown2
  have HC := Lib.hid hct
  have HB2 := Lib.hid hb2
  clear hown hgr hb1 hown2 hct hb2
  go_wp2_with fail
  go_loopw [12] (fun i wr => NaRel L w w.heap.size w1.heap.size i wr) (fun i wr => L.length - (intOf i).toNat)
  case atStart => exact ⟨0, rfl, Nat.zero_le _, HO.out, HC.out, HB2.out⟩
  case round =>
    obtain ⟨k, rfl, hk, hown, hct, hbw⟩ := hrel
    by_cases hp : k < L.length
    · have hne : L.map (Value.int .i64) ≠ [] := by intro e; have := congrArg List.length e; rw [List.length_map, List.length_nil] at this; omega
      obtain ⟨ab, ao, rfl, hab, hac⟩ := HROW.out.at hne
      have hcell : wr.cell? ⟨ab, ao + k, none⟩ = some (.int .i64 L[k]) := by
        have := (hbw.cell (p := ⟨ab, ao + k, none⟩) hab).trans (hac k (by rw [List.length_map]; exact hp))
        simpa using this
      have hab2 := hbw.size
      cases hok : okLevel L[k] with
      | true =>
        have hst := numRow_step L k hp
        have hnum : numOne (cntAll zero6 (L.take k)) L[k] = numL ((cntStep (cntAll zero6 (L.take k)) L[k].toNat).map dg) := by unfold numOne; rw [if_pos hok]
        have hcnt : cntAll zero6 (L.take (k + 1)) = cntStep (cntAll zero6 (L.take k)) L[k].toNat := by
          rw [List.take_succ_eq_append_getElem hp, cntAll_snoc]; unfold cntOne; rw [if_pos hok]
        have hmem := cntAll_mem (L.take k)
        have hlen := cntAll_len (L.take k) zero6 rfl
        have htl : (L.take k).length = k := by rw [List.length_take]; omega
        rw [htl] at hmem
        rw [hnum] at hst
        obtain ⟨m, hm, hm1, hm6⟩ : ∃ m : Nat, L[k] = m ∧ 1 ≤ m ∧ m ≤ 6 := by
          simp [okLevel] at hok
          exact ⟨L[k].toNat, by omega, by omega, by omega⟩
        rw [hm] at hst hcell hcnt
        rw [Int.toNat_natCast] at hst hcnt
        generalize cntAll zero6 (L.take k) = n at *
        have co := count_any w1.heap.size wr n hlen hct (fun x hx => by have := hmem x hx; omega) m hm1 hm6
        have hl2 := cntStep_len n m hlen hm1 hm6
        have hmem2 := cntStep_mem n m k hmem
        have HCT := Lib.hid hct
        have HOW := Lib.hid hown
        have CO := Lib.hid co
        have HST := Lib.hid hst
        have HCN := Lib.hid hcnt
        have HBW := Lib.hid hbw
        have HL2 := Lib.hid hl2
        have hd1 : decide ((1 : Int) ≤ (m : Int)) = true := by simp; omega
        have hd2 : decide ((m : Int) ≤ 6) = true := by simp; omega
        clear hok hmem hlen htl hm hnum hown hct co hst hcnt hbw hl2 hac hne
        go_wp2_with fail
        refine CO.out.mono ?_
        rintro e w2 ⟨rfl, hct2, ht⟩
        have HOW2 := Lib.hid (ht.row HOW.out HCT.out (by decide))
        have HBW2 := Lib.hid (HBW.out.trans (ht.below hs1 hab2))
        have hs2 := ht.size
        have cn := number_any w1.heap.size w2 ((cntStep n m).map dg) (by rw [List.length_map]; exact HL2.out) (fun d hd => by obtain ⟨x, _, rfl⟩ := List.mem_map.1 hd; have := dg_len x; omega) hct2
        have CN := Lib.hid cn
        have HCT2 := Lib.hid hct2
        clear cn hct2 ht
        go_wp2_with fail
        refine CN.out.mono ?_
        rintro e w3 ⟨rfl, b3⟩
        have HOW3 := Lib.hid (ownsRow_below HOW2.out b3)
        have HCT3 := Lib.hid ((b3.block _ (Array.getElem?_eq_some_iff.1 HCT2.out).1).trans HCT2.out)
        have hs3 := b3.size
        have HBW3 := Lib.hid (HBW2.out.trans (b3.mono (by omega)))
        obtain ⟨s1, s2⟩ := HOW3.out.stored k (.string ⟨(numL ((cntStep n m).map dg)).toArray⟩)
        rw [strs_setL, ← HST.out] at s1
        have hc3 := HOW3.out.cellAt k (by rw [Nat.mul_one]; exact hp)
        rw [List.getElem?_eq_getElem (by rw [strs_length, numRow_len _ _ hk]; exact hp)] at hc3
        have hf3 := HOW3.out.frozenAt k
        have HS1 := Lib.hid s1
        have hne3 := own_ne HOW3.out HCT3.out (by decide)
        have HCT4 := Lib.hid (show CntAt (w3.setCell ⟨w.heap.size, k, none⟩ (.string ⟨(numL ((cntStep n m).map dg)).toArray⟩)) w1.heap.size (cntStep n m) from
          (Below.heap_setCell w3 ⟨w.heap.size, k, none⟩ _ w1.heap.size (fun e1 => hne3 (by rw [show w1.heap.size = w.heap.size from e1]; rfl))).trans HCT3.out)
        have HBW4 := Lib.hid (HBW3.out.setCell (p := ⟨w.heap.size, k, none⟩) (Nat.le_refl _) (.string ⟨(numL ((cntStep n m).map dg)).toArray⟩))
        clear s1 s2 hne3
        generalize (⟨(numL ((cntStep n m).map dg)).toArray⟩ : ByteArray) = X at *
        generalize (strs (numRow L k))[k]'_ = u0 at *
        go_wp2
        go_roundw
        case rel => exact ⟨k + 1, by go_num, by omega, HS1.out, by rw [HCN.out]; exact HCT4.out, HBW4.out⟩
        case measure => simp [intOf]; omega
      | false =>
        have hbad := Lib.hid (numRow_bad L k hp hok)
        have hcnt : cntAll zero6 (L.take (k + 1)) = cntAll zero6 (L.take k) := by
          rw [List.take_succ_eq_append_getElem hp, cntAll_snoc]; unfold cntOne; rw [if_neg (by rw [hok]; simp)]
        have HCN := Lib.hid hcnt
        have HOW := Lib.hid hown
        have HCT := Lib.hid hct
        have HBW := Lib.hid hbw
        generalize hz : L[k] = z at *
        have hcase : z < 1 ∨ (1 ≤ z ∧ 6 < z) := by simp [okLevel] at hok; omega
        clear hok hcnt hown hct hbw hac hne
        rcases hcase with h1 | ⟨h1, h2⟩
        all_goals
          go_wp2
          go_roundw
          case rel => exact ⟨k + 1, by go_num, by omega, by rw [hbad.out]; exact HOW.out, by rw [HCN.out]; exact HCT.out, HBW.out⟩
          case measure => simp [intOf]; omega
    · obtain rfl : k = L.length := by omega
      have HOW := Lib.hid hown
      have HBW := Lib.hid hbw
      clear hown hct hbw
      go_wp2
      go_ret
      exact ⟨_, rfl, by rw [← numRow_all]; exact HOW.out, HBW.out⟩
end Go.Proofs.YtpifhjdbcdcelaaGreatDoor

namespace Go.Proofs.YtpifhjdbcdcelaaGreatDoor
open Go.RowKit
set_option linter.unusedSimpArgs false
set_option linter.unusedVariables false
/-- The cells of a list whose element x has the cells c x. -/
def flt {α : Type} (c : α → List Value) (X : List α) : List Value := X.flatMap c
theorem flt_cons {α : Type} (c : α → List Value) (x : α) (X : List α) : flt c (x :: X) = c x ++ flt c X := rfl
theorem flt_append {α : Type} (c : α → List Value) (a b : List α) : flt c (a ++ b) = flt c a ++ flt c b := by simp [flt]
theorem flt_one {α : Type} (c : α → List Value) (x : α) : flt c [x] = c x := by simp [flt]
theorem flt_length {α : Type} {c : α → List Value} {s : Nat} (hs : ∀ x, (c x).length = s) (X : List α) : (flt c X).length = X.length * s := by
  induction X with
  | nil => simp [flt]
  | cons p X ih => rw [flt_cons, List.length_append, ih, List.length_cons, hs, Nat.succ_mul, Nat.add_comm]
theorem flt_get {α : Type} {c : α → List Value} {s : Nat} (hs : ∀ x, (c x).length = s) : ∀ (X : List α) (k : Nat) (h : k < X.length) (j : Nat) (u : Value), (c X[k])[j]? = some u → (flt c X)[k * s + j]? = some u
  | x :: X, 0, h, j, u, hu => by
    have hu' : (c x)[j]? = some u := hu
    have hj := (List.getElem?_eq_some_iff.1 hu').1
    rw [flt_cons, List.getElem?_append_left (by omega), Nat.zero_mul, Nat.zero_add]
    exact hu'
  | x :: X, k + 1, h, j, u, hu => by
    have ih := flt_get hs X k (by simpa using h) j u (by simpa using hu)
    have hl := hs x
    have e : (k + 1) * s + j - s = k * s + j := by rw [Nat.succ_mul]; omega
    rw [flt_cons, List.getElem?_append_right (by rw [hl, Nat.succ_mul]; omega), hl, e]
    exact ih
/-- A list of elements of s cells each that may be read. -/
structure EltsAt (w : World) {α : Type} (c : α → List Value) (s : Nat) (A : Option Addr) (cap : Nat) (X : List α) : Prop where
  le : X.length ≤ cap
  cap : cap ≤ maxLen
  cells : X = [] ∨ ∃ b off, A = some ⟨b, off, none⟩ ∧ b < w.heap.size ∧ ∀ k (h : k < X.length) j u, (c X[k])[j]? = some u → w.cell? ⟨b, off + k * s + j, none⟩ = some u
theorem EltsAt.below {w w' : World} {α : Type} {c : α → List Value} {s : Nat} {A : Option Addr} {cap : Nat} {X : List α} (h : EltsAt w c s A cap X) (hb : Below w.heap.size w w') : EltsAt w' c s A cap X := by
  refine ⟨h.le, h.cap, ?_⟩
  rcases h.cells with h1 | ⟨b, off, e, hlt, hc⟩
  · exact Or.inl h1
  · refine Or.inr ⟨b, off, e, Nat.lt_of_lt_of_le hlt hb.size, fun k hk j u hu => ?_⟩
    rw [hb.cell (p := ⟨b, off + k * s + j, none⟩) hlt]
    exact hc k hk j u hu
theorem EltsAt.heap {w w' : World} {α : Type} {c : α → List Value} {s : Nat} {A : Option Addr} {cap : Nat} {X : List α} (hh : w'.heap = w.heap) (h : EltsAt w c s A cap X) : EltsAt w' c s A cap X := by
  refine ⟨h.le, h.cap, ?_⟩
  rcases h.cells with h1 | ⟨b, off, e, hlt, hc⟩
  · exact Or.inl h1
  · exact Or.inr ⟨b, off, e, by rw [hh]; exact hlt, fun k hk j u hu => by have := hc k hk j u hu; simpa [World.cell?, hh] using this⟩
theorem EltsAt.at {w : World} {α : Type} {c : α → List Value} {s : Nat} {A : Option Addr} {cap : Nat} {X : List α} (h : EltsAt w c s A cap X) {k : Nat} (hk : k < X.length) :
    ∃ b off, A = some ⟨b, off, none⟩ ∧ b < w.heap.size ∧ ∀ j u, (c X[k])[j]? = some u → w.cell? ⟨b, off + k * s + j, none⟩ = some u := by
  rcases h.cells with h3 | ⟨b, off, e, hlt, hc⟩
  · rw [h3] at hk; simp at hk
  · exact ⟨b, off, e, hlt, hc k hk⟩
theorem EltsAt.nil (w : World) {α : Type} (c : α → List Value) (s : Nat) (A : Option Addr) : EltsAt w c s A 0 ([] : List α) := ⟨Nat.le_refl _, Nat.zero_le _, Or.inl rfl⟩
/-- A list of the call's own may be read. -/
theorem EltsAt.own {w : World} {α : Type} {c : α → List Value} {s B : Nat} {te : TypeId} {v : Value} {X : List α} (hs : ∀ x, (c x).length = s) (h : w.ownsRow B te s v X.length (flt c X)) :
    ∃ A cap, v = .slice A X.length cap ∧ EltsAt w c s A cap X := by
  rcases h.2 with ⟨rfl, h0⟩ | ⟨g, cap, cur, rfl, hb, hg, hnc, hcm, hcs, ht⟩
  · have h0' : X.length = 0 := h0
    have hX := List.eq_nil_of_length_eq_zero h0'
    subst hX
    exact ⟨none, 0, rfl, EltsAt.nil _ _ _ _⟩
  · refine ⟨some ⟨g, 0, none⟩, cap, rfl, hnc, hcm, Or.inr ⟨g, 0, rfl, (Array.getElem?_eq_some_iff.1 hg).1, fun k hk j u hu => ?_⟩⟩
    rw [cell_of_row w g _ cur te (0, 0) hg, Nat.zero_add]
    have h1 := flt_get hs X k hk j u hu
    rw [← ht, List.getElem?_take] at h1
    split at h1
    · simpa using h1
    · cases h1
/-- The cells of the k-th element of a list of the call's own. -/
theorem own_elt {w : World} {α : Type} {c : α → List Value} {s B g n cap : Nat} {te : TypeId} {X : List α} (hs : ∀ x, (c x).length = s) (h : w.ownsRow B te s (.slice (some ⟨g, 0, none⟩) n cap) n (flt c X)) {k : Nat} (hk : k < X.length) (j : Nat) (u : Value)
    (hu : (c X[k])[j]? = some u) : w.cell? ⟨g, k * s + j, none⟩ = some u := by
  rcases h.2 with ⟨e1, h0⟩ | ⟨g', cap', cur, e1, hb, hg, hnc, hcm, hcs, ht⟩
  · cases e1
  · cases e1
    rw [cell_of_row w g _ cur te (0, 0) hg]
    have h1 := flt_get hs X k hk j u hu
    rw [← ht, List.getElem?_take] at h1
    split at h1
    · simpa using h1
    · cases h1
/-- The block of one element that a call hands in. -/
theorem elt_cells (w : World) (L : List Value) (t : TypeId) : ∀ (j : Nat) (u : Value), L[j]? = some u → (w.alloc (.cells L.toArray t)).cell? ((⟨w.heap.size, 0, none⟩ : Addr).add j) = some u := by
  intro j u hj
  rw [addr_add, cell_of_row _ _ _ _ t (0, 0) (heap_alloc_new w _), Nat.zero_add]
  simpa using hj
/-- Its cells as one row. -/
theorem EltsAt.flat {w : World} {α : Type} {c : α → List Value} {s : Nat} {ad : Addr} {cap : Nat} {X : List α} (hs : ∀ x, (c x).length = s) (h0 : 0 < s) (h : EltsAt w c s (some ad) cap X) : ∀ (j : Nat) (u : Value), (flt c X)[j]? = some u → w.cell? (ad.add j) = some u := by
  intro j u hu
  have hj := (List.getElem?_eq_some_iff.1 hu).1
  rw [flt_length hs] at hj
  have hk : j / s < X.length := Nat.div_lt_of_lt_mul (by rw [Nat.mul_comm]; exact hj)
  have hi : j % s < (c X[j / s]).length := by rw [hs]; exact Nat.mod_lt _ h0
  obtain ⟨b, off, e, hlt, hc⟩ := h.at hk
  cases e
  have h1 := flt_get hs X (j / s) hk (j % s) _ (List.getElem?_eq_getElem hi)
  have h2 := hc (j % s) _ (List.getElem?_eq_getElem hi)
  have e1 : j / s * s + j % s = j := by rw [Nat.mul_comm]; exact Nat.div_add_mod j s
  rw [e1] at h1
  rw [h1] at hu
  cases hu
  rw [addr_add, ← h2]
  congr 2
  show off + j = _
  omega
theorem take_set {α : Type} (ms ls : List α) (q : Nat) (hq : q < ms.length) (hl : ms.length = ls.length) : (ms.take q ++ ls.drop q).set q ms[q] = ms.take (q + 1) ++ ls.drop (q + 1) := by
  rw [List.take_succ_eq_append_getElem hq, List.drop_eq_getElem_cons (show q < ls.length by omega), List.set_append_right _ _ (by simp; omega)]
  have e : q - (ms.take q).length = 0 := by rw [List.length_take]; omega
  rw [e, List.append_assoc]
  rfl
theorem own_form {w : World} {B : Nat} {e : TypeId} {size n : Nat} {v : Value} {xs : List Value} (h : w.ownsRow B e size v n xs) : ∃ A cap, v = .slice A n cap ∧ n ≤ cap := by
  rcases h.2 with ⟨rfl, rfl⟩ | ⟨g, cap, cur, rfl, hb, hg, hnc, hcm, hcs, ht⟩
  · exact ⟨none, 0, rfl, Nat.le_refl _⟩
  · exact ⟨_, cap, rfl, hnc⟩
end Go.Proofs.YtpifhjdbcdcelaaGreatDoor

namespace Go.Proofs.YtpifhjdbcdcelaaGreatDoor
open Go.RowKit
set_option linter.unusedSimpArgs false
set_option linter.unusedVariables false
set_option maxRecDepth 100000
/-- A heading's level and text. -/
structure Hdg where
  lv : Int
  tx : ByteArray
/-- Its two cells. -/
def hdC (x : Hdg) : List Value := [.int .i64 x.lv, .string x.tx]
theorem hdC_length (x : Hdg) : (hdC x).length = 2 := rfl
theorem hdC_one (x : Hdg) : ∀ u ∈ hdC x, u.oneCell' = true := by
  intro u hu
  simp [hdC] at hu
  rcases hu with rfl | rfl <;> rfl
theorem infoHdg : (Tryz.prog.info? 41).map (fun i => (i.zero, i.size, i.bytes)) = some (some (.agg #[.int .i64 0, .string ByteArray.empty]), 2, 24) := by kernel_rfl
theorem infoInt1 : (Tryz.prog.info? 3).map (fun i => (i.zero, i.size, i.bytes)) = some (some (.int .i64 0), 1, 8) := by kernel_rfl
def ints (l : List Int) : List Value := l.map (Value.int .i64)
def lvRow (X : List Hdg) (k : Nat) : List Int := (X.take k).map Hdg.lv ++ List.replicate (X.length - k) 0
theorem lvRow_step (X : List Hdg) (k : Nat) (h : k < X.length) : (ints (lvRow X k)).set k (.int .i64 X[k].lv) = ints (lvRow X (k + 1)) := by
  unfold lvRow ints
  rw [List.take_succ_eq_append_getElem h, show X.length - k = (X.length - (k + 1)) + 1 from by omega, List.replicate_succ]
  have hl : ((X.take k).map Hdg.lv).length = k := by rw [List.length_map, List.length_take]; omega
  rw [List.map_append, List.map_cons, List.set_append_right _ _ (by rw [List.length_map]; omega), List.length_map, hl, Nat.sub_self, List.set_cons_zero]
  simp only [List.map_append, List.map_cons, List.map_nil, List.append_assoc, List.cons_append, List.nil_append]
theorem lvRow_len (X : List Hdg) (k : Nat) (h : k ≤ X.length) : (ints (lvRow X k)).length = X.length := by unfold ints lvRow; simp; omega
def LvRel (X : List Hdg) (w : World) (g : Nat) (i : Value) (wr : World) : Prop :=
  ∃ k : Nat, i = .int .i64 k ∧ k ≤ X.length ∧ wr.ownsRow w.heap.size 3 1 (.slice (some ⟨g, 0, none⟩) X.length X.length) X.length (ints (lvRow X k)) ∧ Below w.heap.size w wr
set_option maxHeartbeats 4000000 in
theorem levels_any (A : Option Addr) (cap : Nat) (X : List Hdg) (w : World) (hrow : EltsAt w hdC 2 A cap X) (hl : X.length ≤ 90) :
    Calls Tryz.prog 20 #[.slice A X.length cap] w fun e w' => ∃ v, e = .returned v ∧ w'.ownsRow w.heap.size 3 1 v X.length (ints (X.map Hdg.lv)) ∧ Below w.heap.size w w' := by
  obtain ⟨i0, hi, hz0, hz1, hz2⟩ := info_parts infoInt1
  have HROW := Lib.hid hrow
  have hc1 := hrow.le
  have hc2 := hrow.cap
  unfold maxLen at hc2
  clear hrow
  go_enter Tryz.func20, Tryz.ntmps20
  go_wp2_with (refine wpList_make_full _ rfl _ _ 22 rfl w.heap.size 3 i0 (.int .i64 0) 1 Tryz.underlying22 hi hz0 hz1 .i64 .i64 _ _ X.length rfl rfl rfl rfl (by rw [hz2]; omega) (by unfold maxLen; omega) (Nat.le_refl _) ?_)
  intro w1 hown hgr
  have hs1 := hgr.size
  have hb1 : Below w.heap.size w w1 := below_of_grown hgr (fun g hg => by cases hg) (Nat.le_refl _)
  rw [toList_madeCells_one] at hown
  have hown2 : w1.ownsRow w.heap.size 3 1 (.slice (some ⟨w.heap.size, 0, none⟩) X.length X.length) X.length (ints (lvRow X 0)) := by
    have : ints (lvRow X 0) = List.replicate X.length (.int .i64 0) := by simp [ints, lvRow]
    rw [this]
    exact hown
  have HO := Lib.hid hown2
  have HB2 := Lib.hid hb1
  clear hown hgr hb1 hown2
  go_wp2_with fail
  go_loopw [11] (fun i wr => LvRel X w w.heap.size i wr) (fun i wr => X.length - (intOf i).toNat)
  case atStart => exact ⟨0, rfl, Nat.zero_le _, HO.out, HB2.out⟩
  case round =>
    obtain ⟨k, rfl, hk, hown, hbw⟩ := hrel
    by_cases hp : k < X.length
    · obtain ⟨ab, ao, rfl, hab, hac⟩ := HROW.out.at hp
      have hab2 := hbw.size
      have c0 : wr.cell? ⟨ab, ao + k * 2, none⟩ = some (.int .i64 X[k].lv) := (hbw.cell (p := ⟨ab, ao + k * 2, none⟩) hab).trans (hac 0 _ rfl)
      have c1 : wr.cell? ⟨ab, ao + k * 2 + 1, none⟩ = some (.string X[k].tx) := (hbw.cell (p := ⟨ab, ao + k * 2 + 1, none⟩) hab).trans (hac 1 _ rfl)
      have HST := Lib.hid (lvRow_step X k hp)
      generalize X[k] = x at *
      obtain ⟨lv, tx⟩ := x
      dsimp only at c0 c1 HST
      have hA := hown.alloc (.cells #[.int .i64 lv, .string tx] 41)
      have HBW := Lib.hid (hbw.alloc hab2 (.cells #[.int .i64 lv, .string tx] 41))
      obtain ⟨s1, s2⟩ := hA.stored k (.int .i64 lv)
      rw [HST.out] at s1
      have hc3 := hA.cellAt k (by rw [Nat.mul_one]; exact hp)
      rw [List.getElem?_eq_getElem (by rw [lvRow_len _ _ hk]; exact hp)] at hc3
      have hf3 := hA.frozenAt k
      have HS1 := Lib.hid s1
      have HBW4 := Lib.hid (HBW.out.setCell (p := ⟨w.heap.size, k, none⟩) (Nat.le_refl _) (.int .i64 lv))
      clear s1 s2 hA hown hbw hac
      generalize (ints (lvRow X k))[k]'_ = u0 at *
      go_wp2
      go_roundw
      case rel => exact ⟨k + 1, by go_num, by omega, HS1.out, HBW4.out⟩
      case measure => simp [intOf]; omega
    · obtain rfl : k = X.length := by omega
      have HOW := Lib.hid hown
      have HBW := Lib.hid hbw
      clear hown hbw
      go_wp2
      go_ret
      refine ⟨_, rfl, ?_, HBW.out⟩
      have := HOW.out
      rwa [show lvRow X X.length = X.map Hdg.lv from by simp [lvRow]] at this
end Go.Proofs.YtpifhjdbcdcelaaGreatDoor

namespace Go.Proofs.YtpifhjdbcdcelaaGreatDoor
open Go.RowKit
set_option linter.unusedSimpArgs false
set_option linter.unusedVariables false
/-- A section. -/
structure Sctn where
  lv : Int
  nu : List UInt8
  an : List UInt8
  tx : List UInt8
deriving DecidableEq, Inhabited
/-- Its four cells. -/
def scC (x : Sctn) : List Value := [.int .i64 x.lv, .string ⟨x.nu.toArray⟩, .string ⟨x.an.toArray⟩, .string ⟨x.tx.toArray⟩]
theorem scC_length (x : Sctn) : (scC x).length = 4 := rfl
theorem scC_one (x : Sctn) : ∀ u ∈ scC x, u.oneCell' = true := by
  intro u hu
  simp [scC] at hu
  rcases hu with rfl | rfl | rfl | rfl <;> rfl
theorem infoSec : (Tryz.prog.info? 52).map (fun i => (i.zero, i.size, i.bytes)) = some (some (.agg #[.int .i64 0, .string ByteArray.empty, .string ByteArray.empty, .string ByteArray.empty]), 4, 56) := by kernel_rfl
/-- Four cells are written over one after the other. -/
theorem flt_set4 {α : Type} {c : α → List Value} (hs : ∀ x, (c x).length = 4) (c0 c1 c2 c3 : Value) (y : α) (hy : c y = [c0, c1, c2, c3]) : ∀ (X : List α) (q : Nat), q < X.length →
    ((((flt c X).set (q * 4) c0).set (q * 4 + 1) c1).set (q * 4 + 2) c2).set (q * 4 + 3) c3 = flt c (X.set q y)
  | x :: X, 0, _ => by
    have hl := hs x
    rw [List.set_cons_zero, flt_cons, flt_cons, hy]
    match c x, hl with
    | [a0, a1, a2, a3], _ => simp
  | x :: X, q + 1, h => by
    have ih := flt_set4 hs c0 c1 c2 c3 y hy X q (by simpa using h)
    have hl := hs x
    rw [List.set_cons_succ, flt_cons, flt_cons, ← ih]
    have e : (q + 1) * 4 = (c x).length + q * 4 := by rw [hl]; omega
    rw [e]
    simp only [Nat.add_assoc, List.set_append_right, Nat.le_add_right, Nat.add_sub_cancel_left]
end Go.Proofs.YtpifhjdbcdcelaaGreatDoor

namespace Go.Proofs.YtpifhjdbcdcelaaGreatDoor
open Go.RowKit
def inB (x a b : Int) : Bool := decide (a ≤ x) && decide (x ≤ b)
theorem inB_f {x a b : Int} (h : ¬ (a ≤ x ∧ x ≤ b)) : inB x a b = false := by simp [inB]; omega
theorem inB_iff (x a b : Int) : inB x a b = true ↔ a ≤ x ∧ x ≤ b := by simp [inB]
end Go.Proofs.YtpifhjdbcdcelaaGreatDoor

namespace Go.Proofs.YtpifhjdbcdcelaaGreatDoor
open Go.RowKit
theorem width_pos (s : ByteArray) (pos : Nat) (h : pos < s.size) : 1 ≤ (Utf8.decode s pos).2 := by
  by_cases ha : (s[pos]'h).toNat < 128
  · rw [decode_ascii s pos h ha]
    exact Nat.le_refl _
  · exact (decode_high s pos h (by omega)).2
theorem cells_rune (acc : List UInt8) (r : Int) : Lib.byteCells (acc ++ Lib.encodeRune r) = Lib.byteCells acc ++ Lib.runeCells r := by
  rw [Lib.byteCells_append, Lib.byteCells_encodeRune]
end Go.Proofs.YtpifhjdbcdcelaaGreatDoor

namespace Go.Proofs.YtpifhjdbcdcelaaGreatDoor
set_option linter.unusedSimpArgs false
set_option linter.unusedVariables false
/-- A byte that goes on within a rune. -/
def goesOn (b : UInt8) : Bool := b.toNat / 64 == 2
/-- The model's reading of one rune, over a list. -/
def dec (l : List UInt8) : Nat × Nat :=
  let at' (k : Nat) : Nat := (l.getD k 0).toNat
  let cont (k : Nat) : Bool := k < l.length && at' k / 64 == 2
  let b0 := at' 0
  if b0 < 0x80 then (b0, 1)
  else if b0 / 32 == 6 && cont 1 then
    let c := (b0 % 32) * 64 + at' 1 % 64
    if c ≥ 0x80 then (c, 2) else (65533, 1)
  else if b0 / 16 == 14 && cont 1 && cont 2 then
    let c := (b0 % 16) * 4096 + (at' 1 % 64) * 64 + at' 2 % 64
    if c ≥ 0x800 && Utf8.valid c then (c, 3) else (65533, 1)
  else if b0 / 8 == 30 && cont 1 && cont 2 && cont 3 then
    let c := (b0 % 8) * 262144 + (at' 1 % 64) * 4096 + (at' 2 % 64) * 64 + at' 3 % 64
    if c ≥ 0x10000 && Utf8.valid c then (c, 4) else (65533, 1)
  else (65533, 1)
theorem get_drop (s : ByteArray) (i k : Nat) : s.get! (i + k) = (s.data.toList.drop i).getD k 0 := by
  rw [List.getD_eq_getElem?_getD, List.getElem?_drop]
  show s.data[i + k]! = _
  rw [Array.getElem!_eq_getD, Array.getD_eq_getD_getElem?]
  simp
  rfl
theorem size_drop (s : ByteArray) (i k : Nat) : (i + k < s.size) ↔ k < (s.data.toList.drop i).length := by
  have : s.data.toList.length = s.size := by simp
  rw [List.length_drop, this]
  omega
theorem decode_dec (s : ByteArray) (i : Nat) : Utf8.decode s i = dec (s.data.toList.drop i) := by
  unfold Utf8.decode dec
  simp only [get_drop, size_drop, Utf8.runeError]
/-- What goes on, at a list's beginning. -/
def run (l : List UInt8) : List UInt8 := l.takeWhile goesOn
theorem dec_ascii (b : UInt8) (l : List UInt8) (h : b.toNat < 128) : dec (b :: l) = (b.toNat, 1) := by
  simp [dec, h]
/-- A rune hangs on its first byte and on what goes on behind it, alone. -/
theorem dec_run (b : UInt8) (l : List UInt8) : dec (b :: l) = dec (b :: run l) := by
  have hc : ∀ x : UInt8, goesOn x = true ↔ x.toNat / 64 = 2 := fun x => by simp [goesOn]
  match l with
  | [] => rfl
  | x :: l1 =>
    by_cases hx : goesOn x = true
    · have ex := (hc x).1 hx
      match l1 with
      | [] => simp [run, hx]
      | y :: l2 =>
        by_cases hy : goesOn y = true
        · have ey := (hc y).1 hy
          match l2 with
          | [] => simp [run, hx, hy]
          | z :: l3 =>
            by_cases hz : goesOn z = true
            · have ez := (hc z).1 hz
              simp [run, hx, hy, hz, dec]
            · have ez : ¬ z.toNat / 64 = 2 := fun e => hz ((hc z).2 e)
              simp [run, hx, hy, hz, dec, ez]
        · have ey : ¬ y.toNat / 64 = 2 := fun e => hy ((hc y).2 e)
          simp [run, hx, hy, dec, ey]
    · have ex : ¬ x.toNat / 64 = 2 := fun e => hx ((hc x).2 e)
      simp [run, hx, dec, ex]
theorem dec_width (b : UInt8) (l : List UInt8) : 1 ≤ (dec (b :: l)).2 ∧ (dec (b :: l)).2 ≤ l.length + 1 := by
  unfold dec
  simp only [List.length_cons]
  split
  · simp
  · split
    · rename_i h
      simp at h
      split
      · simp; omega
      · simp
    · split
      · rename_i h
        simp at h
        split
        · simp; omega
        · simp
      · split
        · rename_i h
          simp at h
          split
          · simp; omega
          · simp
        · simp
theorem valid_of (c : Nat) (h : c < 55296 ∨ (57344 ≤ c ∧ c ≤ 1114111)) : Utf8.valid c = true := by
  simp [Utf8.valid]; omega
theorem of_valid (c : Nat) (h : Utf8.valid c = true) : c < 55296 ∨ (57344 ≤ c ∧ c ≤ 1114111) := by
  simp [Utf8.valid] at h; omega
def segsF : Nat → List UInt8 → List (Nat × List UInt8)
  | 0, _ => []
  | _ + 1, [] => []
  | f + 1, b :: l => ((dec (b :: l)).1, (b :: l).take (dec (b :: l)).2) :: segsF f ((b :: l).drop (dec (b :: l)).2)
def segs (l : List UInt8) : List (Nat × List UInt8) := segsF l.length l
theorem segsF_more : ∀ (f g : Nat) (l : List UInt8), l.length ≤ f → l.length ≤ g → segsF f l = segsF g l
  | 0, 0, _, _, _ => rfl
  | 0, g + 1, [], _, _ => rfl
  | f + 1, 0, [], _, _ => rfl
  | f + 1, g + 1, [], _, _ => rfl
  | f + 1, g + 1, b :: l, hf, hg => by
    have hw := dec_width b l
    simp only [List.length_cons] at hf hg
    simp only [segsF]
    rw [segsF_more f g _ (by rw [List.length_drop, List.length_cons]; omega) (by rw [List.length_drop, List.length_cons]; omega)]
theorem segs_nil : segs [] = [] := rfl
theorem segs_cons (b : UInt8) (l : List UInt8) : segs (b :: l) = ((dec (b :: l)).1, (b :: l).take (dec (b :: l)).2) :: segs ((b :: l).drop (dec (b :: l)).2) := by
  have hw := dec_width b l
  show segsF (l.length + 1) (b :: l) = _
  simp only [segsF, segs]
  rw [segsF_more _ _ _ (by rw [List.length_drop, List.length_cons]; omega) (Nat.le_refl _)]
/-- Nothing goes on at this list's beginning. -/
def fresh (m : List UInt8) : Prop := ∀ x ∈ m.head?, goesOn x = false
theorem u8 (n : Nat) (h : n < 256) : (n.toUInt8).toNat = n := by simp; omega
theorem enc1 (n : Nat) (h : n < 128) : Lib.encodeRune n = [n.toUInt8] := by
  unfold Lib.encodeRune
  rw [Lib.encodeRuneZ_one (by omega) (by omega)]
  simp
theorem enc2 (n : Nat) (h : 128 ≤ n) (h2 : n < 2048) : Lib.encodeRune n = [(192 + n / 64).toUInt8, (128 + n % 64).toUInt8] := by
  unfold Lib.encodeRune
  rw [Lib.encodeRuneZ_two (by omega) (by omega)]
  simp only [List.map_cons, List.map_nil]
  rw [show (192 + (n : Int) / 64).toNat = 192 + n / 64 from by omega, show (128 + (n : Int) % 64).toNat = 128 + n % 64 from by omega]
theorem enc3 (n : Nat) (h : (2048 ≤ n ∧ n < 55296) ∨ (57344 ≤ n ∧ n < 65536)) : Lib.encodeRune n = [(224 + n / 4096).toUInt8, (128 + n / 64 % 64).toUInt8, (128 + n % 64).toUInt8] := by
  unfold Lib.encodeRune
  rw [Lib.encodeRuneZ_three (by omega)]
  simp only [List.map_cons, List.map_nil]
  rw [show (224 + (n : Int) / 4096).toNat = 224 + n / 4096 from by omega, show (128 + (n : Int) / 64 % 64).toNat = 128 + n / 64 % 64 from by omega, show (128 + (n : Int) % 64).toNat = 128 + n % 64 from by omega]
theorem enc4 (n : Nat) (h : 65536 ≤ n) (h2 : n ≤ 1114111) : Lib.encodeRune n = [(240 + n / 262144).toUInt8, (128 + n / 4096 % 64).toUInt8, (128 + n / 64 % 64).toUInt8, (128 + n % 64).toUInt8] := by
  unfold Lib.encodeRune
  rw [Lib.encodeRuneZ_four (by omega) (by omega)]
  simp only [List.map_cons, List.map_nil]
  rw [show (240 + (n : Int) / 262144).toNat = 240 + n / 262144 from by omega, show (128 + (n : Int) / 4096 % 64).toNat = 128 + n / 4096 % 64 from by omega, show (128 + (n : Int) / 64 % 64).toNat = 128 + n / 64 % 64 from by omega, show (128 + (n : Int) % 64).toNat = 128 + n % 64 from by omega]
theorem dec_enc (n : Nat) (hv : Utf8.valid n = true) (m : List UInt8) : dec (Lib.encodeRune n ++ m) = (n, (Lib.encodeRune n).length) := by
  have hv' := of_valid n hv
  by_cases h1 : n < 128
  · rw [enc1 n h1]
    show dec (_ :: m) = _
    rw [dec_ascii _ _ (by rw [u8 _ (by omega)]; exact h1), u8 _ (by omega)]
    rfl
  · by_cases h2 : n < 2048
    · rw [enc2 n (by omega) h2]
      have a := u8 (192 + n / 64) (by omega)
      have b := u8 (128 + n % 64) (by omega)
      generalize (192 + n / 64).toUInt8 = x at *
      generalize (128 + n % 64).toUInt8 = y at *
      simp only [dec, List.cons_append, List.nil_append, List.getD_cons_zero, List.getD_cons_succ, List.length_cons, List.length_nil, a, b]
      have e : (192 + n / 64) % 32 * 64 + (128 + n % 64) % 64 = n := by omega
      rw [if_neg (by omega), if_pos (by simp; omega), e, if_pos (by omega)]
    · by_cases h3 : n < 65536
      · rw [enc3 n (by omega)]
        have a := u8 (224 + n / 4096) (by omega)
        have b := u8 (128 + n / 64 % 64) (by omega)
        have c := u8 (128 + n % 64) (by omega)
        generalize (224 + n / 4096).toUInt8 = x at *
        generalize (128 + n / 64 % 64).toUInt8 = y at *
        generalize (128 + n % 64).toUInt8 = z at *
        simp only [dec, List.cons_append, List.nil_append, List.getD_cons_zero, List.getD_cons_succ, List.length_cons, List.length_nil, a, b, c]
        have e : (224 + n / 4096) % 16 * 4096 + (128 + n / 64 % 64) % 64 * 64 + (128 + n % 64) % 64 = n := by omega
        rw [if_neg (by omega), if_neg (by simp; omega), if_pos (by simp; omega), e, if_pos (by simp [hv]; omega)]
      · rw [enc4 n (by omega) (by omega)]
        have a := u8 (240 + n / 262144) (by omega)
        have b := u8 (128 + n / 4096 % 64) (by omega)
        have c := u8 (128 + n / 64 % 64) (by omega)
        have d := u8 (128 + n % 64) (by omega)
        generalize (240 + n / 262144).toUInt8 = x at *
        generalize (128 + n / 4096 % 64).toUInt8 = y at *
        generalize (128 + n / 64 % 64).toUInt8 = z at *
        generalize (128 + n % 64).toUInt8 = u at *
        simp only [dec, List.cons_append, List.nil_append, List.getD_cons_zero, List.getD_cons_succ, List.length_cons, List.length_nil, a, b, c, d]
        have e : (240 + n / 262144) % 8 * 262144 + (128 + n / 4096 % 64) % 64 * 4096 + (128 + n / 64 % 64) % 64 * 64 + (128 + n % 64) % 64 = n := by omega
        rw [if_neg (by omega), if_neg (by simp; omega), if_neg (by simp; omega), if_pos (by simp; omega), e, if_pos (by simp [hv]; omega)]
theorem enc_ne (n : Int) : Lib.encodeRune n ≠ [] := by
  intro h
  have := Lib.encodeRuneZ_length n
  have h2 : (Lib.encodeRune n).length = 0 := by rw [h]; rfl
  simp [Lib.encodeRune] at h2
  rw [h2] at this
  simp at this
end Go.Proofs.YtpifhjdbcdcelaaGreatDoor

namespace Go.Proofs.YtpifhjdbcdcelaaGreatDoor
open Go.RowKit
set_option linter.unusedVariables false
def spaceB (r : Int) : Bool := r == 9 || r == 10 || r == 12 || r == 13 || r == 32 || r == 160 || r == 5760 || r == 8239 || r == 8287 || r == 12288 || inB r 8192 8202
def smallI (r : Int) : Int := if inB r 65 90 || (inB r 192 222 && r != 215) then r + 32 else r
end Go.Proofs.YtpifhjdbcdcelaaGreatDoor

namespace Go.Proofs.YtpifhjdbcdcelaaGreatDoor
open Go.RowKit
theorem within32 (x a b : Int) (w : World) :
    Calls Tryz.prog 105 #[.int .i32 x, .int .i32 a, .int .i32 b] w fun e w' => e = .returned (.bool (inB x a b)) ∧ w = w' := by
  by_cases h1 : a ≤ x
  · go_enter Tryz.func105, Tryz.ntmps105
    go_wp2
    go_ret
    exact ⟨ret_bool (by simp [inB, h1]), rfl⟩
  · go_enter Tryz.func105, Tryz.ntmps105
    go_wp2
    go_ret
    exact ⟨ret_bool (inB_f (by omega)).symm, rfl⟩
theorem space_any (r : Int) (w : World) :
    Calls Tryz.prog 94 #[.int .i32 r] w fun e w' => e = .returned (.bool (spaceB r)) ∧ w = w' := by
  go_enter Tryz.func94, Tryz.ntmps94
  go_wp2_with (go_at_call 105; refine (within32 _ _ _ _).mono ?_; rintro e w' ⟨rfl, rfl⟩)
  all_goals (go_ret; exact ⟨ret_bool (by simp [spaceB, *]), rfl⟩)
end Go.Proofs.YtpifhjdbcdcelaaGreatDoor

namespace Go.Proofs.YtpifhjdbcdcelaaGreatDoor
open Go.RowKit
theorem stray_any (s : ByteArray) (r : Int) (w : World) :
    Calls Tryz.prog 95 #[.string s, .int .i32 r] w fun e w' => e = .returned (.bool (r == 65533 && !Lib.hasPrefix s.data.toList [239, 191, 189])) ∧ w = w' := by
  go_enter Tryz.func95, Tryz.ntmps95
  go_wp2_with (go_at_call 91; refine (Tryz.strings_HasPrefix _ _ _).mono ?_; rintro e w' ⟨rfl, rfl⟩)
  all_goals (go_ret; exact ⟨ret_bool (by simp [*]), rfl⟩)
theorem small_any (r : Int) (w : World) :
    Calls Tryz.prog 97 #[.int .i32 r] w fun e w' => e = .returned (.int .i32 (smallI r)) ∧ w = w' := by
  go_enter Tryz.func97, Tryz.ntmps97
  go_wp2_with (go_at_call 105; refine (within32 _ _ _ _).mono ?_; rintro e w' ⟨rfl, rfl⟩)
  · have := (inB_iff r 65 90).1 (by assumption)
    go_ret
    exact ⟨ret_i32 (by rw [IntWalk.wrap32_in _ ⟨by omega, by omega⟩]; simp [smallI, *]), rfl⟩
  · have := (inB_iff r 192 222).1 (by assumption)
    go_ret
    exact ⟨ret_i32 (by rw [IntWalk.wrap32_in _ ⟨by omega, by omega⟩]; simp [smallI, *]), rfl⟩
  all_goals (go_ret; exact ⟨ret_i32 (by simp [smallI, *]), rfl⟩)
end Go.Proofs.YtpifhjdbcdcelaaGreatDoor
