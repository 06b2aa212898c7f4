/-
  Package number: count.
-/
import Derived.Test.YtpifhjdbcdcelaaDoorNuA
import Derived.Test.YtpifhjdbcdcelaaDoorReg
import Derived.Lib.SliceRun
namespace Go.Proofs.YtpifhjdbcdcelaaDoor
open Go.RowKit
set_option linter.unusedSimpArgs false
set_option linter.unusedVariables false
set_option maxRecDepth 100000

/-- All blocks but b stay. -/
structure OneTurn (w w' : World) (b : Nat) : Prop where
  size : w.heap.size ≤ w'.heap.size
  rest : ∀ g : Nat, g < w.heap.size → g ≠ b → w'.heap[g]? = w.heap[g]?
  os : w'.os = w.os
  tape : w'.tape = w.tape
  output : w'.output = w.output
theorem OneTurn.below {w w' : World} {b B : Nat} (h : OneTurn w w' b) (hB : B ≤ b) (hw : B ≤ w.heap.size) : Below B w w' := ⟨h.os, h.tape, h.output, h.size, fun g hg => h.rest g (by omega) (by omega)⟩
theorem OneTurn.of {w w' : World} {b : Nat} (h : Below w.heap.size w w') : OneTurn w w' b := ⟨h.size, fun g hg _ => h.block g hg, h.os, h.tape, h.output⟩
theorem OneTurn.trans {a c d : World} {b : Nat} (h : OneTurn a c b) (k : OneTurn c d b) : OneTurn a d b :=
  ⟨Nat.le_trans h.size k.size, fun g hg hb => (k.rest g (by have := h.size; omega) hb).trans (h.rest g hg hb), k.os.trans h.os, k.tape.trans h.tape, k.output.trans h.output⟩
theorem OneTurn.set (w : World) (b i : Nat) (u : Value) : OneTurn w (w.setCell ⟨b, i, none⟩ u) b :=
  ⟨by simp [World.setCell], fun g hg hb => Below.heap_setCell w ⟨b, i, none⟩ u g hb, rfl, rfl, rfl⟩
theorem nuZero (w : World) : (zeroValue 9).run Tryd.prog w = .ok (.string ⟨#[]⟩) w := by kernel_rfl
theorem clear_none (a : Option Addr) (c : Nat) (ty : TypeId) (w : World) : (Builtin.clear_ #[24] ty #[.slice a 0 c]).run Tryd.prog w = .ok (.tuple #[]) w := by
  cases a <;> simp [Builtin.clear_, run_underlying Tryd.underlying24]

set_option maxHeartbeats 4000000 in
theorem count_1 (b : Nat) (w : World) (d0 d1 d2 d3 d4 d5 : ByteArray) (h : w.heap[b]? = some (.cells #[.string d0, .string d1, .string d2, .string d3, .string d4, .string d5] 38 (0, 0))) (hs : d0.size ≤ 100) (hd : ∀ d ∈ d0.data.toList, 48 ≤ d.toNat ∧ d.toNat ≤ 57) :
    Calls Tryd.prog 9 #[.pointer (some ⟨b, 0, none⟩), .int .i64 1] w fun e w' => e = .returned (.tuple #[]) ∧ w'.heap[b]? = some (.cells #[.string ⟨(oneMoreL d0.data.toList).toArray⟩, .string ⟨#[]⟩, .string ⟨#[]⟩, .string ⟨#[]⟩, .string ⟨#[]⟩, .string ⟨#[]⟩] 38 (0, 0)) ∧ OneTurn w w' b := by
  have co := fun W => oneMore_at d0 W hs hd
  have hb := (Array.getElem?_eq_some_iff.1 h).1
  have hwk : IntKind.i64.wrap (0 : Int) = (0 : Int) := by decide
  generalize (⟨(oneMoreL d0.data.toList).toArray⟩ : ByteArray) = X at *
  have CO := Lib.hid co
  have H := Lib.hid h
  clear co hd h hs
  go_enter Tryd.func9, Tryd.ntmps9
  go_wp2_with fail
  refine wp_region_N (fun W => W.cell? ⟨b, 0, none⟩ = some (.string d0)) (fun n => decide (n < 11)) (by kernel_rfl) ?_
  have HD := Lib.hid (show w.drew.heap[b]? = some (.cells #[.string d0, .string d1, .string d2, .string d3, .string d4, .string d5] 38 (0, 0)) from H.out)
  have HT := Lib.hid (show OneTurn w w.drew b from ⟨Nat.le_refl _, fun _ _ _ => rfl, rfl, rfl, rfl⟩)
  have HS := Lib.hid (show w.drew.cell? ⟨b, 0, none⟩ = some (.string d0) from (cell_of_row w.drew b 0 _ _ (0, 0) HD.out).trans rfl)
  generalize w.drew = w1 at *
  refine wpAnyN_take_at 0 4 (v := ?_) rfl rfl (by kernel_rfl) (by kernel_rfl) (by kernel_rfl) (by kernel_rfl) (by kernel_rfl) (fun _ _ _ h => h) (by rfl) ?_ HS.out ?_
  rotate_left
  · intro W hSw; (try dsimp only at hSw); go_simp; (try with_reducible rfl)
  simp only [Act.put, List.setIfInBounds_toArray, List.set_cons_zero, List.set_cons_succ]
  refine wpAnyN_take_at 1 5 (v := ?_) rfl rfl (by kernel_rfl) (by kernel_rfl) (by kernel_rfl) (by kernel_rfl) (by kernel_rfl) (fun _ _ _ h => h) (by rfl) ?_ HS.out ?_
  rotate_left
  · intro W hSw; (try dsimp only at hSw); go_simp; (try with_reducible rfl)
  simp only [Act.put, List.setIfInBounds_toArray, List.set_cons_zero, List.set_cons_succ]
  refine wpAnyN_take_at 2 6 (v := ?_) rfl rfl (by kernel_rfl) (by kernel_rfl) (by kernel_rfl) (by kernel_rfl) (by kernel_rfl) (fun _ _ _ h => h) (by rfl) ?_ HS.out ?_
  rotate_left
  · intro W hSw; (try dsimp only at hSw); go_simp; (try with_reducible rfl)
  simp only [Act.put, List.setIfInBounds_toArray, List.set_cons_zero, List.set_cons_succ]
  refine wpAnyN_take_at 3 7 (v := ?_) rfl rfl (by kernel_rfl) (by kernel_rfl) (by kernel_rfl) (by kernel_rfl) (by kernel_rfl) (fun _ _ _ h => h) (by rfl) ?_ HS.out ?_
  rotate_left
  · intro W hSw; (try dsimp only at hSw); go_simp; (try with_reducible rfl)
  simp only [Act.put, List.setIfInBounds_toArray, List.set_cons_zero, List.set_cons_succ]
  refine wpAnyN_take_at 4 8 (v := ?_) rfl rfl (by kernel_rfl) (by kernel_rfl) (by kernel_rfl) (by kernel_rfl) (by kernel_rfl) (fun _ _ _ h => h) (by rfl) ?_ HS.out ?_
  rotate_left
  · intro W hSw; (try dsimp only at hSw); go_simp; (try with_reducible rfl)
  simp only [Act.put, List.setIfInBounds_toArray, List.set_cons_zero, List.set_cons_succ]
  refine wpAnyN_take_at 5 9 (v := ?_) rfl rfl (by kernel_rfl) (by kernel_rfl) (by kernel_rfl) (by kernel_rfl) (by kernel_rfl) (fun _ _ _ h => h) (by rfl) ?_ HS.out ?_
  rotate_left
  · intro W hSw; (try dsimp only at hSw); go_simp; (try with_reducible rfl)
  simp only [Act.put, List.setIfInBounds_toArray, List.set_cons_zero, List.set_cons_succ]
  refine wpAnyN_take_at 6 10 (v := ?_) rfl rfl (by kernel_rfl) (by kernel_rfl) (by kernel_rfl) (by kernel_rfl) (by kernel_rfl) (fun _ _ _ h => h) (by rfl) ?_ HS.out ?_
  rotate_left
  · intro W hSw; (try dsimp only at hSw); go_simp; (try with_reducible rfl)
  simp only [Act.put, List.setIfInBounds_toArray, List.set_cons_zero, List.set_cons_succ]
  refine wpAnyN_take_at 7 11 (v := ?_) rfl rfl (by kernel_rfl) (by kernel_rfl) (by kernel_rfl) (by kernel_rfl) (by kernel_rfl) (fun _ _ _ h => h) (by rfl) ?_ HS.out ?_
  rotate_left
  · intro W hSw; (try dsimp only at hSw); go_simp; (try with_reducible rfl)
  simp only [Act.put, List.setIfInBounds_toArray, List.set_cons_zero, List.set_cons_succ]
  refine wpAnyN_take_at 8 12 (v := ?_) rfl rfl (by kernel_rfl) (by kernel_rfl) (by kernel_rfl) (by kernel_rfl) (by kernel_rfl) (fun _ _ _ h => h) (by rfl) ?_ HS.out ?_
  rotate_left
  · intro W hSw; (try dsimp only at hSw); go_simp; (try with_reducible rfl)
  simp only [Act.put, List.setIfInBounds_toArray, List.set_cons_zero, List.set_cons_succ]
  refine wpAnyN_take_at 10 14 (v := ?_) rfl rfl (by kernel_rfl) (by kernel_rfl) (by kernel_rfl) (by kernel_rfl) (by kernel_rfl) (fun _ _ _ h => h) (by rfl) ?_ HS.out ?_
  rotate_left
  · intro W hSw; (try dsimp only at hSw); go_simp; (try with_reducible rfl)
  simp only [Act.put, List.setIfInBounds_toArray, List.set_cons_zero, List.set_cons_succ]
  refine wpAnyN_one (i := 9) rfl (by kernel_rfl) (fun K hK => ?_)
  go_simp
  go_at_call 13
  refine (CO.out _).mono ?_
  rintro e w2 ⟨rfl, b2⟩
  have HD2 := Lib.hid ((b2.block b (Array.getElem?_eq_some_iff.1 HD.out).1).trans HD.out)
  have HT2 := Lib.hid (HT.out.trans (OneTurn.of b2))
  refine hK _ _ (fun _ => (cell_of_row w2 b 0 _ _ (0, 0) HD2.out).trans rfl) ?_
  clear hK HS HD b2
  have HD3 := Lib.hid (show (w2.setCell ⟨b, 0, none⟩ (.string X)).heap[b]? = some (.cells #[.string X, .string d1, .string d2, .string d3, .string d4, .string d5] 38 (0, 0)) from by simp [World.setCell, Array.getElem?_modify, HD2.out])
  have HT3 := Lib.hid (HT2.out.trans (OneTurn.set w2 b 0 (.string X)))
  have hc : w2.cell? ⟨b, 0, none⟩ = some (.string d0) := (cell_of_row w2 b 0 _ _ (0, 0) HD2.out).trans rfl
  have hf : w2.frozen? ⟨b, 0, none⟩ = false := by have := HD2.out; simp [World.frozen?, this]
  have hcl : ∀ ty, (Builtin.clear_ #[24] ty #[.slice (some ⟨b, 1, none⟩) 5 5]).run Tryd.prog (w2.setCell ⟨b, 0, none⟩ (.string X)) = .ok (.tuple #[]) ((w2.setCell ⟨b, 0, none⟩ (.string X)).setCells b 1 (List.replicate 5 (.string ⟨#[]⟩))) := fun ty =>
    Lib.run_clear_slice (w2.setCell ⟨b, 0, none⟩ (.string X)) _ _ ty _ Tryd.underlying24 nuZero rfl rfl b 1 5 5 (by decide) (fun j hj => by rw [cell_of_row _ b (1 + j) _ _ (0, 0) HD3.out]; simp; omega) (fun j hj => by have := HD3.out; simp [World.frozen?, this])
  have HD4 := Lib.hid (show ((w2.setCell ⟨b, 0, none⟩ (.string X)).setCells b 1 (List.replicate 5 (.string ⟨#[]⟩))).heap[b]? = some (.cells #[.string X, .string ⟨#[]⟩, .string ⟨#[]⟩, .string ⟨#[]⟩, .string ⟨#[]⟩, .string ⟨#[]⟩] 38 (0, 0)) from by
    have h3 := HD3.out
    generalize w2.setCell ⟨b, 0, none⟩ (.string X) = w3 at *
    simp [List.replicate, World.setCells, World.setCell, Array.getElem?_modify, h3])
  have HT4 := Lib.hid (show OneTurn w ((w2.setCell ⟨b, 0, none⟩ (.string X)).setCells b 1 (List.replicate 5 (.string ⟨#[]⟩))) b from by
    have h3 := HT3.out
    generalize w2.setCell ⟨b, 0, none⟩ (.string X) = w3 at *
    simp only [List.replicate, World.setCells]
    exact (((((h3).trans (OneTurn.set _ b _ _)).trans (OneTurn.set _ b _ _)).trans (OneTurn.set _ b _ _)).trans (OneTurn.set _ b _ _)).trans (OneTurn.set _ b _ _))
  refine wpAnyN_rest 11 [_, _] rfl (by kernel_rfl) (by kernel_rfl) ?_
  go_wp2_with (simp only [hcl])
  go_end0
  exact ⟨rfl, HD4.out, HT4.out⟩

set_option maxHeartbeats 4000000 in
theorem count_2 (b : Nat) (w : World) (d0 d1 d2 d3 d4 d5 : ByteArray) (h : w.heap[b]? = some (.cells #[.string d0, .string d1, .string d2, .string d3, .string d4, .string d5] 38 (0, 0))) (hs : d1.size ≤ 100) (hd : ∀ d ∈ d1.data.toList, 48 ≤ d.toNat ∧ d.toNat ≤ 57) :
    Calls Tryd.prog 9 #[.pointer (some ⟨b, 0, none⟩), .int .i64 2] w fun e w' => e = .returned (.tuple #[]) ∧ w'.heap[b]? = some (.cells #[.string d0, .string ⟨(oneMoreL d1.data.toList).toArray⟩, .string ⟨#[]⟩, .string ⟨#[]⟩, .string ⟨#[]⟩, .string ⟨#[]⟩] 38 (0, 0)) ∧ OneTurn w w' b := by
  have co := fun W => oneMore_at d1 W hs hd
  have hb := (Array.getElem?_eq_some_iff.1 h).1
  have hwk : IntKind.i64.wrap (1 : Int) = (1 : Int) := by decide
  generalize (⟨(oneMoreL d1.data.toList).toArray⟩ : ByteArray) = X at *
  have CO := Lib.hid co
  have H := Lib.hid h
  clear co hd h hs
  go_enter Tryd.func9, Tryd.ntmps9
  go_wp2_with fail
  refine wp_region_N (fun W => W.cell? ⟨b, 1, none⟩ = some (.string d1)) (fun n => decide (n < 11)) (by kernel_rfl) ?_
  have HD := Lib.hid (show w.drew.heap[b]? = some (.cells #[.string d0, .string d1, .string d2, .string d3, .string d4, .string d5] 38 (0, 0)) from H.out)
  have HT := Lib.hid (show OneTurn w w.drew b from ⟨Nat.le_refl _, fun _ _ _ => rfl, rfl, rfl, rfl⟩)
  have HS := Lib.hid (show w.drew.cell? ⟨b, 1, none⟩ = some (.string d1) from (cell_of_row w.drew b 1 _ _ (0, 0) HD.out).trans rfl)
  generalize w.drew = w1 at *
  refine wpAnyN_take_at 0 4 (v := ?_) rfl rfl (by kernel_rfl) (by kernel_rfl) (by kernel_rfl) (by kernel_rfl) (by kernel_rfl) (fun _ _ _ h => h) (by rfl) ?_ HS.out ?_
  rotate_left
  · intro W hSw; (try dsimp only at hSw); go_simp; (try with_reducible rfl)
  simp only [Act.put, List.setIfInBounds_toArray, List.set_cons_zero, List.set_cons_succ]
  refine wpAnyN_take_at 1 5 (v := ?_) rfl rfl (by kernel_rfl) (by kernel_rfl) (by kernel_rfl) (by kernel_rfl) (by kernel_rfl) (fun _ _ _ h => h) (by rfl) ?_ HS.out ?_
  rotate_left
  · intro W hSw; (try dsimp only at hSw); go_simp; (try with_reducible rfl)
  simp only [Act.put, List.setIfInBounds_toArray, List.set_cons_zero, List.set_cons_succ]
  refine wpAnyN_take_at 2 6 (v := ?_) rfl rfl (by kernel_rfl) (by kernel_rfl) (by kernel_rfl) (by kernel_rfl) (by kernel_rfl) (fun _ _ _ h => h) (by rfl) ?_ HS.out ?_
  rotate_left
  · intro W hSw; (try dsimp only at hSw); go_simp; (try with_reducible rfl)
  simp only [Act.put, List.setIfInBounds_toArray, List.set_cons_zero, List.set_cons_succ]
  refine wpAnyN_take_at 3 7 (v := ?_) rfl rfl (by kernel_rfl) (by kernel_rfl) (by kernel_rfl) (by kernel_rfl) (by kernel_rfl) (fun _ _ _ h => h) (by rfl) ?_ HS.out ?_
  rotate_left
  · intro W hSw; (try dsimp only at hSw); go_simp; (try with_reducible rfl)
  simp only [Act.put, List.setIfInBounds_toArray, List.set_cons_zero, List.set_cons_succ]
  refine wpAnyN_take_at 4 8 (v := ?_) rfl rfl (by kernel_rfl) (by kernel_rfl) (by kernel_rfl) (by kernel_rfl) (by kernel_rfl) (fun _ _ _ h => h) (by rfl) ?_ HS.out ?_
  rotate_left
  · intro W hSw; (try dsimp only at hSw); go_simp; (try with_reducible rfl)
  simp only [Act.put, List.setIfInBounds_toArray, List.set_cons_zero, List.set_cons_succ]
  refine wpAnyN_take_at 5 9 (v := ?_) rfl rfl (by kernel_rfl) (by kernel_rfl) (by kernel_rfl) (by kernel_rfl) (by kernel_rfl) (fun _ _ _ h => h) (by rfl) ?_ HS.out ?_
  rotate_left
  · intro W hSw; (try dsimp only at hSw); go_simp; (try with_reducible rfl)
  simp only [Act.put, List.setIfInBounds_toArray, List.set_cons_zero, List.set_cons_succ]
  refine wpAnyN_take_at 6 10 (v := ?_) rfl rfl (by kernel_rfl) (by kernel_rfl) (by kernel_rfl) (by kernel_rfl) (by kernel_rfl) (fun _ _ _ h => h) (by rfl) ?_ HS.out ?_
  rotate_left
  · intro W hSw; (try dsimp only at hSw); go_simp; (try with_reducible rfl)
  simp only [Act.put, List.setIfInBounds_toArray, List.set_cons_zero, List.set_cons_succ]
  refine wpAnyN_take_at 7 11 (v := ?_) rfl rfl (by kernel_rfl) (by kernel_rfl) (by kernel_rfl) (by kernel_rfl) (by kernel_rfl) (fun _ _ _ h => h) (by rfl) ?_ HS.out ?_
  rotate_left
  · intro W hSw; (try dsimp only at hSw); go_simp; (try with_reducible rfl)
  simp only [Act.put, List.setIfInBounds_toArray, List.set_cons_zero, List.set_cons_succ]
  refine wpAnyN_take_at 8 12 (v := ?_) rfl rfl (by kernel_rfl) (by kernel_rfl) (by kernel_rfl) (by kernel_rfl) (by kernel_rfl) (fun _ _ _ h => h) (by rfl) ?_ HS.out ?_
  rotate_left
  · intro W hSw; (try dsimp only at hSw); go_simp; (try with_reducible rfl)
  simp only [Act.put, List.setIfInBounds_toArray, List.set_cons_zero, List.set_cons_succ]
  refine wpAnyN_take_at 10 14 (v := ?_) rfl rfl (by kernel_rfl) (by kernel_rfl) (by kernel_rfl) (by kernel_rfl) (by kernel_rfl) (fun _ _ _ h => h) (by rfl) ?_ HS.out ?_
  rotate_left
  · intro W hSw; (try dsimp only at hSw); go_simp; (try with_reducible rfl)
  simp only [Act.put, List.setIfInBounds_toArray, List.set_cons_zero, List.set_cons_succ]
  refine wpAnyN_one (i := 9) rfl (by kernel_rfl) (fun K hK => ?_)
  go_simp
  go_at_call 13
  refine (CO.out _).mono ?_
  rintro e w2 ⟨rfl, b2⟩
  have HD2 := Lib.hid ((b2.block b (Array.getElem?_eq_some_iff.1 HD.out).1).trans HD.out)
  have HT2 := Lib.hid (HT.out.trans (OneTurn.of b2))
  refine hK _ _ (fun _ => (cell_of_row w2 b 1 _ _ (0, 0) HD2.out).trans rfl) ?_
  clear hK HS HD b2
  have HD3 := Lib.hid (show (w2.setCell ⟨b, 1, none⟩ (.string X)).heap[b]? = some (.cells #[.string d0, .string X, .string d2, .string d3, .string d4, .string d5] 38 (0, 0)) from by simp [World.setCell, Array.getElem?_modify, HD2.out])
  have HT3 := Lib.hid (HT2.out.trans (OneTurn.set w2 b 1 (.string X)))
  have hc : w2.cell? ⟨b, 1, none⟩ = some (.string d1) := (cell_of_row w2 b 1 _ _ (0, 0) HD2.out).trans rfl
  have hf : w2.frozen? ⟨b, 1, none⟩ = false := by have := HD2.out; simp [World.frozen?, this]
  have hcl : ∀ ty, (Builtin.clear_ #[24] ty #[.slice (some ⟨b, 2, none⟩) 4 4]).run Tryd.prog (w2.setCell ⟨b, 1, none⟩ (.string X)) = .ok (.tuple #[]) ((w2.setCell ⟨b, 1, none⟩ (.string X)).setCells b 2 (List.replicate 4 (.string ⟨#[]⟩))) := fun ty =>
    Lib.run_clear_slice (w2.setCell ⟨b, 1, none⟩ (.string X)) _ _ ty _ Tryd.underlying24 nuZero rfl rfl b 2 4 4 (by decide) (fun j hj => by rw [cell_of_row _ b (2 + j) _ _ (0, 0) HD3.out]; simp; omega) (fun j hj => by have := HD3.out; simp [World.frozen?, this])
  have HD4 := Lib.hid (show ((w2.setCell ⟨b, 1, none⟩ (.string X)).setCells b 2 (List.replicate 4 (.string ⟨#[]⟩))).heap[b]? = some (.cells #[.string d0, .string X, .string ⟨#[]⟩, .string ⟨#[]⟩, .string ⟨#[]⟩, .string ⟨#[]⟩] 38 (0, 0)) from by
    have h3 := HD3.out
    generalize w2.setCell ⟨b, 1, none⟩ (.string X) = w3 at *
    simp [List.replicate, World.setCells, World.setCell, Array.getElem?_modify, h3])
  have HT4 := Lib.hid (show OneTurn w ((w2.setCell ⟨b, 1, none⟩ (.string X)).setCells b 2 (List.replicate 4 (.string ⟨#[]⟩))) b from by
    have h3 := HT3.out
    generalize w2.setCell ⟨b, 1, none⟩ (.string X) = w3 at *
    simp only [List.replicate, World.setCells]
    exact ((((h3).trans (OneTurn.set _ b _ _)).trans (OneTurn.set _ b _ _)).trans (OneTurn.set _ b _ _)).trans (OneTurn.set _ b _ _))
  refine wpAnyN_rest 11 [_, _] rfl (by kernel_rfl) (by kernel_rfl) ?_
  go_wp2_with (simp only [hcl])
  go_end0
  exact ⟨rfl, HD4.out, HT4.out⟩

set_option maxHeartbeats 4000000 in
theorem count_3 (b : Nat) (w : World) (d0 d1 d2 d3 d4 d5 : ByteArray) (h : w.heap[b]? = some (.cells #[.string d0, .string d1, .string d2, .string d3, .string d4, .string d5] 38 (0, 0))) (hs : d2.size ≤ 100) (hd : ∀ d ∈ d2.data.toList, 48 ≤ d.toNat ∧ d.toNat ≤ 57) :
    Calls Tryd.prog 9 #[.pointer (some ⟨b, 0, none⟩), .int .i64 3] w fun e w' => e = .returned (.tuple #[]) ∧ w'.heap[b]? = some (.cells #[.string d0, .string d1, .string ⟨(oneMoreL d2.data.toList).toArray⟩, .string ⟨#[]⟩, .string ⟨#[]⟩, .string ⟨#[]⟩] 38 (0, 0)) ∧ OneTurn w w' b := by
  have co := fun W => oneMore_at d2 W hs hd
  have hb := (Array.getElem?_eq_some_iff.1 h).1
  have hwk : IntKind.i64.wrap (2 : Int) = (2 : Int) := by decide
  generalize (⟨(oneMoreL d2.data.toList).toArray⟩ : ByteArray) = X at *
  have CO := Lib.hid co
  have H := Lib.hid h
  clear co hd h hs
  go_enter Tryd.func9, Tryd.ntmps9
  go_wp2_with fail
  refine wp_region_N (fun W => W.cell? ⟨b, 2, none⟩ = some (.string d2)) (fun n => decide (n < 11)) (by kernel_rfl) ?_
  have HD := Lib.hid (show w.drew.heap[b]? = some (.cells #[.string d0, .string d1, .string d2, .string d3, .string d4, .string d5] 38 (0, 0)) from H.out)
  have HT := Lib.hid (show OneTurn w w.drew b from ⟨Nat.le_refl _, fun _ _ _ => rfl, rfl, rfl, rfl⟩)
  have HS := Lib.hid (show w.drew.cell? ⟨b, 2, none⟩ = some (.string d2) from (cell_of_row w.drew b 2 _ _ (0, 0) HD.out).trans rfl)
  generalize w.drew = w1 at *
  refine wpAnyN_take_at 0 4 (v := ?_) rfl rfl (by kernel_rfl) (by kernel_rfl) (by kernel_rfl) (by kernel_rfl) (by kernel_rfl) (fun _ _ _ h => h) (by rfl) ?_ HS.out ?_
  rotate_left
  · intro W hSw; (try dsimp only at hSw); go_simp; (try with_reducible rfl)
  simp only [Act.put, List.setIfInBounds_toArray, List.set_cons_zero, List.set_cons_succ]
  refine wpAnyN_take_at 1 5 (v := ?_) rfl rfl (by kernel_rfl) (by kernel_rfl) (by kernel_rfl) (by kernel_rfl) (by kernel_rfl) (fun _ _ _ h => h) (by rfl) ?_ HS.out ?_
  rotate_left
  · intro W hSw; (try dsimp only at hSw); go_simp; (try with_reducible rfl)
  simp only [Act.put, List.setIfInBounds_toArray, List.set_cons_zero, List.set_cons_succ]
  refine wpAnyN_take_at 2 6 (v := ?_) rfl rfl (by kernel_rfl) (by kernel_rfl) (by kernel_rfl) (by kernel_rfl) (by kernel_rfl) (fun _ _ _ h => h) (by rfl) ?_ HS.out ?_
  rotate_left
  · intro W hSw; (try dsimp only at hSw); go_simp; (try with_reducible rfl)
  simp only [Act.put, List.setIfInBounds_toArray, List.set_cons_zero, List.set_cons_succ]
  refine wpAnyN_take_at 3 7 (v := ?_) rfl rfl (by kernel_rfl) (by kernel_rfl) (by kernel_rfl) (by kernel_rfl) (by kernel_rfl) (fun _ _ _ h => h) (by rfl) ?_ HS.out ?_
  rotate_left
  · intro W hSw; (try dsimp only at hSw); go_simp; (try with_reducible rfl)
  simp only [Act.put, List.setIfInBounds_toArray, List.set_cons_zero, List.set_cons_succ]
  refine wpAnyN_take_at 4 8 (v := ?_) rfl rfl (by kernel_rfl) (by kernel_rfl) (by kernel_rfl) (by kernel_rfl) (by kernel_rfl) (fun _ _ _ h => h) (by rfl) ?_ HS.out ?_
  rotate_left
  · intro W hSw; (try dsimp only at hSw); go_simp; (try with_reducible rfl)
  simp only [Act.put, List.setIfInBounds_toArray, List.set_cons_zero, List.set_cons_succ]
  refine wpAnyN_take_at 5 9 (v := ?_) rfl rfl (by kernel_rfl) (by kernel_rfl) (by kernel_rfl) (by kernel_rfl) (by kernel_rfl) (fun _ _ _ h => h) (by rfl) ?_ HS.out ?_
  rotate_left
  · intro W hSw; (try dsimp only at hSw); go_simp; (try with_reducible rfl)
  simp only [Act.put, List.setIfInBounds_toArray, List.set_cons_zero, List.set_cons_succ]
  refine wpAnyN_take_at 6 10 (v := ?_) rfl rfl (by kernel_rfl) (by kernel_rfl) (by kernel_rfl) (by kernel_rfl) (by kernel_rfl) (fun _ _ _ h => h) (by rfl) ?_ HS.out ?_
  rotate_left
  · intro W hSw; (try dsimp only at hSw); go_simp; (try with_reducible rfl)
  simp only [Act.put, List.setIfInBounds_toArray, List.set_cons_zero, List.set_cons_succ]
  refine wpAnyN_take_at 7 11 (v := ?_) rfl rfl (by kernel_rfl) (by kernel_rfl) (by kernel_rfl) (by kernel_rfl) (by kernel_rfl) (fun _ _ _ h => h) (by rfl) ?_ HS.out ?_
  rotate_left
  · intro W hSw; (try dsimp only at hSw); go_simp; (try with_reducible rfl)
  simp only [Act.put, List.setIfInBounds_toArray, List.set_cons_zero, List.set_cons_succ]
  refine wpAnyN_take_at 8 12 (v := ?_) rfl rfl (by kernel_rfl) (by kernel_rfl) (by kernel_rfl) (by kernel_rfl) (by kernel_rfl) (fun _ _ _ h => h) (by rfl) ?_ HS.out ?_
  rotate_left
  · intro W hSw; (try dsimp only at hSw); go_simp; (try with_reducible rfl)
  simp only [Act.put, List.setIfInBounds_toArray, List.set_cons_zero, List.set_cons_succ]
  refine wpAnyN_take_at 10 14 (v := ?_) rfl rfl (by kernel_rfl) (by kernel_rfl) (by kernel_rfl) (by kernel_rfl) (by kernel_rfl) (fun _ _ _ h => h) (by rfl) ?_ HS.out ?_
  rotate_left
  · intro W hSw; (try dsimp only at hSw); go_simp; (try with_reducible rfl)
  simp only [Act.put, List.setIfInBounds_toArray, List.set_cons_zero, List.set_cons_succ]
  refine wpAnyN_one (i := 9) rfl (by kernel_rfl) (fun K hK => ?_)
  go_simp
  go_at_call 13
  refine (CO.out _).mono ?_
  rintro e w2 ⟨rfl, b2⟩
  have HD2 := Lib.hid ((b2.block b (Array.getElem?_eq_some_iff.1 HD.out).1).trans HD.out)
  have HT2 := Lib.hid (HT.out.trans (OneTurn.of b2))
  refine hK _ _ (fun _ => (cell_of_row w2 b 2 _ _ (0, 0) HD2.out).trans rfl) ?_
  clear hK HS HD b2
  have HD3 := Lib.hid (show (w2.setCell ⟨b, 2, none⟩ (.string X)).heap[b]? = some (.cells #[.string d0, .string d1, .string X, .string d3, .string d4, .string d5] 38 (0, 0)) from by simp [World.setCell, Array.getElem?_modify, HD2.out])
  have HT3 := Lib.hid (HT2.out.trans (OneTurn.set w2 b 2 (.string X)))
  have hc : w2.cell? ⟨b, 2, none⟩ = some (.string d2) := (cell_of_row w2 b 2 _ _ (0, 0) HD2.out).trans rfl
  have hf : w2.frozen? ⟨b, 2, none⟩ = false := by have := HD2.out; simp [World.frozen?, this]
  have hcl : ∀ ty, (Builtin.clear_ #[24] ty #[.slice (some ⟨b, 3, none⟩) 3 3]).run Tryd.prog (w2.setCell ⟨b, 2, none⟩ (.string X)) = .ok (.tuple #[]) ((w2.setCell ⟨b, 2, none⟩ (.string X)).setCells b 3 (List.replicate 3 (.string ⟨#[]⟩))) := fun ty =>
    Lib.run_clear_slice (w2.setCell ⟨b, 2, none⟩ (.string X)) _ _ ty _ Tryd.underlying24 nuZero rfl rfl b 3 3 3 (by decide) (fun j hj => by rw [cell_of_row _ b (3 + j) _ _ (0, 0) HD3.out]; simp; omega) (fun j hj => by have := HD3.out; simp [World.frozen?, this])
  have HD4 := Lib.hid (show ((w2.setCell ⟨b, 2, none⟩ (.string X)).setCells b 3 (List.replicate 3 (.string ⟨#[]⟩))).heap[b]? = some (.cells #[.string d0, .string d1, .string X, .string ⟨#[]⟩, .string ⟨#[]⟩, .string ⟨#[]⟩] 38 (0, 0)) from by
    have h3 := HD3.out
    generalize w2.setCell ⟨b, 2, none⟩ (.string X) = w3 at *
    simp [List.replicate, World.setCells, World.setCell, Array.getElem?_modify, h3])
  have HT4 := Lib.hid (show OneTurn w ((w2.setCell ⟨b, 2, none⟩ (.string X)).setCells b 3 (List.replicate 3 (.string ⟨#[]⟩))) b from by
    have h3 := HT3.out
    generalize w2.setCell ⟨b, 2, none⟩ (.string X) = w3 at *
    simp only [List.replicate, World.setCells]
    exact (((h3).trans (OneTurn.set _ b _ _)).trans (OneTurn.set _ b _ _)).trans (OneTurn.set _ b _ _))
  refine wpAnyN_rest 11 [_, _] rfl (by kernel_rfl) (by kernel_rfl) ?_
  go_wp2_with (simp only [hcl])
  go_end0
  exact ⟨rfl, HD4.out, HT4.out⟩

set_option maxHeartbeats 4000000 in
theorem count_4 (b : Nat) (w : World) (d0 d1 d2 d3 d4 d5 : ByteArray) (h : w.heap[b]? = some (.cells #[.string d0, .string d1, .string d2, .string d3, .string d4, .string d5] 38 (0, 0))) (hs : d3.size ≤ 100) (hd : ∀ d ∈ d3.data.toList, 48 ≤ d.toNat ∧ d.toNat ≤ 57) :
    Calls Tryd.prog 9 #[.pointer (some ⟨b, 0, none⟩), .int .i64 4] w fun e w' => e = .returned (.tuple #[]) ∧ w'.heap[b]? = some (.cells #[.string d0, .string d1, .string d2, .string ⟨(oneMoreL d3.data.toList).toArray⟩, .string ⟨#[]⟩, .string ⟨#[]⟩] 38 (0, 0)) ∧ OneTurn w w' b := by
  have co := fun W => oneMore_at d3 W hs hd
  have hb := (Array.getElem?_eq_some_iff.1 h).1
  have hwk : IntKind.i64.wrap (3 : Int) = (3 : Int) := by decide
  generalize (⟨(oneMoreL d3.data.toList).toArray⟩ : ByteArray) = X at *
  have CO := Lib.hid co
  have H := Lib.hid h
  clear co hd h hs
  go_enter Tryd.func9, Tryd.ntmps9
  go_wp2_with fail
  refine wp_region_N (fun W => W.cell? ⟨b, 3, none⟩ = some (.string d3)) (fun n => decide (n < 11)) (by kernel_rfl) ?_
  have HD := Lib.hid (show w.drew.heap[b]? = some (.cells #[.string d0, .string d1, .string d2, .string d3, .string d4, .string d5] 38 (0, 0)) from H.out)
  have HT := Lib.hid (show OneTurn w w.drew b from ⟨Nat.le_refl _, fun _ _ _ => rfl, rfl, rfl, rfl⟩)
  have HS := Lib.hid (show w.drew.cell? ⟨b, 3, none⟩ = some (.string d3) from (cell_of_row w.drew b 3 _ _ (0, 0) HD.out).trans rfl)
  generalize w.drew = w1 at *
  refine wpAnyN_take_at 0 4 (v := ?_) rfl rfl (by kernel_rfl) (by kernel_rfl) (by kernel_rfl) (by kernel_rfl) (by kernel_rfl) (fun _ _ _ h => h) (by rfl) ?_ HS.out ?_
  rotate_left
  · intro W hSw; (try dsimp only at hSw); go_simp; (try with_reducible rfl)
  simp only [Act.put, List.setIfInBounds_toArray, List.set_cons_zero, List.set_cons_succ]
  refine wpAnyN_take_at 1 5 (v := ?_) rfl rfl (by kernel_rfl) (by kernel_rfl) (by kernel_rfl) (by kernel_rfl) (by kernel_rfl) (fun _ _ _ h => h) (by rfl) ?_ HS.out ?_
  rotate_left
  · intro W hSw; (try dsimp only at hSw); go_simp; (try with_reducible rfl)
  simp only [Act.put, List.setIfInBounds_toArray, List.set_cons_zero, List.set_cons_succ]
  refine wpAnyN_take_at 2 6 (v := ?_) rfl rfl (by kernel_rfl) (by kernel_rfl) (by kernel_rfl) (by kernel_rfl) (by kernel_rfl) (fun _ _ _ h => h) (by rfl) ?_ HS.out ?_
  rotate_left
  · intro W hSw; (try dsimp only at hSw); go_simp; (try with_reducible rfl)
  simp only [Act.put, List.setIfInBounds_toArray, List.set_cons_zero, List.set_cons_succ]
  refine wpAnyN_take_at 3 7 (v := ?_) rfl rfl (by kernel_rfl) (by kernel_rfl) (by kernel_rfl) (by kernel_rfl) (by kernel_rfl) (fun _ _ _ h => h) (by rfl) ?_ HS.out ?_
  rotate_left
  · intro W hSw; (try dsimp only at hSw); go_simp; (try with_reducible rfl)
  simp only [Act.put, List.setIfInBounds_toArray, List.set_cons_zero, List.set_cons_succ]
  refine wpAnyN_take_at 4 8 (v := ?_) rfl rfl (by kernel_rfl) (by kernel_rfl) (by kernel_rfl) (by kernel_rfl) (by kernel_rfl) (fun _ _ _ h => h) (by rfl) ?_ HS.out ?_
  rotate_left
  · intro W hSw; (try dsimp only at hSw); go_simp; (try with_reducible rfl)
  simp only [Act.put, List.setIfInBounds_toArray, List.set_cons_zero, List.set_cons_succ]
  refine wpAnyN_take_at 5 9 (v := ?_) rfl rfl (by kernel_rfl) (by kernel_rfl) (by kernel_rfl) (by kernel_rfl) (by kernel_rfl) (fun _ _ _ h => h) (by rfl) ?_ HS.out ?_
  rotate_left
  · intro W hSw; (try dsimp only at hSw); go_simp; (try with_reducible rfl)
  simp only [Act.put, List.setIfInBounds_toArray, List.set_cons_zero, List.set_cons_succ]
  refine wpAnyN_take_at 6 10 (v := ?_) rfl rfl (by kernel_rfl) (by kernel_rfl) (by kernel_rfl) (by kernel_rfl) (by kernel_rfl) (fun _ _ _ h => h) (by rfl) ?_ HS.out ?_
  rotate_left
  · intro W hSw; (try dsimp only at hSw); go_simp; (try with_reducible rfl)
  simp only [Act.put, List.setIfInBounds_toArray, List.set_cons_zero, List.set_cons_succ]
  refine wpAnyN_take_at 7 11 (v := ?_) rfl rfl (by kernel_rfl) (by kernel_rfl) (by kernel_rfl) (by kernel_rfl) (by kernel_rfl) (fun _ _ _ h => h) (by rfl) ?_ HS.out ?_
  rotate_left
  · intro W hSw; (try dsimp only at hSw); go_simp; (try with_reducible rfl)
  simp only [Act.put, List.setIfInBounds_toArray, List.set_cons_zero, List.set_cons_succ]
  refine wpAnyN_take_at 8 12 (v := ?_) rfl rfl (by kernel_rfl) (by kernel_rfl) (by kernel_rfl) (by kernel_rfl) (by kernel_rfl) (fun _ _ _ h => h) (by rfl) ?_ HS.out ?_
  rotate_left
  · intro W hSw; (try dsimp only at hSw); go_simp; (try with_reducible rfl)
  simp only [Act.put, List.setIfInBounds_toArray, List.set_cons_zero, List.set_cons_succ]
  refine wpAnyN_take_at 10 14 (v := ?_) rfl rfl (by kernel_rfl) (by kernel_rfl) (by kernel_rfl) (by kernel_rfl) (by kernel_rfl) (fun _ _ _ h => h) (by rfl) ?_ HS.out ?_
  rotate_left
  · intro W hSw; (try dsimp only at hSw); go_simp; (try with_reducible rfl)
  simp only [Act.put, List.setIfInBounds_toArray, List.set_cons_zero, List.set_cons_succ]
  refine wpAnyN_one (i := 9) rfl (by kernel_rfl) (fun K hK => ?_)
  go_simp
  go_at_call 13
  refine (CO.out _).mono ?_
  rintro e w2 ⟨rfl, b2⟩
  have HD2 := Lib.hid ((b2.block b (Array.getElem?_eq_some_iff.1 HD.out).1).trans HD.out)
  have HT2 := Lib.hid (HT.out.trans (OneTurn.of b2))
  refine hK _ _ (fun _ => (cell_of_row w2 b 3 _ _ (0, 0) HD2.out).trans rfl) ?_
  clear hK HS HD b2
  have HD3 := Lib.hid (show (w2.setCell ⟨b, 3, none⟩ (.string X)).heap[b]? = some (.cells #[.string d0, .string d1, .string d2, .string X, .string d4, .string d5] 38 (0, 0)) from by simp [World.setCell, Array.getElem?_modify, HD2.out])
  have HT3 := Lib.hid (HT2.out.trans (OneTurn.set w2 b 3 (.string X)))
  have hc : w2.cell? ⟨b, 3, none⟩ = some (.string d3) := (cell_of_row w2 b 3 _ _ (0, 0) HD2.out).trans rfl
  have hf : w2.frozen? ⟨b, 3, none⟩ = false := by have := HD2.out; simp [World.frozen?, this]
  have hcl : ∀ ty, (Builtin.clear_ #[24] ty #[.slice (some ⟨b, 4, none⟩) 2 2]).run Tryd.prog (w2.setCell ⟨b, 3, none⟩ (.string X)) = .ok (.tuple #[]) ((w2.setCell ⟨b, 3, none⟩ (.string X)).setCells b 4 (List.replicate 2 (.string ⟨#[]⟩))) := fun ty =>
    Lib.run_clear_slice (w2.setCell ⟨b, 3, none⟩ (.string X)) _ _ ty _ Tryd.underlying24 nuZero rfl rfl b 4 2 2 (by decide) (fun j hj => by rw [cell_of_row _ b (4 + j) _ _ (0, 0) HD3.out]; simp; omega) (fun j hj => by have := HD3.out; simp [World.frozen?, this])
  have HD4 := Lib.hid (show ((w2.setCell ⟨b, 3, none⟩ (.string X)).setCells b 4 (List.replicate 2 (.string ⟨#[]⟩))).heap[b]? = some (.cells #[.string d0, .string d1, .string d2, .string X, .string ⟨#[]⟩, .string ⟨#[]⟩] 38 (0, 0)) from by
    have h3 := HD3.out
    generalize w2.setCell ⟨b, 3, none⟩ (.string X) = w3 at *
    simp [List.replicate, World.setCells, World.setCell, Array.getElem?_modify, h3])
  have HT4 := Lib.hid (show OneTurn w ((w2.setCell ⟨b, 3, none⟩ (.string X)).setCells b 4 (List.replicate 2 (.string ⟨#[]⟩))) b from by
    have h3 := HT3.out
    generalize w2.setCell ⟨b, 3, none⟩ (.string X) = w3 at *
    simp only [List.replicate, World.setCells]
    exact ((h3).trans (OneTurn.set _ b _ _)).trans (OneTurn.set _ b _ _))
  refine wpAnyN_rest 11 [_, _] rfl (by kernel_rfl) (by kernel_rfl) ?_
  go_wp2_with (simp only [hcl])
  go_end0
  exact ⟨rfl, HD4.out, HT4.out⟩

set_option maxHeartbeats 4000000 in
theorem count_5 (b : Nat) (w : World) (d0 d1 d2 d3 d4 d5 : ByteArray) (h : w.heap[b]? = some (.cells #[.string d0, .string d1, .string d2, .string d3, .string d4, .string d5] 38 (0, 0))) (hs : d4.size ≤ 100) (hd : ∀ d ∈ d4.data.toList, 48 ≤ d.toNat ∧ d.toNat ≤ 57) :
    Calls Tryd.prog 9 #[.pointer (some ⟨b, 0, none⟩), .int .i64 5] w fun e w' => e = .returned (.tuple #[]) ∧ w'.heap[b]? = some (.cells #[.string d0, .string d1, .string d2, .string d3, .string ⟨(oneMoreL d4.data.toList).toArray⟩, .string ⟨#[]⟩] 38 (0, 0)) ∧ OneTurn w w' b := by
  have co := fun W => oneMore_at d4 W hs hd
  have hb := (Array.getElem?_eq_some_iff.1 h).1
  have hwk : IntKind.i64.wrap (4 : Int) = (4 : Int) := by decide
  generalize (⟨(oneMoreL d4.data.toList).toArray⟩ : ByteArray) = X at *
  have CO := Lib.hid co
  have H := Lib.hid h
  clear co hd h hs
  go_enter Tryd.func9, Tryd.ntmps9
  go_wp2_with fail
  refine wp_region_N (fun W => W.cell? ⟨b, 4, none⟩ = some (.string d4)) (fun n => decide (n < 11)) (by kernel_rfl) ?_
  have HD := Lib.hid (show w.drew.heap[b]? = some (.cells #[.string d0, .string d1, .string d2, .string d3, .string d4, .string d5] 38 (0, 0)) from H.out)
  have HT := Lib.hid (show OneTurn w w.drew b from ⟨Nat.le_refl _, fun _ _ _ => rfl, rfl, rfl, rfl⟩)
  have HS := Lib.hid (show w.drew.cell? ⟨b, 4, none⟩ = some (.string d4) from (cell_of_row w.drew b 4 _ _ (0, 0) HD.out).trans rfl)
  generalize w.drew = w1 at *
  refine wpAnyN_take_at 0 4 (v := ?_) rfl rfl (by kernel_rfl) (by kernel_rfl) (by kernel_rfl) (by kernel_rfl) (by kernel_rfl) (fun _ _ _ h => h) (by rfl) ?_ HS.out ?_
  rotate_left
  · intro W hSw; (try dsimp only at hSw); go_simp; (try with_reducible rfl)
  simp only [Act.put, List.setIfInBounds_toArray, List.set_cons_zero, List.set_cons_succ]
  refine wpAnyN_take_at 1 5 (v := ?_) rfl rfl (by kernel_rfl) (by kernel_rfl) (by kernel_rfl) (by kernel_rfl) (by kernel_rfl) (fun _ _ _ h => h) (by rfl) ?_ HS.out ?_
  rotate_left
  · intro W hSw; (try dsimp only at hSw); go_simp; (try with_reducible rfl)
  simp only [Act.put, List.setIfInBounds_toArray, List.set_cons_zero, List.set_cons_succ]
  refine wpAnyN_take_at 2 6 (v := ?_) rfl rfl (by kernel_rfl) (by kernel_rfl) (by kernel_rfl) (by kernel_rfl) (by kernel_rfl) (fun _ _ _ h => h) (by rfl) ?_ HS.out ?_
  rotate_left
  · intro W hSw; (try dsimp only at hSw); go_simp; (try with_reducible rfl)
  simp only [Act.put, List.setIfInBounds_toArray, List.set_cons_zero, List.set_cons_succ]
  refine wpAnyN_take_at 3 7 (v := ?_) rfl rfl (by kernel_rfl) (by kernel_rfl) (by kernel_rfl) (by kernel_rfl) (by kernel_rfl) (fun _ _ _ h => h) (by rfl) ?_ HS.out ?_
  rotate_left
  · intro W hSw; (try dsimp only at hSw); go_simp; (try with_reducible rfl)
  simp only [Act.put, List.setIfInBounds_toArray, List.set_cons_zero, List.set_cons_succ]
  refine wpAnyN_take_at 4 8 (v := ?_) rfl rfl (by kernel_rfl) (by kernel_rfl) (by kernel_rfl) (by kernel_rfl) (by kernel_rfl) (fun _ _ _ h => h) (by rfl) ?_ HS.out ?_
  rotate_left
  · intro W hSw; (try dsimp only at hSw); go_simp; (try with_reducible rfl)
  simp only [Act.put, List.setIfInBounds_toArray, List.set_cons_zero, List.set_cons_succ]
  refine wpAnyN_take_at 5 9 (v := ?_) rfl rfl (by kernel_rfl) (by kernel_rfl) (by kernel_rfl) (by kernel_rfl) (by kernel_rfl) (fun _ _ _ h => h) (by rfl) ?_ HS.out ?_
  rotate_left
  · intro W hSw; (try dsimp only at hSw); go_simp; (try with_reducible rfl)
  simp only [Act.put, List.setIfInBounds_toArray, List.set_cons_zero, List.set_cons_succ]
  refine wpAnyN_take_at 6 10 (v := ?_) rfl rfl (by kernel_rfl) (by kernel_rfl) (by kernel_rfl) (by kernel_rfl) (by kernel_rfl) (fun _ _ _ h => h) (by rfl) ?_ HS.out ?_
  rotate_left
  · intro W hSw; (try dsimp only at hSw); go_simp; (try with_reducible rfl)
  simp only [Act.put, List.setIfInBounds_toArray, List.set_cons_zero, List.set_cons_succ]
  refine wpAnyN_take_at 7 11 (v := ?_) rfl rfl (by kernel_rfl) (by kernel_rfl) (by kernel_rfl) (by kernel_rfl) (by kernel_rfl) (fun _ _ _ h => h) (by rfl) ?_ HS.out ?_
  rotate_left
  · intro W hSw; (try dsimp only at hSw); go_simp; (try with_reducible rfl)
  simp only [Act.put, List.setIfInBounds_toArray, List.set_cons_zero, List.set_cons_succ]
  refine wpAnyN_take_at 8 12 (v := ?_) rfl rfl (by kernel_rfl) (by kernel_rfl) (by kernel_rfl) (by kernel_rfl) (by kernel_rfl) (fun _ _ _ h => h) (by rfl) ?_ HS.out ?_
  rotate_left
  · intro W hSw; (try dsimp only at hSw); go_simp; (try with_reducible rfl)
  simp only [Act.put, List.setIfInBounds_toArray, List.set_cons_zero, List.set_cons_succ]
  refine wpAnyN_take_at 10 14 (v := ?_) rfl rfl (by kernel_rfl) (by kernel_rfl) (by kernel_rfl) (by kernel_rfl) (by kernel_rfl) (fun _ _ _ h => h) (by rfl) ?_ HS.out ?_
  rotate_left
  · intro W hSw; (try dsimp only at hSw); go_simp; (try with_reducible rfl)
  simp only [Act.put, List.setIfInBounds_toArray, List.set_cons_zero, List.set_cons_succ]
  refine wpAnyN_one (i := 9) rfl (by kernel_rfl) (fun K hK => ?_)
  go_simp
  go_at_call 13
  refine (CO.out _).mono ?_
  rintro e w2 ⟨rfl, b2⟩
  have HD2 := Lib.hid ((b2.block b (Array.getElem?_eq_some_iff.1 HD.out).1).trans HD.out)
  have HT2 := Lib.hid (HT.out.trans (OneTurn.of b2))
  refine hK _ _ (fun _ => (cell_of_row w2 b 4 _ _ (0, 0) HD2.out).trans rfl) ?_
  clear hK HS HD b2
  have HD3 := Lib.hid (show (w2.setCell ⟨b, 4, none⟩ (.string X)).heap[b]? = some (.cells #[.string d0, .string d1, .string d2, .string d3, .string X, .string d5] 38 (0, 0)) from by simp [World.setCell, Array.getElem?_modify, HD2.out])
  have HT3 := Lib.hid (HT2.out.trans (OneTurn.set w2 b 4 (.string X)))
  have hc : w2.cell? ⟨b, 4, none⟩ = some (.string d4) := (cell_of_row w2 b 4 _ _ (0, 0) HD2.out).trans rfl
  have hf : w2.frozen? ⟨b, 4, none⟩ = false := by have := HD2.out; simp [World.frozen?, this]
  have hcl : ∀ ty, (Builtin.clear_ #[24] ty #[.slice (some ⟨b, 5, none⟩) 1 1]).run Tryd.prog (w2.setCell ⟨b, 4, none⟩ (.string X)) = .ok (.tuple #[]) ((w2.setCell ⟨b, 4, none⟩ (.string X)).setCells b 5 (List.replicate 1 (.string ⟨#[]⟩))) := fun ty =>
    Lib.run_clear_slice (w2.setCell ⟨b, 4, none⟩ (.string X)) _ _ ty _ Tryd.underlying24 nuZero rfl rfl b 5 1 1 (by decide) (fun j hj => by rw [cell_of_row _ b (5 + j) _ _ (0, 0) HD3.out]; simp; omega) (fun j hj => by have := HD3.out; simp [World.frozen?, this])
  have HD4 := Lib.hid (show ((w2.setCell ⟨b, 4, none⟩ (.string X)).setCells b 5 (List.replicate 1 (.string ⟨#[]⟩))).heap[b]? = some (.cells #[.string d0, .string d1, .string d2, .string d3, .string X, .string ⟨#[]⟩] 38 (0, 0)) from by
    have h3 := HD3.out
    generalize w2.setCell ⟨b, 4, none⟩ (.string X) = w3 at *
    simp [List.replicate, World.setCells, World.setCell, Array.getElem?_modify, h3])
  have HT4 := Lib.hid (show OneTurn w ((w2.setCell ⟨b, 4, none⟩ (.string X)).setCells b 5 (List.replicate 1 (.string ⟨#[]⟩))) b from by
    have h3 := HT3.out
    generalize w2.setCell ⟨b, 4, none⟩ (.string X) = w3 at *
    simp only [List.replicate, World.setCells]
    exact (h3).trans (OneTurn.set _ b _ _))
  refine wpAnyN_rest 11 [_, _] rfl (by kernel_rfl) (by kernel_rfl) ?_
  go_wp2_with (simp only [hcl])
  go_end0
  exact ⟨rfl, HD4.out, HT4.out⟩

set_option maxHeartbeats 4000000 in
theorem count_6 (b : Nat) (w : World) (d0 d1 d2 d3 d4 d5 : ByteArray) (h : w.heap[b]? = some (.cells #[.string d0, .string d1, .string d2, .string d3, .string d4, .string d5] 38 (0, 0))) (hs : d5.size ≤ 100) (hd : ∀ d ∈ d5.data.toList, 48 ≤ d.toNat ∧ d.toNat ≤ 57) :
    Calls Tryd.prog 9 #[.pointer (some ⟨b, 0, none⟩), .int .i64 6] w fun e w' => e = .returned (.tuple #[]) ∧ w'.heap[b]? = some (.cells #[.string d0, .string d1, .string d2, .string d3, .string d4, .string ⟨(oneMoreL d5.data.toList).toArray⟩] 38 (0, 0)) ∧ OneTurn w w' b := by
  have co := fun W => oneMore_at d5 W hs hd
  have hb := (Array.getElem?_eq_some_iff.1 h).1
  have hwk : IntKind.i64.wrap (5 : Int) = (5 : Int) := by decide
  generalize (⟨(oneMoreL d5.data.toList).toArray⟩ : ByteArray) = X at *
  have CO := Lib.hid co
  have H := Lib.hid h
  clear co hd h hs
  go_enter Tryd.func9, Tryd.ntmps9
  go_wp2_with fail
  refine wp_region_N (fun W => W.cell? ⟨b, 5, none⟩ = some (.string d5)) (fun n => decide (n < 11)) (by kernel_rfl) ?_
  have HD := Lib.hid (show w.drew.heap[b]? = some (.cells #[.string d0, .string d1, .string d2, .string d3, .string d4, .string d5] 38 (0, 0)) from H.out)
  have HT := Lib.hid (show OneTurn w w.drew b from ⟨Nat.le_refl _, fun _ _ _ => rfl, rfl, rfl, rfl⟩)
  have HS := Lib.hid (show w.drew.cell? ⟨b, 5, none⟩ = some (.string d5) from (cell_of_row w.drew b 5 _ _ (0, 0) HD.out).trans rfl)
  generalize w.drew = w1 at *
  refine wpAnyN_take_at 0 4 (v := ?_) rfl rfl (by kernel_rfl) (by kernel_rfl) (by kernel_rfl) (by kernel_rfl) (by kernel_rfl) (fun _ _ _ h => h) (by rfl) ?_ HS.out ?_
  rotate_left
  · intro W hSw; (try dsimp only at hSw); go_simp; (try with_reducible rfl)
  simp only [Act.put, List.setIfInBounds_toArray, List.set_cons_zero, List.set_cons_succ]
  refine wpAnyN_take_at 1 5 (v := ?_) rfl rfl (by kernel_rfl) (by kernel_rfl) (by kernel_rfl) (by kernel_rfl) (by kernel_rfl) (fun _ _ _ h => h) (by rfl) ?_ HS.out ?_
  rotate_left
  · intro W hSw; (try dsimp only at hSw); go_simp; (try with_reducible rfl)
  simp only [Act.put, List.setIfInBounds_toArray, List.set_cons_zero, List.set_cons_succ]
  refine wpAnyN_take_at 2 6 (v := ?_) rfl rfl (by kernel_rfl) (by kernel_rfl) (by kernel_rfl) (by kernel_rfl) (by kernel_rfl) (fun _ _ _ h => h) (by rfl) ?_ HS.out ?_
  rotate_left
  · intro W hSw; (try dsimp only at hSw); go_simp; (try with_reducible rfl)
  simp only [Act.put, List.setIfInBounds_toArray, List.set_cons_zero, List.set_cons_succ]
  refine wpAnyN_take_at 3 7 (v := ?_) rfl rfl (by kernel_rfl) (by kernel_rfl) (by kernel_rfl) (by kernel_rfl) (by kernel_rfl) (fun _ _ _ h => h) (by rfl) ?_ HS.out ?_
  rotate_left
  · intro W hSw; (try dsimp only at hSw); go_simp; (try with_reducible rfl)
  simp only [Act.put, List.setIfInBounds_toArray, List.set_cons_zero, List.set_cons_succ]
  refine wpAnyN_take_at 4 8 (v := ?_) rfl rfl (by kernel_rfl) (by kernel_rfl) (by kernel_rfl) (by kernel_rfl) (by kernel_rfl) (fun _ _ _ h => h) (by rfl) ?_ HS.out ?_
  rotate_left
  · intro W hSw; (try dsimp only at hSw); go_simp; (try with_reducible rfl)
  simp only [Act.put, List.setIfInBounds_toArray, List.set_cons_zero, List.set_cons_succ]
  refine wpAnyN_take_at 5 9 (v := ?_) rfl rfl (by kernel_rfl) (by kernel_rfl) (by kernel_rfl) (by kernel_rfl) (by kernel_rfl) (fun _ _ _ h => h) (by rfl) ?_ HS.out ?_
  rotate_left
  · intro W hSw; (try dsimp only at hSw); go_simp; (try with_reducible rfl)
  simp only [Act.put, List.setIfInBounds_toArray, List.set_cons_zero, List.set_cons_succ]
  refine wpAnyN_take_at 6 10 (v := ?_) rfl rfl (by kernel_rfl) (by kernel_rfl) (by kernel_rfl) (by kernel_rfl) (by kernel_rfl) (fun _ _ _ h => h) (by rfl) ?_ HS.out ?_
  rotate_left
  · intro W hSw; (try dsimp only at hSw); go_simp; (try with_reducible rfl)
  simp only [Act.put, List.setIfInBounds_toArray, List.set_cons_zero, List.set_cons_succ]
  refine wpAnyN_take_at 7 11 (v := ?_) rfl rfl (by kernel_rfl) (by kernel_rfl) (by kernel_rfl) (by kernel_rfl) (by kernel_rfl) (fun _ _ _ h => h) (by rfl) ?_ HS.out ?_
  rotate_left
  · intro W hSw; (try dsimp only at hSw); go_simp; (try with_reducible rfl)
  simp only [Act.put, List.setIfInBounds_toArray, List.set_cons_zero, List.set_cons_succ]
  refine wpAnyN_take_at 8 12 (v := ?_) rfl rfl (by kernel_rfl) (by kernel_rfl) (by kernel_rfl) (by kernel_rfl) (by kernel_rfl) (fun _ _ _ h => h) (by rfl) ?_ HS.out ?_
  rotate_left
  · intro W hSw; (try dsimp only at hSw); go_simp; (try with_reducible rfl)
  simp only [Act.put, List.setIfInBounds_toArray, List.set_cons_zero, List.set_cons_succ]
  refine wpAnyN_take_at 10 14 (v := ?_) rfl rfl (by kernel_rfl) (by kernel_rfl) (by kernel_rfl) (by kernel_rfl) (by kernel_rfl) (fun _ _ _ h => h) (by rfl) ?_ HS.out ?_
  rotate_left
  · intro W hSw; (try dsimp only at hSw); go_simp; (try with_reducible rfl)
  simp only [Act.put, List.setIfInBounds_toArray, List.set_cons_zero, List.set_cons_succ]
  refine wpAnyN_one (i := 9) rfl (by kernel_rfl) (fun K hK => ?_)
  go_simp
  go_at_call 13
  refine (CO.out _).mono ?_
  rintro e w2 ⟨rfl, b2⟩
  have HD2 := Lib.hid ((b2.block b (Array.getElem?_eq_some_iff.1 HD.out).1).trans HD.out)
  have HT2 := Lib.hid (HT.out.trans (OneTurn.of b2))
  refine hK _ _ (fun _ => (cell_of_row w2 b 5 _ _ (0, 0) HD2.out).trans rfl) ?_
  clear hK HS HD b2
  have HD3 := Lib.hid (show (w2.setCell ⟨b, 5, none⟩ (.string X)).heap[b]? = some (.cells #[.string d0, .string d1, .string d2, .string d3, .string d4, .string X] 38 (0, 0)) from by simp [World.setCell, Array.getElem?_modify, HD2.out])
  have HT3 := Lib.hid (HT2.out.trans (OneTurn.set w2 b 5 (.string X)))
  have hc : w2.cell? ⟨b, 5, none⟩ = some (.string d5) := (cell_of_row w2 b 5 _ _ (0, 0) HD2.out).trans rfl
  have hf : w2.frozen? ⟨b, 5, none⟩ = false := by have := HD2.out; simp [World.frozen?, this]
  have hcl := fun ty => clear_none (some ⟨b, 0, none⟩) 0 ty (w2.setCell ⟨b, 5, none⟩ (.string X))
  have HD4 := HD3
  have HT4 := HT3
  refine wpAnyN_rest 11 [_, _] rfl (by kernel_rfl) (by kernel_rfl) ?_
  go_wp2_with (simp only [hcl])
  go_end0
  exact ⟨rfl, HD4.out, HT4.out⟩

end Go.Proofs.YtpifhjdbcdcelaaDoor
