/-
  The laws' plain tokens: tok.
-/
import Derived.Test.YtggdpmaomhmobaaGreatDoorTkO
import Derived.Laws.ResultCell
import Derived.Test.YtggdpmaomhmobaaGreatDoorCvB
namespace Go.Proofs.YtggdpmaomhmobaaGreatDoor
open Go.RowKit
set_option linter.unusedSimpArgs false
set_option linter.unusedVariables false
set_option maxRecDepth 100000

def textTk : Tk → List UInt8
  | .word l => l
  | .code l => l
  | .tag l => l
  | .auto _ t => t
  | .run b _ => [b]
  | .mark l => l
  | _ => []
def urlTk : Tk → List UInt8
  | .auto u _ => u
  | _ => []
def numTk : Tk → Int
  | .run _ n => n
  | .brk true => 1
  | .atom n => n
  | _ => 0
def kindV : Tk → Int
  | .no => 0
  | .word _ => 119
  | .code _ => 99
  | .tag _ => 116
  | .auto _ _ => 97
  | .run _ _ => 114
  | .mark _ => 109
  | .brk _ => 98
  | .atom _ => 120
/-- A plain token, as a value. -/
def tokV (t : Tk) : Value := .agg #[.int .u8 (kindV t), .string ⟨(textTk t).toArray⟩, .string ⟨(urlTk t).toArray⟩, .int .i64 (numTk t)]

theorem results_cell_tok {fn : Func} {p : Tmp} {ty : TypeId} (h : fn.results = #[.cell p ty]) (tmps : Array Value) (P : Program) (w : World) :
    (results fn tmps).run P w = ((asAddr (tmps.getD p undef)).run P w).andThen fun a w₁ => (loadVar ty a).run P w₁ := by
  simp only [results, h]
  simp [Sem.run_bind, Result.andThen]
theorem asWord (v : Value) (W : World) : (Instr.typeAssert (.iface 42 v) 20 42 true).run Tryz.prog W = .ok (.tuple #[v, .bool true]) W := by kernel_rfl
theorem zeroWord (W : World) : (do pure (Value.tuple #[← zeroValue 42, .bool false]) : Sem Value).run Tryz.prog W = .ok (.tuple #[.string ⟨#[]⟩, .bool false]) W := by kernel_rfl
theorem noWord (u : TypeId) (h : u ≠ 42) (v : Value) (W : World) : (Instr.typeAssert (.iface u v) 20 42 true).run Tryz.prog W = .ok (.tuple #[.string ⟨#[]⟩, .bool false]) W := by
  have e : (Instr.typeAssert (.iface u v) 20 42 true).run Tryz.prog W = (if u = 42 then (pure (Value.tuple #[v, .bool true]) : Sem Value) else (do pure (Value.tuple #[← zeroValue 42, .bool false]))).run Tryz.prog W := by kernel_rfl
  rw [e, if_neg h]
  exact zeroWord W
theorem asCode (v : Value) (W : World) : (Instr.typeAssert (.iface 43 v) 20 43 true).run Tryz.prog W = .ok (.tuple #[v, .bool true]) W := by kernel_rfl
theorem zeroCode (W : World) : (do pure (Value.tuple #[← zeroValue 43, .bool false]) : Sem Value).run Tryz.prog W = .ok (.tuple #[.string ⟨#[]⟩, .bool false]) W := by kernel_rfl
theorem noCode (u : TypeId) (h : u ≠ 43) (v : Value) (W : World) : (Instr.typeAssert (.iface u v) 20 43 true).run Tryz.prog W = .ok (.tuple #[.string ⟨#[]⟩, .bool false]) W := by
  have e : (Instr.typeAssert (.iface u v) 20 43 true).run Tryz.prog W = (if u = 43 then (pure (Value.tuple #[v, .bool true]) : Sem Value) else (do pure (Value.tuple #[← zeroValue 43, .bool false]))).run Tryz.prog W := by kernel_rfl
  rw [e, if_neg h]
  exact zeroCode W
theorem asTag (v : Value) (W : World) : (Instr.typeAssert (.iface 44 v) 20 44 true).run Tryz.prog W = .ok (.tuple #[v, .bool true]) W := by kernel_rfl
theorem zeroTag (W : World) : (do pure (Value.tuple #[← zeroValue 44, .bool false]) : Sem Value).run Tryz.prog W = .ok (.tuple #[.string ⟨#[]⟩, .bool false]) W := by kernel_rfl
theorem noTag (u : TypeId) (h : u ≠ 44) (v : Value) (W : World) : (Instr.typeAssert (.iface u v) 20 44 true).run Tryz.prog W = .ok (.tuple #[.string ⟨#[]⟩, .bool false]) W := by
  have e : (Instr.typeAssert (.iface u v) 20 44 true).run Tryz.prog W = (if u = 44 then (pure (Value.tuple #[v, .bool true]) : Sem Value) else (do pure (Value.tuple #[← zeroValue 44, .bool false]))).run Tryz.prog W := by kernel_rfl
  rw [e, if_neg h]
  exact zeroTag W
theorem asAuto (v : Value) (W : World) : (Instr.typeAssert (.iface 46 v) 20 46 true).run Tryz.prog W = .ok (.tuple #[v, .bool true]) W := by kernel_rfl
theorem zeroAuto (W : World) : (do pure (Value.tuple #[← zeroValue 46, .bool false]) : Sem Value).run Tryz.prog W = .ok (.tuple #[.agg #[.string ⟨#[]⟩, .string ⟨#[]⟩], .bool false]) W := by kernel_rfl
theorem noAuto (u : TypeId) (h : u ≠ 46) (v : Value) (W : World) : (Instr.typeAssert (.iface u v) 20 46 true).run Tryz.prog W = .ok (.tuple #[.agg #[.string ⟨#[]⟩, .string ⟨#[]⟩], .bool false]) W := by
  have e : (Instr.typeAssert (.iface u v) 20 46 true).run Tryz.prog W = (if u = 46 then (pure (Value.tuple #[v, .bool true]) : Sem Value) else (do pure (Value.tuple #[← zeroValue 46, .bool false]))).run Tryz.prog W := by kernel_rfl
  rw [e, if_neg h]
  exact zeroAuto W
theorem asRun (v : Value) (W : World) : (Instr.typeAssert (.iface 48 v) 20 48 true).run Tryz.prog W = .ok (.tuple #[v, .bool true]) W := by kernel_rfl
theorem zeroRun (W : World) : (do pure (Value.tuple #[← zeroValue 48, .bool false]) : Sem Value).run Tryz.prog W = .ok (.tuple #[.agg #[.int .u8 0, .int .i64 0], .bool false]) W := by kernel_rfl
theorem noRun (u : TypeId) (h : u ≠ 48) (v : Value) (W : World) : (Instr.typeAssert (.iface u v) 20 48 true).run Tryz.prog W = .ok (.tuple #[.agg #[.int .u8 0, .int .i64 0], .bool false]) W := by
  have e : (Instr.typeAssert (.iface u v) 20 48 true).run Tryz.prog W = (if u = 48 then (pure (Value.tuple #[v, .bool true]) : Sem Value) else (do pure (Value.tuple #[← zeroValue 48, .bool false]))).run Tryz.prog W := by kernel_rfl
  rw [e, if_neg h]
  exact zeroRun W
theorem asMark (v : Value) (W : World) : (Instr.typeAssert (.iface 50 v) 20 50 true).run Tryz.prog W = .ok (.tuple #[v, .bool true]) W := by kernel_rfl
theorem zeroMark (W : World) : (do pure (Value.tuple #[← zeroValue 50, .bool false]) : Sem Value).run Tryz.prog W = .ok (.tuple #[.agg #[.string ⟨#[]⟩], .bool false]) W := by kernel_rfl
theorem noMark (u : TypeId) (h : u ≠ 50) (v : Value) (W : World) : (Instr.typeAssert (.iface u v) 20 50 true).run Tryz.prog W = .ok (.tuple #[.agg #[.string ⟨#[]⟩], .bool false]) W := by
  have e : (Instr.typeAssert (.iface u v) 20 50 true).run Tryz.prog W = (if u = 50 then (pure (Value.tuple #[v, .bool true]) : Sem Value) else (do pure (Value.tuple #[← zeroValue 50, .bool false]))).run Tryz.prog W := by kernel_rfl
  rw [e, if_neg h]
  exact zeroMark W
theorem asBreak (v : Value) (W : World) : (Instr.typeAssert (.iface 52 v) 20 52 true).run Tryz.prog W = .ok (.tuple #[v, .bool true]) W := by kernel_rfl
theorem zeroBreak (W : World) : (do pure (Value.tuple #[← zeroValue 52, .bool false]) : Sem Value).run Tryz.prog W = .ok (.tuple #[.agg #[.bool false], .bool false]) W := by kernel_rfl
theorem noBreak (u : TypeId) (h : u ≠ 52) (v : Value) (W : World) : (Instr.typeAssert (.iface u v) 20 52 true).run Tryz.prog W = .ok (.tuple #[.agg #[.bool false], .bool false]) W := by
  have e : (Instr.typeAssert (.iface u v) 20 52 true).run Tryz.prog W = (if u = 52 then (pure (Value.tuple #[v, .bool true]) : Sem Value) else (do pure (Value.tuple #[← zeroValue 52, .bool false]))).run Tryz.prog W := by kernel_rfl
  rw [e, if_neg h]
  exact zeroBreak W
theorem asAtom (v : Value) (W : World) : (Instr.typeAssert (.iface 54 v) 20 54 true).run Tryz.prog W = .ok (.tuple #[v, .bool true]) W := by kernel_rfl
theorem zeroAtom (W : World) : (do pure (Value.tuple #[← zeroValue 54, .bool false]) : Sem Value).run Tryz.prog W = .ok (.tuple #[.agg #[.int .i64 0], .bool false]) W := by kernel_rfl
theorem noAtom (u : TypeId) (h : u ≠ 54) (v : Value) (W : World) : (Instr.typeAssert (.iface u v) 20 54 true).run Tryz.prog W = .ok (.tuple #[.agg #[.int .i64 0], .bool false]) W := by
  have e : (Instr.typeAssert (.iface u v) 20 54 true).run Tryz.prog W = (if u = 54 then (pure (Value.tuple #[v, .bool true]) : Sem Value) else (do pure (Value.tuple #[← zeroValue 54, .bool false]))).run Tryz.prog W := by kernel_rfl
  rw [e, if_neg h]
  exact zeroAtom W
set_option maxHeartbeats 2000000 in
theorem tok_word (l : List UInt8) (w : World) :
    Calls Tryz.prog 13 #[tkV (.word l)] w fun e w' => e = .returned (tokV (.word l)) ∧ Below w.heap.size w w' := by
  unfold tkV
  have y := fun v W => asWord v W
  go_enter Tryz.func13, Tryz.ntmps13
  go_wp2
  (try simp only [Exit.inBlock, Exit.then])
  refine bodyPost_ret (v := tokV (.word l)) ?_ rfl ⟨rfl, ((Below.refl _ w).alloc (Nat.le_refl _) _)⟩
  rw [results_cell_tok rfl]
  unfold tokV
  go_simp
  (try simp [kindV, textTk, urlTk, numTk])
set_option maxHeartbeats 2000000 in
theorem tok_code (l : List UInt8) (w : World) :
    Calls Tryz.prog 13 #[tkV (.code l)] w fun e w' => e = .returned (tokV (.code l)) ∧ Below w.heap.size w w' := by
  unfold tkV
  have n0 := fun v W => noWord 43 (by decide) v W
  have y := fun v W => asCode v W
  go_enter Tryz.func13, Tryz.ntmps13
  go_wp2
  (try simp only [Exit.inBlock, Exit.then])
  refine bodyPost_ret (v := tokV (.code l)) ?_ rfl ⟨rfl, ((Below.refl _ w).alloc (Nat.le_refl _) _)⟩
  rw [results_cell_tok rfl]
  unfold tokV
  go_simp
  (try simp [kindV, textTk, urlTk, numTk])
set_option maxHeartbeats 2000000 in
theorem tok_tag (l : List UInt8) (w : World) :
    Calls Tryz.prog 13 #[tkV (.tag l)] w fun e w' => e = .returned (tokV (.tag l)) ∧ Below w.heap.size w w' := by
  unfold tkV
  have n0 := fun v W => noWord 44 (by decide) v W
  have n1 := fun v W => noCode 44 (by decide) v W
  have y := fun v W => asTag v W
  go_enter Tryz.func13, Tryz.ntmps13
  go_wp2
  (try simp only [Exit.inBlock, Exit.then])
  refine bodyPost_ret (v := tokV (.tag l)) ?_ rfl ⟨rfl, ((Below.refl _ w).alloc (Nat.le_refl _) _)⟩
  rw [results_cell_tok rfl]
  unfold tokV
  go_simp
  (try simp [kindV, textTk, urlTk, numTk])
set_option maxHeartbeats 2000000 in
theorem tok_auto (u l : List UInt8) (w : World) :
    Calls Tryz.prog 13 #[tkV (.auto u l)] w fun e w' => e = .returned (tokV (.auto u l)) ∧ Below w.heap.size w w' := by
  unfold tkV
  have n0 := fun v W => noWord 46 (by decide) v W
  have n1 := fun v W => noCode 46 (by decide) v W
  have n2 := fun v W => noTag 46 (by decide) v W
  have y := fun v W => asAuto v W
  go_enter Tryz.func13, Tryz.ntmps13
  go_wp2
  (try simp only [Exit.inBlock, Exit.then])
  refine bodyPost_ret (v := tokV (.auto u l)) ?_ rfl ⟨rfl, (((Below.refl _ w).alloc (Nat.le_refl _) _).alloc (by simp) _)⟩
  rw [results_cell_tok rfl]
  unfold tokV
  go_simp
  (try simp [kindV, textTk, urlTk, numTk])
set_option maxHeartbeats 2000000 in
theorem tok_run (b : UInt8) (n : Nat) (w : World) :
    Calls Tryz.prog 13 #[tkV (.run b n)] w fun e w' => e = .returned (tokV (.run b n)) ∧ Below w.heap.size w w' := by
  unfold tkV
  have n0 := fun v W => noWord 48 (by decide) v W
  have n1 := fun v W => noCode 48 (by decide) v W
  have n2 := fun v W => noTag 48 (by decide) v W
  have n3 := fun v W => noAuto 48 (by decide) v W
  have y := fun v W => asRun v W
  have hcv := conv_u8 b (((w.alloc (.cells #[.int .u8 0, .string ⟨#[]⟩, .string ⟨#[]⟩, .int .i64 0] 26)).alloc (.cells #[.int .u8 b.toNat, .int .i64 n] 48)))
  simp only [alloc_size] at hcv
  go_enter Tryz.func13, Tryz.ntmps13
  go_wp2
  (try simp only [Exit.inBlock, Exit.then])
  refine bodyPost_ret (v := tokV (.run b n)) ?_ rfl ⟨rfl, ((((Below.refl _ w).alloc (Nat.le_refl _) _).alloc (by simp) _).alloc (by simp <;> omega) _)⟩
  rw [results_cell_tok rfl]
  unfold tokV
  go_simp
  (try simp [kindV, textTk, urlTk, numTk])
set_option maxHeartbeats 2000000 in
theorem tok_mark (l : List UInt8) (w : World) :
    Calls Tryz.prog 13 #[tkV (.mark l)] w fun e w' => e = .returned (tokV (.mark l)) ∧ Below w.heap.size w w' := by
  unfold tkV
  have n0 := fun v W => noWord 50 (by decide) v W
  have n1 := fun v W => noCode 50 (by decide) v W
  have n2 := fun v W => noTag 50 (by decide) v W
  have n3 := fun v W => noAuto 50 (by decide) v W
  have n4 := fun v W => noRun 50 (by decide) v W
  have y := fun v W => asMark v W
  go_enter Tryz.func13, Tryz.ntmps13
  go_wp2
  (try simp only [Exit.inBlock, Exit.then])
  refine bodyPost_ret (v := tokV (.mark l)) ?_ rfl ⟨rfl, (((Below.refl _ w).alloc (Nat.le_refl _) _).alloc (by simp) _)⟩
  rw [results_cell_tok rfl]
  unfold tokV
  go_simp
  (try simp [kindV, textTk, urlTk, numTk])
set_option maxHeartbeats 2000000 in
theorem tok_break (h : Bool) (w : World) :
    Calls Tryz.prog 13 #[tkV (.brk h)] w fun e w' => e = .returned (tokV (.brk h)) ∧ Below w.heap.size w w' := by
  unfold tkV
  cases h
  all_goals
    have n0 := fun v W => noWord 52 (by decide) v W
    have n1 := fun v W => noCode 52 (by decide) v W
    have n2 := fun v W => noTag 52 (by decide) v W
    have n3 := fun v W => noAuto 52 (by decide) v W
    have n4 := fun v W => noRun 52 (by decide) v W
    have n5 := fun v W => noMark 52 (by decide) v W
    have y := fun v W => asBreak v W
    go_enter Tryz.func13, Tryz.ntmps13
    go_wp2
    (try simp only [Exit.inBlock, Exit.then])
    refine bodyPost_ret (v := tokV (.brk _)) ?_ rfl ⟨rfl, (((Below.refl _ w).alloc (Nat.le_refl _) _).alloc (by simp) _)⟩
    rw [results_cell_tok rfl]
    unfold tokV
    go_simp
    (try simp [kindV, textTk, urlTk, numTk])
set_option maxHeartbeats 2000000 in
theorem tok_atom (n : Int) (w : World) :
    Calls Tryz.prog 13 #[tkV (.atom n)] w fun e w' => e = .returned (tokV (.atom n)) ∧ Below w.heap.size w w' := by
  unfold tkV
  have n0 := fun v W => noWord 54 (by decide) v W
  have n1 := fun v W => noCode 54 (by decide) v W
  have n2 := fun v W => noTag 54 (by decide) v W
  have n3 := fun v W => noAuto 54 (by decide) v W
  have n4 := fun v W => noRun 54 (by decide) v W
  have n5 := fun v W => noMark 54 (by decide) v W
  have n6 := fun v W => noBreak 54 (by decide) v W
  have y := fun v W => asAtom v W
  go_enter Tryz.func13, Tryz.ntmps13
  go_wp2
  (try simp only [Exit.inBlock, Exit.then])
  refine bodyPost_ret (v := tokV (.atom n)) ?_ rfl ⟨rfl, (((Below.refl _ w).alloc (Nat.le_refl _) _).alloc (by simp) _)⟩
  rw [results_cell_tok rfl]
  unfold tokV
  go_simp
  (try simp [kindV, textTk, urlTk, numTk])

end Go.Proofs.YtggdpmaomhmobaaGreatDoor
