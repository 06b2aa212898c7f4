/-
  Package token: MustWord, and that it panics; the laws' first call.
-/
import Derived.Test.YtggdpmaomhmobaaGreatDoorTkT
import Derived.Recover
import Derived.Laws.Panics
namespace Go.Proofs.YtggdpmaomhmobaaGreatDoor
open Go.RowKit
set_option linter.unusedSimpArgs false
set_option linter.unusedVariables false
set_option maxRecDepth 100000

theorem tok_any {t : Tk} (h : t ≠ .no) (w : World) :
    Calls Tryz.prog 13 #[tkV t] w fun e w' => e = .returned (tokV t) ∧ Below w.heap.size w w' := by
  cases t with
  | no => exact absurd rfl h
  | word l => exact tok_word l w
  | code l => exact tok_code l w
  | tag l => exact tok_tag l w
  | auto u l => exact tok_auto u l w
  | run b n => exact tok_run b n w
  | mark l => exact tok_mark l w
  | brk b => exact tok_break b w
  | atom n => exact tok_atom n w

theorem isWord (v : Value) (W : World) : (Instr.typeAssert (.iface 42 v) 20 42 false).run Tryz.prog W = .ok v W := by kernel_rfl
theorem asserted_any (l : List UInt8) (w : World) :
    Calls Tryz.prog 19 #[tkV (.word l)] w fun e w' => e = .returned (.string ⟨l.toArray⟩) ∧ w = w' := by
  unfold tkV
  have y := fun v W => isWord v W
  go_enter Tryz.func19, Tryz.ntmps19
  go_wp2
  go_ret
  exact ⟨rfl, rfl⟩
theorem mustWord_any (l : List UInt8) (w : World) :
    Calls Tryz.prog 14 #[tkV (.word l)] w fun e w' => e = .returned (.string ⟨l.toArray⟩) ∧ w = w' := by
  have c := fun W => asserted_any l W
  generalize tkV (.word l) = v at *
  go_enter Tryz.func14, Tryz.ntmps14
  go_wp2_with (go_at_call 19; refine (c _).mono ?_; rintro e w' ⟨rfl, rfl⟩)
  go_ret
  exact ⟨rfl, rfl⟩

/-- An int is no Word: the assertion panics. -/
theorem tkDies (W : World) : ∃ u pv o, (Instr.typeAssert (.iface 3 (.int .i64 5)) 20 42 false).run Tryz.prog W = .halt (.panic (.iface u pv)) (W.alloc o) := by
  have e : (Instr.typeAssert (.iface 3 (.int .i64 5)) 20 42 false).run Tryz.prog W = ((runtimePanic (.typeAssertion (some 20) (some 3) 42 "") : Sem Value)).run Tryz.prog W := by kernel_rfl
  have e2 : ∀ W, (elemOf 15).run Tryz.prog W = .ok 142 W := fun W => by kernel_rfl
  rw [e]
  simp [runtimePanic, goPanic, go_sem]
  rw [show (elemOf 15).run Tryz.prog W = .ok 142 W from e2 W]
  exact ⟨_, _, _, rfl⟩
/-- A call that panics with some interface value, and leaves what lay. -/
def Dies (w : World) (e : Ending) (w' : World) : Prop := (∃ u pv, e = .panicked [{ v := .iface u pv, recovered := false }]) ∧ Below w.heap.size w w'
theorem asserted_dies (w : World) : Calls Tryz.prog 19 #[.iface 3 (.int .i64 5)] w (Dies w) := by
  obtain ⟨u, pv, o, h⟩ := tkDies w
  have HB := Lib.hid (show Below w.heap.size w (w.alloc o) from (Below.refl _ w).alloc (Nat.le_refl _) o)
  generalize w.alloc o = w1 at *
  go_enter Tryz.func19, Tryz.ntmps19
  go_wp2
  exact ⟨rfl, ⟨_, _, rfl⟩, HB.out⟩
theorem mustWord_dies (w : World) : Calls Tryz.prog 14 #[.iface 3 (.int .i64 5)] w (Dies w) := by
  have c := fun W => asserted_dies W
  go_enter Tryz.func14, Tryz.ntmps14
  go_wp2_with fail
  refine (c _).mono ?_
  rintro e w1 ⟨⟨u, pv, rfl⟩, b1⟩
  go_wp2
  exact ⟨rfl, ⟨_, _, rfl⟩, b1⟩
theorem tkCatch (b : Nat) (x : Bool) (u : TypeId) (pv : Value) (older : List PanicEntry) (w : World) (hc : w.cell? ⟨b, 0, none⟩ = some (.bool x)) (hz : w.frozen? ⟨b, 0, none⟩ = false) :
    CallsD Tryz.prog 23 #[.pointer (some ⟨b, 0, none⟩)] (.panicking ({ v := .iface u pv, recovered := false } :: older)) w fun e u' w' =>
      e = .returned (.tuple #[]) ∧ u' = .panicking ({ v := .iface u pv, recovered := true } :: older) ∧ w' = w.setCell ⟨b, 0, none⟩ (.bool true) := by
  refine callsD_of_wpS Tryz.func23 rfl fun c₀ cs hu => ?_
  apply wpS_region
  simp [wpOpsS, go_sem, recoverD, hu, Tryz.ntmps23, hc, hz, bodyPostS, results, Tryz.results23]

theorem panics_any (w : World) : Calls Tryz.prog 18 #[.iface 3 (.int .i64 5)] w fun e w' => e = .returned (.bool true) ∧ Below w.heap.size w w' := by
  have hmf : ∀ (fn : Fn) (first cap : Array Value) (w : World), (Instr.makeFunc fn first cap).run Tryz.prog w = .ok (.func fn first cap) w := fun _ _ _ _ => rfl
  have c := fun W => mustWord_dies W
  have HB0 := Lib.hid (show Below w.heap.size w (w.alloc (.cells #[.bool false] 4)) from (Below.refl _ w).alloc (Nat.le_refl _) _)
  have HZ0 := Lib.hid (oneAt_new w (.bool false) 4)
  go_enter_defers Tryz.func18, Tryz.ntmps18
  go_wp2_with fail
  refine (c _).mono ?_
  rintro e w1 ⟨⟨u, pv, rfl⟩, b1⟩
  have HB1 := Lib.hid (HB0.out.then b1)
  have hz1 := HZ0.out.below b1
  obtain ⟨k0, k1⟩ := hz1.cells
  have hset := hz1.set (.bool true)
  obtain ⟨k2, k3⟩ := hset.cells
  clear b1
  go_wp2
  refine leaves_cons (f := 23) (args := #[.pointer (some ⟨w.heap.size, 0, none⟩)]) (by simp) (by simp [go_sem]) ?_
  refine (tkCatch w.heap.size false u pv [] w1 k0 k1).mono ?_
  rintro e u' w'' ⟨rfl, rfl, rfl⟩
  have HB2 := Lib.hid (HB1.out.setCell (p := ⟨w.heap.size, 0, none⟩) (Nat.le_refl _) (.bool true))
  simp [Leaves, settle, results, Tryz.results18, go_sem, k2]
  exact HB2.out

end Go.Proofs.YtggdpmaomhmobaaGreatDoor
