/-
  The laws' first call.
-/
import Derived.Test.YtggdpmaomhmobaaGreatDoorTkU
import Derived.Test.YtggdpmaomhmobaaGreatDoorReg
namespace Go.Proofs.YtggdpmaomhmobaaGreatDoor
open Go.RowKit
set_option linter.unusedSimpArgs false
set_option linter.unusedVariables false
set_option maxRecDepth 100000

theorem alive_tokens : tokensL [97, 32, 42, 98] = [.word [97], .word [32], .run 42 1, .word [98]] := by decide +kernel
/-- A list of tokens that may be read. -/
def ToksAt (w : World) (b off : Nat) (ts : List Tk) : Prop := b < w.heap.size ∧ ∀ j (h : j < ts.length), w.cell? ⟨b, off + j, none⟩ = some (tkV ts[j])
theorem ToksAt.below {w w' : World} {b off : Nat} {ts : List Tk} (h : ToksAt w b off ts) (hb : Below w.heap.size w w') : ToksAt w' b off ts :=
  ⟨Nat.lt_of_lt_of_le h.1 hb.size, fun j hj => by rw [hb.cell (p := ⟨b, off + j, none⟩) h.1]; exact h.2 j hj⟩
theorem toks_of {w : World} {B : Nat} {v : Value} {ts : List Tk} (h : w.ownsRow B 20 1 v ts.length (tkVs ts)) (hne : ts ≠ []) : ∃ b off cap, v = .slice (some ⟨b, off, none⟩) ts.length cap ∧ ToksAt w b off ts := by
  obtain ⟨A, cap, rfl, hrow, _, _⟩ := RowOf.own h
  obtain ⟨b, off, rfl, hb, hc⟩ := hrow.at (by intro e; exact hne (List.map_eq_nil_iff.1 e))
  refine ⟨b, off, cap, rfl, hb, fun j hj => ?_⟩
  rw [hc j (by rw [tkVs_length]; exact hj)]
  simp [tkVs]

theorem tokF0 (a b c d : Value) (W : World) : (Instr.field 26 (.agg #[a, b, c, d]) 0).run Tryz.prog W = .ok a W := by kernel_rfl
theorem tokF1 (a b c d : Value) (W : World) : (Instr.field 26 (.agg #[a, b, c, d]) 1).run Tryz.prog W = .ok b W := by kernel_rfl
set_option maxHeartbeats 2000000 in
theorem alive12_any (w : World) (hw : TkW w) : Calls Tryz.prog 11 #[] w fun e w' => e = .returned (.bool true) ∧ Below w.heap.size w w' := by
  have c1 := all_tk ⟨#[97, 32, 42, 98]⟩ w hw (by decide)
  rw [show (⟨#[97, 32, 42, 98]⟩ : ByteArray).data.toList = [97, 32, 42, 98] from rfl, alive_tokens] at c1
  have t0 := fun W => tok_word [97] W
  have t1 := fun W => tok_word [32] W
  have t2 := fun W => tok_run 42 1 W
  have t3 := fun W => mustWord_any [98] W
  have t4 := fun W => panics_any W
  have key : ∀ w1 b off, ToksAt w1 b off [.word [97], .word [32], .run 42 1, .word [98]] → w1.cell? ⟨b, off, none⟩ = some (tkV (.word [97])) ∧ w1.cell? ⟨b, off + 1, none⟩ = some (tkV (.word [32])) ∧ w1.cell? ⟨b, off + 2, none⟩ = some (tkV (.run 42 1)) ∧ w1.cell? ⟨b, off + 3, none⟩ = some (tkV (.word [98])) :=
    fun w1 b off h => ⟨h.2 0 (by simp), h.2 1 (by simp), h.2 2 (by simp), h.2 3 (by simp)⟩
  unfold tokV at t0 t1 t2
  simp only [kindV, textTk, urlTk, numTk] at t0 t1 t2
  generalize tkV (.word [97]) = v0 at *
  generalize tkV (.word [32]) = v1 at *
  generalize tkV (.run 42 1) = v2 at *
  generalize tkV (.word [98]) = v3 at *
  have K := Lib.hid key
  have T0 := Lib.hid t0
  have T1 := Lib.hid t1
  have T2 := Lib.hid t2
  have T3 := Lib.hid t3
  have T4 := Lib.hid t4
  have q0 := fun a b c d W => tokF0 a b c d W
  have q1 := fun a b c d W => tokF1 a b c d W
  clear key t0 t1 t2 t3 t4 hw
  go_enter Tryz.func11, Tryz.ntmps11
  go_wp2_with fail
  refine c1.mono ?_
  rintro e w1 ⟨v, rfl, hown, b1⟩
  obtain ⟨b, off, cap, rfl, ht⟩ := toks_of hown (by simp)
  clear hown c1
  obtain ⟨d0, _, _, _⟩ := K.out w1 b off ht
  have HT1 := Lib.hid ht
  have HB1 := Lib.hid b1
  simp only [List.length_cons, List.length_nil]
  clear ht b1
  go_wp2_with fail
  refine (T0.out _).mono ?_
  rintro e w2 ⟨rfl, b2⟩
  have HT2 := Lib.hid (HT1.out.below b2)
  obtain ⟨_, d1, _, _⟩ := K.out w2 b off HT2.out
  have HB2 := Lib.hid (HB1.out.then b2)
  clear b2 d0
  go_wp2_with fail
  refine (T1.out _).mono ?_
  rintro e w3 ⟨rfl, b3⟩
  have HT3 := Lib.hid (HT2.out.below b3)
  obtain ⟨_, _, d2, _⟩ := K.out w3 b off HT3.out
  have HB3 := Lib.hid (HB2.out.then b3)
  clear b3 d1
  go_wp2_with fail
  refine (T2.out _).mono ?_
  rintro e w4 ⟨rfl, b4⟩
  have HT4 := Lib.hid (HT3.out.below b4)
  obtain ⟨_, _, _, d3⟩ := K.out w4 b off HT4.out
  have HB4 := Lib.hid (HB3.out.then b4)
  clear b4 d2
  go_wp2_with fail
  refine (T3.out _).mono ?_
  rintro e w5 ⟨rfl, rfl⟩
  go_wp2_with fail
  refine (T4.out _).mono ?_
  rintro e w6 ⟨rfl, b6⟩
  go_wp2
  go_ret
  exact ⟨rfl, HB4.out.then b6⟩

end Go.Proofs.YtggdpmaomhmobaaGreatDoor
