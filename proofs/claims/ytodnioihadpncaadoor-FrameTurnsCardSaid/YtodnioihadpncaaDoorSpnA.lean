/-
  Package frame: beginsHeading, Heading, spanAt: what each answers, in plain words.
-/
import Derived.Test.YtodnioihadpncaaDoorFrmB
import Derived.Test.YtodnioihadpncaaDoorSpnP
namespace Go.Proofs.YtodnioihadpncaaDoor
open Go.RowKit
set_option linter.unusedSimpArgs false
set_option linter.unusedVariables false
set_option maxRecDepth 100000

def BegRel (s : ByteArray) (w : World) (I : Nat) (x y : Value) (wr : World) : Prop :=
  ∃ k bl sg : Nat, x = .int .i64 bl ∧ y = .int .i64 sg ∧ k ≤ s.size ∧ bl ≤ k ∧ sg ≤ k ∧ wr.heap[I]? = some (.stringIter s k) ∧ Below w.heap.size w wr ∧ begF bl sg (s.data.toList.drop k) = begF 0 0 s.data.toList

set_option maxHeartbeats 4000000 in
theorem beginsHeading_any (s : ByteArray) (w : World) (hs : s.size ≤ 140737488355328) :
    Calls Tryd.prog 30 #[.string s] w fun e w' => e = .returned (.bool (begF 0 0 s.data.toList)) ∧ Below w.heap.size w w' := by
  go_enter Tryd.func30, Tryd.ntmps30
  go_wp2_with fail
  go_loopw [3, 4] (fun x y wr => BegRel s w w.heap.size x y wr) (fun _ _ wr => s.size - wr.iterPos w.heap.size)
  case atStart => exact ⟨0, 0, 0, rfl, rfl, Nat.zero_le _, Nat.le_refl _, Nat.le_refl _, World.iter_heap w s 0, (Below.refl _ w).alloc (Nat.le_refl _) _, by simp⟩
  case round =>
    obtain ⟨k, bl, sg, rfl, rfl, hk, hbl, hsg, hit, hbw, hF⟩ := hrel
    by_cases hp : k < s.size
    · have hnx : ∀ ty, (Instr.next (.pointer (some ⟨w.heap.size, 0, none⟩)) true ty).run Tryd.prog wr = _ := fun ty => Lib.run_next_any_at wr w.heap.size s k ty hit hp
      have hit2 := Lib.iterAt_heap wr w.heap.size s k (k + (Utf8.decode s k).2) hit
      have hbw2 := Lib.below_iterAt hbw (k := w.heap.size) (by omega) s (k + (Utf8.decode s k).2)
      have Hit := Lib.hid hit
      rw [get_list s k hp, begF] at hF
      clear hit hbw
      by_cases h32 : s[k] = 32
      · have hd : Utf8.decode s k = (s[k].toNat, 1) := decode_ascii s k hp (by rw [h32]; decide)
        rw [hd] at hnx hit2 hbw2
        simp only at hnx hit2 hbw2
        have f32 : ((s[k].toNat : Int) == 32) = true := by simp [h32]
        rw [if_pos h32] at hF
        clear hd h32
        by_cases h0 : 0 < sg
        · rw [if_pos h0] at hF
          have f0 : decide ((0 : Int) < sg) = true := by simp; omega
          have HF := Lib.hid hF
          clear hF
          by_cases h3 : bl ≤ 3
          · have f3 : decide ((bl : Int) ≤ 3) = true := by simp; omega
            go_wp2
            all_goals go_ret
            all_goals exact ⟨ret_bool (by rw [← HF.out, Bool.eq_iff_iff]; simp; omega), hbw2⟩
          · have f3 : decide ((bl : Int) ≤ 3) = false := by simp; omega
            go_wp2
            all_goals go_ret
            all_goals exact ⟨ret_bool (by rw [← HF.out, Bool.eq_iff_iff]; simp; omega), hbw2⟩
        · obtain rfl : sg = 0 := by omega
          rw [if_neg (by omega)] at hF
          have HF := Lib.hid hF
          clear hF
          go_wp2
          go_roundw
          case rel => exact ⟨k + 1, bl + 1, 0, by go_num, rfl, by omega, by omega, by omega, hit2, hbw2, HF.out⟩
          case measure => simp only [World.iterPos, hit2, Hit.out]; omega
      · rw [if_neg h32] at hF
        by_cases h35 : s[k] = 35
        · have hd : Utf8.decode s k = (s[k].toNat, 1) := decode_ascii s k hp (by rw [h35]; decide)
          rw [hd] at hnx hit2 hbw2
          simp only at hnx hit2 hbw2
          have f32 : ((s[k].toNat : Int) == 32) = false := by simp [h35]
          have f35 : ((s[k].toNat : Int) == 35) = true := by simp [h35]
          rw [if_pos h35] at hF
          have HF := Lib.hid hF
          clear hd h32 h35 hF
          go_wp2
          go_roundw
          case rel => exact ⟨k + 1, bl, sg + 1, rfl, by go_num, by omega, by omega, by omega, hit2, hbw2, HF.out⟩
          case measure => simp only [World.iterPos, hit2, Hit.out]; omega
        · rw [if_neg h35] at hF
          have hr : ¬ (Utf8.decode s k).1 = 32 ∧ ¬ (Utf8.decode s k).1 = 35 := by
            by_cases ha : s[k].toNat < 128
            · rw [decode_ascii s k hp ha]
              constructor
              · intro e; exact h32 (by apply UInt8.toNat_inj.1; simpa using e)
              · intro e; exact h35 (by apply UInt8.toNat_inj.1; simpa using e)
            · have := (decode_high s k hp (by omega)).1
              omega
          have f32 : (((Utf8.decode s k).1 : Int) == 32) = false := by simp; omega
          have f35 : (((Utf8.decode s k).1 : Int) == 35) = false := by simp; omega
          have HF := Lib.hid hF
          clear hr h32 h35 hF
          go_wp2
          go_ret
          exact ⟨ret_bool HF.out, hbw2⟩
    · have hnx : ∀ ty, (Instr.next (.pointer (some ⟨w.heap.size, 0, none⟩)) true ty).run Tryd.prog wr = _ := fun ty => Lib.run_next_end_at wr w.heap.size s k ty hit hp
      have e : s.data.toList.drop k = [] := List.drop_eq_nil_of_le (by simp; omega)
      rw [e, begF] at hF
      have HF := Lib.hid hF
      clear e hF
      go_wp2
      go_ret
      exact ⟨ret_bool HF.out, hbw⟩

end Go.Proofs.YtodnioihadpncaaDoor
