/-
  The laws of the layer target: TargetEncodes: its walk.
-/
import Derived.Test.YtkldloglpbiioaaDoorTgtH
namespace Go.Proofs.YtkldloglpbiioaaDoor
open Go.RowKit
set_option linter.unusedSimpArgs false
set_option linter.unusedVariables false

theorem urlSign_is {b : UInt8} (h : urlSign b = true) : 32 < b.toNat ∧ b.toNat < 127 ∧ b.toNat ≠ 34 ∧ b.toNat ≠ 60 ∧ b.toNat ≠ 62 ∧ b.toNat ≠ 92 ∧ b.toNat ≠ 96 := by
  simp [urlSign] at h
  omega
def SignRel (E : ByteArray) (w : World) (i : Value) (wr : World) : Prop := ∃ k : Nat, i = .int .i64 k ∧ k ≤ E.size ∧ Below w.heap.size w wr

set_option maxHeartbeats 2000000 in
set_option maxRecDepth 100000 in
theorem targetEncodes_walk (w : World) (hn : TenIs w) (a0 : ByteArray) (w0 : a0.size ≤ maxLen) :
    Calls Tryd.prog 4 #[.string a0] w fun e w' => e = .returned (.bool true) ∧ Below w.heap.size w w' := by
  unfold maxLen at w0
  have ca := alive10_any w hn
  by_cases h : a0.size ≤ 200
  · have c1 := fun W => encode_any a0 W (by omega)
    have hl := encL_len a0.data.toList
    rw [show a0.data.toList.length = a0.size from by simp] at hl
    have HS := Lib.hid (encL_signs a0.data.toList)
    have h2 := encL_twice a0.data.toList
    generalize encL a0.data.toList = X at *
    have c2 := fun W => encode_any ⟨X.toArray⟩ W (by rw [str_size]; omega)
    rw [show (⟨X.toArray⟩ : ByteArray).data.toList = X from rfl, h2] at c2
    have HX := Lib.hid (show (⟨X.toArray⟩ : ByteArray).data.toList = X from rfl)
    have hz : (⟨X.toArray⟩ : ByteArray).size = X.length := str_size X
    have hz1 : a0.size ≤ (⟨X.toArray⟩ : ByteArray).size := by omega
    have hz2 : (⟨X.toArray⟩ : ByteArray).size ≤ 600 := by omega
    have C1 := Lib.hid c1
    have C2 := Lib.hid c2
    clear h2 hl hz hn c1 c2
    generalize (⟨X.toArray⟩ : ByteArray) = E at *
    have fe : (E.toList == E.toList) = true := by simp
    go_enter Tryd.func4, Tryd.ntmps4
    go_wp2_with fail
    refine ca.mono ?_
    rintro e w1 ⟨rfl, b1⟩
    go_wp2_with fail
    refine (C1.out _).mono ?_
    rintro e w2 ⟨rfl, b2⟩
    have q2 := b1.then b2
    go_wp2_with fail
    go_loopw [4] (fun i wr => SignRel E w i wr) (fun i _ => E.size - (intOf i).toNat)
    case atStart => exact ⟨0, rfl, Nat.zero_le _, q2⟩
    case round =>
      obtain ⟨k, rfl, hk, hbw⟩ := hrel
      by_cases hp : k < E.size
      · have hix := index_str E k k rfl hp
        obtain ⟨g1, g2, g3, g4, g5, g6, g7⟩ := urlSign_is (HS.out E[k] (by rw [← HX.out, List.mem_iff_getElem?]; exact ⟨k, by simp [hp]; rfl⟩)).1
        generalize E[k] = b at *
        have f3 : ((b.toNat : Int) == 34) = false := by simp; omega
        have f4 : ((b.toNat : Int) == 60) = false := by simp; omega
        have f5 : ((b.toNat : Int) == 62) = false := by simp; omega
        have f6 : ((b.toNat : Int) == 92) = false := by simp; omega
        have f7 : ((b.toNat : Int) == 96) = false := by simp; omega
        go_wp2
        go_roundw
        case rel => exact ⟨k + 1, by go_num, by omega, hbw⟩
        case measure => simp [intOf]; omega
      · obtain rfl : k = E.size := by omega
        go_wp2_with fail
        refine (C2.out _).mono ?_
        rintro e w3 ⟨rfl, b3⟩
        go_wp2
        go_ret
        exact ⟨rfl, hbw.trans (b3.mono hbw.size)⟩
  · clear hn
    go_enter Tryd.func4, Tryd.ntmps4
    go_wp2_with (go_at_call 9; refine ca.mono ?_; rintro e w1 ⟨rfl, b1⟩)
    go_ret
    exact ⟨rfl, b1⟩

end Go.Proofs.YtkldloglpbiioaaDoor
