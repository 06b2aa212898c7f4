/-
  Package line: margin, Blank: what each answers, in plain words.
-/
import Derived.Test.YtoleoigpijgboaaDoorLineP
import Derived.Test.YtoleoigpijgboaaDoorShelf
import Derived.WalkKit
import Derived.BigCall
import Derived.BigQuiet
import Derived.Deep.QuietTactic
import Derived.Lib.Hide
import Derived.Lib.OthersKept
namespace Go.Proofs.YtoleoigpijgboaaDoor
open Go.RowKit
set_option linter.unusedSimpArgs false
set_option linter.unusedVariables false

def MarginRel (s : ByteArray) (w : World) (I : Nat) (c : Value) (wr : World) : Prop :=
  ∃ k n : Nat, c = .int .i64 n ∧ k ≤ s.size ∧ n ≤ 4 * k ∧ wr.heap[I]? = some (.stringIter s k) ∧ Below w.heap.size w wr ∧ k + mSize (s.data.toList.drop k) = mSize s.data.toList ∧ mCols (s.data.toList.drop k) n = mCols s.data.toList 0

set_option maxHeartbeats 2000000 in
theorem margin_any (s : ByteArray) (w : World) (hs : s.size ≤ 140737488355328) :
    Calls Tryd.prog 26 #[.string s] w fun e w' => e = .returned (.tuple #[.int .i64 (mCols s.data.toList 0), .int .i64 (mSize s.data.toList)]) ∧ Below w.heap.size w w' := by
  go_enter Tryd.func26, Tryd.ntmps26
  go_wp2_with fail
  go_loopw [2] (fun c wr => MarginRel s w w.heap.size c wr) (fun _ wr => s.size - wr.iterPos w.heap.size)
  case atStart => exact ⟨0, 0, rfl, Nat.zero_le _, Nat.le_refl _, World.iter_heap w s 0, (Below.refl _ w).alloc (Nat.le_refl _) _, by simp, by simp⟩
  case round =>
    obtain ⟨k, n, rfl, hk, hn, hit, hbw, hsz, hcol⟩ := hrel
    by_cases hp : k < s.size
    · have hnx : ∀ ty, (Instr.next (.pointer (some ⟨w.heap.size, 0, none⟩)) true ty).run Tryd.prog wr = _ := fun ty => Lib.run_next_any_at wr w.heap.size s k ty hit hp
      have hit2 := Lib.iterAt_heap wr w.heap.size s k (k + (Utf8.decode s k).2) hit
      have hbw2 := Lib.below_iterAt hbw (k := w.heap.size) (by omega) s (k + (Utf8.decode s k).2)
      have Hit := Lib.hid hit
      have HS := Lib.hid hsz
      have HC := Lib.hid hcol
      have HL := Lib.hid (get_list s k hp)
      clear hit hbw hsz hcol
      by_cases hg : isGap s[k] = true
      · have hd : Utf8.decode s k = (s[k].toNat, 1) := decode_ascii s k hp (by simp [isGap] at hg; rcases hg with hg | hg <;> simp [hg])
        rw [hd] at hnx hit2 hbw2
        simp only at hnx hit2 hbw2
        have HG := Lib.hid hg
        clear hd
        by_cases h32 : s[k] = 32
        · have f32 : ((s[k].toNat : Int) == 32) = true := by simp [h32]
          have H3 := Lib.hid h32
          clear hg h32
          go_wp2
          go_roundw
          case rel =>
            refine ⟨k + 1, n + 1, by go_num, by omega, by omega, hit2, hbw2, ?_, ?_⟩
            · rw [← HS.out, HL.out, mSize_gap HG.out]; omega
            · rw [← HC.out, HL.out, mCols_sp H3.out]
          case measure => simp only [World.iterPos, hit2, Hit.out]; omega
        · have h9 : s[k] = 9 := by simp [isGap, h32] at hg; exact hg
          have f32 : ((s[k].toNat : Int) == 32) = false := by simp [h9]
          have f9 : ((s[k].toNat : Int) == 9) = true := by simp [h9]
          have H3 := Lib.hid h9
          clear hg h32 h9
          go_wp2
          go_roundw
          case rel =>
            refine ⟨k + 1, n + (4 - n % 4), by go_num, by omega, by omega, hit2, hbw2, ?_, ?_⟩
            · rw [← HS.out, HL.out, mSize_gap HG.out]; omega
            · rw [← HC.out, HL.out, mCols_tab H3.out]
          case measure => simp only [World.iterPos, hit2, Hit.out]; omega
      · have hg' : isGap s[k] = false := by simpa using hg
        have hr : ¬ (Utf8.decode s k).1 = 32 ∧ ¬ (Utf8.decode s k).1 = 9 := by
          by_cases ha : s[k].toNat < 128
          · rw [decode_ascii s k hp ha]
            simp [isGap] at hg'
            constructor
            · intro e; exact hg'.1 (by apply UInt8.toNat_inj.1; simpa using e)
            · intro e; exact hg'.2 (by apply UInt8.toNat_inj.1; simpa using e)
          · have := (decode_high s k hp (by omega)).1
            omega
        have HG := Lib.hid hg'
        have f32 : (((Utf8.decode s k).1 : Int) == 32) = false := by simp; omega
        have f9 : (((Utf8.decode s k).1 : Int) == 9) = false := by simp; omega
        clear hg hg' hr
        have HF := Lib.hid (show mSize s.data.toList = k ∧ mCols s.data.toList 0 = n from ⟨by rw [← HS.out, HL.out, mSize_other HG.out]; omega, by rw [← HC.out, HL.out, mCols_other HG.out]⟩)
        go_wp2
        go_ret2
        exact ⟨by rw [HF.out.1, HF.out.2]; rfl, hbw2⟩
    · have hnx : ∀ ty, (Instr.next (.pointer (some ⟨w.heap.size, 0, none⟩)) true ty).run Tryd.prog wr = _ := fun ty => Lib.run_next_end_at wr w.heap.size s k ty hit hp
      have e : s.data.toList.drop k = [] := List.drop_eq_nil_of_le (by simp; omega)
      rw [e] at hsz hcol
      have HF := Lib.hid (show mSize s.data.toList = s.size ∧ mCols s.data.toList 0 = n from ⟨by simp [mSize] at hsz; omega, hcol.symm⟩)
      clear e hsz hcol
      go_wp2
      go_ret2
      exact ⟨by rw [HF.out.1, HF.out.2]; rfl, hbw⟩

theorem blank_any (s : ByteArray) (w : World) (hs : s.size ≤ 35184372088832) :
    Calls Tryd.prog 22 #[.string s] w fun e w' => e = .returned (.bool (s.data.toList.all isGap)) ∧ Below w.heap.size w w' := by
  have hm := mSize_all s.data.toList
  have hb : s.data.toList.length = s.size := by simp
  have HM := Lib.hid hm
  have HB := Lib.hid hb
  clear hm hb
  go_enter Tryd.func22, Tryd.ntmps22
  go_wp2_with fail
  refine (margin_any s w (by omega)).mono ?_
  rintro e w1 ⟨rfl, b1⟩
  go_wp2
  all_goals go_ret
  exact ⟨ret_bool (by rw [Bool.eq_iff_iff, ← HM.out, HB.out]; simp; omega), b1⟩

end Go.Proofs.YtoleoigpijgboaaDoor
