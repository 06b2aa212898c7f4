/-
  Package line: margin and pad: what each answers, in plain words.
-/
import Derived.Test.YtkhmlnhfmlckdaaLineP
import Derived.Test.YtkhmlnhfmlckdaaShelf
import Derived.WalkKit
import Derived.BigCall
import Derived.BigQuiet
import Derived.Deep.QuietTactic
import Derived.Lib.Hide
import Derived.Lib.OthersKept
namespace Go.Proofs.Ytkhmlnhfmlckdaa
open Go.RowKit
set_option linter.unusedSimpArgs false
set_option linter.unusedVariables false

theorem ret_bool {a b : Bool} (h : a = b) : Ending.returned (.bool a) = .returned (.bool b) := by rw [h]
/-- One call behind another one. -/
theorem _root_.Go.RowKit.Below.then {w w1 w2 : World} (h : Below w.heap.size w w1) (k : Below w1.heap.size w1 w2) : Below w.heap.size w w2 := h.trans (k.mono h.size)
def MarginRel (s : ByteArray) (w : World) (I : Nat) (c : Value) (wr : World) : Prop :=
  ∃ k n : Nat, c = .int .i64 n ∧ k ≤ s.size ∧ n ≤ 4 * k ∧ wr.heap[I]? = some (.stringIter s k) ∧ Below w.heap.size w wr ∧ k + mSize (s.data.toList.drop k) = mSize s.data.toList ∧ mCols (s.data.toList.drop k) n = mCols s.data.toList 0

theorem get_list (s : ByteArray) (k : Nat) (h : k < s.size) : s.data.toList.drop k = s[k] :: s.data.toList.drop (k + 1) := by
  rw [drop_byte _ _ (by simpa using h)]
  rfl

set_option maxHeartbeats 2000000 in
theorem margin_any (s : ByteArray) (w : World) (hs : s.size ≤ 140737488355328) :
    Calls Try.prog 31 #[.string s] w fun e w' => e = .returned (.tuple #[.int .i64 (mCols s.data.toList 0), .int .i64 (mSize s.data.toList)]) ∧ Below w.heap.size w w' := by
  go_enter Try.func31, Try.ntmps31
  go_wp2_with fail
  go_loopw [2] (fun c wr => MarginRel s w w.heap.size c wr) (fun _ wr => s.size - wr.iterPos w.heap.size)
  case atStart => exact ⟨0, 0, rfl, Nat.zero_le _, Nat.le_refl _, World.iter_heap w s 0, (Below.refl _ w).alloc (Nat.le_refl _) _, by simp, by simp⟩
  case round =>
    obtain ⟨k, n, rfl, hk, hn, hit, hbw, hsz, hcol⟩ := hrel
    by_cases hp : k < s.size
    · have hnx : ∀ ty, (Instr.next (.pointer (some ⟨w.heap.size, 0, none⟩)) true ty).run Try.prog wr = _ := fun ty => Lib.run_next_any_at wr w.heap.size s k ty hit hp
      have hit2 := Lib.iterAt_heap wr w.heap.size s k (k + (Utf8.decode s k).2) hit
      have hbw2 := Lib.below_iterAt hbw (k := w.heap.size) (by omega) s (k + (Utf8.decode s k).2)
      have Hit := Lib.hid hit
      have HS := Lib.hid hsz
      have HC := Lib.hid hcol
      have HL := Lib.hid (get_list s k hp)
      clear hit hbw hsz hcol
      by_cases hg : isGap s[k] = true
      · have hd : Utf8.decode s k = (s[k].toNat, 1) := decode_ascii s k hp (by simp [isGap] at hg; rcases hg with hg | hg <;> simp [hg])
        rw [hd] at hnx hit2 hbw2
        simp only at hnx hit2 hbw2
        have HG := Lib.hid hg
        clear hd
        by_cases h32 : s[k] = 32
        · have f32 : ((s[k].toNat : Int) == 32) = true := by simp [h32]
          have H3 := Lib.hid h32
          clear hg h32
          go_wp2
          go_roundw
          case rel =>
            refine ⟨k + 1, n + 1, by go_num, by omega, by omega, hit2, hbw2, ?_, ?_⟩
            · rw [← HS.out, HL.out, mSize_gap HG.out]; omega
            · rw [← HC.out, HL.out, mCols_sp H3.out]
          case measure => simp only [World.iterPos, hit2, Hit.out]; omega
        · have h9 : s[k] = 9 := by simp [isGap, h32] at hg; exact hg
          have f32 : ((s[k].toNat : Int) == 32) = false := by simp [h9]
          have f9 : ((s[k].toNat : Int) == 9) = true := by simp [h9]
          have H3 := Lib.hid h9
          clear hg h32 h9
          go_wp2
          go_roundw
          case rel =>
            refine ⟨k + 1, n + (4 - n % 4), by go_num, by omega, by omega, hit2, hbw2, ?_, ?_⟩
            · rw [← HS.out, HL.out, mSize_gap HG.out]; omega
            · rw [← HC.out, HL.out, mCols_tab H3.out]
          case measure => simp only [World.iterPos, hit2, Hit.out]; omega
      · have hg' : isGap s[k] = false := by simpa using hg
        have hr : ¬ (Utf8.decode s k).1 = 32 ∧ ¬ (Utf8.decode s k).1 = 9 := by
          by_cases ha : s[k].toNat < 128
          · rw [decode_ascii s k hp ha]
            simp [isGap] at hg'
            constructor
            · intro e; exact hg'.1 (by apply UInt8.toNat_inj.1; simpa using e)
            · intro e; exact hg'.2 (by apply UInt8.toNat_inj.1; simpa using e)
          · have := (decode_high s k hp (by omega)).1
            omega
        have HG := Lib.hid hg'
        have f32 : (((Utf8.decode s k).1 : Int) == 32) = false := by simp; omega
        have f9 : (((Utf8.decode s k).1 : Int) == 9) = false := by simp; omega
        clear hg hg' hr
        have HF := Lib.hid (show mSize s.data.toList = k ∧ mCols s.data.toList 0 = n from ⟨by rw [← HS.out, HL.out, mSize_other HG.out]; omega, by rw [← HC.out, HL.out, mCols_other HG.out]⟩)
        go_wp2
        go_ret2
        exact ⟨by rw [HF.out.1, HF.out.2]; rfl, hbw2⟩
    · have hnx : ∀ ty, (Instr.next (.pointer (some ⟨w.heap.size, 0, none⟩)) true ty).run Try.prog wr = _ := fun ty => Lib.run_next_end_at wr w.heap.size s k ty hit hp
      have e : s.data.toList.drop k = [] := List.drop_eq_nil_of_le (by simp; omega)
      rw [e] at hsz hcol
      have HF := Lib.hid (show mSize s.data.toList = s.size ∧ mCols s.data.toList 0 = n from ⟨by simp [mSize] at hsz; omega, hcol.symm⟩)
      clear e hsz hcol
      go_wp2
      go_ret2
      exact ⟨by rw [HF.out.1, HF.out.2]; rfl, hbw⟩

def spaces (n : Nat) : List UInt8 := List.replicate n 32
theorem repeat_spaces (n : Nat) : Lib.repeatL [32] n = spaces n := by
  unfold spaces
  induction n with
  | zero => rfl
  | succ n ih => rw [List.replicate_succ, ← ih]; simp [Lib.repeatL]

theorem spaces_length (n : Nat) : (spaces n).length = n := by simp [spaces]
theorem rep_any (n : Int) (w : World) (h0 : 0 ≤ n) (hn : n ≤ 140737488355328) :
    Calls Try.prog 67 #[.string ⟨#[32]⟩, .int .i64 n] w fun e w' => e = .returned (.string ⟨(spaces n.toNat).toArray⟩) ∧ Below w.heap.size w w' := by
  have hr := Try.strings_Repeat ⟨#[32]⟩ n.toNat w (by omega) (by show 1 * n.toNat ≤ _; omega)
  have e1 : ((⟨#[32]⟩ : ByteArray)).data.toList = [32] := rfl
  rw [e1, repeat_spaces, show ((n.toNat : Nat) : Int) = n from by omega] at hr
  exact hr

theorem str_append (l : List UInt8) (s : ByteArray) : (⟨l.toArray⟩ : ByteArray) ++ s = ⟨(l ++ s.data.toList).toArray⟩ := by
  apply ByteArray.ext
  apply Array.ext'
  simp

theorem str_size (l : List UInt8) : (⟨l.toArray⟩ : ByteArray).size = l.length := by show l.toArray.size = _; simp
theorem ret_string {a b : ByteArray} (h : a = b) : Ending.returned (.string a) = .returned (.string b) := by rw [h]

theorem pad_any (n : Int) (s : ByteArray) (w : World) (hn : n ≤ 140737488355328) (hs : s.size ≤ 140737488355328) :
    Calls Try.prog 33 #[.int .i64 n, .string s] w fun e w' => e = .returned (.string ⟨(spaces n.toNat ++ s.data.toList).toArray⟩) ∧ Below w.heap.size w w' := by
  have HT := Lib.hid (show (max n 0).toNat = n.toNat from by omega)
  have hl := spaces_length (max n 0).toNat
  have hz := str_size (spaces (max n 0).toNat)
  have HE := Lib.hid (str_append (spaces (max n 0).toNat) s)
  have hr := rep_any (max n 0) w (by omega) (by omega)
  generalize hB : (⟨(spaces (max n 0).toNat).toArray⟩ : ByteArray) = B at *
  have hB2 : B.size ≤ 140737488355328 := by omega
  have HB := Lib.hid hB
  clear hz hl hB
  go_enter Try.func33, Try.ntmps33
  go_wp2_with fail
  refine hr.mono ?_
  rintro e w1 ⟨rfl, b1⟩
  go_wp2
  go_ret
  exact ⟨ret_string (by rw [← HT.out]; exact HE.out), b1⟩

/-- A line as Expand tells it; without its first n blanks. -/
def stripL (l : List UInt8) (n : Nat) : List UInt8 := spaces (mCols l 0 - n) ++ l.drop (mSize l)
def expandL (l : List UInt8) : List UInt8 := stripL l 0

theorem indent_any (s : ByteArray) (w : World) (hs : s.size ≤ 35184372088832) :
    Calls Try.prog 22 #[.string s] w fun e w' => e = .returned (.int .i64 (mCols s.data.toList 0)) ∧ Below w.heap.size w w' := by
  go_enter Try.func22, Try.ntmps22
  go_wp2_with fail
  refine (margin_any s w (by omega)).mono ?_
  rintro e w1 ⟨rfl, b1⟩
  go_wp2
  go_ret
  exact ⟨rfl, b1⟩

theorem blank_any (s : ByteArray) (w : World) (hs : s.size ≤ 35184372088832) :
    Calls Try.prog 18 #[.string s] w fun e w' => e = .returned (.bool (s.data.toList.all isGap)) ∧ Below w.heap.size w w' := by
  have hm := mSize_all s.data.toList
  have hb : s.data.toList.length = s.size := by simp
  have HM := Lib.hid hm
  have HB := Lib.hid hb
  clear hm hb
  go_enter Try.func18, Try.ntmps18
  go_wp2_with fail
  refine (margin_any s w (by omega)).mono ?_
  rintro e w1 ⟨rfl, b1⟩
  go_wp2
  all_goals go_ret
  exact ⟨ret_bool (by rw [Bool.eq_iff_iff, ← HM.out, HB.out]; simp; omega), b1⟩

theorem drop_str (s : ByteArray) (k : Nat) : List.take (s.size - k) (List.drop k s.data.toList) = s.data.toList.drop k := List.take_of_length_le (by simp)

theorem strip_any (s : ByteArray) (n : Int) (w : World) (hs : s.size ≤ 35184372088832) (hn : n ≤ 9223372036854775807) :
    Calls Try.prog 24 #[.string s, .int .i64 n] w fun e w' => e = .returned (.string ⟨(stripL s.data.toList n.toNat).toArray⟩) ∧ Below w.heap.size w w' := by
  have h1 := mSize_le s.data.toList
  have h2 := mCols_le s.data.toList 0
  have hb : s.data.toList.length = s.size := by simp
  rw [hb] at h1
  clear hb
  go_enter Try.func24, Try.ntmps24
  go_wp2_with fail
  refine (margin_any s w (by omega)).mono ?_
  rintro e w1 ⟨rfl, b1⟩
  go_wp2_with fail
  have hx : (s.extract (mSize s.data.toList) s.size).size ≤ 140737488355328 := by rw [ByteArray.size_extract]; omega
  refine (pad_any _ _ w1 (by omega) hx).mono ?_
  rintro e w2 ⟨rfl, b2⟩
  go_wp2
  go_ret
  exact ⟨ret_string (by rw [drop_str, stripL, show ((mCols s.data.toList 0 : Int) - max n 0).toNat = mCols s.data.toList 0 - n.toNat from by omega]), b1.trans (b2.mono b1.size)⟩

theorem expand_any (s : ByteArray) (w : World) (hs : s.size ≤ 35184372088832) :
    Calls Try.prog 20 #[.string s] w fun e w' => e = .returned (.string ⟨(expandL s.data.toList).toArray⟩) ∧ Below w.heap.size w w' := by
  have h1 := mSize_le s.data.toList
  have h2 := mCols_le s.data.toList 0
  have hb : s.data.toList.length = s.size := by simp
  rw [hb] at h1
  clear hb
  go_enter Try.func20, Try.ntmps20
  go_wp2_with fail
  refine (margin_any s w (by omega)).mono ?_
  rintro e w1 ⟨rfl, b1⟩
  go_wp2_with fail
  have hx : (s.extract (mSize s.data.toList) s.size).size ≤ 140737488355328 := by rw [ByteArray.size_extract]; omega
  refine (pad_any _ _ w1 (by omega) hx).mono ?_
  rintro e w2 ⟨rfl, b2⟩
  go_wp2
  go_ret
  exact ⟨ret_string (by rw [drop_str]; rfl), b1.trans (b2.mono b1.size)⟩

end Go.Proofs.Ytkhmlnhfmlckdaa
