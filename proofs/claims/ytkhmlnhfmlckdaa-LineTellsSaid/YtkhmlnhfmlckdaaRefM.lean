/-
  The document's own answers of the layer line: Expand, Indent, Strip.
-/
import Derived.Test.YtkhmlnhfmlckdaaRefL
namespace Go.Proofs.Ytkhmlnhfmlckdaa
open Go.RowKit
set_option linter.unusedSimpArgs false
set_option linter.unusedVariables false

def RExpRel (s : ByteArray) (w : World) (o i : Value) (wr : World) : Prop :=
  ∃ (k c : Nat) (O : ByteArray), i = .int .i64 k ∧ k ≤ s.size ∧ c ≤ 4 * k ∧ o = .string O ∧ O.data.toList = spaces c ∧ k + mSize (s.data.toList.drop k) = mSize s.data.toList ∧ mCols (s.data.toList.drop k) c = mCols s.data.toList 0 ∧ wr = w
def RTabRel (c : Nat) (w : World) (o : Value) (wr : World) : Prop := ∃ (d : Nat) (O : ByteArray), c < d ∧ d ≤ c + (4 - c % 4) ∧ o = .string O ∧ O.data.toList = spaces d ∧ wr = w

theorem spaces_snoc (O : ByteArray) (c : Nat) (h : O.data.toList = spaces c) : (O ++ ⟨#[32]⟩).data.toList = spaces (c + 1) := by
  rw [ByteArray.data_append, Array.toList_append, h]
  simp [spaces, List.replicate_succ']
theorem spaces_size (O : ByteArray) (c : Nat) (h : O.data.toList = spaces c) : O.size = c := by
  have := congrArg List.length h
  rw [spaces_length] at this
  simpa using this

set_option maxHeartbeats 2000000 in
theorem rexpand_any (s : ByteArray) (w : World) (hs : s.size ≤ 1000000) :
    Calls Try.prog 21 #[.string s] w fun e w' => e = .returned (.string ⟨(expandL s.data.toList).toArray⟩) ∧ w = w' := by
  go_enter Try.func21, Try.ntmps21
  go_wp2_with fail
  go_loopw [3, 4] (fun o i wr => RExpRel s w o i wr) (fun _ i _ => s.size - (intOf i).toNat)
  case atStart => exact ⟨0, 0, _, rfl, Nat.zero_le _, Nat.le_refl _, rfl, rfl, by simp, by simp, rfl⟩
  case round =>
    obtain ⟨k, c, O, rfl, hk, hc, rfl, hO, hsz, hcol, rfl⟩ := hrel
    have hOz := spaces_size O c hO
    have HO := Lib.hid hO
    have HOz := Lib.hid hOz
    have hO1 : O.size ≤ 4000000 := by omega
    by_cases hp : k < s.size
    · have cg := gap_any s[k] wr
      have HL := Lib.hid (get_list s k hp)
      rw [HL.out] at hsz hcol
      cases hg : isGap s[k] with
      | true =>
        rw [hg] at cg
        have HC := Lib.hid cg
        have hsz2 := hsz
        rw [mSize_gap hg] at hsz2
        have HS := Lib.hid hsz2
        by_cases h32 : s[k] = 32
        · rw [mCols_sp h32] at hcol
          have f9 : ((s[k].toNat : Int) == 9) = false := by simp [h32]
          have HK := Lib.hid hcol
          clear cg hg hsz hsz2 hcol h32 hO hOz
          go_wp2_with (go_at_call 32; refine HC.out.mono ?_; rintro e w' ⟨rfl, rfl⟩)
          refine wp_loop_rounds 1 ?_
          rw [rounds_succ]
          go_wp2
          exact ⟨⟨k + 1, c + 1, _, by go_num, by omega, by omega, rfl, spaces_snoc O c HO.out, by have := HS.out; omega, HK.out, rfl⟩, by simp [intOf]; omega⟩
        · have h9 : s[k] = 9 := by simp [isGap, h32] at hg; exact hg
          rw [mCols_tab h9] at hcol
          have f9 : ((s[k].toNat : Int) == 9) = true := by simp [h9]
          have HK := Lib.hid hcol
          clear cg hg hsz hsz2 hcol h32 hO hOz h9
          go_wp2_with (go_at_call 32; refine HC.out.mono ?_; rintro e w' ⟨rfl, rfl⟩)
          go_loopw [3] (fun o w' => RTabRel c wr o w') (fun o _ => c + 8 - (match o with | .string O => O.size | _ => 0))
          case atStart => exact ⟨c + 1, _, by omega, by omega, rfl, spaces_snoc O c HO.out, rfl⟩
          case round =>
            obtain ⟨d, O2, hd1, hd2, rfl, hO2, rfl⟩ := hrel
            have hz2 := spaces_size O2 d hO2
            have HO2 := Lib.hid hO2
            have hz3 : O2.size ≤ 5000000 := by omega
            by_cases hm : d % 4 = 0
            · have fm : ((O2.size : Int) % 4 != 0) = false := by simp; omega
              obtain rfl : d = c + (4 - c % 4) := by omega
              clear hO2 hz2 hm
              go_wp2
              exact ⟨⟨k + 1, _, _, by go_num, by omega, by omega, rfl, HO2.out, by have := HS.out; omega, HK.out, rfl⟩, by simp [intOf]; omega⟩
            · have fm : ((O2.size : Int) % 4 != 0) = true := by simp; omega
              have HZ2 := Lib.hid hz2
              clear hO2 hz2
              go_wp2
              exact ⟨⟨d + 1, _, by omega, by omega, rfl, spaces_snoc O2 d HO2.out, rfl⟩, by have h1 := spaces_size _ _ (spaces_snoc O2 d HO2.out); have h2 := HZ2.out; simp only [h1, h2]; omega⟩
      | false =>
        rw [hg] at cg
        rw [mSize_other hg] at hsz
        rw [mCols_other hg] at hcol
        have HC := Lib.hid cg
        have hcat := fun W => run_string_add_sum (P := Try.prog) W O (s.extract k s.size) (by rw [ByteArray.size_extract]; omega)
        have HE := Lib.hid (show (O ++ s.extract k s.size : ByteArray) = ⟨(expandL s.data.toList).toArray⟩ from by
          apply ByteArray.ext
          apply Array.ext'
          rw [ext_bytes, ByteArray.data_append, Array.toList_append, hO]
          show spaces c ++ _ = expandL _
          rw [expandL, stripL, ← hcol, ← hsz, Nat.sub_zero, Nat.add_zero]
          congr 1
          exact List.take_of_length_le (by simp))
        clear cg hg hsz hcol hO hOz
        go_wp2_with (go_at_call 32; refine HC.out.mono ?_; rintro e w' ⟨rfl, rfl⟩)
        go_ret
        exact ⟨ret_string HE.out, rfl⟩
    · have e : s.data.toList.drop k = [] := List.drop_eq_nil_of_le (by simp; omega)
      rw [e] at hsz hcol
      have HE := Lib.hid (show O = ⟨(expandL s.data.toList).toArray⟩ from by
        apply ByteArray.ext
        apply Array.ext'
        rw [hO]
        show spaces c = expandL _
        rw [expandL, stripL, ← hcol, ← hsz]
        simp [mCols, mSize]
        omega)
      clear e hsz hcol hO hOz
      go_wp2
      go_ret
      exact ⟨ret_string HE.out, rfl⟩

/-- What Expand answers begins with just so many blanks. -/
theorem expand_bytes (s : ByteArray) : ((stripB s 0).size = mCols s.data.toList 0 + (s.data.toList.drop (mSize s.data.toList)).length) ∧ (∀ k (h : k < (stripB s 0).size), k < mCols s.data.toList 0 → (stripB s 0)[k].toNat = 32) ∧
    (∀ h : mCols s.data.toList 0 < (stripB s 0).size, (stripB s 0)[mCols s.data.toList 0].toNat ≠ 32) := by
  have hl : (stripB s 0).data.toList = spaces (mCols s.data.toList 0) ++ s.data.toList.drop (mSize s.data.toList) := by rw [stripB_list, stripL, Nat.sub_zero]
  have hr := mSize_rest s.data.toList
  generalize mCols s.data.toList 0 = m at *
  generalize s.data.toList.drop (mSize s.data.toList) = r at *
  have hz : (stripB s 0).size = m + r.length := by
    have := congrArg List.length hl
    rw [List.length_append, spaces_length] at this
    simpa using this
  have hget : ∀ k (h : k < (stripB s 0).size), (stripB s 0)[k] = (spaces m ++ r)[k]'(by rw [List.length_append, spaces_length]; omega) := by
    intro k h
    have e : (stripB s 0)[k] = (stripB s 0).data.toList[k]'(by simpa using h) := rfl
    rw [e]
    simp only [hl]
  refine ⟨hz, fun k h hk => ?_, fun h => ?_⟩
  · rw [hget k h, List.getElem_append_left (by rw [spaces_length]; exact hk)]
    simp [spaces]
  · rw [hget m h, List.getElem_append_right (by rw [spaces_length]; omega)]
    simp only [spaces_length, Nat.sub_self]
    cases r with
    | nil => simp at hz; omega
    | cons x r =>
      intro e
      have e2 : x = 32 := UInt8.toNat_inj.1 (by simpa using e)
      rw [e2] at hr
      simp [mSize, isGap] at hr

def RIndRel (m : Nat) (w : World) (i : Value) (wr : World) : Prop := ∃ k : Nat, i = .int .i64 k ∧ k ≤ m ∧ wr = w

set_option maxHeartbeats 1000000 in
theorem rindent_any (s : ByteArray) (w : World) (hs : s.size ≤ 1000000) :
    Calls Try.prog 23 #[.string s] w fun e w' => e = .returned (.int .i64 (mCols s.data.toList 0)) ∧ w = w' := by
  obtain ⟨hz, h1, h2⟩ := expand_bytes s
  have hc : ∀ w1, Calls Try.prog 21 #[.string s] w1 fun e w' => e = .returned (.string (stripB s 0)) ∧ w1 = w' := fun w1 => rexpand_any s w1 hs
  have hm1 := mCols_le s.data.toList 0
  have hm2 := mSize_le s.data.toList
  have hl : s.data.toList.length = s.size := by simp
  have hmz : mCols s.data.toList 0 ≤ 4000000 := by omega
  have hEz : (stripB s 0).size ≤ 5000000 := by have := stripB_size s 0; omega
  have hmE : mCols s.data.toList 0 ≤ (stripB s 0).size := by omega
  generalize stripB s 0 = E at *
  generalize mCols s.data.toList 0 = m at *
  have H1 := Lib.hid h1
  have H2 := Lib.hid h2
  clear h1 h2 hz hm1 hm2 hl
  go_enter Try.func23, Try.ntmps23
  go_wp2_with (go_at_call 21; refine (hc _).mono ?_; rintro e w' ⟨rfl, rfl⟩)
  go_loopw [4] (fun i wr => RIndRel m w i wr) (fun i _ => m - (intOf i).toNat)
  case atStart => exact ⟨0, rfl, Nat.zero_le _, rfl⟩
  case round =>
    obtain ⟨k, rfl, hk, rfl⟩ := hrel
    by_cases hp : k < m
    · have hkE : k < E.size := by omega
      have f : ((E[k].toNat : Int) == 32) = true := by have := H1.out k hkE hp; simp; omega
      go_wp2
      exact ⟨⟨k + 1, by go_num, by omega, rfl⟩, by simp [intOf]; omega⟩
    · obtain rfl : k = m := by omega
      by_cases hE : k < E.size
      · have f : ((E[k].toNat : Int) == 32) = false := by have := H2.out hE; simp; omega
        go_wp2
        go_ret
        exact ⟨rfl, rfl⟩
      · go_wp2
        go_ret
        exact ⟨rfl, rfl⟩

theorem strip_extract (s : ByteArray) (n : Int) : (stripB s 0).extract (max (min n (mCols s.data.toList 0)) 0).toNat (stripB s 0).size = stripB s n.toNat := by
  have hm : (max (min n (mCols s.data.toList 0)) 0).toNat = min n.toNat (mCols s.data.toList 0) := by omega
  rw [hm, ext_bytes, stripB_list]
  apply ByteArray.ext
  apply Array.ext'
  show List.take _ (List.drop _ (stripL s.data.toList 0)) = stripL s.data.toList n.toNat
  rw [List.take_of_length_le]
  · unfold stripL
    rw [List.drop_append_of_le_length (by rw [spaces_length]; omega)]
    congr 1
    simp only [spaces, List.drop_replicate]
    congr 1
    omega
  · rw [List.length_drop, ← stripB_list]
    simp

theorem rstrip_any (s : ByteArray) (n : Int) (w : World) (hs : s.size ≤ 1000000) (hn : n ≤ 9223372036854775807) (hn2 : -9223372036854775808 ≤ n) :
    Calls Try.prog 25 #[.string s, .int .i64 n] w fun e w' => e = .returned (.string (stripB s n.toNat)) ∧ w = w' := by
  have hc : ∀ w1, Calls Try.prog 21 #[.string s] w1 fun e w' => e = .returned (.string (stripB s 0)) ∧ w1 = w' := fun w1 => rexpand_any s w1 hs
  have hi : ∀ w1, Calls Try.prog 23 #[.string s] w1 fun e w' => e = .returned (.int .i64 (mCols s.data.toList 0)) ∧ w1 = w' := fun w1 => rindent_any s w1 hs
  have hz := (expand_bytes s).1
  have HE := Lib.hid (strip_extract s n)
  have hb1 : (0 : Int) ≤ max (min n (mCols s.data.toList 0)) 0 := by omega
  have hb2 : max (min n (mCols s.data.toList 0)) 0 ≤ ((stripB s 0).size : Int) := by omega
  generalize stripB s 0 = E at *
  generalize mCols s.data.toList 0 = m at *
  clear hz
  go_enter Try.func25, Try.ntmps25
  go_wp2_with (first | (go_at_call 21; refine (hc _).mono ?_; rintro e w' ⟨rfl, rfl⟩) | (go_at_call 23; refine (hi _).mono ?_; rintro e w' ⟨rfl, rfl⟩))
  go_ret
  exact ⟨ret_string HE.out, rfl⟩

end Go.Proofs.Ytkhmlnhfmlckdaa
