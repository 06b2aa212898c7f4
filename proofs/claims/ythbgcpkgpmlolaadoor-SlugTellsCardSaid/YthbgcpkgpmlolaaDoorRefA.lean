/-
  The document's own answers for chapter 1: Space, Ascii, Punct; and plain facts for Text and Fold.
  The document's own answer for Text: plain facts; how runes are read (the walk: XRefBt).
-/
import Derived.Test.YthbgcpkgpmlolaaDoorRepairF
namespace Go.Proofs.YthbgcpkgpmlolaaDoor
open Go.RowKit
set_option linter.unusedSimpArgs false
set_option linter.unusedVariables false

theorem u8_of (b : UInt8) (n : Nat) (h : n = b.toNat) : n.toUInt8 = b := (u8_eq b n h.symm).symm
theorem dec_take (b : UInt8) (l : List UInt8) (h : ¬ ((dec (b :: l)).1 = 65533 ∧ (dec (b :: l)).2 = 1)) : (b :: l).take (dec (b :: l)).2 = Lib.encodeRune (dec (b :: l)).1 := by
  unfold dec at h ⊢
  dsimp only at h ⊢
  simp only [List.getD_cons_zero] at h ⊢
  by_cases h1 : b.toNat < 128
  · simp only [h1, if_true]
    rw [enc1 _ h1, u8_of b _ rfl]; rfl
  · simp only [h1, if_false] at h ⊢
    split
    · rename_i h2
      rw [if_pos h2] at h
      rcases l with _ | ⟨x, m⟩
      · simp at h2
      · simp only [List.getD_cons_succ, List.getD_cons_zero] at h h2 ⊢
        simp at h2
        split
        · rw [enc2 _ (by omega) (by omega), u8_of b _ (by omega), u8_of x _ (by omega)]; rfl
        · rename_i h3; rw [if_neg h3] at h; simp at h
    · rename_i h2
      rw [if_neg h2] at h
      split
      · rename_i h3
        rw [if_pos h3] at h
        rcases l with _ | ⟨x, _ | ⟨y, m⟩⟩
        · simp at h3
        · simp at h3
        · simp only [List.getD_cons_succ, List.getD_cons_zero] at h h3 ⊢
          simp at h3
          split
          · rename_i h4
            simp only [Bool.and_eq_true, decide_eq_true_eq] at h4
            have hv := of_valid _ h4.2
            rw [enc3 _ (by omega), u8_of b _ (by omega), u8_of x _ (by omega), u8_of y _ (by omega)]; rfl
          · rename_i h4; rw [if_neg h4] at h; simp at h
      · rename_i h3
        rw [if_neg h3] at h
        split
        · rename_i h4
          rw [if_pos h4] at h
          rcases l with _ | ⟨x, _ | ⟨y, _ | ⟨z, m⟩⟩⟩
          · simp at h4
          · simp at h4
          · simp at h4
          · simp only [List.getD_cons_succ, List.getD_cons_zero] at h h4 ⊢
            simp at h4
            split
            · rename_i h5
              simp only [Bool.and_eq_true, decide_eq_true_eq] at h5
              have hv := of_valid _ h5.2
              rw [enc4 _ (by omega) (by omega), u8_of b _ (by omega), u8_of x _ (by omega), u8_of y _ (by omega), u8_of z _ (by omega)]; rfl
            · rename_i h5; rw [if_neg h5] at h; simp at h
        · rename_i h4; rw [if_neg h4] at h; simp at h

theorem refSpace_any (r : Int) (w : World) :
    Calls Tryd.prog 29 #[.int .i32 r] w fun e w' => e = .returned (.bool (spaceB r)) ∧ w = w' := by
  go_enter Tryd.func29, Tryd.ntmps29
  go_wp2
  all_goals (go_ret; exact ⟨ret_bool (by apply Bool.eq_iff_iff.2; first | (simp [spaceB, inB]; done) | (simp [spaceB, inB]; omega)), rfl⟩)

end Go.Proofs.YthbgcpkgpmlolaaDoor

namespace Go.Proofs.YthbgcpkgpmlolaaDoor
open Go.RowKit
set_option linter.unusedSimpArgs false
set_option linter.unusedVariables false

/-- What stands of the two tables of unicode/utf8. -/
def Tabs (w : World) : Prop := Lib.Utf8Tabs 0 1 w
theorem Tabs.below {w w' : World} (h : Tabs w) (hb : Below w.heap.size w w') : Tabs w' := Utf8Tabs_below h hb

theorem decode_extract (s : ByteArray) (i : Nat) (hi : i < s.size) : Lib.decodeGo (s.extract i s.size) = Utf8.decode s i := by
  unfold Lib.decodeGo
  have hs : (s.extract i s.size).size = s.size - i := by rw [ByteArray.size_extract]; omega
  rw [if_neg (by omega), decode_dec, decode_dec, List.drop_zero, extract_drop]
theorem decodeIn_at (s : ByteArray) (i : Nat) (hi : i < s.size) (w : World) (hT : Tabs w) :
    Calls Tryd.prog 28 #[.string (s.extract i s.size)] w fun e w' => e = .returned (.tuple #[.int .i32 (Utf8.decode s i).1, .int .i64 (Utf8.decode s i).2]) ∧ Below w.heap.size w w' := by
  have h := Tryd.utf8_DecodeRuneInString (s.extract i s.size) w hT
  rw [decode_extract s i hi] at h
  exact h

theorem textS_zero : ∀ (cs : List (Nat × List UInt8)) (l : Nat), (l = 13 → ∀ c ∈ cs.head?, c.1 ≠ 10) → textS cs l = textS cs 0
  | [], _, _ => rfl
  | c :: cs, l, h => by
    have h' : ¬ (c.1 = 10 ∧ l = 13) := fun hh => h hh.2 c (by simp) hh.1
    have e : ∀ x : Int, ¬ ((c.1 : Int) = 10 ∧ x = 13) → textOne c.1 x = if (c.1 : Int) = 13 then [10] else if (c.1 : Int) = 0 then Lib.encodeRune 65533 else Lib.encodeRune c.1 := fun x hx => by
      unfold textOne; rw [if_neg hx]
    simp only [textS]
    rw [e l (by omega), e 0 (by omega)]
theorem segs_at (s : ByteArray) (i : Nat) (hi : i < s.size) : segs (s.data.toList.drop i) = ((Utf8.decode s i).1, (s.data.toList.drop i).take (Utf8.decode s i).2) :: segs (s.data.toList.drop (i + (Utf8.decode s i).2)) := by
  obtain ⟨b, l, e⟩ := drop_cons s i hi
  rw [e, segs_cons, ← e, ← decode_dec, List.drop_drop]
theorem width_le (s : ByteArray) (i : Nat) (hi : i < s.size) : i + (Utf8.decode s i).2 ≤ s.size := by
  obtain ⟨b, l, e⟩ := drop_cons s i hi
  have hw := dec_width b l
  rw [← e, ← decode_dec] at hw
  have : (s.data.toList.drop i).length = l.length + 1 := by rw [e]; rfl
  rw [List.length_drop] at this
  simp at this
  omega
theorem take_enc (s : ByteArray) (i : Nat) (hi : i < s.size) (h : ¬ ((Utf8.decode s i).1 = 65533 ∧ (Utf8.decode s i).2 = 1)) : (s.data.toList.drop i).take (Utf8.decode s i).2 = Lib.encodeRune (Utf8.decode s i).1 := by
  obtain ⟨b, l, e⟩ := drop_cons s i hi
  rw [decode_dec, e] at h ⊢
  exact dec_take b l h
theorem dec_byte (s : ByteArray) (i : Nat) (hi : i < s.size) (n : Nat) (hn : n < 128) : (Utf8.decode s i).1 = n ↔ s[i].toNat = n := by
  by_cases ha : (s[i]'hi).toNat < 128
  · rw [decode_ascii s i hi ha]
  · have := (decode_high s i hi (by omega)).1
    constructor <;> intro h <;> omega
theorem dec_byte2 (s : ByteArray) (i : Nat) (hi : i < s.size) (hn : s[i].toNat < 128) : Utf8.decode s i = (s[i].toNat, 1) := decode_ascii s i hi hn

def leftT (s : ByteArray) (i : Nat) : List UInt8 := textS (segs (s.data.toList.drop i)) 0
theorem leftT_bad (s : ByteArray) (i : Nat) (hi : i < s.size) (h : (Utf8.decode s i).1 = 65533 ∨ (Utf8.decode s i).1 = 0) : leftT s i = [239, 191, 189] ++ leftT s (i + (Utf8.decode s i).2) := by
  unfold leftT
  rw [segs_at s i hi]
  simp only [textS]
  have h1 : textOne (((Utf8.decode s i).1 : Nat) : Int) 0 = [239, 191, 189] := by
    unfold textOne
    rcases h with h | h <;> rw [h]
    · rw [if_neg (by omega), if_neg (by omega), if_neg (by omega)]; exact enc_fffd
    · rw [if_neg (by omega), if_neg (by omega), if_pos (by omega)]; exact enc_fffd
  rw [h1, textS_zero _ _ (by intro hh; omega)]
theorem leftT_plain (s : ByteArray) (i : Nat) (hi : i < s.size) (h1 : ¬ ((Utf8.decode s i).1 = 65533 ∧ (Utf8.decode s i).2 = 1)) (h2 : (Utf8.decode s i).1 ≠ 0) (h3 : (Utf8.decode s i).1 ≠ 13) :
    leftT s i = (s.data.toList.drop i).take (Utf8.decode s i).2 ++ leftT s (i + (Utf8.decode s i).2) := by
  unfold leftT
  rw [segs_at s i hi]
  simp only [textS]
  rw [take_enc s i hi h1, textS_zero _ _ (by intro hh; omega)]
  congr 1
  unfold textOne
  rw [if_neg (by omega), if_neg (by omega), if_neg (by omega)]
theorem leftT_cr (s : ByteArray) (i : Nat) (hi : i < s.size) (h : s[i].toNat = 13) (h2 : ∀ h' : i + 1 < s.size, s[i + 1].toNat ≠ 10) : leftT s i = [10] ++ leftT s (i + 1) := by
  unfold leftT
  have hd := dec_byte2 s i hi (by omega)
  rw [segs_at s i hi, hd, h]
  simp only [textS]
  have h1 : textOne ((13 : Nat) : Int) 0 = [10] := by decide +kernel
  rw [h1, textS_zero _ _ ?_]
  intro _ c hc
  by_cases hj : i + 1 < s.size
  · rw [segs_at s (i + 1) hj] at hc
    simp at hc
    subst hc
    intro e
    exact h2 hj ((dec_byte s (i + 1) hj 10 (by omega)).1 e)
  · rw [List.drop_eq_nil_of_le (by simpa using hj), segs_nil] at hc
    simp at hc
theorem leftT_crlf (s : ByteArray) (i : Nat) (hi : i + 1 < s.size) (h : s[i].toNat = 13) (h2 : s[i + 1].toNat = 10) : leftT s i = [10] ++ leftT s (i + 2) := by
  unfold leftT
  have hd := dec_byte2 s i (by omega) (by omega)
  have hd2 := dec_byte2 s (i + 1) hi (by omega)
  rw [segs_at s i (by omega), hd, h, segs_at s (i + 1) hi, hd2, h2]
  simp only [textS]
  have h1 : textOne ((13 : Nat) : Int) 0 = [10] := by decide +kernel
  have h3 : textOne ((10 : Nat) : Int) ((13 : Nat) : Int) = [] := by decide +kernel
  rw [h1, h3, textS_zero _ 10 (by intro hh; omega)]
  rfl
theorem leftT_end (s : ByteArray) (i : Nat) (h : ¬ i < s.size) : leftT s i = [] := by
  unfold leftT
  rw [List.drop_eq_nil_of_le (by simpa using h)]; rfl

theorem slice_at (s : ByteArray) (i n : Nat) (h : i + n ≤ s.size) (W : World) :
    (Instr.slice 9 (.string s) (some (.int .i64 (i : Int))) (some (.int .i64 ((i : Int) + (n : Int)))) none).run Tryd.prog W = .ok (.string (s.extract i (i + n))) W := by
  have := run_slice_string (P := Tryd.prog) W 9 s .i64 .i64 (i : Int) ((i : Int) + (n : Int)) Tryd.underlying9 (by omega) (by omega) (by omega)
  rw [show ((i : Int) + (n : Int)).toNat = i + n from by omega, Int.toNat_natCast] at this
  exact this
def RefRel (s : ByteArray) (w : World) (out i : Value) (wr : World) : Prop :=
  ∃ (pos : Nat) (O : ByteArray), out = .string O ∧ i = .int .i64 pos ∧ pos ≤ s.size ∧ O.size ≤ 4 * pos ∧ O.data.toList ++ leftT s pos = textL s.data.toList ∧ Below w.heap.size w wr
theorem pre_app {A : List UInt8} {O E : ByteArray} {X Y : List UInt8} (h : O.data.toList ++ X = A) (e : X = E.data.toList ++ Y) : (O ++ E).data.toList ++ Y = A := by
  rw [ByteArray.data_append, Array.toList_append, List.append_assoc, ← e]; exact h
theorem extract_take (s : ByteArray) (i n : Nat) : (s.extract i (i + n)).data.toList = (s.data.toList.drop i).take n := by
  simp only [ByteArray.data_extract, Array.toList_extract, List.extract]
  congr 1
  omega

end Go.Proofs.YthbgcpkgpmlolaaDoor
