/-
  The document's own answer for Text.
-/
import Derived.Test.YtdiolfahccfpgaaDoorRefA
namespace Go.Proofs.YtdiolfahccfpgaaDoor
open Go.RowKit
set_option linter.unusedSimpArgs false
set_option linter.unusedVariables false

/-- What stands of the two tables of unicode/utf8. -/
def Tabs (w : World) : Prop := Lib.Utf8Tabs 0 1 w
theorem Tabs.below {w w' : World} (h : Tabs w) (hb : Below w.heap.size w w') : Tabs w' := Utf8Tabs_below h hb

theorem decode_extract (s : ByteArray) (i : Nat) (hi : i < s.size) : Lib.decodeGo (s.extract i s.size) = Utf8.decode s i := by
  unfold Lib.decodeGo
  have hs : (s.extract i s.size).size = s.size - i := by rw [ByteArray.size_extract]; omega
  rw [if_neg (by omega), decode_dec, decode_dec, List.drop_zero, extract_drop]
theorem decodeIn_at (s : ByteArray) (i : Nat) (hi : i < s.size) (w : World) (hT : Tabs w) :
    Calls Tryd.prog 19 #[.string (s.extract i s.size)] w fun e w' => e = .returned (.tuple #[.int .i32 (Utf8.decode s i).1, .int .i64 (Utf8.decode s i).2]) ∧ Below w.heap.size w w' := by
  have h := Tryd.utf8_DecodeRuneInString (s.extract i s.size) w hT
  rw [decode_extract s i hi] at h
  exact h

theorem textS_zero : ∀ (cs : List (Nat × List UInt8)) (l : Nat), (l = 13 → ∀ c ∈ cs.head?, c.1 ≠ 10) → textS cs l = textS cs 0
  | [], _, _ => rfl
  | c :: cs, l, h => by
    have h' : ¬ (c.1 = 10 ∧ l = 13) := fun hh => h hh.2 c (by simp) hh.1
    have e : ∀ x : Int, ¬ ((c.1 : Int) = 10 ∧ x = 13) → textOne c.1 x = if (c.1 : Int) = 13 then [10] else if (c.1 : Int) = 0 then Lib.encodeRune 65533 else Lib.encodeRune c.1 := fun x hx => by
      unfold textOne; rw [if_neg hx]
    simp only [textS]
    rw [e l (by omega), e 0 (by omega)]
theorem segs_at (s : ByteArray) (i : Nat) (hi : i < s.size) : segs (s.data.toList.drop i) = ((Utf8.decode s i).1, (s.data.toList.drop i).take (Utf8.decode s i).2) :: segs (s.data.toList.drop (i + (Utf8.decode s i).2)) := by
  obtain ⟨b, l, e⟩ := drop_cons s i hi
  rw [e, segs_cons, ← e, ← decode_dec, List.drop_drop]
theorem width_le (s : ByteArray) (i : Nat) (hi : i < s.size) : i + (Utf8.decode s i).2 ≤ s.size := by
  obtain ⟨b, l, e⟩ := drop_cons s i hi
  have hw := dec_width b l
  rw [← e, ← decode_dec] at hw
  have : (s.data.toList.drop i).length = l.length + 1 := by rw [e]; rfl
  rw [List.length_drop] at this
  simp at this
  omega
theorem take_enc (s : ByteArray) (i : Nat) (hi : i < s.size) (h : ¬ ((Utf8.decode s i).1 = 65533 ∧ (Utf8.decode s i).2 = 1)) : (s.data.toList.drop i).take (Utf8.decode s i).2 = Lib.encodeRune (Utf8.decode s i).1 := by
  obtain ⟨b, l, e⟩ := drop_cons s i hi
  rw [decode_dec, e] at h ⊢
  exact dec_take b l h
theorem dec_byte (s : ByteArray) (i : Nat) (hi : i < s.size) (n : Nat) (hn : n < 128) : (Utf8.decode s i).1 = n ↔ s[i].toNat = n := by
  by_cases ha : (s[i]'hi).toNat < 128
  · rw [decode_ascii s i hi ha]
  · have := (decode_high s i hi (by omega)).1
    constructor <;> intro h <;> omega
theorem dec_byte2 (s : ByteArray) (i : Nat) (hi : i < s.size) (hn : s[i].toNat < 128) : Utf8.decode s i = (s[i].toNat, 1) := decode_ascii s i hi hn

def leftT (s : ByteArray) (i : Nat) : List UInt8 := textS (segs (s.data.toList.drop i)) 0
theorem leftT_bad (s : ByteArray) (i : Nat) (hi : i < s.size) (h : (Utf8.decode s i).1 = 65533 ∨ (Utf8.decode s i).1 = 0) : leftT s i = [239, 191, 189] ++ leftT s (i + (Utf8.decode s i).2) := by
  unfold leftT
  rw [segs_at s i hi]
  simp only [textS]
  have h1 : textOne (((Utf8.decode s i).1 : Nat) : Int) 0 = [239, 191, 189] := by
    unfold textOne
    rcases h with h | h <;> rw [h]
    · rw [if_neg (by omega), if_neg (by omega), if_neg (by omega)]; exact enc_fffd
    · rw [if_neg (by omega), if_neg (by omega), if_pos (by omega)]; exact enc_fffd
  rw [h1, textS_zero _ _ (by intro hh; omega)]
theorem leftT_plain (s : ByteArray) (i : Nat) (hi : i < s.size) (h1 : ¬ ((Utf8.decode s i).1 = 65533 ∧ (Utf8.decode s i).2 = 1)) (h2 : (Utf8.decode s i).1 ≠ 0) (h3 : (Utf8.decode s i).1 ≠ 13) :
    leftT s i = (s.data.toList.drop i).take (Utf8.decode s i).2 ++ leftT s (i + (Utf8.decode s i).2) := by
  unfold leftT
  rw [segs_at s i hi]
  simp only [textS]
  rw [take_enc s i hi h1, textS_zero _ _ (by intro hh; omega)]
  congr 1
  unfold textOne
  rw [if_neg (by omega), if_neg (by omega), if_neg (by omega)]
theorem leftT_cr (s : ByteArray) (i : Nat) (hi : i < s.size) (h : s[i].toNat = 13) (h2 : ∀ h' : i + 1 < s.size, s[i + 1].toNat ≠ 10) : leftT s i = [10] ++ leftT s (i + 1) := by
  unfold leftT
  have hd := dec_byte2 s i hi (by omega)
  rw [segs_at s i hi, hd, h]
  simp only [textS]
  have h1 : textOne ((13 : Nat) : Int) 0 = [10] := by decide +kernel
  rw [h1, textS_zero _ _ ?_]
  intro _ c hc
  by_cases hj : i + 1 < s.size
  · rw [segs_at s (i + 1) hj] at hc
    simp at hc
    subst hc
    intro e
    exact h2 hj ((dec_byte s (i + 1) hj 10 (by omega)).1 e)
  · rw [List.drop_eq_nil_of_le (by simpa using hj), segs_nil] at hc
    simp at hc
theorem leftT_crlf (s : ByteArray) (i : Nat) (hi : i + 1 < s.size) (h : s[i].toNat = 13) (h2 : s[i + 1].toNat = 10) : leftT s i = [10] ++ leftT s (i + 2) := by
  unfold leftT
  have hd := dec_byte2 s i (by omega) (by omega)
  have hd2 := dec_byte2 s (i + 1) hi (by omega)
  rw [segs_at s i (by omega), hd, h, segs_at s (i + 1) hi, hd2, h2]
  simp only [textS]
  have h1 : textOne ((13 : Nat) : Int) 0 = [10] := by decide +kernel
  have h3 : textOne ((10 : Nat) : Int) ((13 : Nat) : Int) = [] := by decide +kernel
  rw [h1, h3, textS_zero _ 10 (by intro hh; omega)]
  rfl
theorem leftT_end (s : ByteArray) (i : Nat) (h : ¬ i < s.size) : leftT s i = [] := by
  unfold leftT
  rw [List.drop_eq_nil_of_le (by simpa using h)]; rfl

theorem slice_at (s : ByteArray) (i n : Nat) (h : i + n ≤ s.size) (W : World) :
    (Instr.slice 9 (.string s) (some (.int .i64 (i : Int))) (some (.int .i64 ((i : Int) + (n : Int)))) none).run Tryd.prog W = .ok (.string (s.extract i (i + n))) W := by
  have := run_slice_string (P := Tryd.prog) W 9 s .i64 .i64 (i : Int) ((i : Int) + (n : Int)) Tryd.underlying9 (by omega) (by omega) (by omega)
  rw [show ((i : Int) + (n : Int)).toNat = i + n from by omega, Int.toNat_natCast] at this
  exact this
def RefRel (s : ByteArray) (w : World) (out i : Value) (wr : World) : Prop :=
  ∃ (pos : Nat) (O : ByteArray), out = .string O ∧ i = .int .i64 pos ∧ pos ≤ s.size ∧ O.size ≤ 4 * pos ∧ O.data.toList ++ leftT s pos = textL s.data.toList ∧ Below w.heap.size w wr
theorem pre_app {A : List UInt8} {O E : ByteArray} {X Y : List UInt8} (h : O.data.toList ++ X = A) (e : X = E.data.toList ++ Y) : (O ++ E).data.toList ++ Y = A := by
  rw [ByteArray.data_append, Array.toList_append, List.append_assoc, ← e]; exact h
theorem extract_take (s : ByteArray) (i n : Nat) : (s.extract i (i + n)).data.toList = (s.data.toList.drop i).take n := by
  simp only [ByteArray.data_extract, Array.toList_extract, List.extract]
  congr 1
  omega

set_option maxHeartbeats 4000000 in
set_option maxRecDepth 100000 in
theorem refText_any (s : ByteArray) (w : World) (hs : s.size ≤ 17592186044416) (hT : Tabs w) :
    Calls Tryd.prog 6 #[.string s] w fun e w' => e = .returned (.string (textOf s)) ∧ Below w.heap.size w w' := by
  have HT := Lib.hid hT
  clear hT
  go_enter Tryd.func6, Tryd.ntmps6
  go_wp2_with fail
  go_loopw [3, 4] (fun out i wr => RefRel s w out i wr) (fun _ i _ => s.size - (intOf i).toNat)
  case atStart => exact ⟨0, ⟨#[]⟩, rfl, rfl, Nat.zero_le _, Nat.zero_le _, rfl, Below.refl _ _⟩
  case round =>
    obtain ⟨pos, O, rfl, rfl, hps, hO, hE, hbw⟩ := hrel
    by_cases hp : pos < s.size
    · have hwd := width_pos s pos hp
      have hwl := width_le s pos hp
      have hd1 := decode_le s pos
      have cD := fun w1 hT1 => decodeIn_at s pos hp w1 hT1
      have HE := Lib.hid hE
      clear hE
      have HD := Lib.hid (dec_byte s pos hp 13 (by omega))
      have HW1 := Lib.hid (show s[pos].toNat = 13 → (Utf8.decode s pos).2 = 1 from fun h => by rw [dec_byte2 s pos hp (by omega)])
      have Hbad := Lib.hid (leftT_bad s pos hp)
      have Hpl := Lib.hid (leftT_plain s pos hp)
      have Htk := Lib.hid (extract_take s pos (Utf8.decode s pos).2)
      generalize hr : (Utf8.decode s pos).1 = r at *
      generalize hd : (Utf8.decode s pos).2 = d at *
      clear hr hd
      go_wp2_with fail
      refine (cD _ (HT.out.below hbw)).mono ?_
      rintro e W2 ⟨rfl, b2⟩
      have hbw2 := hbw.trans (b2.mono hbw.size)
      clear cD
      by_cases h1 : r = 65533 ∧ d ≤ 1
      · obtain ⟨rfl, h1d⟩ := h1
        go_wp2
        go_roundw
        case rel => exact ⟨pos + d, O ++ ⟨#[239, 191, 189]⟩, rfl, by go_num, by omega, by rw [ByteArray.size_append, show (ByteArray.mk #[239, 191, 189]).size = 3 from rfl]; omega, pre_app HE.out (Hbad.out (by simp)), hbw2⟩
        case measure => simp [intOf]; omega
      · by_cases h0 : r = 0
        · have f1 : ¬ (r = 65533 ∧ d ≤ 1) := h1
          subst h0
          clear h1
          go_wp2
          go_roundw
          case rel => exact ⟨pos + d, O ++ ⟨#[239, 191, 189]⟩, rfl, by go_num, by omega, by rw [ByteArray.size_append, show (ByteArray.mk #[239, 191, 189]).size = 3 from rfl]; omega, pre_app HE.out (Hbad.out (by simp)), hbw2⟩
          case measure => simp [intOf]; omega
        · have f0 : ((r : Int) == 0) = false := by simp; omega
          by_cases h13 : s[pos].toNat = 13
          · have f13 : ((s[pos].toNat : Int) == 13) = true := by simp; omega
            have hrr : r = 13 := HD.out.2 h13
            have f65 : ((r : Int) == 65533) = false := by simp; omega
            have H13 := Lib.hid h13
            clear hrr h13 h0 h1
            by_cases hn : pos + 1 < s.size
            · by_cases h10 : s[pos + 1].toNat = 10
              · have f10 : ((s[pos + 1].toNat : Int) == 10) = true := by simp; omega
                have HN := Lib.hid (leftT_crlf s pos hn H13.out h10)
                clear h10
                go_wp2
                go_roundw
                case rel => exact ⟨pos + 2, O ++ ⟨#[10]⟩, rfl, by go_num, by omega, by rw [ByteArray.size_append, show (ByteArray.mk #[10]).size = 1 from rfl]; omega, pre_app HE.out HN.out, hbw2⟩
                case measure => simp [intOf]; omega
              · have f10 : ((s[pos + 1].toNat : Int) == 10) = false := by simp; omega
                have HN := Lib.hid (leftT_cr s pos hp H13.out (fun _ => h10))
                have hd1w : d = 1 := HW1.out H13.out
                subst hd1w
                clear h10
                go_wp2
                go_roundw
                case rel => exact ⟨pos + 1, O ++ ⟨#[10]⟩, rfl, by go_num, by omega, by rw [ByteArray.size_append, show (ByteArray.mk #[10]).size = 1 from rfl]; omega, pre_app HE.out HN.out, hbw2⟩
                case measure => simp [intOf]; omega
            · have HN := Lib.hid (leftT_cr s pos hp H13.out (fun h => absurd h hn))
              have hd1w : d = 1 := HW1.out H13.out
              subst hd1w
              go_wp2
              go_roundw
              case rel => exact ⟨pos + 1, O ++ ⟨#[10]⟩, rfl, by go_num, by omega, by rw [ByteArray.size_append, show (ByteArray.mk #[10]).size = 1 from rfl]; omega, pre_app HE.out HN.out, hbw2⟩
              case measure => simp [intOf]; omega
          · have f13 : ((s[pos].toNat : Int) == 13) = false := by simp; omega
            have h13r : r ≠ 13 := fun e => h13 (HD.out.1 e)
            have HN := Lib.hid (Hpl.out (by omega) h0 h13r)
            have hex : (s.extract pos (pos + d)).size = d := by rw [ByteArray.size_extract]; omega
            have HX := Lib.hid hex
            have hxs : (s.extract pos (pos + d)).size ≤ 4 * s.size := by omega
            have hsl := slice_at s pos d hwl
            clear hex h13r h13 h0
            by_cases h65 : r = 65533
            · have hd1 : 1 < d := by omega
              have f65 : ((r : Int) == 65533) = true := by simp; omega
              clear h1 h65
              go_wp2
              go_roundw
              case rel => exact ⟨pos + d, O ++ s.extract pos (pos + d), rfl, by go_num, by omega, by rw [ByteArray.size_append, HX.out]; omega, pre_app HE.out (by rw [Htk.out]; exact HN.out), hbw2⟩
              case measure => simp [intOf]; omega
            · have f65 : ((r : Int) == 65533) = false := by simp; omega
              clear h1 h65
              go_wp2
              go_roundw
              case rel => exact ⟨pos + d, O ++ s.extract pos (pos + d), rfl, by go_num, by omega, by rw [ByteArray.size_append, HX.out]; omega, pre_app HE.out (by rw [Htk.out]; exact HN.out), hbw2⟩
              case measure => simp [intOf]; omega
    · obtain rfl : pos = s.size := by omega
      go_wp2
      go_ret
      rw [leftT_end s _ hp, List.append_nil] at hE
      have hO2 : O = textOf s := by
        apply ByteArray.ext
        apply Array.toList_inj.1
        rw [hE]
        simp [textOf]
      subst hO2
      exact ⟨rfl, hbw⟩

end Go.Proofs.YtdiolfahccfpgaaDoor
