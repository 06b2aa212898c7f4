/-
  The document's own answer for Text; alone, without chapter 1's own package.
  The document's own reader (bowdlerref1's Seer): Veil: what it answers, in plain words.
-/
import Derived.Test.YtkcmhdkhdjmjeaaGreatDoorRepairE
import Derived.Test.YtkcmhdkhdjmjeaaGreatDoorRunes
import Derived.Test.YtkcmhdkhdjmjeaaGreatDoorRfL
import Derived.Test.YtkcmhdkhdjmjeaaGreatDoorRfP
import Derived.Test.YtkcmhdkhdjmjeaaGreatDoorRvW
import Derived.Test.YtkcmhdkhdjmjeaaGreatDoorSerF
import Derived.Test.YtkcmhdkhdjmjeaaGreatDoorVelS
import Derived.Laws.AppendOwnNone
namespace Go.Proofs.YtkcmhdkhdjmjeaaGreatDoor
open Go.RowKit
set_option linter.unusedSimpArgs false
set_option linter.unusedVariables false

theorem enc_fffd : Lib.encodeRune 65533 = [239, 191, 189] := by decide +kernel
theorem u8_eq (b : UInt8) (n : Nat) (h : b.toNat = n) : b = n.toUInt8 := by
  subst h; simp
theorem u8_of (b : UInt8) (n : Nat) (h : n = b.toNat) : n.toUInt8 = b := (u8_eq b n h.symm).symm
theorem dec_take (b : UInt8) (l : List UInt8) (h : ¬ ((dec (b :: l)).1 = 65533 ∧ (dec (b :: l)).2 = 1)) : (b :: l).take (dec (b :: l)).2 = Lib.encodeRune (dec (b :: l)).1 := by
  unfold dec at h ⊢
  dsimp only at h ⊢
  simp only [List.getD_cons_zero] at h ⊢
  by_cases h1 : b.toNat < 128
  · simp only [h1, if_true]
    rw [enc1 _ h1, u8_of b _ rfl]; rfl
  · simp only [h1, if_false] at h ⊢
    split
    · rename_i h2
      rw [if_pos h2] at h
      rcases l with _ | ⟨x, m⟩
      · simp at h2
      · simp only [List.getD_cons_succ, List.getD_cons_zero] at h h2 ⊢
        simp at h2
        split
        · rw [enc2 _ (by omega) (by omega), u8_of b _ (by omega), u8_of x _ (by omega)]; rfl
        · rename_i h3; rw [if_neg h3] at h; simp at h
    · rename_i h2
      rw [if_neg h2] at h
      split
      · rename_i h3
        rw [if_pos h3] at h
        rcases l with _ | ⟨x, _ | ⟨y, m⟩⟩
        · simp at h3
        · simp at h3
        · simp only [List.getD_cons_succ, List.getD_cons_zero] at h h3 ⊢
          simp at h3
          split
          · rename_i h4
            simp only [Bool.and_eq_true, decide_eq_true_eq] at h4
            have hv := of_valid _ h4.2
            rw [enc3 _ (by omega), u8_of b _ (by omega), u8_of x _ (by omega), u8_of y _ (by omega)]; rfl
          · rename_i h4; rw [if_neg h4] at h; simp at h
      · rename_i h3
        rw [if_neg h3] at h
        split
        · rename_i h4
          rw [if_pos h4] at h
          rcases l with _ | ⟨x, _ | ⟨y, _ | ⟨z, m⟩⟩⟩
          · simp at h4
          · simp at h4
          · simp at h4
          · simp only [List.getD_cons_succ, List.getD_cons_zero] at h h4 ⊢
            simp at h4
            split
            · rename_i h5
              simp only [Bool.and_eq_true, decide_eq_true_eq] at h5
              have hv := of_valid _ h5.2
              rw [enc4 _ (by omega) (by omega), u8_of b _ (by omega), u8_of x _ (by omega), u8_of y _ (by omega), u8_of z _ (by omega)]; rfl
            · rename_i h5; rw [if_neg h5] at h; simp at h
        · rename_i h4; rw [if_neg h4] at h; simp at h
theorem extract_drop (s : ByteArray) (pos : Nat) : (s.extract pos s.size).data.toList = s.data.toList.drop pos := by
  simp only [ByteArray.data_extract, Array.toList_extract, List.extract]
  exact List.take_of_length_le (by simp)
def textOf (s : ByteArray) : ByteArray := ⟨(textL s.data.toList).toArray⟩
/-- What stands of the two tables of unicode/utf8. -/
def Tabs (w : World) : Prop := Lib.Utf8Tabs 2 3 w
theorem Tabs.below {w w' : World} (h : Tabs w) (hb : Below w.heap.size w w') : Tabs w' := Utf8Tabs_below h hb

theorem decode_extract (s : ByteArray) (i : Nat) (hi : i < s.size) : Lib.decodeGo (s.extract i s.size) = Utf8.decode s i := by
  unfold Lib.decodeGo
  have hs : (s.extract i s.size).size = s.size - i := by rw [ByteArray.size_extract]; omega
  rw [if_neg (by omega), decode_dec, decode_dec, List.drop_zero, extract_drop]
theorem decodeIn_at (s : ByteArray) (i : Nat) (hi : i < s.size) (w : World) (hT : Tabs w) :
    Calls Tryz.prog 88 #[.string (s.extract i s.size)] w fun e w' => e = .returned (.tuple #[.int .i32 (Utf8.decode s i).1, .int .i64 (Utf8.decode s i).2]) ∧ Below w.heap.size w w' := by
  have h := Tryz.utf8_DecodeRuneInString (s.extract i s.size) w hT
  rw [decode_extract s i hi] at h
  exact h

theorem textS_zero : ∀ (cs : List (Nat × List UInt8)) (l : Nat), (l = 13 → ∀ c ∈ cs.head?, c.1 ≠ 10) → textS cs l = textS cs 0
  | [], _, _ => rfl
  | c :: cs, l, h => by
    have h' : ¬ (c.1 = 10 ∧ l = 13) := fun hh => h hh.2 c (by simp) hh.1
    have e : ∀ x : Int, ¬ ((c.1 : Int) = 10 ∧ x = 13) → textOne c.1 x = if (c.1 : Int) = 13 then [10] else if (c.1 : Int) = 0 then Lib.encodeRune 65533 else Lib.encodeRune c.1 := fun x hx => by
      unfold textOne; rw [if_neg hx]
    simp only [textS]
    rw [e l (by omega), e 0 (by omega)]
theorem segs_at (s : ByteArray) (i : Nat) (hi : i < s.size) : segs (s.data.toList.drop i) = ((Utf8.decode s i).1, (s.data.toList.drop i).take (Utf8.decode s i).2) :: segs (s.data.toList.drop (i + (Utf8.decode s i).2)) := by
  obtain ⟨b, l, e⟩ := drop_cons s i hi
  rw [e, segs_cons, ← e, ← decode_dec, List.drop_drop]
theorem width_le (s : ByteArray) (i : Nat) (hi : i < s.size) : i + (Utf8.decode s i).2 ≤ s.size := by
  obtain ⟨b, l, e⟩ := drop_cons s i hi
  have hw := dec_width b l
  rw [← e, ← decode_dec] at hw
  have : (s.data.toList.drop i).length = l.length + 1 := by rw [e]; rfl
  rw [List.length_drop] at this
  simp at this
  omega
theorem take_enc (s : ByteArray) (i : Nat) (hi : i < s.size) (h : ¬ ((Utf8.decode s i).1 = 65533 ∧ (Utf8.decode s i).2 = 1)) : (s.data.toList.drop i).take (Utf8.decode s i).2 = Lib.encodeRune (Utf8.decode s i).1 := by
  obtain ⟨b, l, e⟩ := drop_cons s i hi
  rw [decode_dec, e] at h ⊢
  exact dec_take b l h
theorem dec_byte (s : ByteArray) (i : Nat) (hi : i < s.size) (n : Nat) (hn : n < 128) : (Utf8.decode s i).1 = n ↔ s[i].toNat = n := by
  by_cases ha : (s[i]'hi).toNat < 128
  · rw [decode_ascii s i hi ha]
  · have := (decode_high s i hi (by omega)).1
    constructor <;> intro h <;> omega
theorem dec_byte2 (s : ByteArray) (i : Nat) (hi : i < s.size) (hn : s[i].toNat < 128) : Utf8.decode s i = (s[i].toNat, 1) := decode_ascii s i hi hn

def leftT (s : ByteArray) (i : Nat) : List UInt8 := textS (segs (s.data.toList.drop i)) 0
theorem leftT_bad (s : ByteArray) (i : Nat) (hi : i < s.size) (h : (Utf8.decode s i).1 = 65533 ∨ (Utf8.decode s i).1 = 0) : leftT s i = [239, 191, 189] ++ leftT s (i + (Utf8.decode s i).2) := by
  unfold leftT
  rw [segs_at s i hi]
  simp only [textS]
  have h1 : textOne (((Utf8.decode s i).1 : Nat) : Int) 0 = [239, 191, 189] := by
    unfold textOne
    rcases h with h | h <;> rw [h]
    · rw [if_neg (by omega), if_neg (by omega), if_neg (by omega)]; exact enc_fffd
    · rw [if_neg (by omega), if_neg (by omega), if_pos (by omega)]; exact enc_fffd
  rw [h1, textS_zero _ _ (by intro hh; omega)]
theorem leftT_plain (s : ByteArray) (i : Nat) (hi : i < s.size) (h1 : ¬ ((Utf8.decode s i).1 = 65533 ∧ (Utf8.decode s i).2 = 1)) (h2 : (Utf8.decode s i).1 ≠ 0) (h3 : (Utf8.decode s i).1 ≠ 13) :
    leftT s i = (s.data.toList.drop i).take (Utf8.decode s i).2 ++ leftT s (i + (Utf8.decode s i).2) := by
  unfold leftT
  rw [segs_at s i hi]
  simp only [textS]
  rw [take_enc s i hi h1, textS_zero _ _ (by intro hh; omega)]
  congr 1
  unfold textOne
  rw [if_neg (by omega), if_neg (by omega), if_neg (by omega)]
theorem leftT_cr (s : ByteArray) (i : Nat) (hi : i < s.size) (h : s[i].toNat = 13) (h2 : ∀ h' : i + 1 < s.size, s[i + 1].toNat ≠ 10) : leftT s i = [10] ++ leftT s (i + 1) := by
  unfold leftT
  have hd := dec_byte2 s i hi (by omega)
  rw [segs_at s i hi, hd, h]
  simp only [textS]
  have h1 : textOne ((13 : Nat) : Int) 0 = [10] := by decide +kernel
  rw [h1, textS_zero _ _ ?_]
  intro _ c hc
  by_cases hj : i + 1 < s.size
  · rw [segs_at s (i + 1) hj] at hc
    simp at hc
    subst hc
    intro e
    exact h2 hj ((dec_byte s (i + 1) hj 10 (by omega)).1 e)
  · rw [List.drop_eq_nil_of_le (by simpa using hj), segs_nil] at hc
    simp at hc
theorem leftT_crlf (s : ByteArray) (i : Nat) (hi : i + 1 < s.size) (h : s[i].toNat = 13) (h2 : s[i + 1].toNat = 10) : leftT s i = [10] ++ leftT s (i + 2) := by
  unfold leftT
  have hd := dec_byte2 s i (by omega) (by omega)
  have hd2 := dec_byte2 s (i + 1) hi (by omega)
  rw [segs_at s i (by omega), hd, h, segs_at s (i + 1) hi, hd2, h2]
  simp only [textS]
  have h1 : textOne ((13 : Nat) : Int) 0 = [10] := by decide +kernel
  have h3 : textOne ((10 : Nat) : Int) ((13 : Nat) : Int) = [] := by decide +kernel
  rw [h1, h3, textS_zero _ 10 (by intro hh; omega)]
  rfl
theorem leftT_end (s : ByteArray) (i : Nat) (h : ¬ i < s.size) : leftT s i = [] := by
  unfold leftT
  rw [List.drop_eq_nil_of_le (by simpa using h)]; rfl

theorem slice_at (s : ByteArray) (i n : Nat) (h : i + n ≤ s.size) (W : World) :
    (Instr.slice 9 (.string s) (some (.int .i64 (i : Int))) (some (.int .i64 ((i : Int) + (n : Int)))) none).run Tryz.prog W = .ok (.string (s.extract i (i + n))) W := by
  have := run_slice_string (P := Tryz.prog) W 9 s .i64 .i64 (i : Int) ((i : Int) + (n : Int)) Tryz.underlying9 (by omega) (by omega) (by omega)
  rw [show ((i : Int) + (n : Int)).toNat = i + n from by omega, Int.toNat_natCast] at this
  exact this
def RefRel (s : ByteArray) (w : World) (out i : Value) (wr : World) : Prop :=
  ∃ (pos : Nat) (O : ByteArray), out = .string O ∧ i = .int .i64 pos ∧ pos ≤ s.size ∧ O.size ≤ 4 * pos ∧ O.data.toList ++ leftT s pos = textL s.data.toList ∧ Below w.heap.size w wr
theorem pre_app {A : List UInt8} {O E : ByteArray} {X Y : List UInt8} (h : O.data.toList ++ X = A) (e : X = E.data.toList ++ Y) : (O ++ E).data.toList ++ Y = A := by
  rw [ByteArray.data_append, Array.toList_append, List.append_assoc, ← e]; exact h
theorem extract_take (s : ByteArray) (i n : Nat) : (s.extract i (i + n)).data.toList = (s.data.toList.drop i).take n := by
  simp only [ByteArray.data_extract, Array.toList_extract, List.extract]
  congr 1
  omega

set_option maxHeartbeats 4000000 in
set_option maxRecDepth 100000 in
theorem refText_any (s : ByteArray) (w : World) (hs : s.size ≤ 17592186044416) (hT : Tabs w) :
    Calls Tryz.prog 50 #[.string s] w fun e w' => e = .returned (.string (textOf s)) ∧ Below w.heap.size w w' := by
  have HT := Lib.hid hT
  clear hT
  go_enter Tryz.func50, Tryz.ntmps50
  go_wp2_with fail
  go_loopw [3, 4] (fun out i wr => RefRel s w out i wr) (fun _ i _ => s.size - (intOf i).toNat)
  case atStart => exact ⟨0, ⟨#[]⟩, rfl, rfl, Nat.zero_le _, Nat.zero_le _, rfl, Below.refl _ _⟩
  case round =>
    obtain ⟨pos, O, rfl, rfl, hps, hO, hE, hbw⟩ := hrel
    by_cases hp : pos < s.size
    · have hwd := width_pos s pos hp
      have hwl := width_le s pos hp
      have hd1 := decode_le s pos
      have cD := fun w1 hT1 => decodeIn_at s pos hp w1 hT1
      have HE := Lib.hid hE
      clear hE
      have HD := Lib.hid (dec_byte s pos hp 13 (by omega))
      have HW1 := Lib.hid (show s[pos].toNat = 13 → (Utf8.decode s pos).2 = 1 from fun h => by rw [dec_byte2 s pos hp (by omega)])
      have Hbad := Lib.hid (leftT_bad s pos hp)
      have Hpl := Lib.hid (leftT_plain s pos hp)
      have Htk := Lib.hid (extract_take s pos (Utf8.decode s pos).2)
      generalize hr : (Utf8.decode s pos).1 = r at *
      generalize hd : (Utf8.decode s pos).2 = d at *
      clear hr hd
      go_wp2_with fail
      refine (cD _ (HT.out.below hbw)).mono ?_
      rintro e W2 ⟨rfl, b2⟩
      have hbw2 := hbw.trans (b2.mono hbw.size)
      clear cD
      by_cases h1 : r = 65533 ∧ d ≤ 1
      · obtain ⟨rfl, h1d⟩ := h1
        go_wp2
        go_roundw
        case rel => exact ⟨pos + d, O ++ ⟨#[239, 191, 189]⟩, rfl, by go_num, by omega, by rw [ByteArray.size_append, show (ByteArray.mk #[239, 191, 189]).size = 3 from rfl]; omega, pre_app HE.out (Hbad.out (by simp)), hbw2⟩
        case measure => simp [intOf]; omega
      · by_cases h0 : r = 0
        · have f1 : ¬ (r = 65533 ∧ d ≤ 1) := h1
          subst h0
          clear h1
          go_wp2
          go_roundw
          case rel => exact ⟨pos + d, O ++ ⟨#[239, 191, 189]⟩, rfl, by go_num, by omega, by rw [ByteArray.size_append, show (ByteArray.mk #[239, 191, 189]).size = 3 from rfl]; omega, pre_app HE.out (Hbad.out (by simp)), hbw2⟩
          case measure => simp [intOf]; omega
        · have f0 : ((r : Int) == 0) = false := by simp; omega
          by_cases h13 : s[pos].toNat = 13
          · have f13 : ((s[pos].toNat : Int) == 13) = true := by simp; omega
            have hrr : r = 13 := HD.out.2 h13
            have f65 : ((r : Int) == 65533) = false := by simp; omega
            have H13 := Lib.hid h13
            clear hrr h13 h0 h1
            by_cases hn : pos + 1 < s.size
            · by_cases h10 : s[pos + 1].toNat = 10
              · have f10 : ((s[pos + 1].toNat : Int) == 10) = true := by simp; omega
                have HN := Lib.hid (leftT_crlf s pos hn H13.out h10)
                clear h10
                go_wp2
                go_roundw
                case rel => exact ⟨pos + 2, O ++ ⟨#[10]⟩, rfl, by go_num, by omega, by rw [ByteArray.size_append, show (ByteArray.mk #[10]).size = 1 from rfl]; omega, pre_app HE.out HN.out, hbw2⟩
                case measure => simp [intOf]; omega
              · have f10 : ((s[pos + 1].toNat : Int) == 10) = false := by simp; omega
                have HN := Lib.hid (leftT_cr s pos hp H13.out (fun _ => h10))
                have hd1w : d = 1 := HW1.out H13.out
                subst hd1w
                clear h10
                go_wp2
                go_roundw
                case rel => exact ⟨pos + 1, O ++ ⟨#[10]⟩, rfl, by go_num, by omega, by rw [ByteArray.size_append, show (ByteArray.mk #[10]).size = 1 from rfl]; omega, pre_app HE.out HN.out, hbw2⟩
                case measure => simp [intOf]; omega
            · have HN := Lib.hid (leftT_cr s pos hp H13.out (fun h => absurd h hn))
              have hd1w : d = 1 := HW1.out H13.out
              subst hd1w
              go_wp2
              go_roundw
              case rel => exact ⟨pos + 1, O ++ ⟨#[10]⟩, rfl, by go_num, by omega, by rw [ByteArray.size_append, show (ByteArray.mk #[10]).size = 1 from rfl]; omega, pre_app HE.out HN.out, hbw2⟩
              case measure => simp [intOf]; omega
          · have f13 : ((s[pos].toNat : Int) == 13) = false := by simp; omega
            have h13r : r ≠ 13 := fun e => h13 (HD.out.1 e)
            have HN := Lib.hid (Hpl.out (by omega) h0 h13r)
            have hex : (s.extract pos (pos + d)).size = d := by rw [ByteArray.size_extract]; omega
            have HX := Lib.hid hex
            have hxs : (s.extract pos (pos + d)).size ≤ 4 * s.size := by omega
            have hsl := slice_at s pos d hwl
            clear hex h13r h13 h0
            by_cases h65 : r = 65533
            · have hd1 : 1 < d := by omega
              have f65 : ((r : Int) == 65533) = true := by simp; omega
              clear h1 h65
              go_wp2
              go_roundw
              case rel => exact ⟨pos + d, O ++ s.extract pos (pos + d), rfl, by go_num, by omega, by rw [ByteArray.size_append, HX.out]; omega, pre_app HE.out (by rw [Htk.out]; exact HN.out), hbw2⟩
              case measure => simp [intOf]; omega
            · have f65 : ((r : Int) == 65533) = false := by simp; omega
              clear h1 h65
              go_wp2
              go_roundw
              case rel => exact ⟨pos + d, O ++ s.extract pos (pos + d), rfl, by go_num, by omega, by rw [ByteArray.size_append, HX.out]; omega, pre_app HE.out (by rw [Htk.out]; exact HN.out), hbw2⟩
              case measure => simp [intOf]; omega
    · obtain rfl : pos = s.size := by omega
      go_wp2
      go_ret
      rw [leftT_end s _ hp, List.append_nil] at hE
      have hO2 : O = textOf s := by
        apply ByteArray.ext
        apply Array.toList_inj.1
        rw [hE]
        simp [textOf]
      subst hO2
      exact ⟨rfl, hbw⟩

end Go.Proofs.YtkcmhdkhdjmjeaaGreatDoor

namespace Go.Proofs.YtkcmhdkhdjmjeaaGreatDoor
open Go.RowKit
set_option linter.unusedSimpArgs false
set_option linter.unusedVariables false
set_option maxRecDepth 100000

/-- The parts that are left, as they grow: their lines lie in the document's own parts, or in lists of the call's own below N. -/
structure VOut (w1 : World) (N : Nat) (Y : List (Prt × Value)) (v : Value) (w : World) : Prop where
  row : w.ownsRow w1.heap.size 94 5 v Y.length (psC Y)
  ls : ∀ y ∈ Y, (LsAt w1 y ∧ ∀ n c, y.2 = .slice none n c → n = 0 ∧ c = 0) ∨ (w.ownsRow w1.heap.size 9 1 y.2 y.1.ls.length (strs y.1.ls) ∧ ∀ g, y.2.ownBlock = some g → g < N)
  bel : Below w1.heap.size w1 w
section
variable {w1 w w' : World} {N : Nat} {Y : List (Prt × Value)} {v : Value}
theorem VOut.nil (w1 : World) : VOut w1 w1.heap.size [] (.slice none 0 0) w1 := ⟨World.ownsRow_nil _ _ _ _, by simp, Below.refl _ _⟩
theorem VOut.below (h : VOut w1 N Y v w) (hb : Below w.heap.size w w') : VOut w1 N Y v w' := by
  refine ⟨ownsRow_below h.row hb, fun y hy => ?_, h.bel.then hb⟩
  rcases h.ls y hy with h1 | h1
  · exact Or.inl h1
  · exact Or.inr ⟨ownsRow_below h1.1 hb, h1.2⟩
theorem VOut.wide (h : VOut w1 N Y v w) {M : Nat} (hM : w.heap.size ≤ M) : VOut w1 M Y v w := by
  refine ⟨h.row, fun y hy => ?_, h.bel⟩
  rcases h.ls y hy with h1 | h1
  · exact Or.inl h1
  · exact Or.inr ⟨h1.1, fun g hg => Nat.lt_of_lt_of_le (h1.1.lt g hg).2 hM⟩
theorem VOut.mono (h : VOut w1 N Y v w) {M : Nat} (hM : N ≤ M) : VOut w1 M Y v w := by
  refine ⟨h.row, fun y hy => ?_, h.bel⟩
  rcases h.ls y hy with h1 | h1
  · exact Or.inl h1
  · exact Or.inr ⟨h1.1, fun g hg => Nat.lt_of_lt_of_le (h1.2 g hg) hM⟩
/-- A list of texts behind N grows. -/
theorem VOut.grown (h : VOut w1 N Y v w) {u : Value} {n : Nat} {xs : List Value} (hu : w.ownsRow N 9 1 u n xs) (hN : w1.heap.size ≤ N) (g : w.grownBy w' u.ownBlock) (hNw : N ≤ w.heap.size) : VOut w1 N Y v w' := by
  refine ⟨h.row.kept g (own_apart h.row hu (by decide)).ne, fun y hy => ?_, h.bel.trans (below_of_grown g (fun k hk => Nat.le_trans hN (hu.lt k hk).1) (by have := h.bel.size; omega))⟩
  rcases h.ls y hy with h1 | h1
  · exact Or.inl h1
  · refine Or.inr ⟨h1.1.kept g ?_, h1.2⟩
    have hap : Apart y.2 u := fun k hk hk' => by
      have e1 := h1.2 k hk
      have e2 := (hu.lt k hk').1
      omega
    exact hap.ne
/-- A part more. -/
theorem VOut.snoc (h : VOut w1 N Y v w) {v' : Value} {x : Prt × Value} (hr : w'.ownsRow w1.heap.size 94 5 v' (Y.length + 1) (psC Y ++ ptC x)) (g : w.grownBy w' v.ownBlock)
    (hx : (LsAt w1 x ∧ ∀ n c, x.2 = .slice none n c → n = 0 ∧ c = 0) ∨ (w.ownsRow w1.heap.size 9 1 x.2 x.1.ls.length (strs x.1.ls) ∧ ∀ g, x.2.ownBlock = some g → g < N)) : VOut w1 N (Y ++ [x]) v' w' := by
  have kept : ∀ {y : Prt × Value}, w.ownsRow w1.heap.size 9 1 y.2 y.1.ls.length (strs y.1.ls) → w'.ownsRow w1.heap.size 9 1 y.2 y.1.ls.length (strs y.1.ls) := fun hy => hy.kept g (own_apart hy h.row (by decide)).ne
  refine ⟨?_, fun y hy => ?_, h.bel.trans (below_of_grown g (fun k hk => (h.row.lt k hk).1) h.bel.size)⟩
  · rw [List.length_append, ← psC_snoc]; exact hr
  · rw [List.mem_append, List.mem_singleton] at hy
    rcases hy with hy | rfl
    · rcases h.ls y hy with h1 | h1
      · exact Or.inl h1
      · exact Or.inr ⟨kept h1.1, h1.2⟩
    · rcases hx with h1 | h1
      · exact Or.inl h1
      · exact Or.inr ⟨kept h1.1, h1.2⟩
/-- They may be read. -/
theorem VOut.at (h : VOut w1 N Y v w) : ∃ A cap, v = .slice A Y.length cap ∧ PartsAt w A cap Y ∧ ∀ y ∈ Y, ∀ n c, y.2 = .slice none n c → n = 0 ∧ c = 0 := by
  have hls : ∀ y ∈ Y, LsAt w y := fun y hy => by
    rcases h.ls y hy with h1 | h1
    · exact h1.1.below h.bel
    · obtain ⟨A, c, e, hr, _⟩ := RowOf.own h1.1
      exact ⟨A, c, e, hr⟩
  obtain ⟨A, cap, e, h1, h2, h3, h4⟩ := own_slice h.row
  refine ⟨A, cap, e, ⟨h1, h2, ?_, hls⟩, fun y hy n c e2 => ?_⟩
  · by_cases h0 : Y.length = 0
    · exact Or.inl (List.eq_nil_of_length_eq_zero h0)
    · right
      rw [e] at h
      obtain ⟨g, cap', cur, e', hb, hlt, _, _, hg, hc⟩ := own_block h.row (by omega)
      cases e'
      exact ⟨g, 0, rfl, hlt, fun k hk j u hu => by rw [Nat.zero_add]; exact hc _ _ (psC_get Y k hk j u hu)⟩
  · rcases h.ls y hy with h1 | h1
    · exact h1.2 n c e2
    · rcases h1.1.2 with ⟨e3, h0⟩ | ⟨g, cap', cur, e3, _⟩
      · rw [e2] at e3; cases e3; exact ⟨rfl, rfl⟩
      · rw [e2] at e3; cases e3
end
def hdV : Option Int → Int | none => -1 | some d => d
def VeRel (q : Sv) (P : List Prt) (w1 : World) (v uv hv i : Value) (wr : World) : Prop :=
  ∃ (k : Nat) (h : Option Int) (Y : List (Prt × Value)) (U : List Txt), i = .int .i64 k ∧ k ≤ P.length ∧ hv = .int .i64 (hdV h) ∧ VOut w1 wr.heap.size Y v wr ∧ wr.ownsRow w1.heap.size 9 1 uv U.length (strs U) ∧ UndOk q P k h U ∧
    Y.map Prod.fst ++ hideF q h (P.drop k) = hideP q P ∧ Y.length ≤ k ∧ U.length ≤ k
def VlnRel (q : Sv) (ls : List Txt) (w2 : World) (lv j : Value) (wq : World) : Prop :=
  ∃ k : Nat, j = .int .i64 k ∧ k ≤ ls.length ∧ wq.ownsRow w2.heap.size 9 1 lv ((ls.take k).map (lineL q)).length (strs ((ls.take k).map (lineL q))) ∧ Below w2.heap.size w2 wq

section
variable {w w' : World} {b : Nat} {A : Option Addr} {ca : Nat} {p : OPlace} {ns : List (List UInt8)} {R : Rel} {me : Nat}
theorem under_all (h : RSeer w b A ca p ns R me) {U : List Txt} (hU : U.all (svL ns R me) = true) : underP ns R me U = svL ns R me := by
  funext x
  unfold underP
  rw [seesL_all h.lat h.pos h.lt, hU, Bool.true_and]
theorem sees_last (h : RSeer w b A ca p ns R me) {U : List Txt} (hU : U.all (svL ns R me) = true) (x : Txt) : seesL ns R me (U ++ [x]) = svL ns R me x := by
  rw [seesL_all h.lat h.pos h.lt, List.all_append, hU]; simp

set_option maxHeartbeats 16000000 in
theorem rveil_any (h : RSeer w b A ca p ns R me) (hT : Tabs w) (doc : ByteArray) (hs : doc.size ≤ 20000) :
    Calls Tryz.prog 17 #[.pointer (some ⟨b, 0, none⟩), .string doc] w fun e w' => e = .returned (.string ⟨(veilL (svL ns R me) doc.data.toList).toArray⟩) ∧ Below w.heap.size w w' := by
  obtain ⟨i1, hi1, hw0, hw1, hw2⟩ := info_parts infoPart
  obtain ⟨i3, hi3, hv0, hv1, hv2⟩ := info_parts infoString
  have ct := refText_any doc w (by omega) hT
  unfold textOf at ct
  have hl : doc.data.toList.length = doc.size := by simp
  have hTl := textL_len doc.data.toList
  have HV := Lib.hid (show veilL (svL ns R me) doc.data.toList = joinL (writeP (hideP (svL ns R me) (parseL (splitL (textL doc.data.toList))))) from rfl)
  have HVl := Lib.hid (veil_len (svL ns R me) doc.data.toList).1
  generalize textL doc.data.toList = T at *
  have hTl2 : T.length ≤ 80000 := by omega
  have hsl := split_len T []
  have hLl : (splitL T).length ≤ 100000 := by have : (splitL T).length ≤ T.length + 1 := hsl; omega
  have hL1 : ∀ y ∈ splitL T, y.length ≤ 100000 := fun y hy => by have := split_one T y hy; omega
  have hPR := (parse_right (splitL T) (split_lf T)).1
  have hPs := parse_small 100000 hLl
  have hPm := parse_mem (fun l => l.length ≤ 100000) (splitL T) ([], []) (by simp) hL1
  have hPm2 : ∀ x ∈ parseL (splitL T), ∀ l ∈ x.ls, l.length ≤ 100000 := hPm
  have csp := fun w1 => rsplit_any ⟨T.toArray⟩ w1 (by rw [str_size]; omega)
  rw [show (⟨T.toArray⟩ : ByteArray).data.toList = T from rfl] at csp
  generalize splitL T = Ls at *
  generalize hP : parseL Ls = P at *
  have HP := Lib.hid hP
  have HS := Lib.hid h
  clear hP h hT hPm hsl hTl
  go_enter Tryz.func17, Tryz.ntmps17
  go_wp2_with fail
  refine ct.mono ?_
  rintro e w1 ⟨rfl, b1⟩
  have HB1 := Lib.hid b1
  clear b1 ct
  go_wp2_with fail
  refine (csp _).mono ?_
  rintro e w2 ⟨v2, rfl, hown2, b2⟩
  obtain ⟨A2, c2, rfl, hr2, _⟩ := RowOf.own hown2
  have HB2 := Lib.hid (HB1.out.then b2)
  have cp := rparts_any A2 c2 Ls w2 hr2 hLl (fun y hy => by have := hL1 y hy; omega)
  clear b2 hown2 hr2 csp
  go_wp2_with fail
  refine cp.mono ?_
  rintro e wp ⟨v3, X, rfl, hX, hXe, b3⟩
  rw [HP.out] at hXe
  have HB3 := Lib.hid (HB2.out.then b3)
  obtain ⟨A3, c3, rfl, hX3⟩ := hX.at
  have hXl : X.length = P.length := by rw [← hXe]; simp
  have hlent : ∀ x ∈ X, ∀ n c, x.2 = .slice none n c → n = 0 ∧ c = 0 := fun x hx n c e2 => by
    obtain ⟨j, hj⟩ := List.getElem?_of_mem hx
    have ho := hX.ls j x hj
    rcases ho.2 with ⟨e3, _⟩ | ⟨g, cap, cur, e3, _⟩
    · rw [e2] at e3; cases e3; exact ⟨rfl, rfl⟩
    · rw [e2] at e3; cases e3
  have hc3 := hX3.le
  have hm3 := hX3.cap
  unfold maxLen at hm3
  have HXe := Lib.hid hXe
  have HX3 := Lib.hid hX3
  have HLent := Lib.hid hlent
  have HSp := Lib.hid (HS.out.below HB3.out)
  have HPR := Lib.hid hPR
  have HPm2 := Lib.hid hPm2
  have HPs := Lib.hid hPs
  have hPl : P.length ≤ 100000 := hPs.1
  clear b3 hX hX3 cp hXe hlent hPR hPm2 hPs
  generalize hq : svL ns R me = q at *
  have HQ := Lib.hid hq
  clear hq
  rw [hXl] at hc3 ⊢
  go_wp2_with fail
  go_loopw [6, 7, 8, 9] (fun v uv hv i wr => VeRel q P wp v uv hv i wr) (fun _ _ _ i _ => P.length - (intOf i).toNat)
  case atStart => exact ⟨0, none, [], [], rfl, Nat.zero_le _, rfl, VOut.nil wp, World.ownsRow_nil _ _ _ _, UndOk.nil q P, rfl, Nat.le_refl _, Nat.le_refl _⟩
  case round =>
    obtain ⟨k, hd, Y, U, rfl, hk, rfl, hV, hU, hUn, hYe, hYl, hUl⟩ := hrel
    by_cases hp : k < P.length
    · obtain ⟨Av, cv, rfl, hvl, hvm, _, _⟩ := own_slice hV.row
      obtain ⟨Au, cu, rfl, hul, hum, hun, huc⟩ := own_slice hU
      unfold maxLen at hvm hum
      have hpx : k < X.length := by omega
      have hUs := fun d e => (hUn.som d e).2.1
      have hX2 := HX3.out.below hV.bel
      obtain ⟨b9, off, rfl, hb9, y0, y1, y2, y3, y4⟩ := hX2.at hpx
      have hls9 := HX3.out.ls X[k] (List.getElem_mem hpx)
      have hln9 := HLent.out X[k] (List.getElem_mem hpx)
      have hpk : X[k].1 = P[k] := by
        have h1 : P[k]? = some X[k].1 := by rw [← HXe.out, List.getElem?_map, List.getElem?_eq_getElem hpx]; rfl
        rw [List.getElem?_eq_getElem hp] at h1
        exact (Option.some.inj h1).symm
      have hSt := fun hh => hUn.take HPR.out hp hh
      have hDv := fun hh hv => hUn.div HPR.out hp hh hv
      have hRn := fun hh hv => hUn.run HPR.out hp hh hv
      have hSk := fun d hh => hUn.skip (d := d) hh
      have hHd := hide_drop q P k hp hd
      have hRP := (right_step HPR.out hp).1
      have hdp := (depth_ins (right_step HPR.out hp).2.1).1
      have hlm := HPm2.out P[k] (List.getElem_mem hp)
      have hlc := HPs.out.2 P[k] (List.getElem_mem hp)
      rw [← hpk] at hSt hDv hRn hHd hRP hdp hlm hlc
      clear hX2 hUn
      generalize X[k] = x at *
      obtain ⟨A9, c9, e9, hr9⟩ := hls9
      obtain ⟨⟨d9, dv, lab, opn, ls⟩, xv⟩ := x
      simp only at e9 hr9 hln9 hSt hDv hRn hHd hRP hdp hlm hlc y0 y1 y2 y3 y4
      subst e9
      obtain ⟨t, rfl⟩ : ∃ t : Nat, d9 = t := ⟨d9.toNat, by omega⟩
      rw [Int.toNat_natCast] at hSt hDv hRn
      have HR9 := Lib.hid hr9
      have HL9 := Lib.hid hln9
      have HDv := Lib.hid hDv
      have HRn := Lib.hid hRn
      have HSk := Lib.hid hSk
      have HRP := Lib.hid hRP
      have HLm := Lib.hid hlm
      have HHd := Lib.hid hHd
      have HSt := Lib.hid hSt
      have HYe := Lib.hid hYe
      have HV3 := Lib.hid hV
      have HU3 := Lib.hid hU
      have hs0 := alloc_size wr (.cells #[.int .i64 t, .bool dv, .string ⟨lab.toArray⟩, .bool opn, .slice A9 ls.length c9] 94)
      clear hr9 hln9 hDv hRn hSk hRP hlm hHd hSt hYe hpk hdp
      by_cases hhd : hidB hd t = true
      · -- it lies in what is hidden
        obtain ⟨d, rfl⟩ : ∃ d, hd = some d := by cases hd with | none => simp [hidB] at hhd | some d => exact ⟨d, rfl⟩
        have hdt : d < (t : Int) := by simpa [hidB] using hhd
        have HFin := Lib.hid (show VeRel q P wp (.slice Av Y.length cv) (.slice Au U.length cu) (.int .i64 (hdV (some d))) (.int .i64 (k + 1 : Nat)) (wr.alloc (.cells #[.int .i64 t, .bool dv, .string ⟨lab.toArray⟩, .bool opn, .slice A9 ls.length c9] 94)) from by
          refine ⟨k + 1, some d, Y, U, rfl, by omega, rfl, (HV3.out.below ((Below.refl _ wr).alloc (Nat.le_refl _) _)).wide (Nat.le_refl _), HU3.out.alloc _, HSk.out t hhd, ?_, by omega, by omega⟩
          rw [← HYe.out, HHd.out, if_pos hhd])
        have hd0 : 0 ≤ d := hUs d rfl
        clear hV hU hhd hUs
        rw [show hdV (some d) = d from rfl]
        go_wp2
        go_roundw
        case rel => exact HFin.out
        case measure => simp [intOf]; omega
      · -- it is kept
        have hhd : hidB hd t = false := by simpa using hhd
        obtain ⟨_, ht1, ht2⟩ := HSt.out hhd
        have htU : t ≤ U.length := by omega
        have hlU : (U.take t).length = t := by rw [List.length_take]; omega
        have hrU := (RowOf.own hU)
        obtain ⟨Au', cu', eu, hru, _⟩ := hrU
        cases eu
        have hnU : Au = none → U.take t = [] ∧ cu = 0 := fun e => ⟨by rw [List.eq_nil_of_length_eq_zero (hun e).1]; simp, (hun e).2⟩
        have hru1 := (hru.take t).alloc (.cells #[.int .i64 t, .bool dv, .string ⟨lab.toArray⟩, .bool opn, .slice A9 ls.length c9] 94)
        rw [show (strs U).take t = strs (U.take t) from by unfold strs; rw [List.map_take]] at hru1
        have hbelw : wp.heap.size ≤ wr.heap.size := hV.bel.size
        have HAll := Lib.hid ht2
        have hcase : (hdV hd = -1) ∨ (0 ≤ hdV hd ∧ ¬ hdV hd < (t : Int)) := by
          cases hd with
          | none => exact Or.inl rfl
          | some d => exact Or.inr ⟨hUs d rfl, by simpa [hidB, hdV] using hhd⟩
        have HRelT := Lib.hid (show dv = true → ∀ v uv w5, VOut wp w5.heap.size (Y ++ [(⟨t, dv, lab, opn, ls⟩, .slice A9 ls.length c9)]) v w5 → w5.ownsRow wp.heap.size 9 1 uv (U.take t ++ [lab]).length (strs (U.take t ++ [lab])) →
            VeRel q P wp v uv (.int .i64 (if q lab then -1 else t)) (.int .i64 (k + 1 : Nat)) w5 from by
          rintro rfl v uv w5 h1 h2
          have hls : ls = [] := by
            have := HRP.out
            unfold rightPart at this
            simp only [if_true, Bool.and_eq_true, List.isEmpty_iff] at this
            exact this.1.1
          have h3 := HDv.out hhd rfl
          refine ⟨k + 1, nextH q ⟨t, true, lab, opn, ls⟩, _, _, rfl, by omega, ?_, h1, h2, h3, ?_, by rw [List.length_append, List.length_singleton]; omega, by rw [List.length_append, hlU, List.length_singleton]; omega⟩
          · unfold nextH
            cases q lab <;> rfl
          · rw [← HYe.out, HHd.out, if_neg (by rw [hhd]; simp), List.map_append, List.append_assoc]
            subst hls
            rfl)
        have HRelF := Lib.hid (show dv = false → ∀ v uv w5 lv, VOut wp w5.heap.size (Y ++ [(linesL q ⟨t, dv, lab, opn, ls⟩, lv)]) v w5 → w5.ownsRow wp.heap.size 9 1 uv (U.take t).length (strs (U.take t)) →
            VeRel q P wp v uv (.int .i64 (-1)) (.int .i64 (k + 1 : Nat)) w5 from by
          rintro rfl v uv w5 lv h1 h2
          obtain ⟨h3, h4⟩ := HRn.out hhd rfl
          refine ⟨k + 1, none, _, _, rfl, by omega, rfl, h1, h2, h3, ?_, by rw [List.length_append, List.length_singleton]; omega, by rw [hlU]; omega⟩
          rw [← HYe.out, HHd.out, if_neg (by rw [hhd]; simp), h4, List.map_append, List.append_assoc]
          rfl)
        have HHh := Lib.hid hhd
        have htc : t ≤ cu := by omega
        have hgb := heap_alloc_new wr (.cells #[.int .i64 t, .bool dv, .string ⟨lab.toArray⟩, .bool opn, .slice A9 ls.length c9] 94)
        have HGb := Lib.hid hgb
        generalize hdV hd = hx at *
        clear hV hU hhd hUs ht2 hru huc hun hgb
        rcases hcase with rfl | ⟨h1, h2⟩
        · go_wp2_with (at_builtin; refine append_strs rfl _ _ rfl (wr.heap.size + 1) (.slice none 0 0) [] rfl (World.ownsRow_nil _ _ _ _) Au cu (U.take t) (by rw [hlU]; rfl) hru1 hnU (by simp; omega) (by omega) ?_)
          intro uv1 w2 hown2 hgr2
          have hown2 : w2.ownsRow (wr.heap.size + 1) 9 1 uv1 (U.take t).length (strs (U.take t)) := by rw [hlU]; exact hown2
          have b2 : Below (wr.alloc (.cells #[.int .i64 t, .bool dv, .string ⟨lab.toArray⟩, .bool opn, .slice A9 ls.length c9] 94)).heap.size (wr.alloc (.cells #[.int .i64 t, .bool dv, .string ⟨lab.toArray⟩, .bool opn, .slice A9 ls.length c9] 94)) w2 := below_of_grown hgr2 (fun g hg => by simp [Value.ownBlock] at hg) (Nat.le_refl _)
          have hlt0 : wr.heap.size < (wr.alloc (.cells #[.int .i64 t, .bool dv, .string ⟨lab.toArray⟩, .bool opn, .slice A9 ls.length c9] 94)).heap.size := by omega
          have hblk2 := (b2.block wr.heap.size hlt0).trans HGb.out
          have hbw2 : Below wr.heap.size wr w2 := ((Below.refl _ wr).alloc (Nat.le_refl _) _).then b2
          have HV2o := Lib.hid (HV3.out.below hbw2)
          have hs2 : wr.heap.size + 1 ≤ w2.heap.size := by have := b2.size; omega
          generalize hU1 : U.take t = U1 at *
          have HU1 := Lib.hid hU1
          have hlU1 : U1.length ≤ 100000 := by omega
          have HBlk2 := Lib.hid hblk2
          have HO2 := Lib.hid hown2
          have HB2w := Lib.hid hbw2
          obtain ⟨A1, c1, rfl, _, hm1, _, _⟩ := own_slice hown2
          unfold maxLen at hm1
          clear hown2 hgr2 b2 hbw2 hru1 hnU hblk2 hU1 hlU hs0 HGb
          obtain ⟨q0, q1, q2, q3, q4⟩ := box5_cells HBlk2.out
          cases dv with
          | true =>
            have hV2 := HV2o.out.below ((Below.refl _ w2).alloc (Nat.le_refl _) (.cells #[.int .i64 t, .bool true, .string ⟨lab.toArray⟩, .bool opn, .slice A9 ls.length c9] 94))
            have hn2 := part_cells w2 (⟨t, true, lab, opn, ls⟩, .slice A9 ls.length c9) 94
            have hs2' := alloc_size w2 (.cells #[.int .i64 t, .bool true, .string ⟨lab.toArray⟩, .bool opn, .slice A9 ls.length c9] 94)
            go_wp2_with (at_builtin; refine wpList_append_own _ rfl _ _ 63 rfl wp.heap.size 94 i1 (.agg #[.int .i64 0, .bool false, .string ByteArray.empty, .bool false, .slice none 0 0]) 5 64 Tryz.underlying63 hi1 hw0 hw1 hw2 rfl (by decide) _ _ _ rfl hV2.row ⟨w2.heap.size, 0, none⟩ 1 1 (ptC (⟨t, true, lab, opn, ls⟩, .slice A9 ls.length c9)) rfl rfl hn2 (ptC_one _ rfl) (by unfold maxLen; omega) (by omega) (by simp; omega) ?_)
            intro v' w3 hown3 hgrow3 _
            obtain ⟨g3, cv3, cur3, rfl, _, _, _, _, _, _⟩ := own_block hown3 (by omega)
            have hV3 := hV2.snoc hown3 hgrow3 (Or.inl ⟨⟨A9, c9, rfl, HR9.out⟩, HL9.out⟩)
            have hu3 := (HO2.out.alloc (.cells #[.int .i64 t, .bool true, .string ⟨lab.toArray⟩, .bool opn, .slice A9 ls.length c9] 94)).kept hgrow3 (own_apart (HO2.out.alloc _) hV2.row (by decide)).ne
            have hs3 := hgrow3.size
            have hblk3 := (hgrow3.block wr.heap.size (by omega) (fun e => by have := (HV3.out.row.lt wr.heap.size e.symm).2; omega)).trans ((Below.heap_alloc w2 _ wr.heap.size (by omega)).trans HBlk2.out)
            obtain ⟨z0, z1, z2, z3, z4⟩ := box5_cells hblk3
            have hu4 := hu3.alloc (.cells #[.string ⟨lab.toArray⟩] 9)
            have hn4 := cells_one w3 (.string ⟨lab.toArray⟩) 9
            have hs4 := alloc_size w3 (.cells #[.string ⟨lab.toArray⟩] 9)
            have HVo3 := Lib.hid hV3
            have HBlk3 := Lib.hid hblk3
            clear hown3 hgrow3 hV2 hn2 hV3 hu3 hblk3 q0 q1 q2 q3 q4
            go_wp2_with (at_builtin; refine wpList_append_own _ rfl _ _ 22 rfl (wr.heap.size + 1) 9 i3 (.string ByteArray.empty) 1 16 Tryz.underlying22 hi3 hv0 hv1 hv2 rfl (by decide) _ _ _ rfl hu4 ⟨w3.heap.size, 0, none⟩ 1 1 [.string ⟨lab.toArray⟩] rfl rfl hn4 (by simp [Value.oneCell']) (by unfold maxLen; omega) (by omega) (by simp; omega) ?_)
            intro uv2 w4 hown4 hgrow4 _
            rw [strs_snoc1, show U1.length + 1 = (U1 ++ [lab]).length from by simp] at hown4
            have hV4 := ((HVo3.out.mono (M := wr.heap.size + 1) (by omega)).below ((Below.refl _ w3).alloc (Nat.le_refl _) (.cells #[.string ⟨lab.toArray⟩] 9))).grown hu4 (by omega) hgrow4 (by omega)
            have hs5 := hgrow4.size
            have hblk4 := (hgrow4.block wr.heap.size (by omega) (fun e => by have := (hu4.lt wr.heap.size e.symm).1; omega)).trans ((Below.heap_alloc w3 _ wr.heap.size (by omega)).trans HBlk3.out)
            have hU2a : U1.all q = true := HAll.out
            have hSee : seesL ns R me (U1 ++ [lab]) = q lab := by rw [sees_last HSp.out (by rw [HQ.out]; exact hU2a), HQ.out]
            have hRT := HRelT.out (by first | trivial | rfl)
            generalize hU2 : U1 ++ [lab] = U2 at *
            have HU2 := Lib.hid hU2
            obtain ⟨A5, c5, rfl, hr5, _⟩ := RowOf.own hown4
            have cs := rsees_any (HSp.out.below hV4.bel) A5 c5 U2 hr5
            rw [hSee] at cs
            have HV4 := Lib.hid hV4
            have HBlk4 := Lib.hid hblk4
            have HO4 := Lib.hid hown4
            have HRT := Lib.hid hRT
            clear hown4 hgrow4 hV4 hblk4 hu4 hn4 hU2 hr5 hSee hU2a hRT z0 z1 z2 z3 z4
            go_wp2_with fail
            refine cs.mono ?_
            rintro e w5 ⟨rfl, b5⟩
            have hV5 := (HV4.out.below b5).wide (Nat.le_refl _)
            have hu5 := own_low (ownsRow_below HO4.out b5) (B' := wp.heap.size) (by omega)
            have hblk5 := (b5.block wr.heap.size (by omega)).trans HBlk4.out
            have HF := Lib.hid (HRT.out _ _ _ hV5 hu5)
            obtain ⟨z0, z1, z2, z3, z4⟩ := box5_cells hblk5
            clear b5 hV5 hu5 hblk5 cs
            cases hql : q lab with
            | true =>
              rw [hql, if_pos rfl] at HF
              clear hql
              go_wp2
              go_roundw
              case rel => exact HF.out
              case measure => simp [intOf]; omega
            | false =>
              rw [hql, if_neg (by simp)] at HF
              clear hql
              go_wp2
              go_roundw
              case rel => exact HF.out
              case measure => simp [intOf]; omega
          | false =>
            have hEq : underP ns R me U1 = q := by rw [under_all HSp.out (by rw [HQ.out]; exact HAll.out), HQ.out]
            have hRF := HRelF.out (by first | trivial | rfl)
            have HRF := Lib.hid hRF
            clear hRF
            go_wp2_with fail
            go_loopw [11, 12] (fun lv j wq => VlnRel q ls w2 lv j wq) (fun _ j _ => ls.length - (intOf j).toNat)
            case atStart => exact ⟨0, rfl, Nat.zero_le _, World.ownsRow_nil _ _ _ _, Below.refl _ _⟩
            case round =>
              obtain ⟨j, rfl, hj, hlv, hbq⟩ := hrel
              rename World => wq
              have hblkq := (hbq.block wr.heap.size (by omega)).trans HBlk2.out
              obtain ⟨z0, z1, z2, z3, z4⟩ := box5_cells hblkq
              have hsq := hbq.size
              have hpq := HV2o.out.bel.then hbq
              have HBq := Lib.hid hbq
              have HLv := Lib.hid hlv
              by_cases hjl : j < ls.length
              · obtain ⟨bl, ol, el, hbl, hcl⟩ := (HR9.out.below hpq).cellAt hjl
                subst el
                have hlen : (⟨ls[j].toArray⟩ : ByteArray).size ≤ 100000 := by rw [str_size]; exact HLm.out _ (List.getElem_mem hjl)
                obtain ⟨A1', c1', e1', hru, _⟩ := RowOf.own (ownsRow_below HO2.out hbq)
                cases e1'
                have cl := rline_any (HSp.out.below hpq) ⟨ls[j].toArray⟩ hlen A1 c1 U1 hru (by omega)
                rw [hEq, show (⟨ls[j].toArray⟩ : ByteArray).data.toList = ls[j] from rfl] at cl
                have HTk := Lib.hid (show (ls.take (j + 1)).map (lineL q) = (ls.take j).map (lineL q) ++ [lineL q ls[j]] from by rw [List.take_succ_eq_append_getElem hjl, List.map_append]; rfl)
                have hlj : ((ls.take j).map (lineL q)).length ≤ 100000 := by rw [List.length_map, List.length_take]; omega
                generalize hLj : (ls.take j).map (lineL q) = Lj at *
                generalize lineL q ls[j] = lq at *
                obtain ⟨Al, cal, rfl, hal1, hal2, _⟩ := own_slice hlv
                unfold maxLen at hal2
                clear hlv hbq hru hpq
                go_wp2_with fail
                refine cl.mono ?_
                rintro e wz ⟨rfl, bz⟩
                have hlz := (ownsRow_below HLv.out bz).alloc (.cells #[.string ⟨lq.toArray⟩] 9)
                have hnz := cells_one wz (.string ⟨lq.toArray⟩) 9
                have hsz := bz.size
                have HBz := Lib.hid (HBq.out.then bz)
                clear bz cl
                go_wp2_with (at_builtin; refine wpList_append_own _ rfl _ _ 22 rfl w2.heap.size 9 i3 (.string ByteArray.empty) 1 16 Tryz.underlying22 hi3 hv0 hv1 hv2 rfl (by decide) _ _ _ rfl hlz ⟨wz.heap.size, 0, none⟩ 1 1 [.string ⟨lq.toArray⟩] rfl rfl hnz (by simp [Value.oneCell']) (by unfold maxLen; omega) (by omega) (by simp; omega) ?_)
                intro lv2 wy howny hgrowy _
                rw [strs_snoc1, show Lj.length + 1 = (Lj ++ [lq]).length from by simp, ← HTk.out] at howny
                have hby := (HBz.out.then ((Below.refl _ wz).alloc (Nat.le_refl _) (.cells #[.string ⟨lq.toArray⟩] 9))).trans (below_of_grown hgrowy (fun g hg => (hlz.lt g hg).1) (by rw [alloc_size]; omega))
                have HFy := Lib.hid howny
                have HBy := Lib.hid hby
                clear howny hgrowy hlz hby
                go_wp2
                go_roundw
                case rel => exact ⟨j + 1, by go_num, by omega, HFy.out, HBy.out⟩
                case measure => simp [intOf]; omega
              · obtain rfl : j = ls.length := by omega
                rw [List.take_length] at hlv
                have hL5l : (ls.map (lineL q)).length ≤ 100000 := by rw [List.length_map]; exact hlc
                have HRF2 := Lib.hid (fun v uv w5 lv h1 h2 => HRF.out v uv w5 lv (show VOut wp w5.heap.size (Y ++ [((⟨t, false, lab, opn, ls.map (lineL q)⟩ : Prt), lv)]) v w5 from h1) h2)
                generalize hL5 : ls.map (lineL q) = L5 at *
                obtain ⟨Al, cal, rfl, hal1, hal2, _⟩ := own_slice hlv
                unfold maxLen at hal2
                have hfq := own_frozen hblkq 4
                have hblk6 := box5_set (z := .slice Al L5.length cal) hblkq
                obtain ⟨p0, p1, p2, p3, p4⟩ := box5_cells hblk6
                have hb6 := (HB2w.out.then hbq).setCell (p := ⟨wr.heap.size, 4, none⟩) (Nat.le_refl _) (.slice Al L5.length cal)
                have hV6 := HV3.out.below hb6
                have hl6 := own_set (own_low hlv (B' := wp.heap.size) (by omega)) hblkq (by decide) 4 (.slice Al L5.length cal)
                have hu6 := own_set (own_low (ownsRow_below HO2.out hbq) (B' := wp.heap.size) (by omega)) hblkq (by decide) 4 (.slice Al L5.length cal)
                have hs6 : (wq.setCell ⟨wr.heap.size, 4, none⟩ (.slice Al L5.length cal)).heap.size = wq.heap.size := by simp [World.setCell]
                have hV7 := (hV6.below ((Below.refl _ _).alloc (Nat.le_refl _) (.cells #[.int .i64 t, .bool false, .string ⟨lab.toArray⟩, .bool opn, .slice Al L5.length cal] 94))).wide (Nat.le_refl _)
                have hn7 := part_cells (wq.setCell ⟨wr.heap.size, 4, none⟩ (.slice Al L5.length cal)) (⟨t, false, lab, opn, L5⟩, .slice Al L5.length cal) 94
                rw [hs6] at hn7
                have hl7 := hl6.alloc (.cells #[.int .i64 t, .bool false, .string ⟨lab.toArray⟩, .bool opn, .slice Al L5.length cal] 94)
                have hu7 := hu6.alloc (.cells #[.int .i64 t, .bool false, .string ⟨lab.toArray⟩, .bool opn, .slice Al L5.length cal] 94)
                clear hlv hbq hb6 hV6 hl6 hu6 hblkq hblk6 hpq
                go_wp2_with (at_builtin; refine wpList_append_own _ rfl _ _ 63 rfl wp.heap.size 94 i1 (.agg #[.int .i64 0, .bool false, .string ByteArray.empty, .bool false, .slice none 0 0]) 5 64 Tryz.underlying63 hi1 hw0 hw1 hw2 rfl (by decide) _ _ _ rfl hV7.row ⟨wq.heap.size, 0, none⟩ 1 1 (ptC (⟨t, false, lab, opn, L5⟩, .slice Al L5.length cal)) rfl rfl hn7 (ptC_one _ rfl) (by unfold maxLen; omega) (by omega) (by simp; omega) ?_)
                intro v' w7 hown7 hgrow7 _
                have hVF := (hV7.snoc (x := (⟨t, false, lab, opn, L5⟩, .slice Al L5.length cal)) hown7 hgrow7 (Or.inr ⟨hl7, fun g hg => (hl7.lt g hg).2⟩)).wide (Nat.le_refl _)
                have hUF := hu7.kept hgrow7 (own_apart hu7 hV7.row (by decide)).ne
                have HF := Lib.hid (HRF2.out _ _ _ _ hVF hUF)
                clear hown7 hgrow7 hVF hUF hl7 hu7 hV7 hn7
                go_wp2
                go_roundw
                case rel => exact HF.out
                case measure => simp [intOf]; omega
        · have h3 : (t : Int) ≤ hx := by omega
          clear h2
          go_wp2_with (at_builtin; refine append_strs rfl _ _ rfl (wr.heap.size + 1) (.slice none 0 0) [] rfl (World.ownsRow_nil _ _ _ _) Au cu (U.take t) (by rw [hlU]; rfl) hru1 hnU (by simp; omega) (by omega) ?_)
          intro uv1 w2 hown2 hgr2
          have hown2 : w2.ownsRow (wr.heap.size + 1) 9 1 uv1 (U.take t).length (strs (U.take t)) := by rw [hlU]; exact hown2
          have b2 : Below (wr.alloc (.cells #[.int .i64 t, .bool dv, .string ⟨lab.toArray⟩, .bool opn, .slice A9 ls.length c9] 94)).heap.size (wr.alloc (.cells #[.int .i64 t, .bool dv, .string ⟨lab.toArray⟩, .bool opn, .slice A9 ls.length c9] 94)) w2 := below_of_grown hgr2 (fun g hg => by simp [Value.ownBlock] at hg) (Nat.le_refl _)
          have hlt0 : wr.heap.size < (wr.alloc (.cells #[.int .i64 t, .bool dv, .string ⟨lab.toArray⟩, .bool opn, .slice A9 ls.length c9] 94)).heap.size := by omega
          have hblk2 := (b2.block wr.heap.size hlt0).trans HGb.out
          have hbw2 : Below wr.heap.size wr w2 := ((Below.refl _ wr).alloc (Nat.le_refl _) _).then b2
          have HV2o := Lib.hid (HV3.out.below hbw2)
          have hs2 : wr.heap.size + 1 ≤ w2.heap.size := by have := b2.size; omega
          generalize hU1 : U.take t = U1 at *
          have HU1 := Lib.hid hU1
          have hlU1 : U1.length ≤ 100000 := by omega
          have HBlk2 := Lib.hid hblk2
          have HO2 := Lib.hid hown2
          have HB2w := Lib.hid hbw2
          obtain ⟨A1, c1, rfl, _, hm1, _, _⟩ := own_slice hown2
          unfold maxLen at hm1
          clear hown2 hgr2 b2 hbw2 hru1 hnU hblk2 hU1 hlU hs0 HGb
          obtain ⟨q0, q1, q2, q3, q4⟩ := box5_cells HBlk2.out
          cases dv with
          | true =>
            have hV2 := HV2o.out.below ((Below.refl _ w2).alloc (Nat.le_refl _) (.cells #[.int .i64 t, .bool true, .string ⟨lab.toArray⟩, .bool opn, .slice A9 ls.length c9] 94))
            have hn2 := part_cells w2 (⟨t, true, lab, opn, ls⟩, .slice A9 ls.length c9) 94
            have hs2' := alloc_size w2 (.cells #[.int .i64 t, .bool true, .string ⟨lab.toArray⟩, .bool opn, .slice A9 ls.length c9] 94)
            go_wp2_with (at_builtin; refine wpList_append_own _ rfl _ _ 63 rfl wp.heap.size 94 i1 (.agg #[.int .i64 0, .bool false, .string ByteArray.empty, .bool false, .slice none 0 0]) 5 64 Tryz.underlying63 hi1 hw0 hw1 hw2 rfl (by decide) _ _ _ rfl hV2.row ⟨w2.heap.size, 0, none⟩ 1 1 (ptC (⟨t, true, lab, opn, ls⟩, .slice A9 ls.length c9)) rfl rfl hn2 (ptC_one _ rfl) (by unfold maxLen; omega) (by omega) (by simp; omega) ?_)
            intro v' w3 hown3 hgrow3 _
            obtain ⟨g3, cv3, cur3, rfl, _, _, _, _, _, _⟩ := own_block hown3 (by omega)
            have hV3 := hV2.snoc hown3 hgrow3 (Or.inl ⟨⟨A9, c9, rfl, HR9.out⟩, HL9.out⟩)
            have hu3 := (HO2.out.alloc (.cells #[.int .i64 t, .bool true, .string ⟨lab.toArray⟩, .bool opn, .slice A9 ls.length c9] 94)).kept hgrow3 (own_apart (HO2.out.alloc _) hV2.row (by decide)).ne
            have hs3 := hgrow3.size
            have hblk3 := (hgrow3.block wr.heap.size (by omega) (fun e => by have := (HV3.out.row.lt wr.heap.size e.symm).2; omega)).trans ((Below.heap_alloc w2 _ wr.heap.size (by omega)).trans HBlk2.out)
            obtain ⟨z0, z1, z2, z3, z4⟩ := box5_cells hblk3
            have hu4 := hu3.alloc (.cells #[.string ⟨lab.toArray⟩] 9)
            have hn4 := cells_one w3 (.string ⟨lab.toArray⟩) 9
            have hs4 := alloc_size w3 (.cells #[.string ⟨lab.toArray⟩] 9)
            have HVo3 := Lib.hid hV3
            have HBlk3 := Lib.hid hblk3
            clear hown3 hgrow3 hV2 hn2 hV3 hu3 hblk3 q0 q1 q2 q3 q4
            go_wp2_with (at_builtin; refine wpList_append_own _ rfl _ _ 22 rfl (wr.heap.size + 1) 9 i3 (.string ByteArray.empty) 1 16 Tryz.underlying22 hi3 hv0 hv1 hv2 rfl (by decide) _ _ _ rfl hu4 ⟨w3.heap.size, 0, none⟩ 1 1 [.string ⟨lab.toArray⟩] rfl rfl hn4 (by simp [Value.oneCell']) (by unfold maxLen; omega) (by omega) (by simp; omega) ?_)
            intro uv2 w4 hown4 hgrow4 _
            rw [strs_snoc1, show U1.length + 1 = (U1 ++ [lab]).length from by simp] at hown4
            have hV4 := ((HVo3.out.mono (M := wr.heap.size + 1) (by omega)).below ((Below.refl _ w3).alloc (Nat.le_refl _) (.cells #[.string ⟨lab.toArray⟩] 9))).grown hu4 (by omega) hgrow4 (by omega)
            have hs5 := hgrow4.size
            have hblk4 := (hgrow4.block wr.heap.size (by omega) (fun e => by have := (hu4.lt wr.heap.size e.symm).1; omega)).trans ((Below.heap_alloc w3 _ wr.heap.size (by omega)).trans HBlk3.out)
            have hU2a : U1.all q = true := HAll.out
            have hSee : seesL ns R me (U1 ++ [lab]) = q lab := by rw [sees_last HSp.out (by rw [HQ.out]; exact hU2a), HQ.out]
            have hRT := HRelT.out (by first | trivial | rfl)
            generalize hU2 : U1 ++ [lab] = U2 at *
            have HU2 := Lib.hid hU2
            obtain ⟨A5, c5, rfl, hr5, _⟩ := RowOf.own hown4
            have cs := rsees_any (HSp.out.below hV4.bel) A5 c5 U2 hr5
            rw [hSee] at cs
            have HV4 := Lib.hid hV4
            have HBlk4 := Lib.hid hblk4
            have HO4 := Lib.hid hown4
            have HRT := Lib.hid hRT
            clear hown4 hgrow4 hV4 hblk4 hu4 hn4 hU2 hr5 hSee hU2a hRT z0 z1 z2 z3 z4
            go_wp2_with fail
            refine cs.mono ?_
            rintro e w5 ⟨rfl, b5⟩
            have hV5 := (HV4.out.below b5).wide (Nat.le_refl _)
            have hu5 := own_low (ownsRow_below HO4.out b5) (B' := wp.heap.size) (by omega)
            have hblk5 := (b5.block wr.heap.size (by omega)).trans HBlk4.out
            have HF := Lib.hid (HRT.out _ _ _ hV5 hu5)
            obtain ⟨z0, z1, z2, z3, z4⟩ := box5_cells hblk5
            clear b5 hV5 hu5 hblk5 cs
            cases hql : q lab with
            | true =>
              rw [hql, if_pos rfl] at HF
              clear hql
              go_wp2
              go_roundw
              case rel => exact HF.out
              case measure => simp [intOf]; omega
            | false =>
              rw [hql, if_neg (by simp)] at HF
              clear hql
              go_wp2
              go_roundw
              case rel => exact HF.out
              case measure => simp [intOf]; omega
          | false =>
            have hEq : underP ns R me U1 = q := by rw [under_all HSp.out (by rw [HQ.out]; exact HAll.out), HQ.out]
            have hRF := HRelF.out (by first | trivial | rfl)
            have HRF := Lib.hid hRF
            clear hRF
            go_wp2_with fail
            go_loopw [11, 12] (fun lv j wq => VlnRel q ls w2 lv j wq) (fun _ j _ => ls.length - (intOf j).toNat)
            case atStart => exact ⟨0, rfl, Nat.zero_le _, World.ownsRow_nil _ _ _ _, Below.refl _ _⟩
            case round =>
              obtain ⟨j, rfl, hj, hlv, hbq⟩ := hrel
              rename World => wq
              have hblkq := (hbq.block wr.heap.size (by omega)).trans HBlk2.out
              obtain ⟨z0, z1, z2, z3, z4⟩ := box5_cells hblkq
              have hsq := hbq.size
              have hpq := HV2o.out.bel.then hbq
              have HBq := Lib.hid hbq
              have HLv := Lib.hid hlv
              by_cases hjl : j < ls.length
              · obtain ⟨bl, ol, el, hbl, hcl⟩ := (HR9.out.below hpq).cellAt hjl
                subst el
                have hlen : (⟨ls[j].toArray⟩ : ByteArray).size ≤ 100000 := by rw [str_size]; exact HLm.out _ (List.getElem_mem hjl)
                obtain ⟨A1', c1', e1', hru, _⟩ := RowOf.own (ownsRow_below HO2.out hbq)
                cases e1'
                have cl := rline_any (HSp.out.below hpq) ⟨ls[j].toArray⟩ hlen A1 c1 U1 hru (by omega)
                rw [hEq, show (⟨ls[j].toArray⟩ : ByteArray).data.toList = ls[j] from rfl] at cl
                have HTk := Lib.hid (show (ls.take (j + 1)).map (lineL q) = (ls.take j).map (lineL q) ++ [lineL q ls[j]] from by rw [List.take_succ_eq_append_getElem hjl, List.map_append]; rfl)
                have hlj : ((ls.take j).map (lineL q)).length ≤ 100000 := by rw [List.length_map, List.length_take]; omega
                generalize hLj : (ls.take j).map (lineL q) = Lj at *
                generalize lineL q ls[j] = lq at *
                obtain ⟨Al, cal, rfl, hal1, hal2, _⟩ := own_slice hlv
                unfold maxLen at hal2
                clear hlv hbq hru hpq
                go_wp2_with fail
                refine cl.mono ?_
                rintro e wz ⟨rfl, bz⟩
                have hlz := (ownsRow_below HLv.out bz).alloc (.cells #[.string ⟨lq.toArray⟩] 9)
                have hnz := cells_one wz (.string ⟨lq.toArray⟩) 9
                have hsz := bz.size
                have HBz := Lib.hid (HBq.out.then bz)
                clear bz cl
                go_wp2_with (at_builtin; refine wpList_append_own _ rfl _ _ 22 rfl w2.heap.size 9 i3 (.string ByteArray.empty) 1 16 Tryz.underlying22 hi3 hv0 hv1 hv2 rfl (by decide) _ _ _ rfl hlz ⟨wz.heap.size, 0, none⟩ 1 1 [.string ⟨lq.toArray⟩] rfl rfl hnz (by simp [Value.oneCell']) (by unfold maxLen; omega) (by omega) (by simp; omega) ?_)
                intro lv2 wy howny hgrowy _
                rw [strs_snoc1, show Lj.length + 1 = (Lj ++ [lq]).length from by simp, ← HTk.out] at howny
                have hby := (HBz.out.then ((Below.refl _ wz).alloc (Nat.le_refl _) (.cells #[.string ⟨lq.toArray⟩] 9))).trans (below_of_grown hgrowy (fun g hg => (hlz.lt g hg).1) (by rw [alloc_size]; omega))
                have HFy := Lib.hid howny
                have HBy := Lib.hid hby
                clear howny hgrowy hlz hby
                go_wp2
                go_roundw
                case rel => exact ⟨j + 1, by go_num, by omega, HFy.out, HBy.out⟩
                case measure => simp [intOf]; omega
              · obtain rfl : j = ls.length := by omega
                rw [List.take_length] at hlv
                have hL5l : (ls.map (lineL q)).length ≤ 100000 := by rw [List.length_map]; exact hlc
                have HRF2 := Lib.hid (fun v uv w5 lv h1 h2 => HRF.out v uv w5 lv (show VOut wp w5.heap.size (Y ++ [((⟨t, false, lab, opn, ls.map (lineL q)⟩ : Prt), lv)]) v w5 from h1) h2)
                generalize hL5 : ls.map (lineL q) = L5 at *
                obtain ⟨Al, cal, rfl, hal1, hal2, _⟩ := own_slice hlv
                unfold maxLen at hal2
                have hfq := own_frozen hblkq 4
                have hblk6 := box5_set (z := .slice Al L5.length cal) hblkq
                obtain ⟨p0, p1, p2, p3, p4⟩ := box5_cells hblk6
                have hb6 := (HB2w.out.then hbq).setCell (p := ⟨wr.heap.size, 4, none⟩) (Nat.le_refl _) (.slice Al L5.length cal)
                have hV6 := HV3.out.below hb6
                have hl6 := own_set (own_low hlv (B' := wp.heap.size) (by omega)) hblkq (by decide) 4 (.slice Al L5.length cal)
                have hu6 := own_set (own_low (ownsRow_below HO2.out hbq) (B' := wp.heap.size) (by omega)) hblkq (by decide) 4 (.slice Al L5.length cal)
                have hs6 : (wq.setCell ⟨wr.heap.size, 4, none⟩ (.slice Al L5.length cal)).heap.size = wq.heap.size := by simp [World.setCell]
                have hV7 := (hV6.below ((Below.refl _ _).alloc (Nat.le_refl _) (.cells #[.int .i64 t, .bool false, .string ⟨lab.toArray⟩, .bool opn, .slice Al L5.length cal] 94))).wide (Nat.le_refl _)
                have hn7 := part_cells (wq.setCell ⟨wr.heap.size, 4, none⟩ (.slice Al L5.length cal)) (⟨t, false, lab, opn, L5⟩, .slice Al L5.length cal) 94
                rw [hs6] at hn7
                have hl7 := hl6.alloc (.cells #[.int .i64 t, .bool false, .string ⟨lab.toArray⟩, .bool opn, .slice Al L5.length cal] 94)
                have hu7 := hu6.alloc (.cells #[.int .i64 t, .bool false, .string ⟨lab.toArray⟩, .bool opn, .slice Al L5.length cal] 94)
                clear hlv hbq hb6 hV6 hl6 hu6 hblkq hblk6 hpq
                go_wp2_with (at_builtin; refine wpList_append_own _ rfl _ _ 63 rfl wp.heap.size 94 i1 (.agg #[.int .i64 0, .bool false, .string ByteArray.empty, .bool false, .slice none 0 0]) 5 64 Tryz.underlying63 hi1 hw0 hw1 hw2 rfl (by decide) _ _ _ rfl hV7.row ⟨wq.heap.size, 0, none⟩ 1 1 (ptC (⟨t, false, lab, opn, L5⟩, .slice Al L5.length cal)) rfl rfl hn7 (ptC_one _ rfl) (by unfold maxLen; omega) (by omega) (by simp; omega) ?_)
                intro v' w7 hown7 hgrow7 _
                have hVF := (hV7.snoc (x := (⟨t, false, lab, opn, L5⟩, .slice Al L5.length cal)) hown7 hgrow7 (Or.inr ⟨hl7, fun g hg => (hl7.lt g hg).2⟩)).wide (Nat.le_refl _)
                have hUF := hu7.kept hgrow7 (own_apart hu7 hV7.row (by decide)).ne
                have HF := Lib.hid (HRF2.out _ _ _ _ hVF hUF)
                clear hown7 hgrow7 hVF hUF hl7 hu7 hV7 hn7
                go_wp2
                go_roundw
                case rel => exact HF.out
                case measure => simp [intOf]; omega

    · obtain rfl : k = P.length := by omega
      have hYe2 : Y.map Prod.fst = hideP q P := by
        rw [List.drop_length] at hYe
        rw [← hYe]; cases hd <;> simp [hideF]
      obtain ⟨A4, c4, rfl, hY4, hlent4⟩ := hV.at
      have hYin : ∀ y ∈ Y, ∃ x ∈ P, y.1 = linesL q x := fun y hy => hide_mem q P none y.1 (by
        have : y.1 ∈ hideP q P := by rw [← hYe2]; exact List.mem_map.2 ⟨y, hy, rfl⟩
        exact this)
      have hYR := hideP_right q HPR.out
      have hsm : PartsSmall Y := fun y hy => by
        obtain ⟨x, hx, e⟩ := hYin y hy
        rw [e]
        refine ⟨by have h1 := right_lab HPR.out x hx; have h2 : (linesL q x).lab = x.lab := rfl; rw [h2]; omega, fun l hl => ?_⟩
        obtain ⟨l0, h0, rfl⟩ := List.mem_map.1 hl
        have h1 := HPm2.out x hx l0 h0
        have h2 := lineL_len q l0
        omega
      have hln : PartsLent Y := fun y hy => by
        obtain ⟨x, hx, e⟩ := hYin y hy
        refine ⟨?_, hlent4 y hy⟩
        rw [e]
        have h1 := HPs.out.2 x hx
        show (x.ls.map (lineL q)).length ≤ 100000
        rw [List.length_map]; exact h1
      have cw := rwrite_any A4 c4 Y wr hY4 (by omega) hsm hln (by rw [hYe2]; exact hYR)
      rw [hYe2] at cw
      have HVl2 := Lib.hid (show (joinL (writeP (hideP q P))).length ≤ T.length + 1 from by
        have := HVl.out
        rw [HV.out] at this
        exact this)
      have HB4 := Lib.hid (HB3.out.then hV.bel)
      have HV2 := Lib.hid HV.out
      clear hV hU hY4 hYin hsm hln hYe hlent4 hYe2 hYR
      generalize writeP (hideP q P) = Ws at *
      go_wp2_with fail
      refine cw.mono ?_
      rintro e w5 ⟨v5, rfl, hown5, b5⟩
      obtain ⟨A5, c5, rfl, hr5, _⟩ := RowOf.own hown5
      have HB5 := Lib.hid (HB4.out.then b5)
      have cj := rjoin_any A5 c5 Ws w5 hr5 (by have := HVl2.out; omega)
      clear b5 hown5 hr5 cw
      go_wp2_with fail
      refine cj.mono ?_
      rintro e w6 ⟨rfl, rfl⟩
      go_wp2
      go_ret
      exact ⟨by rw [HQ.out, HV2.out]; rfl, HB5.out⟩
end

end Go.Proofs.YtkcmhdkhdjmjeaaGreatDoor
