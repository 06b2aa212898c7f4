/-
  The document's own answer for Fold.
-/
import Derived.Test.YthbgcpkgpmlolaaDoorRefA
namespace Go.Proofs.YthbgcpkgpmlolaaDoor
open Go.RowKit
set_option linter.unusedSimpArgs false
set_option linter.unusedVariables false

def anyB (O : ByteArray) : Bool := !O.toList.isEmpty
def chunkAt (s : ByteArray) (i : Nat) : Nat × List UInt8 := ((Utf8.decode s i).1, (s.data.toList.drop i).take (Utf8.decode s i).2)
def FoldRest (s : ByteArray) (i : Nat) (g a : Bool) : List UInt8 := foldS (segs (s.data.toList.drop i)) g a
theorem fold_space {s : ByteArray} {i : Nat} {A : List UInt8} {O : ByteArray} {g : Bool} (hi : i < s.size) (h : O.data.toList ++ FoldRest s i g (anyB O) = A) (hs : spaceB (Utf8.decode s i).1 = true) :
    O.data.toList ++ FoldRest s (i + (Utf8.decode s i).2) (anyB O) (anyB O) = A := by
  rw [← h]
  congr 1
  unfold FoldRest
  rw [segs_at s i hi]
  simp only [foldS, hs, if_true]
  cases ha : anyB O with
  | true => rfl
  | false => exact foldS_begin _ _ _
theorem anyB_nil : anyB ⟨#[]⟩ = false := by unfold anyB; rw [Lib.toList_data]; rfl
theorem slice_one (s : ByteArray) (i : Nat) (h : i < s.size) (W : World) :
    (Instr.slice 9 (.string s) (some (.int .i64 (i : Int))) (some (.int .i64 ((i : Int) + 1))) none).run Tryd.prog W = .ok (.string (s.extract i (i + 1))) W := slice_at s i 1 (by omega) W
theorem anyB_app (O T : ByteArray) (h : T.data.toList ≠ []) : anyB (O ++ T) = true := by
  unfold anyB
  rw [Lib.toList_data, ByteArray.data_append, Array.toList_append]
  cases hT : T.data.toList with
  | nil => exact absurd hT h
  | cons x l => cases O.data.toList <;> rfl
theorem chunkOut_ne (c : Nat × List UInt8) (h : c.2 ≠ []) : chunkOut c ≠ [] := by
  unfold chunkOut
  split
  · exact h
  · exact enc_ne _
theorem chunkAt_ne (s : ByteArray) (i : Nat) (hi : i < s.size) : (chunkAt s i).2 ≠ [] := by
  have hw := width_pos s i hi
  have hl := width_le s i hi
  intro h
  have : ((s.data.toList.drop i).take (Utf8.decode s i).2).length = 0 := by have h2 := congrArg List.length h; exact h2
  rw [List.length_take, List.length_drop] at this
  simp at this
  omega
theorem fold_step0 {s : ByteArray} {i : Nat} {A : List UInt8} {O : ByteArray} (hi : i < s.size) (h : O.data.toList ++ FoldRest s i false (anyB O) = A) (hs : spaceB (Utf8.decode s i).1 = false) (T : ByteArray) (hT : T.data.toList = chunkOut (chunkAt s i)) :
    (O ++ T).data.toList ++ FoldRest s (i + (Utf8.decode s i).2) false (anyB (O ++ T)) = A := by
  rw [anyB_app _ _ (by rw [hT]; exact chunkOut_ne _ (chunkAt_ne s i hi)), ← h, ByteArray.data_append, Array.toList_append, List.append_assoc]
  congr 1
  unfold FoldRest
  rw [segs_at s i hi, hT]
  simp only [foldS, hs, Bool.false_eq_true, if_false, Bool.false_and, List.nil_append]
  rfl
theorem fold_step1 {s : ByteArray} {i : Nat} {A : List UInt8} {O : ByteArray} (hi : i < s.size) (h : O.data.toList ++ FoldRest s i true (anyB O) = A) (ha : anyB O = true) (hs : spaceB (Utf8.decode s i).1 = false) (T : ByteArray) (hT : T.data.toList = chunkOut (chunkAt s i)) :
    (O ++ ⟨#[32]⟩ ++ T).data.toList ++ FoldRest s (i + (Utf8.decode s i).2) false (anyB (O ++ ⟨#[32]⟩ ++ T)) = A := by
  rw [anyB_app _ _ (by rw [hT]; exact chunkOut_ne _ (chunkAt_ne s i hi)), ← h, ByteArray.data_append, Array.toList_append, ByteArray.data_append, Array.toList_append, List.append_assoc, List.append_assoc]
  congr 1
  unfold FoldRest
  rw [segs_at s i hi, hT, ha]
  simp only [foldS, hs, Bool.false_eq_true, if_false, Bool.and_self, if_true, List.append_assoc]
  rfl
theorem chunk_low (s : ByteArray) (i : Nat) (hi : i < s.size) (h : ((Utf8.decode s i).1 = 65533 ∧ (Utf8.decode s i).2 = 1) ∨ (¬ (65 ≤ (Utf8.decode s i).1 ∧ (Utf8.decode s i).1 ≤ 90) ∧ ¬ (192 ≤ (Utf8.decode s i).1 ∧ (Utf8.decode s i).1 ≤ 222 ∧ (Utf8.decode s i).1 ≠ 215))) :
    (s.extract i (i + (Utf8.decode s i).2)).data.toList = chunkOut (chunkAt s i) := by
  rw [extract_take]
  have hl := width_le s i hi
  have hw := width_pos s i hi
  have hlen : ((s.data.toList.drop i).take (Utf8.decode s i).2).length = (Utf8.decode s i).2 := by
    rw [List.length_take, List.length_drop]; simp; omega
  unfold chunkOut stray chunkAt
  simp only [hlen]
  by_cases hst : (Utf8.decode s i).1 = 65533 ∧ (Utf8.decode s i).2 = 1
  · rw [if_pos (by simp [hst.1, hst.2])]
  · have hst' : ((Utf8.decode s i).1 == 65533 && (Utf8.decode s i).2 == 1) = false := by
      cases e1 : (Utf8.decode s i).1 == 65533 with
      | false => rfl
      | true =>
        cases e2 : (Utf8.decode s i).2 == 1 with
        | false => rfl
        | true => exact absurd ⟨by simpa using e1, by simpa using e2⟩ hst
    rw [hst', if_neg (by simp), take_enc s i hi hst]
    rcases h with h | ⟨h1, h2⟩
    · exact absurd h hst
    · rw [smallI_of _ (by omega) (by omega)]
theorem chunk_up (s : ByteArray) (i : Nat) (hi : i < s.size) (h : (65 ≤ (Utf8.decode s i).1 ∧ (Utf8.decode s i).1 ≤ 90) ∨ (192 ≤ (Utf8.decode s i).1 ∧ (Utf8.decode s i).1 ≤ 222 ∧ (Utf8.decode s i).1 ≠ 215)) :
    (Utf8.encode (((Utf8.decode s i).1 : Int) + 32)).data.toList = chunkOut (chunkAt s i) := by
  have e : (((Utf8.decode s i).1 : Int) + 32) = (((Utf8.decode s i).1 + 32 : Nat) : Int) := by omega
  rw [e, encode_eq _ (valid_of _ (by omega))]
  unfold chunkOut
  have hst : stray (chunkAt s i) = false := by
    unfold stray chunkAt
    have : ((Utf8.decode s i).1 == 65533) = false := by simp; omega
    simp only [this, Bool.false_and]
  rw [hst, if_neg (by simp)]
  have : smallI ((chunkAt s i).1 : Int) = (((Utf8.decode s i).1 + 32 : Nat) : Int) := by
    unfold chunkAt
    rcases smallI_eq ((Utf8.decode s i).1 : Int) with ⟨a, b, c⟩ | ⟨a, b, d, c⟩ | ⟨a, b, c⟩ <;> simp only [c] <;> omega
  rw [this]

def RefFRel (s : ByteArray) (w : World) (out gap i : Value) (wr : World) : Prop :=
  ∃ (pos : Nat) (O : ByteArray) (g : Bool), out = .string O ∧ gap = .bool g ∧ i = .int .i64 pos ∧ pos ≤ s.size ∧ O.size ≤ 5 * pos ∧ O.data.toList ++ FoldRest s pos g (anyB O) = foldL s.data.toList ∧ (g = true → anyB O = true) ∧ Below w.heap.size w wr

theorem dec_four (b : UInt8) (l : List UInt8) : (dec (b :: l)).2 ≤ 4 := by
  unfold dec
  dsimp only
  repeat' split
  all_goals simp

set_option maxHeartbeats 8000000 in
set_option maxRecDepth 100000 in
theorem refFold_any (s : ByteArray) (w : World) (hs : s.size ≤ 17592186044416) (hT : Tabs w) :
    Calls Tryd.prog 19 #[.string s] w fun e w' => e = .returned (.string (foldOf s)) ∧ Below w.heap.size w w' := by
  have HT := Lib.hid hT
  clear hT
  go_enter Tryd.func19, Tryd.ntmps19
  go_wp2_with fail
  go_loopw [3, 4, 5] (fun out gap i wr => RefFRel s w out gap i wr) (fun _ _ i _ => s.size - (intOf i).toNat)
  case atStart => exact ⟨0, ⟨#[]⟩, false, rfl, rfl, rfl, Nat.zero_le _, Nat.zero_le _, by rw [anyB_nil]; rfl, (fun h => by cases h), Below.refl _ _⟩
  case round =>
    obtain ⟨pos, O, g, rfl, rfl, rfl, hps, hO, hE, hg, hbw⟩ := hrel
    by_cases hp : pos < s.size
    · have hwd := width_pos s pos hp
      have hwl := width_le s pos hp
      have hd1 := decode_le s pos
      have cD := fun w1 hT1 => decodeIn_at s pos hp w1 hT1
      have HE := Lib.hid hE
      have HG := Lib.hid hg
      clear hE hg
      have Hsp := Lib.hid (fun (h : O.data.toList ++ FoldRest s pos g (anyB O) = foldL s.data.toList) => fold_space hp h)
      have Hs0 := Lib.hid (fun (h : O.data.toList ++ FoldRest s pos false (anyB O) = foldL s.data.toList) => fold_step0 hp h)
      have Hs1 := Lib.hid (fun (h : O.data.toList ++ FoldRest s pos true (anyB O) = foldL s.data.toList) => fold_step1 hp h)
      have Hlo := Lib.hid (chunk_low s pos hp)
      have Hup := Lib.hid (chunk_up s pos hp)
      have hsl := slice_at s pos (Utf8.decode s pos).2 hwl
      have hex : (s.extract pos (pos + (Utf8.decode s pos).2)).size ≤ 4 := by
        rw [ByteArray.size_extract]
        obtain ⟨b, l, e⟩ := drop_cons s pos hp
        have h4 := dec_four b l
        rw [← e, ← decode_dec] at h4
        omega
      generalize hr : (Utf8.decode s pos).1 = r at *
      generalize hd : (Utf8.decode s pos).2 = d at *
      clear hr hd
      obtain ⟨ri, hri⟩ : ∃ ri : Int, (r : Int) = ri := ⟨_, rfl⟩
      rw [hri] at cD
      rw [hri] at Hup Hsp Hs0 Hs1
      have HR := Lib.hid hri
      have hri2 : 0 ≤ ri := by omega
      clear hri
      go_wp2_with fail
      refine (cD _ (HT.out.below hbw)).mono ?_
      rintro e W2 ⟨rfl, b2⟩
      have hbw2 := hbw.trans (b2.mono hbw.size)
      clear cD
      by_cases hstr : ri = 65533 ∧ d = 1
      · obtain ⟨rfl, rfl⟩ := hstr
        have HX := Lib.hid (Hlo.out (Or.inl ⟨by have := HR.out; omega, rfl⟩))
        have hsl1 := slice_one s pos hp
        clear hsl
        have hns : spaceB 65533 = false := by decide +kernel
        cases g with
        | false =>
          have HN := Lib.hid (Hs0.out HE.out hns _ HX.out)
          clear hns
          go_wp2
          go_roundw
          case rel => exact ⟨pos + 1, O ++ s.extract pos (pos + 1), false, rfl, rfl, by go_num, by omega, by rw [ByteArray.size_append]; omega, HN.out, (fun h => by cases h), hbw2⟩
          case measure => simp [intOf]; omega
        | true =>
          have HN := Lib.hid (Hs1.out HE.out (HG.out (by first | rfl | trivial)) hns _ HX.out)
          clear hns
          go_wp2
          go_roundw
          case rel => exact ⟨pos + 1, O ++ ⟨#[32]⟩ ++ s.extract pos (pos + 1), false, rfl, rfl, by go_num, by omega, by rw [ByteArray.size_append, ByteArray.size_append, show (ByteArray.mk #[32]).size = 1 from rfl]; omega, HN.out, (fun h => by cases h), hbw2⟩
          case measure => simp [intOf]; omega
      · cases hspc : spaceB ri with
        | true =>
          have HN := Lib.hid (Hsp.out HE.out hspc)
          have cS := fun w1 => refSpace_any ri w1
          rw [hspc] at cS
          clear hspc
          by_cases hd2 : 1 < d
          · clear hstr
            go_wp2_with (go_at_call 29; refine (cS _).mono ?_; rintro e w' ⟨rfl, rfl⟩)
            go_roundw
            case rel => exact ⟨pos + d, O, anyB O, rfl, rfl, by go_num, by omega, by omega, HN.out, (fun h => h), hbw2⟩
            case measure => simp [intOf]; omega
          · have f65 : (ri == 65533) = false := by simp; omega
            have f65' : (ri != 65533) = true := by simp; omega
            clear hstr
            go_wp2_with (go_at_call 29; refine (cS _).mono ?_; rintro e w' ⟨rfl, rfl⟩)
            go_roundw
            case rel => exact ⟨pos + d, O, anyB O, rfl, rfl, by go_num, by omega, by omega, HN.out, (fun h => h), hbw2⟩
            case measure => simp [intOf]; omega
        | false =>
          have cS := fun w1 => refSpace_any ri w1
          have hspc2 := Lib.hid hspc
          rw [hspc] at cS
          clear hspc
          by_cases c1 : ri < 65
          · have HX := Lib.hid (Hlo.out (Or.inr (by have := HR.out; omega)))
            by_cases hd2 : 1 < d
            · clear hstr
              cases g with
              | true =>
                go_wp2_with (go_at_call 29; refine (cS _).mono ?_; rintro e w' ⟨rfl, rfl⟩)
                go_roundw
                case rel => exact ⟨pos + d, O ++ ⟨#[32]⟩ ++ s.extract pos (pos + d), false, rfl, rfl, by go_num, by omega, by rw [ByteArray.size_append, ByteArray.size_append, show (ByteArray.mk #[32]).size = 1 from rfl]; omega, Hs1.out HE.out (HG.out (by first | rfl | trivial)) hspc2.out _ HX.out, (fun h => by cases h), hbw2⟩
                case measure => simp [intOf]; omega
              | false =>
                go_wp2_with (go_at_call 29; refine (cS _).mono ?_; rintro e w' ⟨rfl, rfl⟩)
                go_roundw
                case rel => exact ⟨pos + d, O ++ s.extract pos (pos + d), false, rfl, rfl, by go_num, by omega, by rw [ByteArray.size_append]; omega, Hs0.out HE.out hspc2.out _ HX.out, (fun h => by cases h), hbw2⟩
                case measure => simp [intOf]; omega
            · have f65 : (ri == 65533) = false := by simp; omega
              have f65' : (ri != 65533) = true := by simp; omega
              clear hstr
              cases g with
              | true =>
                go_wp2_with (go_at_call 29; refine (cS _).mono ?_; rintro e w' ⟨rfl, rfl⟩)
                go_roundw
                case rel => exact ⟨pos + d, O ++ ⟨#[32]⟩ ++ s.extract pos (pos + d), false, rfl, rfl, by go_num, by omega, by rw [ByteArray.size_append, ByteArray.size_append, show (ByteArray.mk #[32]).size = 1 from rfl]; omega, Hs1.out HE.out (HG.out (by first | rfl | trivial)) hspc2.out _ HX.out, (fun h => by cases h), hbw2⟩
                case measure => simp [intOf]; omega
              | false =>
                go_wp2_with (go_at_call 29; refine (cS _).mono ?_; rintro e w' ⟨rfl, rfl⟩)
                go_roundw
                case rel => exact ⟨pos + d, O ++ s.extract pos (pos + d), false, rfl, rfl, by go_num, by omega, by rw [ByteArray.size_append]; omega, Hs0.out HE.out hspc2.out _ HX.out, (fun h => by cases h), hbw2⟩
                case measure => simp [intOf]; omega
          · by_cases c2 : ri ≤ 90
            · have HX := Lib.hid (Hup.out (by have := HR.out; omega))
              have hens := encode_size (ri + 32)
              clear hd1
              by_cases hd2 : 1 < d
              · clear hstr
                cases g with
                | true =>
                  go_wp2_with (go_at_call 29; refine (cS _).mono ?_; rintro e w' ⟨rfl, rfl⟩)
                  go_roundw
                  case rel => exact ⟨pos + d, O ++ ⟨#[32]⟩ ++ Utf8.encode (ri + 32), false, rfl, rfl, by go_num, by omega, by rw [ByteArray.size_append, ByteArray.size_append, show (ByteArray.mk #[32]).size = 1 from rfl]; omega, Hs1.out HE.out (HG.out (by first | rfl | trivial)) hspc2.out _ HX.out, (fun h => by cases h), hbw2⟩
                  case measure => simp [intOf]; omega
                | false =>
                  go_wp2_with (go_at_call 29; refine (cS _).mono ?_; rintro e w' ⟨rfl, rfl⟩)
                  go_roundw
                  case rel => exact ⟨pos + d, O ++ Utf8.encode (ri + 32), false, rfl, rfl, by go_num, by omega, by rw [ByteArray.size_append]; omega, Hs0.out HE.out hspc2.out _ HX.out, (fun h => by cases h), hbw2⟩
                  case measure => simp [intOf]; omega
              · have f65 : (ri == 65533) = false := by simp; omega
                have f65' : (ri != 65533) = true := by simp; omega
                clear hstr
                cases g with
                | true =>
                  go_wp2_with (go_at_call 29; refine (cS _).mono ?_; rintro e w' ⟨rfl, rfl⟩)
                  go_roundw
                  case rel => exact ⟨pos + d, O ++ ⟨#[32]⟩ ++ Utf8.encode (ri + 32), false, rfl, rfl, by go_num, by omega, by rw [ByteArray.size_append, ByteArray.size_append, show (ByteArray.mk #[32]).size = 1 from rfl]; omega, Hs1.out HE.out (HG.out (by first | rfl | trivial)) hspc2.out _ HX.out, (fun h => by cases h), hbw2⟩
                  case measure => simp [intOf]; omega
                | false =>
                  go_wp2_with (go_at_call 29; refine (cS _).mono ?_; rintro e w' ⟨rfl, rfl⟩)
                  go_roundw
                  case rel => exact ⟨pos + d, O ++ Utf8.encode (ri + 32), false, rfl, rfl, by go_num, by omega, by rw [ByteArray.size_append]; omega, Hs0.out HE.out hspc2.out _ HX.out, (fun h => by cases h), hbw2⟩
                  case measure => simp [intOf]; omega
            · by_cases c3 : ri < 192
              · have HX := Lib.hid (Hlo.out (Or.inr (by have := HR.out; omega)))
                by_cases hd2 : 1 < d
                · clear hstr
                  cases g with
                  | true =>
                    go_wp2_with (go_at_call 29; refine (cS _).mono ?_; rintro e w' ⟨rfl, rfl⟩)
                    go_roundw
                    case rel => exact ⟨pos + d, O ++ ⟨#[32]⟩ ++ s.extract pos (pos + d), false, rfl, rfl, by go_num, by omega, by rw [ByteArray.size_append, ByteArray.size_append, show (ByteArray.mk #[32]).size = 1 from rfl]; omega, Hs1.out HE.out (HG.out (by first | rfl | trivial)) hspc2.out _ HX.out, (fun h => by cases h), hbw2⟩
                    case measure => simp [intOf]; omega
                  | false =>
                    go_wp2_with (go_at_call 29; refine (cS _).mono ?_; rintro e w' ⟨rfl, rfl⟩)
                    go_roundw
                    case rel => exact ⟨pos + d, O ++ s.extract pos (pos + d), false, rfl, rfl, by go_num, by omega, by rw [ByteArray.size_append]; omega, Hs0.out HE.out hspc2.out _ HX.out, (fun h => by cases h), hbw2⟩
                    case measure => simp [intOf]; omega
                · have f65 : (ri == 65533) = false := by simp; omega
                  have f65' : (ri != 65533) = true := by simp; omega
                  clear hstr
                  cases g with
                  | true =>
                    go_wp2_with (go_at_call 29; refine (cS _).mono ?_; rintro e w' ⟨rfl, rfl⟩)
                    go_roundw
                    case rel => exact ⟨pos + d, O ++ ⟨#[32]⟩ ++ s.extract pos (pos + d), false, rfl, rfl, by go_num, by omega, by rw [ByteArray.size_append, ByteArray.size_append, show (ByteArray.mk #[32]).size = 1 from rfl]; omega, Hs1.out HE.out (HG.out (by first | rfl | trivial)) hspc2.out _ HX.out, (fun h => by cases h), hbw2⟩
                    case measure => simp [intOf]; omega
                  | false =>
                    go_wp2_with (go_at_call 29; refine (cS _).mono ?_; rintro e w' ⟨rfl, rfl⟩)
                    go_roundw
                    case rel => exact ⟨pos + d, O ++ s.extract pos (pos + d), false, rfl, rfl, by go_num, by omega, by rw [ByteArray.size_append]; omega, Hs0.out HE.out hspc2.out _ HX.out, (fun h => by cases h), hbw2⟩
                    case measure => simp [intOf]; omega
              · by_cases c4 : ri ≤ 222
                · by_cases c5 : ri = 215
                  · have f5 : (ri == 215) = true := by simp; omega
                    have f5' : (ri != 215) = false := by simp; omega
                    have c6 := c5
                    have HX := Lib.hid (Hlo.out (Or.inr (by have := HR.out; omega)))
                    have f65 : (ri == 65533) = false := by simp; omega
                    have f65' : (ri != 65533) = true := by simp; omega
                    clear c5 c6 hstr
                    by_cases hd2 : 1 < d
                    · cases g with
                      | true =>
                        go_wp2_with (go_at_call 29; refine (cS _).mono ?_; rintro e w' ⟨rfl, rfl⟩)
                        go_roundw
                        case rel => exact ⟨pos + d, O ++ ⟨#[32]⟩ ++ s.extract pos (pos + d), false, rfl, rfl, by go_num, by omega, by rw [ByteArray.size_append, ByteArray.size_append, show (ByteArray.mk #[32]).size = 1 from rfl]; omega, Hs1.out HE.out (HG.out (by first | rfl | trivial)) hspc2.out _ HX.out, (fun h => by cases h), hbw2⟩
                        case measure => simp [intOf]; omega
                      | false =>
                        go_wp2_with (go_at_call 29; refine (cS _).mono ?_; rintro e w' ⟨rfl, rfl⟩)
                        go_roundw
                        case rel => exact ⟨pos + d, O ++ s.extract pos (pos + d), false, rfl, rfl, by go_num, by omega, by rw [ByteArray.size_append]; omega, Hs0.out HE.out hspc2.out _ HX.out, (fun h => by cases h), hbw2⟩
                        case measure => simp [intOf]; omega
                    · cases g with
                      | true =>
                        go_wp2_with (go_at_call 29; refine (cS _).mono ?_; rintro e w' ⟨rfl, rfl⟩)
                        go_roundw
                        case rel => exact ⟨pos + d, O ++ ⟨#[32]⟩ ++ s.extract pos (pos + d), false, rfl, rfl, by go_num, by omega, by rw [ByteArray.size_append, ByteArray.size_append, show (ByteArray.mk #[32]).size = 1 from rfl]; omega, Hs1.out HE.out (HG.out (by first | rfl | trivial)) hspc2.out _ HX.out, (fun h => by cases h), hbw2⟩
                        case measure => simp [intOf]; omega
                      | false =>
                        go_wp2_with (go_at_call 29; refine (cS _).mono ?_; rintro e w' ⟨rfl, rfl⟩)
                        go_roundw
                        case rel => exact ⟨pos + d, O ++ s.extract pos (pos + d), false, rfl, rfl, by go_num, by omega, by rw [ByteArray.size_append]; omega, Hs0.out HE.out hspc2.out _ HX.out, (fun h => by cases h), hbw2⟩
                        case measure => simp [intOf]; omega
                  · have f5 : (ri == 215) = false := by simp; omega
                    have f5' : (ri != 215) = true := by simp; omega
                    have HX := Lib.hid (Hup.out (by have := HR.out; omega))
                    have hens := encode_size (ri + 32)
                    clear hd1
                    by_cases hd2 : 1 < d
                    · clear hstr
                      cases g with
                      | true =>
                        go_wp2_with (go_at_call 29; refine (cS _).mono ?_; rintro e w' ⟨rfl, rfl⟩)
                        go_roundw
                        case rel => exact ⟨pos + d, O ++ ⟨#[32]⟩ ++ Utf8.encode (ri + 32), false, rfl, rfl, by go_num, by omega, by rw [ByteArray.size_append, ByteArray.size_append, show (ByteArray.mk #[32]).size = 1 from rfl]; omega, Hs1.out HE.out (HG.out (by first | rfl | trivial)) hspc2.out _ HX.out, (fun h => by cases h), hbw2⟩
                        case measure => simp [intOf]; omega
                      | false =>
                        go_wp2_with (go_at_call 29; refine (cS _).mono ?_; rintro e w' ⟨rfl, rfl⟩)
                        go_roundw
                        case rel => exact ⟨pos + d, O ++ Utf8.encode (ri + 32), false, rfl, rfl, by go_num, by omega, by rw [ByteArray.size_append]; omega, Hs0.out HE.out hspc2.out _ HX.out, (fun h => by cases h), hbw2⟩
                        case measure => simp [intOf]; omega
                    · have f65 : (ri == 65533) = false := by simp; omega
                      have f65' : (ri != 65533) = true := by simp; omega
                      clear hstr
                      cases g with
                      | true =>
                        go_wp2_with (go_at_call 29; refine (cS _).mono ?_; rintro e w' ⟨rfl, rfl⟩)
                        go_roundw
                        case rel => exact ⟨pos + d, O ++ ⟨#[32]⟩ ++ Utf8.encode (ri + 32), false, rfl, rfl, by go_num, by omega, by rw [ByteArray.size_append, ByteArray.size_append, show (ByteArray.mk #[32]).size = 1 from rfl]; omega, Hs1.out HE.out (HG.out (by first | rfl | trivial)) hspc2.out _ HX.out, (fun h => by cases h), hbw2⟩
                        case measure => simp [intOf]; omega
                      | false =>
                        go_wp2_with (go_at_call 29; refine (cS _).mono ?_; rintro e w' ⟨rfl, rfl⟩)
                        go_roundw
                        case rel => exact ⟨pos + d, O ++ Utf8.encode (ri + 32), false, rfl, rfl, by go_num, by omega, by rw [ByteArray.size_append]; omega, Hs0.out HE.out hspc2.out _ HX.out, (fun h => by cases h), hbw2⟩
                        case measure => simp [intOf]; omega
                · have HX := Lib.hid (Hlo.out (Or.inr (by have := HR.out; omega)))
                  by_cases hd2 : 1 < d
                  · clear hstr
                    cases g with
                    | true =>
                      go_wp2_with (go_at_call 29; refine (cS _).mono ?_; rintro e w' ⟨rfl, rfl⟩)
                      go_roundw
                      case rel => exact ⟨pos + d, O ++ ⟨#[32]⟩ ++ s.extract pos (pos + d), false, rfl, rfl, by go_num, by omega, by rw [ByteArray.size_append, ByteArray.size_append, show (ByteArray.mk #[32]).size = 1 from rfl]; omega, Hs1.out HE.out (HG.out (by first | rfl | trivial)) hspc2.out _ HX.out, (fun h => by cases h), hbw2⟩
                      case measure => simp [intOf]; omega
                    | false =>
                      go_wp2_with (go_at_call 29; refine (cS _).mono ?_; rintro e w' ⟨rfl, rfl⟩)
                      go_roundw
                      case rel => exact ⟨pos + d, O ++ s.extract pos (pos + d), false, rfl, rfl, by go_num, by omega, by rw [ByteArray.size_append]; omega, Hs0.out HE.out hspc2.out _ HX.out, (fun h => by cases h), hbw2⟩
                      case measure => simp [intOf]; omega
                  · have f65 : (ri == 65533) = false := by simp; omega
                    have f65' : (ri != 65533) = true := by simp; omega
                    clear hstr
                    cases g with
                    | true =>
                      go_wp2_with (go_at_call 29; refine (cS _).mono ?_; rintro e w' ⟨rfl, rfl⟩)
                      go_roundw
                      case rel => exact ⟨pos + d, O ++ ⟨#[32]⟩ ++ s.extract pos (pos + d), false, rfl, rfl, by go_num, by omega, by rw [ByteArray.size_append, ByteArray.size_append, show (ByteArray.mk #[32]).size = 1 from rfl]; omega, Hs1.out HE.out (HG.out (by first | rfl | trivial)) hspc2.out _ HX.out, (fun h => by cases h), hbw2⟩
                      case measure => simp [intOf]; omega
                    | false =>
                      go_wp2_with (go_at_call 29; refine (cS _).mono ?_; rintro e w' ⟨rfl, rfl⟩)
                      go_roundw
                      case rel => exact ⟨pos + d, O ++ s.extract pos (pos + d), false, rfl, rfl, by go_num, by omega, by rw [ByteArray.size_append]; omega, Hs0.out HE.out hspc2.out _ HX.out, (fun h => by cases h), hbw2⟩
                      case measure => simp [intOf]; omega
    · obtain rfl : pos = s.size := by omega
      go_wp2
      go_ret
      have hO2 : O = foldOf s := by
        apply ByteArray.ext
        apply Array.toList_inj.1
        have hz : FoldRest s s.size g (anyB O) = [] := by
          unfold FoldRest
          rw [List.drop_eq_nil_of_le (by simp)]; rfl
        rw [hz, List.append_nil] at hE
        rw [hE]
        simp [foldOf]
      subst hO2
      exact ⟨rfl, hbw⟩

end Go.Proofs.YthbgcpkgpmlolaaDoor
