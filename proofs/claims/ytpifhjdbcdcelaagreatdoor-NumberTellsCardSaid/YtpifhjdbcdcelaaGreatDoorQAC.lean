/- Texts joined: RepairC RepairE RepairF SlP SlQ SlA SlB SlC SlD SlE. -/
import Derived.Test.YtpifhjdbcdcelaaGreatDoorQAB
import Derived.Outline
import Derived.Lib.ItoaNum
import Derived.Test.YtpifhjdbcdcelaaGreatDoorQAA
import Derived.Maps.OwnSet
import Derived.Maps.OwnOps
import Derived.StringKeys
import Derived.BigQuiet
import Derived.BigRegion
import Derived.WalkSpells
import Derived.Deep.AppendLies
import Derived.Laws.IdiomStrings
import Derived.Laws.BytesArg
namespace Go.Proofs.YtpifhjdbcdcelaaGreatDoor
open Go.RowKit
set_option linter.unusedSimpArgs false
set_option linter.unusedVariables false
def strayB (s : ByteArray) (pos : Nat) : Bool := ((Utf8.decode s pos).1 : Int) == 65533 && !Lib.hasPrefix (s.data.toList.drop pos) [239, 191, 189]
/-- What one rune that is no blank adds. -/
def foldOne (s : ByteArray) (pos : Nat) : List UInt8 :=
  if strayB s pos then [s.data.toList.getD pos 0] else Lib.encodeRune (smallI (Utf8.decode s pos).1)
def foldFrom (s : ByteArray) : Nat → Nat → Bool → Bool → List UInt8
  | 0, _, _, _ => []
  | fuel + 1, pos, gap, any =>
    if pos < s.size then
      if spaceB (Utf8.decode s pos).1 then foldFrom s fuel (pos + (Utf8.decode s pos).2) true any
      else ((if gap && any then [32] else []) ++ foldOne s pos) ++ foldFrom s fuel (pos + (Utf8.decode s pos).2) false true
    else []
def foldB (s : ByteArray) : List UInt8 := foldFrom s s.size 0 false false
theorem foldFrom_end (s : ByteArray) (fuel pos : Nat) (g a : Bool) (h : ¬ pos < s.size) : foldFrom s fuel pos g a = [] := by
  cases fuel with
  | zero => rfl
  | succ f => simp [foldFrom, h]
theorem foldOne_pos (s : ByteArray) (pos : Nat) : 1 ≤ (foldOne s pos).length ∧ (foldOne s pos).length ≤ 4 := by
  unfold foldOne
  have h2 := Lib.encodeRuneZ_length (smallI (Utf8.decode s pos).1)
  split
  · simp
  · simpa [Lib.encodeRune] using h2
theorem foldFrom_space {s : ByteArray} {f pos : Nat} {g a : Bool} {acc out : List UInt8} (hp : pos < s.size) (hb : spaceB (Utf8.decode s pos).1 = true) (h : acc ++ foldFrom s (f + 1) pos g a = out) :
    acc ++ foldFrom s f (pos + (Utf8.decode s pos).2) true a = out := by
  rw [← h]; simp [foldFrom, hp, hb]
theorem foldFrom_other {s : ByteArray} {f pos : Nat} {g a : Bool} {acc out : List UInt8} (hp : pos < s.size) (hb : spaceB (Utf8.decode s pos).1 = false) (h : acc ++ foldFrom s (f + 1) pos g a = out) :
    (acc ++ ((if g && a then [32] else []) ++ foldOne s pos)) ++ foldFrom s f (pos + (Utf8.decode s pos).2) false true = out := by
  rw [← h]; simp [foldFrom, hp, hb]
theorem smallI_le (r : Int) (h0 : 0 ≤ r) (h1 : r ≤ 2147483647) : 0 ≤ smallI r ∧ smallI r ≤ 2147483647 := by
  unfold smallI
  split
  · rename_i h
    simp [inB] at h
    omega
  · omega
theorem extract_drop (s : ByteArray) (pos : Nat) : (s.extract pos s.size).data.toList = s.data.toList.drop pos := by
  simp only [ByteArray.data_extract, Array.toList_extract, List.extract]
  exact List.take_of_length_le (by simp)
theorem stray_at (s : ByteArray) (pos : Nat) (w : World) :
    Calls Tryz.prog 95 #[.string (s.extract pos s.size), .int .i32 (Utf8.decode s pos).1] w fun e w' => e = .returned (.bool (strayB s pos)) ∧ w = w' := by
  have h := stray_any (s.extract pos s.size) (Utf8.decode s pos).1 w
  rw [extract_drop] at h
  exact h
theorem getD_byte (s : ByteArray) (pos : Nat) (hp : pos < s.size) : s.data.toList.getD pos 0 = s[pos] := by
  have : pos < s.data.toList.length := by simpa using hp
  rw [List.getD_eq_getElem?_getD, List.getElem?_eq_getElem this]
  rfl
/-- The loop's relation. -/
def FoldRel (s : ByteArray) (w : World) (B : Nat) (k : Nat) (gap : Value) (wr : World) : Prop :=
  ∃ (pos fuel : Nat) (acc : List UInt8) (g : Bool), gap = .bool g ∧ wr.heap[k]? = some (.stringIter s pos) ∧ Lib.IsBuilderF 87 5 B B (Lib.byteCells acc) wr ∧ Below B w wr ∧ acc ++ foldFrom s fuel pos g (!acc.isEmpty) = foldB s ∧ s.size ≤ pos + fuel ∧ acc.length ≤ 5 * pos
set_option maxHeartbeats 4000000 in
set_option maxRecDepth 1000000 in
theorem fold_any (s : ByteArray) (w : World) (hs : s.size ≤ 17592186044416) :
    Calls Tryz.prog 83 #[.string s] w fun e w' => e = .returned (.string ⟨(foldB s).toArray⟩) ∧ Below w.heap.size w w' := by
  go_enter Tryz.func83, Tryz.ntmps83
  go_wp2_with fail
  go_loopw [4] (fun gap wr => FoldRel s w w.heap.size (w.heap.size + 1) gap wr) (fun _ wr => s.size - wr.iterPos (w.heap.size + 1))
  case atStart =>
    refine ⟨0, s.size, [], false, rfl, ?_, (Lib.IsBuilderF.of (Lib.fresh_isBuilder 87 5 w)).alloc _, ((Below.refl _ w).alloc (Nat.le_refl _) _).alloc (by simp) _, rfl, by omega, by simp⟩
    have := World.iter_heap (w.alloc (.cells #[.pointer none, .slice none 0 0] 87)) s 0
    simpa using this
  case round =>
    obtain ⟨pos, fuel, acc, g, rfl, hit, hI, hbw, hacc, hfu, hal⟩ := hrel
    have hsz : w.heap.size + 1 < wr.heap.size := (Array.getElem?_eq_some_iff.1 hit).1
    by_cases hp : pos < s.size
    · have hnx : ∀ ty, (Instr.next (.pointer (some ⟨w.heap.size + 1, 0, none⟩)) true ty).run Tryz.prog wr = _ := fun ty => Lib.run_next_any_at wr (w.heap.size + 1) s pos ty hit hp
      have hwd := width_pos s pos hp
      have hd1 := decode_le s pos
      have hI2 := hI.iterAt hit (pos + (Utf8.decode s pos).2)
      have hit2 := Lib.iterAt_heap wr (w.heap.size + 1) s pos (pos + (Utf8.decode s pos).2) hit
      have hbw2 := Lib.below_iterAt hbw (k := w.heap.size + 1) (by omega) s (pos + (Utf8.decode s pos).2)
      have hsz2 : w.heap.size ≤ (wr.iterAt (w.heap.size + 1) s (pos + (Utf8.decode s pos).2)).heap.size := by rw [Lib.iterAt_size]; omega
      obtain ⟨f, rfl⟩ : ∃ f, fuel = f + 1 := ⟨fuel - 1, by omega⟩
      have Hit := Lib.hid hit
      clear hI hbw hit
      cases hb : spaceB (Utf8.decode s pos).1 with
      | true =>
        have HS := Lib.hid (foldFrom_space hp hb hacc)
        have sp := space_any (Utf8.decode s pos).1 (wr.iterAt (w.heap.size + 1) s (pos + (Utf8.decode s pos).2))
        rw [hb] at sp
        clear hb hacc
        go_wp2_with (go_at_call 94; refine sp.mono ?_; rintro e w' ⟨rfl, rfl⟩)
        go_roundw
        case rel => exact ⟨_, f, acc, _, rfl, hit2, hI2, hbw2, HS.out, by omega, by omega⟩
        case measure => simp only [World.iterPos, hit2, Hit.out]; omega
      | false =>
        have HS := Lib.hid (foldFrom_other hp hb hacc)
        have sp := space_any (Utf8.decode s pos).1 (wr.iterAt (w.heap.size + 1) s (pos + (Utf8.decode s pos).2))
        rw [hb] at sp
        clear hb hacc
        cases g with
        | false =>
          go_wp2_with (go_at_call 94; refine sp.mono ?_; rintro e w' ⟨rfl, rfl⟩)
          have HS2 := Lib.hid (show acc ++ foldOne s pos ++ foldFrom s f (pos + (Utf8.decode s pos).2) false true = foldB s from by have := HS.out; simpa [] using this)
          cases hst : strayB s pos with
          | true =>
            have E1 := Lib.hid (show Lib.byteCells (acc ++ foldOne s pos) = Lib.byteCells (acc) ++ [.int .u8 s[pos].toNat] from by rw [Lib.byteCells_append]; unfold foldOne; rw [if_pos hst, getD_byte s pos hp]; rfl)
            have hone := foldOne_pos s pos
            have stp := fun w1 => stray_at s pos w1
            simp only [hst] at stp
            clear hst
            go_wp2_with fail
            refine (stp _).mono ?_
            rintro e w' ⟨rfl, rfl⟩
            go_wp2_with (go_at_call 60; refine (Tryz.Builder_WriteByte_k w.heap.size w.heap.size _ _ _ hI2 (by rw [Lib.byteCells_length]; first | omega | (rw [List.length_append]; simp; omega)) (by exact hsz2)).mono ?_)
            rintro e W9 ⟨rfl, g9, b9, k9⟩
            have hit9 := k9.iter hit2 (by omega)
            go_wp2
            go_roundw
            case rel =>
              have hl : (acc ++ foldOne s pos).length ≤ 5 * (pos + (Utf8.decode s pos).2) := by simp only [List.length_append, List.length_cons, List.length_nil]; omega
              have he : (acc ++ foldOne s pos).isEmpty = false := by rw [List.isEmpty_eq_false_iff_exists_mem]; exact ⟨_, List.mem_append_right _ (List.getElem_mem (n := 0) (by omega))⟩
              exact ⟨_, f, acc ++ foldOne s pos, _, rfl, hit9, by rw [E1.out]; exact (Or.inr g9), hbw2.trans b9, by rw [he]; exact HS2.out, by omega, hl⟩
            case measure => simp only [World.iterPos, hit9, Hit.out]; omega
          | false =>
            have E1 := Lib.hid (show Lib.byteCells (acc ++ foldOne s pos) = Lib.byteCells (acc) ++ Lib.runeCells (smallI (Utf8.decode s pos).1) from by unfold foldOne; rw [if_neg (by rw [hst]; simp), cells_rune])
            have hone := foldOne_pos s pos
            have stp := fun w1 => stray_at s pos w1
            simp only [hst] at stp
            clear hst
            have hsm := smallI_le (Utf8.decode s pos).1 (by omega) (by omega)
            go_wp2_with fail
            refine (stp _).mono ?_
            rintro e w' ⟨rfl, rfl⟩
            go_wp2_with (first | (go_at_call 97; refine (small_any _ _).mono ?_; rintro e w' ⟨rfl, rfl⟩) | (go_at_call 96; refine (Tryz.Builder_WriteRune_k w.heap.size w.heap.size _ _ (by omega) (by omega) _ hI2 (by rw [Lib.byteCells_length]; first | omega | (rw [List.length_append]; simp; omega)) (by exact hsz2)).mono ?_))
            rintro e W9 ⟨rfl, g9, b9, k9⟩
            have hit9 := k9.iter hit2 (by omega)
            go_wp2
            go_roundw
            case rel =>
              have hl : (acc ++ foldOne s pos).length ≤ 5 * (pos + (Utf8.decode s pos).2) := by simp only [List.length_append, List.length_cons, List.length_nil]; omega
              have he : (acc ++ foldOne s pos).isEmpty = false := by rw [List.isEmpty_eq_false_iff_exists_mem]; exact ⟨_, List.mem_append_right _ (List.getElem_mem (n := 0) (by omega))⟩
              exact ⟨_, f, acc ++ foldOne s pos, _, rfl, hit9, by rw [E1.out]; exact (Or.inr g9), hbw2.trans b9, by rw [he]; exact HS2.out, by omega, hl⟩
            case measure => simp only [World.iterPos, hit9, Hit.out]; omega
        | true =>
          have hlen := Tryz.Builder_Len_f w.heap.size w.heap.size _ _ hI2
          rw [Lib.byteCells_length] at hlen
          by_cases hne : acc = []
          · subst hne
            simp only [List.length_nil] at hlen
            go_wp2_with (go_at_call 94; refine sp.mono ?_; rintro e w' ⟨rfl, rfl⟩)
            go_wp2_with (go_at_call 59; refine hlen.mono ?_; rintro e w' ⟨rfl, rfl⟩)
            have HS2 := Lib.hid (show [] ++ foldOne s pos ++ foldFrom s f (pos + (Utf8.decode s pos).2) false true = foldB s from by have := HS.out; simpa [] using this)
            cases hst : strayB s pos with
            | true =>
              have E1 := Lib.hid (show Lib.byteCells ([] ++ foldOne s pos) = Lib.byteCells ([]) ++ [.int .u8 s[pos].toNat] from by rw [Lib.byteCells_append]; unfold foldOne; rw [if_pos hst, getD_byte s pos hp]; rfl)
              have hone := foldOne_pos s pos
              have stp := fun w1 => stray_at s pos w1
              simp only [hst] at stp
              clear hst
              go_wp2_with fail
              refine (stp _).mono ?_
              rintro e w' ⟨rfl, rfl⟩
              go_wp2_with (go_at_call 60; refine (Tryz.Builder_WriteByte_k w.heap.size w.heap.size _ _ _ hI2 (by rw [Lib.byteCells_length]; first | omega | (rw [List.length_append]; simp; omega)) (by exact hsz2)).mono ?_)
              rintro e W9 ⟨rfl, g9, b9, k9⟩
              have hit9 := k9.iter hit2 (by omega)
              go_wp2
              go_roundw
              case rel =>
                have hl : ([] ++ foldOne s pos).length ≤ 5 * (pos + (Utf8.decode s pos).2) := by simp only [List.length_append, List.length_cons, List.length_nil]; omega
                have he : ([] ++ foldOne s pos).isEmpty = false := by rw [List.isEmpty_eq_false_iff_exists_mem]; exact ⟨_, List.mem_append_right _ (List.getElem_mem (n := 0) (by omega))⟩
                exact ⟨_, f, [] ++ foldOne s pos, _, rfl, hit9, by rw [E1.out]; exact (Or.inr g9), hbw2.trans b9, by rw [he]; exact HS2.out, by omega, hl⟩
              case measure => simp only [World.iterPos, hit9, Hit.out]; omega
            | false =>
              have E1 := Lib.hid (show Lib.byteCells ([] ++ foldOne s pos) = Lib.byteCells ([]) ++ Lib.runeCells (smallI (Utf8.decode s pos).1) from by unfold foldOne; rw [if_neg (by rw [hst]; simp), cells_rune])
              have hone := foldOne_pos s pos
              have stp := fun w1 => stray_at s pos w1
              simp only [hst] at stp
              clear hst
              have hsm := smallI_le (Utf8.decode s pos).1 (by omega) (by omega)
              go_wp2_with fail
              refine (stp _).mono ?_
              rintro e w' ⟨rfl, rfl⟩
              go_wp2_with (first | (go_at_call 97; refine (small_any _ _).mono ?_; rintro e w' ⟨rfl, rfl⟩) | (go_at_call 96; refine (Tryz.Builder_WriteRune_k w.heap.size w.heap.size _ _ (by omega) (by omega) _ hI2 (by rw [Lib.byteCells_length]; first | omega | (rw [List.length_append]; simp; omega)) (by exact hsz2)).mono ?_))
              rintro e W9 ⟨rfl, g9, b9, k9⟩
              have hit9 := k9.iter hit2 (by omega)
              go_wp2
              go_roundw
              case rel =>
                have hl : ([] ++ foldOne s pos).length ≤ 5 * (pos + (Utf8.decode s pos).2) := by simp only [List.length_append, List.length_cons, List.length_nil]; omega
                have he : ([] ++ foldOne s pos).isEmpty = false := by rw [List.isEmpty_eq_false_iff_exists_mem]; exact ⟨_, List.mem_append_right _ (List.getElem_mem (n := 0) (by omega))⟩
                exact ⟨_, f, [] ++ foldOne s pos, _, rfl, hit9, by rw [E1.out]; exact (Or.inr g9), hbw2.trans b9, by rw [he]; exact HS2.out, by omega, hl⟩
              case measure => simp only [World.iterPos, hit9, Hit.out]; omega
          · have hpos : 0 < acc.length := List.length_pos_iff.2 hne
            have hem : acc.isEmpty = false := by simpa using hne
            go_wp2_with (go_at_call 94; refine sp.mono ?_; rintro e w' ⟨rfl, rfl⟩)
            go_wp2_with (go_at_call 59; refine hlen.mono ?_; rintro e w' ⟨rfl, rfl⟩)
            go_wp2_with (go_at_call 60; refine (Tryz.Builder_WriteByte_k w.heap.size w.heap.size _ _ _ hI2 (by rw [Lib.byteCells_length]; omega) hsz2).mono ?_)
            rintro e W2 ⟨rfl, g1, b1, k1⟩
            have hit3 := k1.iter hit2 (by omega)
            have hI3 : Lib.IsBuilderF 87 5 w.heap.size w.heap.size (Lib.byteCells (acc ++ [32])) W2 := by rw [Lib.byteCells_append]; exact Or.inr g1
            have hbw3 := hbw2.trans b1
            have hsz3 : w.heap.size ≤ W2.heap.size := Nat.le_trans hsz2 b1.size
            have HS2 := Lib.hid (show acc ++ [32] ++ foldOne s pos ++ foldFrom s f (pos + (Utf8.decode s pos).2) false true = foldB s from by have := HS.out; simpa [hem] using this)
            cases hst : strayB s pos with
            | true =>
              have E1 := Lib.hid (show Lib.byteCells (acc ++ [32] ++ foldOne s pos) = Lib.byteCells (acc ++ [32]) ++ [.int .u8 s[pos].toNat] from by rw [Lib.byteCells_append]; unfold foldOne; rw [if_pos hst, getD_byte s pos hp]; rfl)
              have hone := foldOne_pos s pos
              have stp := fun w1 => stray_at s pos w1
              simp only [hst] at stp
              clear hst
              go_wp2_with fail
              refine (stp _).mono ?_
              rintro e w' ⟨rfl, rfl⟩
              go_wp2_with (go_at_call 60; refine (Tryz.Builder_WriteByte_k w.heap.size w.heap.size _ _ _ hI3 (by rw [Lib.byteCells_length]; first | omega | (rw [List.length_append]; simp; omega)) (by exact hsz3)).mono ?_)
              rintro e W9 ⟨rfl, g9, b9, k9⟩
              have hit9 := k9.iter hit3 (by omega)
              go_wp2
              go_roundw
              case rel =>
                have hl : (acc ++ [32] ++ foldOne s pos).length ≤ 5 * (pos + (Utf8.decode s pos).2) := by simp only [List.length_append, List.length_cons, List.length_nil]; omega
                have he : (acc ++ [32] ++ foldOne s pos).isEmpty = false := by rw [List.isEmpty_eq_false_iff_exists_mem]; exact ⟨_, List.mem_append_right _ (List.getElem_mem (n := 0) (by omega))⟩
                exact ⟨_, f, acc ++ [32] ++ foldOne s pos, _, rfl, hit9, by rw [E1.out]; exact (Or.inr g9), hbw3.trans b9, by rw [he]; exact HS2.out, by omega, hl⟩
              case measure => simp only [World.iterPos, hit9, Hit.out]; omega
            | false =>
              have E1 := Lib.hid (show Lib.byteCells (acc ++ [32] ++ foldOne s pos) = Lib.byteCells (acc ++ [32]) ++ Lib.runeCells (smallI (Utf8.decode s pos).1) from by unfold foldOne; rw [if_neg (by rw [hst]; simp), cells_rune])
              have hone := foldOne_pos s pos
              have stp := fun w1 => stray_at s pos w1
              simp only [hst] at stp
              clear hst
              have hsm := smallI_le (Utf8.decode s pos).1 (by omega) (by omega)
              go_wp2_with fail
              refine (stp _).mono ?_
              rintro e w' ⟨rfl, rfl⟩
              go_wp2_with (first | (go_at_call 97; refine (small_any _ _).mono ?_; rintro e w' ⟨rfl, rfl⟩) | (go_at_call 96; refine (Tryz.Builder_WriteRune_k w.heap.size w.heap.size _ _ (by omega) (by omega) _ hI3 (by rw [Lib.byteCells_length]; first | omega | (rw [List.length_append]; simp; omega)) (by exact hsz3)).mono ?_))
              rintro e W9 ⟨rfl, g9, b9, k9⟩
              have hit9 := k9.iter hit3 (by omega)
              go_wp2
              go_roundw
              case rel =>
                have hl : (acc ++ [32] ++ foldOne s pos).length ≤ 5 * (pos + (Utf8.decode s pos).2) := by simp only [List.length_append, List.length_cons, List.length_nil]; omega
                have he : (acc ++ [32] ++ foldOne s pos).isEmpty = false := by rw [List.isEmpty_eq_false_iff_exists_mem]; exact ⟨_, List.mem_append_right _ (List.getElem_mem (n := 0) (by omega))⟩
                exact ⟨_, f, acc ++ [32] ++ foldOne s pos, _, rfl, hit9, by rw [E1.out]; exact (Or.inr g9), hbw3.trans b9, by rw [he]; exact HS2.out, by omega, hl⟩
              case measure => simp only [World.iterPos, hit9, Hit.out]; omega
    · have hnx : ∀ ty, (Instr.next (.pointer (some ⟨w.heap.size + 1, 0, none⟩)) true ty).run Tryz.prog wr = _ := fun ty => Lib.run_next_end_at wr (w.heap.size + 1) s pos ty hit hp
      go_wp2_with (go_at_call 62; refine (Tryz.Builder_String_any_k w.heap.size w.heap.size acc _ hI (by omega)).mono ?_)
      rintro e W2 ⟨rfl, _, b1, _⟩
      go_wp2
      go_ret
      rw [foldFrom_end s fuel pos _ _ hp, List.append_nil] at hacc
      subst hacc
      exact ⟨rfl, hbw.trans b1⟩
end Go.Proofs.YtpifhjdbcdcelaaGreatDoor

namespace Go.Proofs.YtpifhjdbcdcelaaGreatDoor
open Go.RowKit
set_option linter.unusedSimpArgs false
set_option linter.unusedVariables false
theorem drop_cons (s : ByteArray) (pos : Nat) (h : pos < s.size) : ∃ b l, s.data.toList.drop pos = b :: l := by
  have : pos < s.data.toList.length := by simpa using h
  exact ⟨_, _, List.drop_eq_getElem_cons this⟩
theorem segs_len : ∀ (n : Nat) (l : List UInt8), l.length ≤ n → (segs l).length ≤ l.length
  | _, [], _ => by simp [segs_nil]
  | n + 1, b :: l, hn => by
    have hw := dec_width b l
    simp only [List.length_cons] at hn
    rw [segs_cons]
    have := segs_len n ((b :: l).drop (dec (b :: l)).2) (by rw [List.length_drop, List.length_cons]; omega)
    rw [List.length_drop, List.length_cons] at this
    simp only [List.length_cons]
    omega
end Go.Proofs.YtpifhjdbcdcelaaGreatDoor

namespace Go.Proofs.YtpifhjdbcdcelaaGreatDoor
open Go.RowKit
set_option linter.unusedSimpArgs false
set_option linter.unusedVariables false
def stray (c : Nat × List UInt8) : Bool := c.1 == 65533 && c.2.length == 1
def chunkOut (c : Nat × List UInt8) : List UInt8 := if stray c then c.2 else Lib.encodeRune (smallI c.1)
def foldS : List (Nat × List UInt8) → Bool → Bool → List UInt8
  | [], _, _ => []
  | c :: cs, gap, any => if spaceB c.1 then foldS cs true any else ((if gap && any then [32] else []) ++ chunkOut c) ++ foldS cs false true
theorem enc_fffd : Lib.encodeRune 65533 = [239, 191, 189] := by decide +kernel
theorem dec_fffd (m : List UInt8) : dec (239 :: 191 :: 189 :: m) = (65533, 3) := by
  have := dec_enc 65533 (by decide) m
  rw [show ((65533 : Nat) : Int) = 65533 from rfl, enc_fffd] at this
  exact this
theorem u8_eq (b : UInt8) (n : Nat) (h : b.toNat = n) : b = n.toUInt8 := by
  subst h; simp
theorem dec_stray (b : UInt8) (l : List UInt8) (hr : (dec (b :: l)).1 = 65533) : (!Lib.hasPrefix (b :: l) [239, 191, 189]) = ((dec (b :: l)).2 == 1) := by
  by_cases hp : Lib.hasPrefix (b :: l) [239, 191, 189] = true
  · rw [hp]
    have hp' : [239, 191, 189] <+: b :: l := by simpa [Lib.hasPrefix] using hp
    obtain ⟨m, hm⟩ := hp'
    rw [← hm]
    show _ = ((dec (239 :: 191 :: 189 :: m)).2 == 1)
    rw [dec_fffd]
    rfl
  · have hp2 : Lib.hasPrefix (b :: l) [239, 191, 189] = false := by simpa using hp
    rw [hp2]
    simp only [Bool.not_false]
    symm
    rw [beq_iff_eq]
    unfold dec at hr ⊢
    dsimp only at hr ⊢
    split at hr
    · dsimp only at hr; omega
    · rename_i h1
      rw [if_neg h1]
      split at hr
      · rename_i h2
        rw [if_pos h2]
        split at hr
        · dsimp only at hr; simp at h2; omega
        · rename_i h3; rw [if_neg h3]
      · rename_i h2
        rw [if_neg h2]
        split at hr
        · rename_i h3
          rw [if_pos h3]
          split at hr
          · exfalso
            apply hp
            dsimp only at hr
            rcases l with _ | ⟨x, _ | ⟨y, m⟩⟩
            · simp at h3
            · simp at h3
            · simp only [List.getD_cons_zero, List.getD_cons_succ] at h3 hr
              simp at h3
              have a1 := u8_eq b 239 (by omega)
              have a2 := u8_eq x 191 (by omega)
              have a3 := u8_eq y 189 (by omega)
              rw [a1, a2, a3]
              simp [Lib.hasPrefix]
          · rename_i h4; rw [if_neg h4]
        · rename_i h3
          rw [if_neg h3]
          split at hr
          · rename_i h4
            rw [if_pos h4]
            split at hr
            · rename_i h5; dsimp only at hr; simp only [Bool.and_eq_true, decide_eq_true_eq] at h5; omega
            · rename_i h5; rw [if_neg h5]
          · rename_i h4; rw [if_neg h4]
theorem foldFrom_segs (s : ByteArray) : ∀ (fuel pos : Nat) (g a : Bool), s.size ≤ pos + fuel → foldFrom s fuel pos g a = foldS (segs (s.data.toList.drop pos)) g a
  | 0, pos, g, a, h => by
    rw [List.drop_eq_nil_of_le (by simpa using h)]; rfl
  | f + 1, pos, g, a, h => by
    by_cases hp : pos < s.size
    · have hw := width_pos s pos hp
      have ih := fun g a => foldFrom_segs s f (pos + (Utf8.decode s pos).2) g a (by omega)
      obtain ⟨b, l, e⟩ := drop_cons s pos hp
      have ho : foldOne s pos = chunkOut ((Utf8.decode s pos).1, (b :: l).take (Utf8.decode s pos).2) := by
        have hw2 := dec_width b l
        have hd := decode_dec s pos
        rw [e] at hd
        have hlen : ((b :: l).take (Utf8.decode s pos).2).length = (Utf8.decode s pos).2 := by rw [List.length_take, List.length_cons, hd]; omega
        have hst : strayB s pos = stray ((Utf8.decode s pos).1, (b :: l).take (Utf8.decode s pos).2) := by
          unfold strayB stray
          rw [e, hlen]
          by_cases h1 : (Utf8.decode s pos).1 = 65533
          · have := dec_stray b l (by rw [← hd]; exact h1)
            rw [this, h1, hd]; rfl
          · have h2 : (((Utf8.decode s pos).1 : Int) == 65533) = false := by simp; omega
            have h3 : ((Utf8.decode s pos).1 == 65533) = false := by simpa using h1
            rw [h2, h3]; rfl
        unfold foldOne chunkOut
        rw [← hst]
        by_cases h1 : strayB s pos = true
        · rw [if_pos h1, if_pos h1]
          rw [hst] at h1
          simp only [stray, hlen] at h1
          simp at h1
          rw [h1.2, getD_byte s pos hp]
          have : pos < s.data.toList.length := by simpa using hp
          have e2 := List.drop_eq_getElem_cons this
          rw [e] at e2
          injection e2 with e3 _
          simp only [List.take_succ_cons, List.take_zero]
          rw [e3]; rfl
        · rw [if_neg h1, if_neg h1]
      have hsg : segs (s.data.toList.drop pos) = ((Utf8.decode s pos).1, (b :: l).take (Utf8.decode s pos).2) :: segs (s.data.toList.drop (pos + (Utf8.decode s pos).2)) := by
        rw [e, segs_cons, ← e, ← decode_dec, List.drop_drop]
      rw [hsg]
      simp only [foldFrom, if_pos hp, foldS, ho, ih]
    · rw [foldFrom_end s _ _ _ _ hp, List.drop_eq_nil_of_le (by simpa using hp)]; rfl
def foldL (l : List UInt8) : List UInt8 := foldS (segs l) false false
theorem foldB_segs (s : ByteArray) : foldB s = foldL s.data.toList := by
  unfold foldB foldL
  rw [foldFrom_segs s _ _ _ _ (by omega)]
  rfl
end Go.Proofs.YtpifhjdbcdcelaaGreatDoor
namespace Go.Proofs.YtpifhjdbcdcelaaGreatDoor
open Go.RowKit
set_option linter.unusedSimpArgs false
set_option linter.unusedVariables false
theorem smallI_eq (r : Int) : (65 ≤ r ∧ r ≤ 90 ∧ smallI r = r + 32) ∨ (192 ≤ r ∧ r ≤ 222 ∧ r ≠ 215 ∧ smallI r = r + 32) ∨ (¬ (65 ≤ r ∧ r ≤ 90) ∧ ¬ (192 ≤ r ∧ r ≤ 222 ∧ r ≠ 215) ∧ smallI r = r) := by
  unfold smallI
  split
  · rename_i h
    simp [inB] at h
    omega
  · rename_i h
    simp [inB] at h
    omega
theorem smallI_of (r : Int) (h1 : ¬ (65 ≤ r ∧ r ≤ 90)) (h2 : ¬ (192 ≤ r ∧ r ≤ 222 ∧ r ≠ 215)) : smallI r = r := by
  rcases smallI_eq r with h | h | h
  · omega
  · omega
  · exact h.2.2
theorem foldS_begin : ∀ (cs : List (Nat × List UInt8)) (g g' : Bool), foldS cs g false = foldS cs g' false
  | [], _, _ => rfl
  | c :: cs, g, g' => by
    simp only [foldS, Bool.and_false, Bool.false_eq_true, if_false]
end Go.Proofs.YtpifhjdbcdcelaaGreatDoor
namespace Go.Proofs.YtpifhjdbcdcelaaGreatDoor
open Go.RowKit
set_option linter.unusedSimpArgs false
set_option linter.unusedVariables false
theorem chunkOut_len (c : Nat × List UInt8) : (chunkOut c).length ≤ 4 := by
  unfold chunkOut
  split
  · rename_i h
    simp [stray] at h
    omega
  · have := Lib.encodeRuneZ_length (smallI c.1)
    simp [Lib.encodeRune]; omega
theorem foldS_len : ∀ (cs : List (Nat × List UInt8)) (g a : Bool), (foldS cs g a).length ≤ 5 * cs.length
  | [], _, _ => by simp [foldS]
  | c :: cs, g, a => by
    have h1 := chunkOut_len c
    have h2 := foldS_len cs true a
    have h3 := foldS_len cs false true
    simp only [foldS, List.length_cons]
    split
    · omega
    · simp only [List.length_append]
      split <;> simp <;> omega
theorem foldL_len (l : List UInt8) : (foldL l).length ≤ 5 * l.length := by
  have h1 := foldS_len (segs l) false false
  have h2 := segs_len l.length l (Nat.le_refl _)
  unfold foldL
  omega
def foldOf (s : ByteArray) : ByteArray := ⟨(foldL s.data.toList).toArray⟩
theorem fold_of (s : ByteArray) (w : World) (hs : s.size ≤ 17592186044416) :
    Calls Tryz.prog 83 #[.string s] w fun e w' => e = .returned (.string (foldOf s)) ∧ Below w.heap.size w w' := by
  have := fold_any s w hs
  rw [foldB_segs] at this
  exact this
theorem size_list (s : ByteArray) : s.data.toList.length = s.size := by simp
theorem foldOf_size (s : ByteArray) : (foldOf s).size ≤ 5 * s.size := by
  have := foldL_len s.data.toList
  rw [size_list] at this
  show (foldL s.data.toList).toArray.size ≤ _
  simpa using this
theorem encode_eq (n : Nat) (h : Utf8.valid n = true) : Utf8.encode n = ⟨(Lib.encodeRune n).toArray⟩ := by
  have hv := of_valid n h
  unfold Utf8.encode
  simp only [h, if_true, Int.toNat_natCast]
  by_cases h1 : n < 128
  · rw [if_pos (by omega), enc1 n h1]
  · by_cases h2 : n < 2048
    · rw [if_neg (by omega), if_pos (by omega), enc2 n (by omega) h2]
    · by_cases h3 : n < 65536
      · rw [if_neg (by omega), if_neg (by omega), if_pos (by omega), enc3 n (by omega)]
      · rw [if_neg (by omega), if_neg (by omega), if_neg (by omega), enc4 n (by omega) (by omega)]
theorem encode_size (r : Int) : (Utf8.encode r).size ≤ 4 := by
  unfold Utf8.encode
  dsimp only
  generalize (if Utf8.valid r = true then r.toNat else Utf8.runeError) = c
  split
  · exact (by decide : (1 : Nat) ≤ 4)
  · split
    · exact (by decide : (2 : Nat) ≤ 4)
    · split
      · exact (by decide : (3 : Nat) ≤ 4)
      · exact (by decide : (4 : Nat) ≤ 4)
end Go.Proofs.YtpifhjdbcdcelaaGreatDoor

namespace Go.Proofs.YtpifhjdbcdcelaaGreatDoor
open Go.RowKit
set_option linter.unusedSimpArgs false
set_option linter.unusedVariables false
/-- The bytes that stay. -/
def slKeep (b : UInt8) : Bool := (decide (97 ≤ b.toNat) && decide (b.toNat ≤ 122)) || (decide (48 ≤ b.toNat) && decide (b.toNat ≤ 57))
def slOne (id : List UInt8) (b : UInt8) : List UInt8 := if slKeep b then id ++ [b] else if id.getLastD 45 = 45 then id else id ++ [45]
def slRow (l : List UInt8) : List UInt8 := l.foldl slOne []
def slTrim (id : List UInt8) : List UInt8 := if id.getLastD 0 = 45 then id.dropLast else id
def slNone : List UInt8 := [115, 101, 99, 116, 105, 111, 110]
def slEnd (id : List UInt8) : List UInt8 := if slTrim id = [] then slNone else slTrim id
def slugL (s : List UInt8) : List UInt8 := slEnd ((slRow (foldL s)).take 40)
theorem slOne_more (id : List UInt8) (b : UInt8) : ∃ t, slOne id b = id ++ t ∧ t.length ≤ 1 := by
  unfold slOne
  split
  · exact ⟨[b], rfl, Nat.le_refl _⟩
  · split
    · exact ⟨[], by simp, by simp⟩
    · exact ⟨[45], rfl, Nat.le_refl _⟩
theorem slFold_more : ∀ (l id : List UInt8), ∃ t, l.foldl slOne id = id ++ t ∧ t.length ≤ l.length
  | [], id => ⟨[], by simp, by simp⟩
  | b :: l, id => by
    obtain ⟨t, e, ht⟩ := slOne_more id b
    obtain ⟨u, e2, hu⟩ := slFold_more l (id ++ t)
    exact ⟨t ++ u, by rw [List.foldl_cons, e, e2, List.append_assoc], by simp; omega⟩
theorem slFold_full (l id : List UInt8) (h : id.length = 40) : (l.foldl slOne id).take 40 = id := by
  obtain ⟨t, e, _⟩ := slFold_more l id
  rw [e, ← h, List.take_left]
theorem slRow_append (a b : List UInt8) : slRow (a ++ b) = b.foldl slOne (slRow a) := by
  unfold slRow
  rw [List.foldl_append]
theorem slRow_len (l : List UInt8) : (slRow l).length ≤ l.length := by
  obtain ⟨t, e, ht⟩ := slFold_more l []
  unfold slRow
  rw [e]
  simpa using ht
/-- Bytes that do not stay are as one. -/
theorem slOne_twice (id : List UInt8) (b c : UInt8) (hb : slKeep b = false) (hc : slKeep c = false) : slOne (slOne id b) c = slOne id b := by
  unfold slOne
  rw [hb, hc]
  simp only [Bool.false_eq_true, if_false]
  split
  · rfl
  · rw [if_pos (by simp)]
theorem slFold_others : ∀ (l id : List UInt8) (b : UInt8), slKeep b = false → (∀ c ∈ l, slKeep c = false) → (b :: l).foldl slOne id = slOne id b
  | [], id, b, _, _ => rfl
  | c :: l, id, b, hb, h => by
    rw [List.foldl_cons, slFold_others l _ c (h c (by simp)) (fun x hx => h x (by simp [hx])), slOne_twice _ _ _ hb (h c (by simp))]
structure SlOk (id : List UInt8) : Prop where
  signs : ∀ b ∈ id, slKeep b = true ∨ b = 45
  first : id.headD 0 ≠ 45
  apart : ∀ (p q : List UInt8) (a b : UInt8), id = p ++ a :: b :: q → ¬ (a = 45 ∧ b = 45)
theorem keep_ne {b : UInt8} (h : slKeep b = true) : b ≠ 45 := by
  rintro rfl
  exact absurd h (by decide)
theorem getLastD_snoc (l : List UInt8) (b d : UInt8) : (l ++ [b]).getLastD d = b := by simp
theorem SlOk.nil : SlOk [] := ⟨by simp, by decide, fun p q a b e => by simp at e⟩
theorem SlOk.snoc {id : List UInt8} (h : SlOk id) (b : UInt8) (hb : slKeep b = true ∨ (b = 45 ∧ id.getLastD 45 ≠ 45)) : SlOk (id ++ [b]) := by
  refine ⟨?_, ?_, ?_⟩
  · intro x hx
    rcases List.mem_append.1 hx with hx | hx
    · exact h.signs x hx
    · simp at hx
      subst hx
      rcases hb with hb | hb
      · exact .inl hb
      · exact .inr hb.1
  · cases id with
    | nil =>
      rcases hb with hb | hb
      · exact keep_ne hb
      · exact absurd rfl hb.2
    | cons c id => exact h.first
  · intro p q x y e ⟨e1, e2⟩
    subst e1 e2
    by_cases hq : q = []
    · subst hq
      have e3 : id ++ [b] = (p ++ [45]) ++ [45] := by rw [e]; simp
      obtain ⟨e4, e5⟩ := List.append_inj' e3 rfl
      simp at e5
      subst e5
      rcases hb with hb | hb
      · exact keep_ne hb rfl
      · rw [e4] at hb
        exact hb.2 (getLastD_snoc _ _ _)
    · obtain ⟨q', z, rfl⟩ : ∃ q' z, q = q' ++ [z] := ⟨q.dropLast, q.getLast hq, (List.dropLast_concat_getLast hq).symm⟩
      have e3 : id ++ [b] = (p ++ 45 :: 45 :: q') ++ [z] := by rw [e]; simp
      obtain ⟨e4, _⟩ := List.append_inj' e3 rfl
      exact h.apart p q' 45 45 e4 ⟨rfl, rfl⟩
theorem SlOk.one {id : List UInt8} (h : SlOk id) (b : UInt8) : SlOk (slOne id b) := by
  unfold slOne
  split
  · next hb => exact h.snoc b (.inl hb)
  · split
    · exact h
    · next hb => exact h.snoc 45 (.inr ⟨rfl, hb⟩)
theorem SlOk.fold : ∀ (l : List UInt8) {id : List UInt8}, SlOk id → SlOk (l.foldl slOne id)
  | [], id, h => h
  | b :: l, id, h => SlOk.fold l (h.one b)
theorem SlOk.row (l : List UInt8) : SlOk (slRow l) := SlOk.fold l SlOk.nil
theorem SlOk.pre {a b : List UInt8} (h : SlOk (a ++ b)) : SlOk a := by
  refine ⟨fun x hx => h.signs x (List.mem_append_left _ hx), ?_, fun p q x y e => h.apart p (q ++ b) x y (by rw [e]; simp)⟩
  cases a with
  | nil => decide
  | cons c a => exact h.first
theorem SlOk.take {a : List UInt8} (h : SlOk a) (k : Nat) : SlOk (a.take k) := SlOk.pre (b := a.drop k) (by rw [List.take_append_drop]; exact h)
theorem snoc_of {a : List UInt8} (h : a ≠ []) : ∃ p z, a = p ++ [z] := ⟨a.dropLast, a.getLast h, (List.dropLast_concat_getLast h).symm⟩
/-- Without a dash at its end. -/
theorem SlOk.trim {a : List UInt8} (h : SlOk a) : SlOk (slTrim a) ∧ (slTrim a).getLastD 0 ≠ 45 ∧ (slTrim a).length ≤ a.length := by
  unfold slTrim
  split
  · next h1 =>
    by_cases hn : a = []
    · subst hn; exact absurd h1 (by decide)
    · obtain ⟨p, z, rfl⟩ := snoc_of hn
      rw [getLastD_snoc] at h1
      subst h1
      rw [List.dropLast_concat]
      refine ⟨h.pre, ?_, by simp⟩
      intro e
      by_cases hp : p = []
      · subst hp; exact absurd e (by decide)
      · obtain ⟨q, y, rfl⟩ := snoc_of hp
        rw [getLastD_snoc] at e
        subst e
        exact h.apart q [] 45 45 (by simp) ⟨rfl, rfl⟩
  · next h1 => exact ⟨h, h1, Nat.le_refl _⟩
theorem slNone_ok : SlOk slNone := by
  have : slRow slNone = slNone := by decide
  rw [← this]
  exact SlOk.row _
theorem slEnd_ok {a : List UInt8} (h : SlOk a) : SlOk (slEnd a) ∧ (slEnd a).getLastD 0 ≠ 45 ∧ slEnd a ≠ [] ∧ (slEnd a).length ≤ max 7 a.length := by
  unfold slEnd
  split
  · exact ⟨slNone_ok, by decide, by decide, by simp [slNone]; omega⟩
  · next hn => exact ⟨h.trim.1, h.trim.2.1, hn, by have := h.trim.2.2; omega⟩
theorem slug_ok (s : List UInt8) : SlOk (slugL s) ∧ (slugL s).getLastD 0 ≠ 45 ∧ slugL s ≠ [] ∧ (slugL s).length ≤ 40 := by
  obtain ⟨h1, h2, h3, h4⟩ := slEnd_ok ((SlOk.row (foldL s)).take 40)
  exact ⟨h1, h2, h3, by rw [List.length_take] at h4; unfold slugL; omega⟩
end Go.Proofs.YtpifhjdbcdcelaaGreatDoor

namespace Go.Proofs.YtpifhjdbcdcelaaGreatDoor
open Go.RowKit
set_option linter.unusedSimpArgs false
set_option linter.unusedVariables false
def slNum (id : List UInt8) (n : Nat) : List UInt8 := id ++ 45 :: Lib.decDigits n
def slFind (had : List (List UInt8)) (id : List UInt8) : Nat → Nat → Nat
  | 0, n => n
  | f + 1, n => if slNum id n ∈ had then slFind had id f (n + 1) else n
def slLeast (had : List (List UInt8)) (id : List UInt8) : Nat := slFind had id (had.length + 1) 2
def slNext (had : List (List UInt8)) (s : List UInt8) : List UInt8 := if slugL s ∈ had then slNum (slugL s) (slLeast had (slugL s)) else slugL s
def decVal (l : List UInt8) : Nat := l.foldl (fun v b => v * 10 + (b.toNat - 48)) 0
theorem decVal_digits {n : Nat} (h : n < 100) : decVal (Lib.decDigits n) = n := by
  by_cases h1 : n < 10
  · rw [Lib.decDigits_one h1]
    have : ((List.range 10).all fun n => decVal [UInt8.ofNat (48 + n)] == n) = true := by decide +kernel
    simpa using List.all_eq_true.1 this n (List.mem_range.2 h1)
  · rw [Lib.decDigits_two h1 h]
    have : ((List.range 100).all fun n => decVal [UInt8.ofNat (48 + n / 10), UInt8.ofNat (48 + n % 10)] == n) = true := by decide +kernel
    simpa using List.all_eq_true.1 this n (List.mem_range.2 h)
theorem decDigits_ok {n : Nat} (h : n < 100) : (∀ b ∈ Lib.decDigits n, 48 ≤ b.toNat ∧ b.toNat ≤ 57) ∧ Lib.decDigits n ≠ [] ∧ (Lib.decDigits n).length ≤ 2 := by
  by_cases h1 : n < 10
  · rw [Lib.decDigits_one h1]
    have : ((List.range 10).all fun n => [UInt8.ofNat (48 + n)].all fun b => decide (48 ≤ b.toNat ∧ b.toNat ≤ 57)) = true := by decide +kernel
    have := List.all_eq_true.1 this n (List.mem_range.2 h1)
    exact ⟨fun b hb => by simpa using List.all_eq_true.1 this b hb, by simp, by simp⟩
  · rw [Lib.decDigits_two h1 h]
    have : ((List.range 100).all fun n => [UInt8.ofNat (48 + n / 10), UInt8.ofNat (48 + n % 10)].all fun b => decide (48 ≤ b.toNat ∧ b.toNat ≤ 57)) = true := by decide +kernel
    have := List.all_eq_true.1 this n (List.mem_range.2 h)
    exact ⟨fun b hb => by simpa using List.all_eq_true.1 this b hb, by simp, by simp⟩
theorem slNum_inj {id : List UInt8} {n m : Nat} (hn : n < 100) (hm : m < 100) (e : slNum id n = slNum id m) : n = m := by
  unfold slNum at e
  have := List.append_cancel_left e
  simp at this
  rw [← decVal_digits hn, this, decVal_digits hm]
theorem slNum_ne (id : List UInt8) (n : Nat) : slNum id n ≠ id := by
  intro e
  have := congrArg List.length e
  simp [slNum] at this
theorem slFind_le (had : List (List UInt8)) (id : List UInt8) : ∀ f n, n ≤ slFind had id f n ∧ slFind had id f n ≤ n + f
  | 0, n => ⟨Nat.le_refl _, Nat.le_refl _⟩
  | f + 1, n => by
    unfold slFind
    split
    · have := slFind_le had id f (n + 1); omega
    · omega
theorem slFind_in (had : List (List UInt8)) (id : List UInt8) : ∀ f n j, n ≤ j → j < slFind had id f n → slNum id j ∈ had
  | 0, n, j, h1, h2 => by unfold slFind at h2; omega
  | f + 1, n, j, h1, h2 => by
    unfold slFind at h2
    split at h2
    · next hm =>
      by_cases e : j = n
      · subst e; exact hm
      · exact slFind_in had id f (n + 1) j (by omega) h2
    · omega
theorem slFind_out (had : List (List UInt8)) (id : List UInt8) : ∀ f n, slFind had id f n < n + f → slNum id (slFind had id f n) ∉ had
  | 0, n, h => by unfold slFind at h; omega
  | f + 1, n, h => by
    unfold slFind at h ⊢
    split
    · next hm => rw [if_pos hm] at h; exact slFind_out had id f (n + 1) (by omega)
    · next hm => exact hm
theorem nodup_len {α : Type} [DecidableEq α] : ∀ (l m : List α), l.Nodup → (∀ x ∈ l, x ∈ m) → l.length ≤ m.length
  | [], m, _, _ => Nat.zero_le _
  | x :: l, m, hn, h => by
    have h1 := h x (by simp)
    have hn' := List.nodup_cons.1 hn
    have := nodup_len l (m.erase x) hn'.2 (fun y hy => (List.mem_erase_of_ne (by rintro rfl; exact hn'.1 hy)).2 (h y (by simp [hy])))
    rw [List.length_erase_of_mem h1] at this
    have := List.length_pos_of_mem h1
    simp; omega
theorem slLeast_is (had : List (List UInt8)) (id : List UInt8) (h : had.length ≤ 60) : 2 ≤ slLeast had id ∧ slLeast had id ≤ had.length + 2 ∧ slNum id (slLeast had id) ∉ had ∧ ∀ j, 2 ≤ j → j < slLeast had id → slNum id j ∈ had := by
  have h1 := slFind_le had id (had.length + 1) 2
  have h2 := slFind_in had id (had.length + 1) 2
  have h3 := slFind_out had id (had.length + 1) 2
  unfold slLeast
  have h4 : slFind had id (had.length + 1) 2 < 2 + (had.length + 1) := by
    refine Nat.lt_of_not_le fun hge => ?_
    have hnd : ((List.range (had.length + 1)).map fun k => slNum id (k + 2)).Nodup := by
      rw [List.nodup_iff_pairwise_ne, List.pairwise_map]
      refine List.Pairwise.imp_of_mem ?_ (List.nodup_iff_pairwise_ne.1 List.nodup_range)
      intro a b ha hb hab e
      have ha' := List.mem_range.1 ha
      have hb' := List.mem_range.1 hb
      have := slNum_inj (by omega) (by omega) e
      omega
    have := nodup_len _ had hnd (fun x hx => by
      obtain ⟨k, hk, rfl⟩ := List.mem_map.1 hx
      have := List.mem_range.1 hk
      exact h2 (k + 2) (by omega) (by omega))
    simp at this
    omega
  exact ⟨h1.1, by omega, h3 h4, h2⟩
def slMany (x : List UInt8) : Nat → List (List UInt8)
  | 0 => []
  | 1 => [x]
  | k + 2 => slMany x (k + 1) ++ [slNum x (k + 2)]
theorem slMany_len (x : List UInt8) : ∀ k, (slMany x k).length = k
  | 0 => rfl
  | 1 => rfl
  | k + 2 => by rw [slMany, List.length_append, slMany_len x (k + 1)]; rfl
theorem mem_slMany (x : List UInt8) : ∀ k y, y ∈ slMany x k ↔ (1 ≤ k ∧ y = x) ∨ ∃ j, 2 ≤ j ∧ j ≤ k ∧ y = slNum x j
  | 0, y => by simp [slMany]; intro j h1 h2; omega
  | 1, y => by
    simp [slMany]
    intro j h1 h2; omega
  | k + 2, y => by
    rw [slMany, List.mem_append, mem_slMany x (k + 1)]
    constructor
    · rintro ((⟨h1, rfl⟩ | ⟨j, h1, h2, rfl⟩) | h)
      · exact .inl ⟨by omega, rfl⟩
      · exact .inr ⟨j, h1, by omega, rfl⟩
      · simp at h; subst h; exact .inr ⟨k + 2, by omega, by omega, rfl⟩
    · rintro (⟨h1, rfl⟩ | ⟨j, h1, h2, rfl⟩)
      · exact .inl (.inl ⟨by omega, rfl⟩)
      · by_cases e : j = k + 2
        · subst e; exact .inr (by simp)
        · exact .inl (.inr ⟨j, h1, by omega, rfl⟩)
theorem slNext_many (s : List UInt8) (k : Nat) (h : k ≤ 40) : slNext (slMany (slugL s) k) s = if k = 0 then slugL s else slNum (slugL s) (k + 1) := by
  unfold slNext
  by_cases hk : k = 0
  · subst hk; simp [slMany]
  · rw [if_pos ((mem_slMany _ _ _).2 (.inl ⟨by omega, rfl⟩)), if_neg hk]
    have hl := slMany_len (slugL s) k
    obtain ⟨h1, h2, h3, h4⟩ := slLeast_is (slMany (slugL s) k) (slugL s) (by omega)
    congr 1
    have h5 : ¬ slLeast (slMany (slugL s) k) (slugL s) ≤ k := fun hle => h3 ((mem_slMany _ _ _).2 (.inr ⟨_, h1, hle, rfl⟩))
    have h6 : ¬ k + 1 < slLeast (slMany (slugL s) k) (slugL s) := fun hlt => by
      rcases (mem_slMany _ _ _).1 (h4 (k + 1) (by omega) hlt) with ⟨_, e⟩ | ⟨j, e1, e2, e⟩
      · exact slNum_ne _ _ e
      · have := slNum_inj (by omega) (by omega) e; omega
    omega
end Go.Proofs.YtpifhjdbcdcelaaGreatDoor

namespace Go.Proofs.YtpifhjdbcdcelaaGreatDoor
open Go.RowKit Go.Maps
set_option linter.unusedSimpArgs false
set_option linter.unusedVariables false
set_option maxRecDepth 100000
abbrev SlDU := DataW Unit
theorem slLaw : Keyed Tryz.prog 9 := string_keyed Tryz.underlying9
theorem slKey (id : List UInt8) (h : id.length ≤ maxLen) : keyOf Tryz.prog 9 (.string ⟨id.toArray⟩) = some (.string id) := by
  have := WideMaps.keyOf_string_mk (P := Tryz.prog) Tryz.underlying9 (s := ⟨id.toArray⟩) (by rw [str_size]; exact h)
  simpa using this
theorem slIsKey (id : List UInt8) (h : id.length ≤ maxLen) : WideAt.IsKeyLit (.string id) := slLaw.key (slKey id h)
def slZ : SlDU := .lit (.int .i64 0)
/-- What the map reads as: of each that was told a number below which all are taken. -/
structure FreeIs (D : SlDU) (had : List (List UInt8)) : Prop where
  map : IsMap D
  has : ∀ s : List UInt8, s.length ≤ maxLen → Maps.has D (.string s) = decide (s ∈ had)
  free : ∀ s ∈ had, ∃ n : Nat, D.atKey (.string s) slZ = .lit (.int .i64 n) ∧ 2 ≤ n ∧ n ≤ had.length + 2 ∧ ∀ j, 2 ≤ j → j < n → slNum s j ∈ had
  lens : ∀ s ∈ had, s.length ≤ 1000
theorem FreeIs.nil : FreeIs (.map []) [] := ⟨isMap_empty, (fun s _ => rfl), (fun s h => (by cases h)), (fun s h => (by cases h))⟩
theorem lit_ne {s t : List UInt8} (h : s ≠ t) : Lit.string s ≠ Lit.string t := fun e => h (by injection e)
theorem FreeIs.new {D : SlDU} {had : List (List UInt8)} (h : FreeIs D had) {id : List UInt8} (hid : id.length ≤ 1000) : FreeIs (D.put (.string id) (.lit (.int .i64 2))) (had ++ [id]) := by
  have hk := slIsKey id (by unfold maxLen; omega)
  refine ⟨h.map.put _ _, fun s hs => ?_, fun s hs => ?_, fun s hs => ?_⟩
  · by_cases e : s = id
    · subst e; rw [has_put_same h.map hk]; simp
    · rw [has_put_other (lit_ne e), h.has s hs]; simp [e]
  · by_cases e : s = id
    · subst e
      exact ⟨2, atKey_put_same h.map hk _ _, Nat.le_refl _, by simp, fun j h1 h2 => by omega⟩
    · have hs' : s ∈ had := by simpa [e] using hs
      obtain ⟨n, h1, h2, h3, h4⟩ := h.free s hs'
      exact ⟨n, by rw [atKey_put_other (lit_ne e), h1], h2, by simp; omega, fun j g1 g2 => List.mem_append_left _ (h4 j g1 g2)⟩
  · rcases List.mem_append.1 hs with hs | hs
    · exact h.lens s hs
    · simp at hs; subst hs; exact hid
/-- The least free number behind one that is taken is taken now. -/
theorem FreeIs.num {D : SlDU} {had : List (List UInt8)} (h : FreeIs D had) {id : List UInt8} (hin : id ∈ had) (hh : had.length ≤ 60) (hid : id.length ≤ 900) :
    FreeIs ((D.put (.string id) (.lit (.int .i64 ((slLeast had id + 1 : Nat) : Int)))).put (.string (slNum id (slLeast had id))) (.lit (.int .i64 2))) (had ++ [slNum id (slLeast had id)]) := by
  obtain ⟨l1, l2, l3, l4⟩ := slLeast_is had id hh
  have hd := decDigits_ok (n := slLeast had id) (by omega)
  have hk := slIsKey id (by unfold maxLen; omega)
  have hl : (slNum id (slLeast had id)).length ≤ 1000 := by unfold slNum; simp; omega
  have hne : id ≠ slNum id (slLeast had id) := fun e => slNum_ne _ _ e.symm
  have hk2 := slIsKey (slNum id (slLeast had id)) (by unfold maxLen; omega)
  generalize hn : slLeast had id = n at *
  have hm1 := h.map.put (.string id) (.lit (.int .i64 ((n + 1 : Nat) : Int)))
  refine ⟨hm1.put _ _, fun s hs => ?_, fun s hs => ?_, fun s hs => ?_⟩
  · by_cases e : s = slNum id n
    · subst e; rw [has_put_same hm1 hk2]; simp
    · rw [has_put_other (lit_ne e)]
      by_cases e2 : s = id
      · subst e2; rw [has_put_same h.map hk]; simp [hin]
      · rw [has_put_other (lit_ne e2), h.has s hs]; simp [e]
  · by_cases e : s = slNum id n
    · subst e
      exact ⟨2, atKey_put_same hm1 hk2 _ _, Nat.le_refl _, by simp, fun j h1 h2 => by omega⟩
    · have hs' : s ∈ had := by simpa [e] using hs
      by_cases e2 : s = id
      · subst e2
        refine ⟨n + 1, by rw [atKey_put_other (lit_ne e), atKey_put_same h.map hk], by omega, by simp; omega, fun j h1 h2 => ?_⟩
        by_cases e3 : j = n
        · subst e3; simp
        · exact List.mem_append_left _ (l4 j h1 (by omega))
      · obtain ⟨m, h1, h2, h3, h4⟩ := h.free s hs'
        exact ⟨m, by rw [atKey_put_other (lit_ne e), atKey_put_other (lit_ne e2), h1], h2, by simp; omega, fun j g1 g2 => List.mem_append_left _ (h4 j g1 g2)⟩
  · rcases List.mem_append.1 hs with hs | hs
    · exact h.lens s hs
    · simp at hs; subst hs; exact hl
abbrev SlMap (w : World) (g n : Nat) (D : SlDU) : Prop := w.ownsMap Tryz.prog 9 (plainElem (H := Unit) Tryz.prog 3) g n D
structure AncIs (w : World) (B b : Nat) (m : Value) (had : List (List UInt8)) : Prop where
  blk : w.heap[b]? = some (.cells #[m] 61 (0, 0))
  base : B ≤ b
  map : (m = .map none ∧ had = []) ∨ ∃ g n D, m = .map (some g) ∧ B ≤ g ∧ SlMap w g n D ∧ n ≤ 2 * had.length ∧ FreeIs D had
theorem slMap_block {w w' : World} {g n : Nat} {D : SlDU} (h : SlMap w g n D) (e : w'.heap[g]? = w.heap[g]?) : SlMap w' g n D := by
  obtain ⟨es, cl, hb, r⟩ := h
  exact ⟨es, cl, e.trans hb, r⟩
theorem slMap_ne {w : World} {g n : Nat} {D : SlDU} (h : SlMap w g n D) {g' : Nat} {cs : Array Value} {t : TypeId} {fz : Nat × Nat} (hc : w.heap[g']? = some (.cells cs t fz)) : g' ≠ g := by
  rintro rfl
  obtain ⟨es, cl, hb, _⟩ := h
  rw [hb] at hc
  cases hc
theorem AncIs.below {w w' : World} {B b : Nat} {m : Value} {had : List (List UInt8)} (h : AncIs w B b m had) (hb : Below w.heap.size w w') : AncIs w' B b m had := by
  refine ⟨(hb.block b (Array.getElem?_eq_some_iff.1 h.blk).1).trans h.blk, h.base, ?_⟩
  rcases h.map with h1 | ⟨g, n, D, e, hg, hm, r⟩
  · exact .inl h1
  · exact .inr ⟨g, n, D, e, hg, slMap_block hm (hb.block g hm.lt), r⟩
theorem AncIs.new {w : World} {B b : Nat} (h : w.heap[b]? = some (.cells #[.map none] 61 (0, 0))) (hB : B ≤ b) : AncIs w B b (.map none) [] := ⟨h, hB, .inl ⟨rfl, rfl⟩⟩
theorem AncIs.cell {w : World} {B b : Nat} {m : Value} {had : List (List UInt8)} (h : AncIs w B b m had) : w.cell? ⟨b, 0, none⟩ = some m := (cell_of_row w b 0 _ _ (0, 0) h.blk).trans rfl
/-- What the anchors' own doings leave as it was: all blocks but its own and its map's. -/
structure AncTurn (w w' : World) (b : Nat) (m : Value) : Prop where
  size : w.heap.size ≤ w'.heap.size
  rest : ∀ g : Nat, g < w.heap.size → g ≠ b → m ≠ .map (some g) → w'.heap[g]? = w.heap[g]?
theorem AncTurn.of {w w' : World} (h : Below w.heap.size w w') (b : Nat) (m : Value) : AncTurn w w' b m := ⟨h.size, fun g hg _ _ => h.block g hg⟩
theorem slZero (w : World) : (zeroValue 3).run Tryz.prog w = .ok (.int .i64 0) w := by kernel_rfl
/-- What is asked of the map, wherever it stands. -/
theorem slLook_any {w : World} {B b : Nat} {m : Value} {had : List (List UInt8)} (h : AncIs w B b m had) (id : List UInt8) (hid : id.length ≤ maxLen) :
    ∃ c : Int, (∀ w' : World, (∀ g, m = .map (some g) → w'.heap[g]? = w.heap[g]?) → (Instr.lookup 59 m (.string ⟨id.toArray⟩) true).run Tryz.prog w' = .ok (.tuple #[.int .i64 c, .bool (decide (id ∈ had))]) w') ∧
      (∀ w' : World, (∀ g, m = .map (some g) → w'.heap[g]? = w.heap[g]?) → (Instr.lookup 59 m (.string ⟨id.toArray⟩) false).run Tryz.prog w' = .ok (.int .i64 c) w') ∧
      (id ∈ had → ∃ n : Nat, c = n ∧ 2 ≤ n ∧ n ≤ had.length + 2 ∧ ∀ j, 2 ≤ j → j < n → slNum id j ∈ had) := by
  have hkey := slKey id hid
  rcases h.map with ⟨rfl, rfl⟩ | ⟨g, n, D, rfl, hg, hm, hn, hf⟩
  · exact ⟨0, fun w' _ => (look_nil (w := w') true slLaw Tryz.underlying59 (slZero _) hkey).trans rfl, fun w' _ => (look_nil (w := w') false slLaw Tryz.underlying59 (slZero _) hkey).trans rfl, fun hi => by cases hi⟩
  · have one : ∀ w' : World, w'.heap[g]? = w.heap[g]? → ∃ c : Int, (Instr.lookup 59 (.map (some g)) (.string ⟨id.toArray⟩) true).run Tryz.prog w' = .ok (.tuple #[.int .i64 c, .bool (decide (id ∈ had))]) w' ∧ D.atKey (.string id) slZ = .lit (.int .i64 c) := by
      intro w' hh
      have hm' := slMap_block hm hh
      obtain ⟨u, ps, hrun, hu⟩ := hm'.look_ok slLaw Tryz.underlying59 (slZero _) (zd := slZ) (zp := []) (plainElem_int Tryz.underlying3 (by decide)) hkey
      obtain ⟨c, rfl, hc, hwc⟩ := plainElem_int_inv Tryz.underlying3 hu
      rw [hf.has id hid] at hrun
      exact ⟨c, hrun, congrArg Prod.fst hc⟩
    have two : ∀ w' : World, w'.heap[g]? = w.heap[g]? → ∃ c : Int, (Instr.lookup 59 (.map (some g)) (.string ⟨id.toArray⟩) false).run Tryz.prog w' = .ok (.int .i64 c) w' ∧ D.atKey (.string id) slZ = .lit (.int .i64 c) := by
      intro w' hh
      have hm' := slMap_block hm hh
      obtain ⟨c, hrun, hat, _⟩ := hm'.lookup_int slLaw Tryz.underlying59 Tryz.underlying3 (slZero _) hkey
      exact ⟨c, hrun, hat⟩
    obtain ⟨c, _, hc⟩ := one w rfl
    have inj : ∀ c' : Int, D.atKey (.string id) slZ = .lit (.int .i64 c') → c' = c := by
      intro c' h2
      rw [hc] at h2
      injection h2 with h2
      injection h2 with _ h2
      exact h2.symm
    refine ⟨c, fun w' hh => ?_, fun w' hh => ?_, fun hi => ?_⟩
    · obtain ⟨c', h1, h2⟩ := one w' (hh g rfl)
      rw [inj c' h2] at h1
      exact h1
    · obtain ⟨c', h1, h2⟩ := two w' (hh g rfl)
      rw [inj c' h2] at h1
      exact h1
    · obtain ⟨k, h1, h2⟩ := hf.free id hi
      exact ⟨k, (inj _ h1).symm, h2⟩
end Go.Proofs.YtpifhjdbcdcelaaGreatDoor

namespace Go.Proofs.YtpifhjdbcdcelaaGreatDoor
open Go.RowKit Go.Maps
set_option linter.unusedSimpArgs false
set_option linter.unusedVariables false
set_option maxRecDepth 100000
def slKeepI (r : Int) : Bool := (decide (97 ≤ r) && decide (r ≤ 122)) || (decide (48 ≤ r) && decide (r ≤ 57))
theorem keepI_nat (b : UInt8) : slKeepI b.toNat = slKeep b := by
  unfold slKeepI slKeep
  have h1 : decide ((97 : Int) ≤ b.toNat) = decide (97 ≤ b.toNat) := by congr 1; apply propext; omega
  have h2 : decide ((b.toNat : Int) ≤ 122) = decide (b.toNat ≤ 122) := by congr 1; apply propext; omega
  have h3 : decide ((48 : Int) ≤ b.toNat) = decide (48 ≤ b.toNat) := by congr 1; apply propext; omega
  have h4 : decide ((b.toNat : Int) ≤ 57) = decide (b.toNat ≤ 57) := by congr 1; apply propext; omega
  rw [h1, h2, h3, h4]
theorem high_keep {b : UInt8} (h : 128 ≤ b.toNat) : slKeep b = false := by
  simp [slKeep]; omega
theorem goesOn_high {b : UInt8} (h : goesOn b = true) : 128 ≤ b.toNat := by
  simp [goesOn] at h; omega
theorem dec_small {x : UInt8} {m : List UInt8} (h : (dec (x :: m)).1 < 128) : x.toNat = (dec (x :: m)).1 ∧ (dec (x :: m)).2 = 1 := by
  unfold dec at h ⊢
  dsimp only [List.getD_cons_zero] at h ⊢
  split at h
  · rename_i h1; rw [if_pos h1]; exact ⟨rfl, rfl⟩
  · rename_i h1
    split at h
    · split at h
      · rename_i h2; dsimp only at h; omega
      · dsimp only at h; omega
    · split at h
      · split at h
        · rename_i h2; simp only [Bool.and_eq_true, decide_eq_true_eq] at h2; dsimp only at h; omega
        · dsimp only at h; omega
      · split at h
        · split at h
          · rename_i h2; simp only [Bool.and_eq_true, decide_eq_true_eq] at h2; dsimp only at h; omega
          · dsimp only at h; omega
        · dsimp only at h; omega
theorem takeWhile_ok {α : Type} (p : α → Bool) : ∀ (l : List α) (c : α), c ∈ l.takeWhile p → p c = true
  | [], c, h => by simp at h
  | x :: l, c, h => by
    rw [List.takeWhile_cons] at h
    split at h
    · next hx =>
      rcases List.mem_cons.1 h with rfl | h
      · exact hx
      · exact takeWhile_ok p l c h
    · simp at h
theorem run_take (l : List UInt8) (n : Nat) (h : n ≤ (run l).length) : l.take n = (run l).take n := by
  obtain ⟨t, ht⟩ : ∃ t, l = run l ++ t := by
    obtain ⟨t, ht⟩ := (List.takeWhile_prefix goesOn : l.takeWhile goesOn <+: l)
    exact ⟨t, ht.symm⟩
  have : (run l ++ t).take n = (run l).take n := List.take_append_of_le_length h
  rw [← ht] at this
  exact this
/-- A rune that stays is one byte. -/
theorem seg_keep {b : UInt8} {l : List UInt8} (h : slKeepI (dec (b :: l)).1 = true) : (dec (b :: l)).2 = 1 ∧ (dec (b :: l)).1 = b.toNat ∧ slKeep b = true := by
  have hs : (dec (b :: l)).1 < 128 := by simp [slKeepI] at h; omega
  obtain ⟨h1, h2⟩ := dec_small hs
  exact ⟨h2, h1.symm, by rw [← keepI_nat, h1]; exact h⟩
/-- The bytes of another one are none that stay. -/
theorem seg_other {b : UInt8} {l : List UInt8} (h : slKeepI (dec (b :: l)).1 = false) : slKeep b = false ∧ ∀ c ∈ ((b :: l).take (dec (b :: l)).2).drop 1, slKeep c = false := by
  by_cases hb : b.toNat < 128
  · rw [dec_ascii b l hb] at h ⊢
    exact ⟨by rw [← keepI_nat]; exact h, by intro c hc; simp at hc⟩
  · refine ⟨high_keep (by omega), fun c hc => ?_⟩
    have hw := (dec_width b (run l)).2
    rw [← dec_run] at hw
    have : c ∈ run l := by
      rw [List.drop_take, show (b :: l).drop 1 = l from rfl, run_take l _ (by omega)] at hc
      exact List.mem_of_mem_take hc
    have h3 : goesOn c = true := takeWhile_ok goesOn l c this
    exact high_keep (goesOn_high h3)
theorem slRow_step (f : List UInt8) (pos : Nat) (b : UInt8) (l : List UInt8) (hd : f.drop pos = b :: l) : slRow (f.take (pos + (dec (b :: l)).2)) = slOne (slRow (f.take pos)) b := by
  have hn := (dec_width b l).1
  have e : f.take (pos + (dec (b :: l)).2) = f.take pos ++ (b :: l).take (dec (b :: l)).2 := by
    rw [List.take_add, hd]
  rw [e, slRow_append]
  obtain ⟨n, hn2⟩ : ∃ n, (dec (b :: l)).2 = n + 1 := ⟨(dec (b :: l)).2 - 1, by omega⟩
  by_cases hk : slKeepI (dec (b :: l)).1 = true
  · obtain ⟨h1, _, _⟩ := seg_keep hk
    rw [h1]
    rfl
  · have hk' : slKeepI (dec (b :: l)).1 = false := by simpa using hk
    obtain ⟨h1, h2⟩ := seg_other hk'
    rw [hn2] at h2 ⊢
    rw [List.take_succ_cons] at h2 ⊢
    exact slFold_others _ _ b h1 (fun c hc => h2 c (by simpa using hc))
theorem slOne_yes (id : List UInt8) (b : UInt8) (h : slKeep b = true) : slOne id b = id ++ [b] := by unfold slOne; rw [if_pos h]
theorem slOne_dash (id : List UInt8) (b : UInt8) (h : slKeep b = false) (h1 : id ≠ []) (h2 : (id.getLastD 0 == 45) = false) : slOne id b = id ++ [45] := by
  unfold slOne
  rw [if_neg (by rw [h]; simp), if_neg]
  intro e
  obtain ⟨p, z, rfl⟩ := snoc_of h1
  rw [getLastD_snoc] at e h2
  subst e
  simp at h2
theorem slOne_same (id : List UInt8) (b : UInt8) (h : slKeep b = false) (h1 : id = [] ∨ (id.getLastD 0 == 45) = true) : slOne id b = id := by
  unfold slOne
  rw [if_neg (by rw [h]; simp), if_pos]
  rcases h1 with rfl | h1
  · rfl
  · by_cases hn : id = []
    · subst hn; rfl
    · obtain ⟨p, z, rfl⟩ := snoc_of hn
      rw [getLastD_snoc] at h1 ⊢
      simpa using h1
theorem stays_any (r : Int) (w : World) : Calls Tryz.prog 84 #[.int .i32 r] w fun e w' => e = .returned (.bool (slKeepI r)) ∧ w = w' := by
  unfold slKeepI
  go_enter Tryz.func84, Tryz.ntmps84
  go_wp2
  all_goals (go_ret; refine ⟨ret_bool ?_, rfl⟩; simp_all <;> omega)
set_option maxHeartbeats 4000000 in
theorem dashed_any (A : Option Addr) (cap : Nat) (l : List UInt8) (w : World) (h : RowOf w A cap (Lib.byteCells l)) :
    Calls Tryz.prog 85 #[.slice A l.length cap] w fun e w' => e = .returned (.bool (l.getLastD 0 == 45)) ∧ w = w' := by
  have hle := h.1
  have hcap := h.2.1
  rw [Lib.byteCells_length] at hle
  unfold maxLen at hcap
  by_cases hl : l = []
  · subst hl
    clear h
    go_enter Tryz.func85, Tryz.ntmps85
    go_wp2
    go_ret
    exact ⟨rfl, rfl⟩
  · obtain ⟨p, z, rfl⟩ := snoc_of hl
    obtain ⟨b, off, rfl, hb, hc⟩ := h.at (by intro e; have := congrArg List.length e; rw [Lib.byteCells_length] at this; simp at this)
    have hz := hc p.length (by rw [Lib.byteCells_length]; simp)
    rw [show (Lib.byteCells (p ++ [z]))[p.length]'(by rw [Lib.byteCells_length]; simp) = .int .u8 z.toNat from by simp [Lib.byteCells]] at hz
    rw [getLastD_snoc]
    rw [List.length_append, List.length_singleton] at hle ⊢
    have hw : ((p.length + 1 : Nat) : Int) - 1 = (p.length : Int) := by omega
    have e45 : ((z.toNat : Int) == 45) = (z == 45) := by
      rw [Bool.eq_iff_iff]
      simp only [beq_iff_eq]
      exact ⟨fun e => UInt8.toNat_inj.1 (by show z.toNat = 45; omega), fun e => by rw [e]; rfl⟩
    have hp0 : 0 < p.length + 1 := by omega
    clear h hc hl
    generalize p.length + 1 = n at *
    generalize p.length = k at *
    cases hzz : (z == 45) with
    | true =>
      rw [hzz] at e45
      clear hzz
      go_enter Tryz.func85, Tryz.ntmps85
      go_wp2
      go_ret
      exact ⟨rfl, rfl⟩
    | false =>
      rw [hzz] at e45
      clear hzz
      go_enter Tryz.func85, Tryz.ntmps85
      go_wp2
      go_ret
      exact ⟨rfl, rfl⟩
end Go.Proofs.YtpifhjdbcdcelaaGreatDoor

namespace Go.Proofs.YtpifhjdbcdcelaaGreatDoor
open Go.RowKit Go.Maps
set_option linter.unusedSimpArgs false
set_option linter.unusedVariables false
set_option maxRecDepth 100000
theorem infoU8 : (Tryz.prog.info? 5).map (fun i => (i.zero, i.size, i.bytes)) = some (some (.int .u8 0), 1, 1) := by kernel_rfl
theorem conv_row {W : World} {A : Option Addr} {cap : Nat} {l : List UInt8} (h : RowOf W A cap (Lib.byteCells l)) (hl : l ≠ []) :
    (convert 85 9 (.slice A l.length cap)).run Tryz.prog W = .ok (.string ⟨l.toArray⟩) W := by
  obtain ⟨b, off, rfl, hb, hc⟩ := h.at (by intro e; have := congrArg List.length e; rw [Lib.byteCells_length] at this; exact hl (List.length_eq_zero_iff.1 this))
  refine run_convert_bytes_back W 85 9 5 ⟨b, off, none⟩ cap l Tryz.underlying85 Tryz.underlying5 Tryz.underlying9 (fun j hj => ?_)
  have := hc j (by rw [Lib.byteCells_length]; exact hj)
  rw [show (Lib.byteCells l)[j]'(by rw [Lib.byteCells_length]; exact hj) = .int .u8 (l[j].toNat : Int) from by simp [Lib.byteCells]] at this
  rw [show (⟨b, off, none⟩ : Addr).add j = ⟨b, off + j, none⟩ from by simp [Addr.add]]
  exact this
theorem row_take {w : World} {A : Option Addr} {cap : Nat} {p q : List UInt8} (h : RowOf w A cap (Lib.byteCells (p ++ q))) : RowOf w A cap (Lib.byteCells p) := by
  have := RowOf.take h p.length
  rwa [show (Lib.byteCells (p ++ q)).take p.length = Lib.byteCells p from by rw [Lib.byteCells_append, ← Lib.byteCells_length p, List.take_left]] at this
theorem iter_ne {w : World} {B k : Nat} {e : TypeId} {n : Nat} {v : Value} {xs : List Value} {f : ByteArray} {pos : Nat} (h : w.ownsRow B e 1 v n xs) (hk : w.heap[k]? = some (.stringIter f pos)) : v.ownBlock ≠ some k := by
  rcases h.2 with ⟨rfl, _⟩ | ⟨g, cap, cur, rfl, _, hg, _⟩
  · simp [Value.ownBlock]
  · intro e
    simp [Value.ownBlock] at e
    subst e
    rw [hk] at hg
    cases hg
def OfRel (f : ByteArray) (w : World) (k : Nat) (idv : Value) (wr : World) : Prop :=
  ∃ (pos : Nat) (id : List UInt8), wr.heap[k]? = some (.stringIter f pos) ∧ wr.ownsRow w.heap.size 5 1 idv id.length (Lib.byteCells id) ∧ Below w.heap.size w wr ∧ id = slRow (f.data.toList.take pos) ∧ id.length ≤ 40 ∧ pos ≤ f.size
set_option maxHeartbeats 8000000 in
theorem of_any (s : ByteArray) (w : World) (hs : s.size ≤ 1000000) :
    Calls Tryz.prog 63 #[.string s] w fun e w' => e = .returned (.string ⟨(slugL s.data.toList).toArray⟩) ∧ Below w.heap.size w w' := by
  obtain ⟨i0, hi0, hz0, hz1, hz2⟩ := info_parts infoU8
  have cf := fold_of s w (by omega)
  have hfl : (foldOf s).data.toList = foldL s.data.toList := rfl
  have hfs := foldOf_size s
  have hE : ∀ id : List UInt8, id = (slRow (foldL s.data.toList)).take 40 → slugL s.data.toList = slEnd id := fun id h => by rw [h]; rfl
  rw [← hfl] at hE
  have HE := Lib.hid hE
  generalize slugL s.data.toList = res at *
  generalize foldOf s = f at *
  clear hfl hE
  go_enter Tryz.func63, Tryz.ntmps63
  go_wp2_with fail
  refine cf.mono ?_
  rintro e w1 ⟨rfl, b1⟩
  have HB1 := Lib.hid b1
  have hbs := b1.size
  clear b1 cf
  go_wp2_with fail
  go_loopw [3] (fun idv wr => OfRel f w w1.heap.size idv wr) (fun _ wr => f.size - wr.iterPos w1.heap.size)
  case atStart =>
    refine ⟨0, [], ?_, World.ownsRow_nil _ _ _ _, HB1.out.alloc hbs _, rfl, Nat.zero_le _, Nat.zero_le _⟩
    have := World.iter_heap w1 f 0
    simpa using this
  case round =>
    obtain ⟨pos, id, hit, hrow, hbw, hid, hlen, hpos⟩ := hrel
    have hsz : w1.heap.size < wr.heap.size := (Array.getElem?_eq_some_iff.1 hit).1
    by_cases hp : pos < f.size
    · have hnx : ∀ ty, (Instr.next (.pointer (some ⟨w1.heap.size, 0, none⟩)) true ty).run Tryz.prog wr = _ := fun ty => Lib.run_next_any_at wr w1.heap.size f pos ty hit hp
      have hwd := width_pos f pos hp
      have hd1 := decode_le f pos
      have hdec := decode_dec f pos
      have hlp : pos < f.data.toList.length := by simpa using hp
      obtain ⟨b, l, hbl⟩ : ∃ b l, f.data.toList.drop pos = b :: l := ⟨_, _, List.drop_eq_getElem_cons hlp⟩
      have hstep := slRow_step f.data.toList pos b l hbl
      have hwid := (dec_width b l).2
      have hll : l.length + 1 = f.size - pos := by have := congrArg List.length hbl; simp at this; omega
      rw [hbl] at hdec
      have hkeep := @seg_keep b l
      have hoth := @seg_other b l
      rw [← hdec] at hstep hwid hkeep hoth
      have hI2 := ownsRow_iterAt hrow hit (pos + (Utf8.decode f pos).2)
      have hit2 := Lib.iterAt_heap wr w1.heap.size f pos (pos + (Utf8.decode f pos).2) hit
      have hbw2 := Lib.below_iterAt hbw (k := w1.heap.size) (by omega) f (pos + (Utf8.decode f pos).2)
      have hsz2 : w1.heap.size < (wr.iterAt w1.heap.size f (pos + (Utf8.decode f pos).2)).heap.size := by rw [Lib.iterAt_size]; omega
      rw [← hid] at hstep
      have hout : id.length = 40 → id = (slRow f.data.toList).take 40 := fun h => by
        have e : f.data.toList = f.data.toList.take pos ++ f.data.toList.drop pos := (List.take_append_drop _ _).symm
        rw [e, slRow_append, ← hid, slFold_full _ _ h]
      have Hit := Lib.hid hit
      have HID := Lib.hid hid
      have hpn : pos + (Utf8.decode f pos).2 ≤ f.size := by omega
      have sp := stays_any (Utf8.decode f pos).1 (wr.iterAt w1.heap.size f (pos + (Utf8.decode f pos).2))
      clear hrow hbw hit hid hbl hlp
      obtain ⟨A5, c5, rfl, hr5, _, _⟩ := RowOf.own hI2
      have HI2 := Lib.hid hI2
      have HIT2 := Lib.hid hit2
      have HBW2 := Lib.hid hbw2
      by_cases h40 : id.length = 40
      · have HQ := Lib.hid (HE.out id (hout h40))
        have hl40 : ((id.length : Int) == 40) = true := by simp; omega
        clear hstep hkeep hoth sp hout h40
        clear HIT2 HI2 hwid hll hpn HID hit2 hI2 hdec
        generalize hW : wr.iterAt w1.heap.size f (pos + (Utf8.decode f pos).2) = W at *
        have hle5 := hr5.1
        have hcap5 := hr5.2.1
        rw [Lib.byteCells_length] at hle5
        unfold maxLen at hcap5
        have HR5 := Lib.hid hr5
        have dd := dashed_any A5 c5 id W hr5
        clear hr5
        cases hdq : (id.getLastD 0 == 45) with
        | true =>
          rw [hdq] at dd
          have DD := Lib.hid dd
          have hq45 : id.getLastD 0 = 45 := by simpa using hdq
          have hne : id ≠ [] := by rintro rfl; exact absurd hq45 (by decide)
          obtain ⟨p, z, rfl⟩ := snoc_of hne
          rw [getLastD_snoc] at hq45
          subst hq45
          have hend : slEnd (p ++ [45]) = if p = [] then slNone else p := by
            unfold slEnd slTrim
            rw [getLastD_snoc, if_pos rfl, List.dropLast_concat]
          have hrp := row_take HR5.out
          have HEN := Lib.hid hend
          clear dd hdq hend hne
          rw [List.length_append, List.length_singleton] at hle5 hlen DD hl40 ⊢
          have hm1 : ((p.length + 1 : Nat) : Int) - 1 = (p.length : Int) := by omega
          by_cases hpe : p = []
          · have hp1 : ((p.length : Int) == 0) = true := by rw [hpe]; rfl
            have hres : res = slNone := by rw [HQ.out, HEN.out, if_pos hpe]
            have HRES := Lib.hid hres
            clear hres hpe hrp
            generalize hn1 : p.length + 1 = n1 at *
            generalize p.length = m1 at *
            go_wp2_with fail
            refine DD.out.mono ?_
            rintro e w' ⟨rfl, rfl⟩
            go_wp2
            go_ret
            have hr9 := HRES.out
            subst hr9
            exact ⟨rfl, HBW2.out⟩
          · have hcv := conv_row hrp hpe
            have hp0 : 0 < p.length := List.length_pos_iff.2 hpe
            have hp1 : ((p.length : Int) == 0) = false := by simp; omega
            have hres : res = p := by rw [HQ.out, HEN.out, if_neg hpe]
            have HRES := Lib.hid hres
            clear hres hpe hrp
            generalize hn1 : p.length + 1 = n1 at *
            generalize hm : p.length = m1 at *
            go_wp2_with fail
            refine DD.out.mono ?_
            rintro e w' ⟨rfl, rfl⟩
            go_wp2
            go_ret
            have hr9 := HRES.out
            subst hr9
            exact ⟨rfl, HBW2.out⟩
        | false =>
          rw [hdq] at dd
          have DD := Lib.hid dd
          have hq45 : ¬ id.getLastD 0 = 45 := by simpa using hdq
          have hend : slEnd id = if id = [] then slNone else id := by
            unfold slEnd slTrim
            rw [if_neg hq45]
          by_cases hpe : id = []
          · have hp1 : ((id.length : Int) == 0) = true := by rw [hpe]; rfl
            have hres : res = slNone := by rw [HQ.out, hend, if_pos hpe]
            have HRES := Lib.hid hres
            clear hres hpe hend hq45 dd hdq
            go_wp2_with fail
            refine DD.out.mono ?_
            rintro e w' ⟨rfl, rfl⟩
            go_wp2
            go_ret
            have hr9 := HRES.out
            subst hr9
            exact ⟨rfl, HBW2.out⟩
          · have hcv := conv_row HR5.out hpe
            have hp0 : 0 < id.length := List.length_pos_iff.2 hpe
            have hp1 : ((id.length : Int) == 0) = false := by simp; omega
            have hres : res = id := by rw [HQ.out, hend, if_neg hpe]
            have HRES := Lib.hid hres
            clear hres hpe hend hq45 dd hdq
            generalize hn9 : id.length = n9 at *
            go_wp2_with fail
            refine DD.out.mono ?_
            rintro e w' ⟨rfl, rfl⟩
            go_wp2
            go_ret
            have hr9 := HRES.out
            subst hr9
            exact ⟨rfl, HBW2.out⟩
      · have hl40 : ((id.length : Int) == 40) = false := by simp; omega
        have hl39 : id.length < 40 := by omega
        clear hout h40
        cases hk : slKeepI (Utf8.decode f pos).1 with
        | true =>
          obtain ⟨k1, k2, k3⟩ := hkeep hk
          rw [hk] at sp
          rw [slOne_yes id b k3] at hstep
          have hr1 : ((Utf8.decode f pos).1 : Int) = b.toNat := by rw [k2]
          have hw8 : IntKind.u8.wrap (b.toNat : Int) = b.toNat := by show (b.toNat : Int) % 256 = _; have := b.toNat_lt; omega
          have hbt := b.toNat_lt
          have HST := Lib.hid hstep
          have SP := Lib.hid sp
          clear hkeep hoth hk hstep sp k3
          generalize hW : wr.iterAt w1.heap.size f (pos + (Utf8.decode f pos).2) = W at *
          generalize hq : pos + (Utf8.decode f pos).2 = pos2 at *
          generalize hr0 : ((Utf8.decode f pos).1 : Int) = r0 at *
          subst hr1
          clear hr0
          go_wp2_with fail
          refine SP.out.mono ?_
          rintro e w' ⟨rfl, rfl⟩
          have hown2 := HI2.out.alloc (.cells #[.int .u8 b.toNat] 5)
          have HO2 := Lib.hid hown2
          clear hown2
          go_wp2_with (at_builtin; refine wpList_append_lies _ rfl _ _ 85 rfl w.heap.size 5 i0 (.int .u8 0) 1 1 Tryz.underlying85 hi0 hz0 hz1 hz2 rfl (by decide) _ _ _ rfl HO2.out ⟨W.heap.size, 0, none⟩ 1 1 [.int .u8 b.toNat] rfl rfl ?c5 ?c6 ?c1 ?c2 ?c3 ?c4 _ rfl ?_)
          case c5 =>
            intro j u hj
            match j, hj with
            | 0, hj => simp at hj; subst hj; simp [Addr.add]
          case c6 => intro u hu; simp at hu; subst hu; rfl
          case c1 => omega
          case c2 => unfold maxLen; omega
          case c3 => omega
          case c4 => have := HBW2.out.size; simp only [alloc_size]; omega
          intro g1 cap1 w6 hown6 hgrow6 hat6 hlt6
          have hit6 : w6.heap[w1.heap.size]? = some (.stringIter f pos2) := by
            rw [hgrow6.block w1.heap.size (by simp; omega) (fun e => iter_ne HI2.out HIT2.out e.symm), Below.heap_alloc _ _ _ hsz2]
            exact HIT2.out
          have hb6 := (HBW2.out.alloc HBW2.out.size (.cells #[.int .u8 b.toNat] 5)).grown hgrow6 (by simp; have := HBW2.out.size; omega) (fun r e => (HO2.out.lt r e).1)
          rw [show Lib.byteCells id ++ [Value.int .u8 b.toNat] = Lib.byteCells (id ++ [b]) from by rw [Lib.byteCells_append]; rfl] at hown6
          have HX := Lib.hid (And.intro hit6 (And.intro hown6 hb6))
          clear hit6 hown6 hb6 hgrow6 hat6 hlt6
          go_wp2
          go_roundw
          case rel => exact ⟨pos2, id ++ [b], HX.out.1, by rw [List.length_append]; exact HX.out.2.1, HX.out.2.2, HST.out.symm, by simp; omega, hpn⟩
          case measure => simp only [World.iterPos, HX.out.1, Hit.out]; omega
        | false =>
          obtain ⟨k1, _⟩ := hoth hk
          rw [hk] at sp
          have SP := Lib.hid sp
          have HOT := Lib.hid k1
          have HST := Lib.hid hstep
          clear hkeep hoth hk hstep sp k1
          generalize hW : wr.iterAt w1.heap.size f (pos + (Utf8.decode f pos).2) = W at *
          generalize hq : pos + (Utf8.decode f pos).2 = pos2 at *
          generalize hr0 : ((Utf8.decode f pos).1 : Int) = r0 at *
          by_cases hn : id = []
          · have hst2 := HST.out.trans (slOne_same id b HOT.out (.inl hn))
            have HST2 := Lib.hid hst2
            clear hst2
            subst hn
            go_wp2_with fail
            refine SP.out.mono ?_
            rintro e w' ⟨rfl, rfl⟩
            go_wp2
            go_roundw
            case rel => exact ⟨pos2, [], HIT2.out, HI2.out, HBW2.out, HST2.out.symm, by simp, hpn⟩
            case measure => simp only [World.iterPos, HIT2.out, Hit.out]; omega
          · have hl0 : 0 < id.length := List.length_pos_iff.2 hn
            have hd0 : decide ((0 : Int) < id.length) = true := by simp; omega
            have dd := dashed_any A5 c5 id W hr5
            cases hdq : (id.getLastD 0 == 45) with
            | true =>
              have HST2 := Lib.hid (HST.out.trans (slOne_same id b HOT.out (.inr hdq)))
              rw [hdq] at dd
              have DD := Lib.hid dd
              clear dd hdq hn
              go_wp2_with fail
              refine SP.out.mono ?_
              rintro e w' ⟨rfl, rfl⟩
              go_wp2_with fail
              refine DD.out.mono ?_
              rintro e w' ⟨rfl, rfl⟩
              go_wp2
              go_roundw
              case rel => exact ⟨pos2, id, HIT2.out, HI2.out, HBW2.out, HST2.out.symm, by omega, hpn⟩
              case measure => simp only [World.iterPos, HIT2.out, Hit.out]; omega
            | false =>
              have HST2 := Lib.hid (HST.out.trans (slOne_dash id b HOT.out hn hdq))
              rw [hdq] at dd
              have DD := Lib.hid dd
              clear dd hdq hn
              go_wp2_with fail
              refine SP.out.mono ?_
              rintro e w' ⟨rfl, rfl⟩
              go_wp2_with fail
              refine DD.out.mono ?_
              rintro e w' ⟨rfl, rfl⟩
              have hown2 := HI2.out.alloc (.cells #[.int .u8 45] 5)
              have HO2 := Lib.hid hown2
              clear hown2
              go_wp2_with (at_builtin; refine wpList_append_lies _ rfl _ _ 85 rfl w.heap.size 5 i0 (.int .u8 0) 1 1 Tryz.underlying85 hi0 hz0 hz1 hz2 rfl (by decide) _ _ _ rfl HO2.out ⟨W.heap.size, 0, none⟩ 1 1 [.int .u8 45] rfl rfl ?c5 ?c6 ?c1 ?c2 ?c3 ?c4 _ rfl ?_)
              case c5 =>
                intro j u hj
                match j, hj with
                | 0, hj => simp at hj; subst hj; simp [Addr.add]
              case c6 => intro u hu; simp at hu; subst hu; rfl
              case c1 => omega
              case c2 => unfold maxLen; omega
              case c3 => omega
              case c4 => have := HBW2.out.size; simp only [alloc_size]; omega
              intro g1 cap1 w6 hown6 hgrow6 hat6 hlt6
              have hit6 : w6.heap[w1.heap.size]? = some (.stringIter f pos2) := by
                rw [hgrow6.block w1.heap.size (by simp; omega) (fun e => iter_ne HI2.out HIT2.out e.symm), Below.heap_alloc _ _ _ hsz2]
                exact HIT2.out
              have hb6 := (HBW2.out.alloc HBW2.out.size (.cells #[.int .u8 45] 5)).grown hgrow6 (by simp; have := HBW2.out.size; omega) (fun r e => (HO2.out.lt r e).1)
              rw [show Lib.byteCells id ++ [Value.int .u8 45] = Lib.byteCells (id ++ [45]) from by rw [Lib.byteCells_append]; rfl] at hown6
              have HX := Lib.hid (And.intro hit6 (And.intro hown6 hb6))
              clear hit6 hown6 hb6 hgrow6 hat6 hlt6
              go_wp2
              go_roundw
              case rel => exact ⟨pos2, id ++ [45], HX.out.1, by rw [List.length_append]; exact HX.out.2.1, HX.out.2.2, HST2.out.symm, by simp; omega, hpn⟩
              case measure => simp only [World.iterPos, HX.out.1, Hit.out]; omega
    · have hnx : ∀ ty, (Instr.next (.pointer (some ⟨w1.heap.size, 0, none⟩)) true ty).run Tryz.prog wr = _ := fun ty => Lib.run_next_end_at wr w1.heap.size f pos ty hit hp
      have hall : f.data.toList.take pos = f.data.toList := List.take_of_length_le (by simp; omega)
      rw [hall] at hid
      have HQ := Lib.hid (HE.out id (by rw [← hid, List.take_of_length_le hlen]))
      obtain ⟨A5, c5, rfl, hr5, _, _⟩ := RowOf.own hrow
      have HBW2 := Lib.hid hbw
      clear hrow hbw hall hid
      have hle5 := hr5.1
      have hcap5 := hr5.2.1
      rw [Lib.byteCells_length] at hle5
      unfold maxLen at hcap5
      have HR5 := Lib.hid hr5
      have dd := dashed_any A5 c5 id wr hr5
      clear hr5
      cases hdq : (id.getLastD 0 == 45) with
      | true =>
        rw [hdq] at dd
        have DD := Lib.hid dd
        have hq45 : id.getLastD 0 = 45 := by simpa using hdq
        have hne : id ≠ [] := by rintro rfl; exact absurd hq45 (by decide)
        obtain ⟨p, z, rfl⟩ := snoc_of hne
        rw [getLastD_snoc] at hq45
        subst hq45
        have hend : slEnd (p ++ [45]) = if p = [] then slNone else p := by
          unfold slEnd slTrim
          rw [getLastD_snoc, if_pos rfl, List.dropLast_concat]
        have hrp := row_take HR5.out
        have HEN := Lib.hid hend
        clear dd hdq hend hne
        rw [List.length_append, List.length_singleton] at hle5 hlen DD ⊢
        have hm1 : ((p.length + 1 : Nat) : Int) - 1 = (p.length : Int) := by omega
        by_cases hpe : p = []
        · have hp1 : ((p.length : Int) == 0) = true := by rw [hpe]; rfl
          have hres : res = slNone := by rw [HQ.out, HEN.out, if_pos hpe]
          have HRES := Lib.hid hres
          clear hres hpe hrp
          generalize hn1 : p.length + 1 = n1 at *
          generalize p.length = m1 at *
          go_wp2_with fail
          refine DD.out.mono ?_
          rintro e w' ⟨rfl, rfl⟩
          go_wp2
          go_ret
          have hr9 := HRES.out
          subst hr9
          exact ⟨rfl, HBW2.out⟩
        · have hcv := conv_row hrp hpe
          have hp0 : 0 < p.length := List.length_pos_iff.2 hpe
          have hp1 : ((p.length : Int) == 0) = false := by simp; omega
          have hres : res = p := by rw [HQ.out, HEN.out, if_neg hpe]
          have HRES := Lib.hid hres
          clear hres hpe hrp
          generalize hn1 : p.length + 1 = n1 at *
          generalize hm : p.length = m1 at *
          go_wp2_with fail
          refine DD.out.mono ?_
          rintro e w' ⟨rfl, rfl⟩
          go_wp2
          go_ret
          have hr9 := HRES.out
          subst hr9
          exact ⟨rfl, HBW2.out⟩
      | false =>
        rw [hdq] at dd
        have DD := Lib.hid dd
        have hq45 : ¬ id.getLastD 0 = 45 := by simpa using hdq
        have hend : slEnd id = if id = [] then slNone else id := by
          unfold slEnd slTrim
          rw [if_neg hq45]
        by_cases hpe : id = []
        · have hp1 : ((id.length : Int) == 0) = true := by rw [hpe]; rfl
          have hres : res = slNone := by rw [HQ.out, hend, if_pos hpe]
          have HRES := Lib.hid hres
          clear hres hpe hend hq45 dd hdq
          go_wp2_with fail
          refine DD.out.mono ?_
          rintro e w' ⟨rfl, rfl⟩
          go_wp2
          go_ret
          have hr9 := HRES.out
          subst hr9
          exact ⟨rfl, HBW2.out⟩
        · have hcv := conv_row HR5.out hpe
          have hp0 : 0 < id.length := List.length_pos_iff.2 hpe
          have hp1 : ((id.length : Int) == 0) = false := by simp; omega
          have hres : res = id := by rw [HQ.out, hend, if_neg hpe]
          have HRES := Lib.hid hres
          clear hres hpe hend hq45 dd hdq
          generalize hn9 : id.length = n9 at *
          go_wp2_with fail
          refine DD.out.mono ?_
          rintro e w' ⟨rfl, rfl⟩
          go_wp2
          go_ret
          have hr9 := HRES.out
          subst hr9
          exact ⟨rfl, HBW2.out⟩
end Go.Proofs.YtpifhjdbcdcelaaGreatDoor

namespace Go.Proofs.YtpifhjdbcdcelaaGreatDoor
open Go.RowKit Go.Maps
set_option linter.unusedSimpArgs false
set_option linter.unusedVariables false
set_option maxRecDepth 100000
theorem has_any {w : World} {B b : Nat} {m : Value} {had : List (List UInt8)} (h : AncIs w B b m had) (id : List UInt8) (hid : id.length ≤ maxLen) :
    Calls Tryz.prog 64 #[.pointer (some ⟨b, 0, none⟩), .string ⟨id.toArray⟩] w fun e w' => e = .returned (.bool (decide (id ∈ had))) ∧ w = w' := by
  have c0 := h.cell
  obtain ⟨c, h1, _, _⟩ := slLook_any h id hid
  have hl := h1 w (fun _ _ => rfl)
  clear h h1
  generalize decide (id ∈ had) = r at *
  go_enter Tryz.func64, Tryz.ntmps64
  go_wp2
  go_ret
  exact ⟨rfl, rfl⟩
theorem AncTurn.trans {a c d : World} {b : Nat} {m : Value} (h : AncTurn a c b m) (k : AncTurn c d b m) : AncTurn a d b m :=
  ⟨Nat.le_trans h.size k.size, fun g hg hb hm => (k.rest g (Nat.lt_of_lt_of_le hg h.size) hb hm).trans (h.rest g hg hb hm)⟩
theorem str_cat (a b : List UInt8) : (⟨a.toArray⟩ : ByteArray) ++ ⟨b.toArray⟩ = ⟨(a ++ b).toArray⟩ := by rw [← Lib.mk_data ((⟨a.toArray⟩ : ByteArray) ++ ⟨b.toArray⟩)]; simp
/-- What stands behind numbered. -/
def NumEnd (w w' : World) (B b : Nat) (m : Value) (had : List (List UInt8)) (id : List UInt8) : Prop :=
  ∃ g n D, m = .map (some g) ∧ B ≤ g ∧ n ≤ 2 * had.length ∧ FreeIs D had ∧ SlMap w' g (n + 1) (D.put (.string id) (.lit (.int .i64 ((slLeast had id + 1 : Nat) : Int)))) ∧ w'.heap[b]? = some (.cells #[m] 61 (0, 0)) ∧ AncTurn w w' b m ∧ Below B w w'
set_option maxHeartbeats 4000000 in
theorem numbered_any {w : World} {B b : Nat} {m : Value} {had : List (List UInt8)} (hB : B ≤ w.heap.size) (h : AncIs w B b m had) (id : List UInt8) (hin : id ∈ had) (hh : had.length ≤ 60) (hid : id.length ≤ 900) :
    Calls Tryz.prog 65 #[.pointer (some ⟨b, 0, none⟩), .string ⟨id.toArray⟩] w fun e w' => e = .returned (.string ⟨(slNum id (slLeast had id)).toArray⟩) ∧ NumEnd w w' B b m had id := by
  have hidm : id.length ≤ maxLen := by unfold maxLen; omega
  obtain ⟨l1, l2, l3, l4⟩ := slLeast_is had id hh
  have c0 := h.cell
  obtain ⟨c, _, h2, h3⟩ := slLook_any h id hidm
  have hl := h2 w (fun _ _ => rfl)
  obtain ⟨n0, rfl, hn1, hn2, hn3⟩ := h3 hin
  have hn4 : n0 ≤ slLeast had id := Nat.le_of_not_lt fun hlt => l3 (hn3 _ l1 hlt)
  rcases h.map with ⟨_, e⟩ | ⟨g, n, D, rfl, hBg, hm, hn, hf⟩
  · rw [e] at hin; cases hin
  · have hkey := slKey id hidm
    have hst := h.blk
    have hgb : b ≠ g := slMap_ne hm hst
    have hlt := (Array.getElem?_eq_some_iff.1 hst).1
    have HH := Lib.hid h
    have HF := Lib.hid hf
    have HL := Lib.hid (And.intro l3 l4)
    have hszi : (⟨id.toArray⟩ : ByteArray).size = id.length := str_size _
    have r1 := fun W => run_string_add_sum (P := Tryz.prog) W (⟨id.toArray⟩ : ByteArray) (⟨#[45]⟩ : ByteArray) (by rw [hszi]; show id.length + 1 ≤ _; omega)
    have eP : (⟨id.toArray⟩ : ByteArray) ++ (⟨#[45]⟩ : ByteArray) = ⟨(id ++ [45]).toArray⟩ := str_cat id [45]
    rw [eP] at r1
    clear h h2 h3 hn3 l3 l4 hszi eP hf hst
    go_enter Tryz.func65, Tryz.ntmps65
    go_wp2_with fail
    go_loop [5] (fun v => ∃ k : Nat, v = .int .i64 k ∧ 2 ≤ k ∧ k ≤ slLeast had id) (fun v => slLeast had id - (intOf v).toNat)
    case atStart => exact ⟨n0, rfl, hn1, hn4⟩
    case round =>
      obtain ⟨k, rfl, hk2, hkl⟩ := hrel
      have hk99 : k < 100 := by omega
      have ci := fun W => Tryz.strconv_Itoa_small k hk99 W
      have r2 := fun W => run_string_add_sum (P := Tryz.prog) W (⟨(id ++ [45]).toArray⟩ : ByteArray) (⟨(Lib.decDigits k).toArray⟩ : ByteArray) (by rw [str_size, str_size]; have := (decDigits_ok hk99).2.2; simp; omega)
      have eN : (⟨(id ++ [45]).toArray⟩ : ByteArray) ++ (⟨(Lib.decDigits k).toArray⟩ : ByteArray) = ⟨(slNum id k).toArray⟩ := by rw [str_cat]; unfold slNum; simp
      rw [eN] at r2
      have hnl : (slNum id k).length ≤ maxLen := by unfold slNum maxLen; have := (decDigits_ok hk99).2.2; simp; omega
      have ch := has_any HH.out (slNum id k) hnl
      have CI := Lib.hid ci
      clear ci eN hnl
      by_cases hmem : slNum id k ∈ had
      · have hne : k ≠ slLeast had id := fun e => HL.out.1 (e ▸ hmem)
        rw [decide_eq_true hmem] at ch
        have CH := Lib.hid ch
        have HK := Lib.hid (show k + 1 ≤ slLeast had id from by omega)
        clear ch hmem hne
        generalize slNum id k = x at *
        go_wp2_with fail
        refine (CI.out _).mono ?_
        rintro e w' ⟨rfl, rfl⟩
        go_wp2_with fail
        refine CH.out.mono ?_
        rintro e w' ⟨rfl, rfl⟩
        go_wp2
        all_goals first
          | exact ⟨⟨k + 1, by go_num, by omega, HK.out⟩, by have := HK.out; simp only [intOf]; omega⟩
          | (go_round
             case rel => exact ⟨k + 1, by go_num, by omega, HK.out⟩
             case measure => have := HK.out; simp [intOf]; omega)
      · have hke : k = slLeast had id := by
          refine Nat.le_antisymm hkl (Nat.le_of_not_lt fun hlt => hmem (HL.out.2 k hk2 hlt))
        rw [decide_eq_false hmem] at ch
        have CH := Lib.hid ch
        obtain ⟨w5, hup, hm5, hg5⟩ := hm.update slLaw Tryz.underlying59 (by unfold maxLen; omega) hkey (val := .int .i64 ((k + 1 : Nat) : Int)) (plainElem_int Tryz.underlying3 (WalkArith.wf_i64 (by omega)))
        rw [hke] at hm5
        have hrest : AncTurn w w5 b (.map (some g)) := ⟨hg5.size, fun x hx _ hxm => hg5.block x hx (fun e => hxm (by injection e with e; rw [e]))⟩
        have hbl : w5.heap[b]? = some (.cells #[.map (some g)] 61 (0, 0)) := (hg5.block b hlt (fun e => hgb (by injection e))).trans HH.out.blk
        have hbe : Below B w w5 := (Below.refl B w).grown hg5 hB (fun x e => by injection e with e; omega)
        have HE := Lib.hid (show NumEnd w w5 B b (.map (some g)) had id from ⟨g, n, D, rfl, hBg, hn, HF.out, hm5, hbl, hrest, hbe⟩)
        have HKE := Lib.hid hke
        rw [show ((k + 1 : Nat) : Int) = (k : Int) + 1 from by omega] at hup
        clear ch hmem hm hm5 hg5 hrest hbl hbe hke
        generalize hx : slNum id k = x at *
        have HX := Lib.hid hx
        clear hx
        go_wp2_with fail
        refine (CI.out _).mono ?_
        rintro e w' ⟨rfl, rfl⟩
        go_wp2_with fail
        refine CH.out.mono ?_
        rintro e w' ⟨rfl, rfl⟩
        go_wp2
        go_ret
        exact ⟨by rw [← HKE.out, HX.out]; rfl, HE.out⟩
end Go.Proofs.YtpifhjdbcdcelaaGreatDoor

namespace Go.Proofs.YtpifhjdbcdcelaaGreatDoor
open Go.RowKit Go.Maps
set_option linter.unusedSimpArgs false
set_option linter.unusedVariables false
set_option maxRecDepth 100000
theorem slugL_len (s : List UInt8) : (slugL s).length ≤ 40 := (slug_ok s).2.2.2
/-- What stands behind Next. -/
def NextEnd (w w' : World) (B b : Nat) (m : Value) (had : List (List UInt8)) : Prop := (∃ m', AncIs w' B b m' had ∧ ∀ g, m' = .map (some g) → m = .map (some g) ∨ w.heap.size ≤ g) ∧ AncTurn w w' b m ∧ Below B w w'
set_option maxHeartbeats 8000000 in
theorem next_any {w : World} {B b : Nat} {m : Value} {had : List (List UInt8)} (hB : B ≤ w.heap.size) (h : AncIs w B b m had) (s : ByteArray) (hs : s.size ≤ 1000000) (hh : had.length ≤ 60) :
    Calls Tryz.prog 21 #[.pointer (some ⟨b, 0, none⟩), .string s] w fun e w' => e = .returned (.string ⟨(slNext had s.data.toList).toArray⟩) ∧ NextEnd w w' B b m (had ++ [slNext had s.data.toList]) := by
  have co := of_any s w hs
  have hid := slugL_len s.data.toList
  have hnx : slNext had s.data.toList = if slugL s.data.toList ∈ had then slNum (slugL s.data.toList) (slLeast had (slugL s.data.toList)) else slugL s.data.toList := rfl
  generalize slNext had s.data.toList = nx at *
  generalize slugL s.data.toList = id at *
  have hidm : id.length ≤ maxLen := by unfold maxLen; omega
  have qe : ∀ (W : World) (r : Option Nat), (binOp .eql 59 (.map r) (.map none)).run Tryz.prog W = .ok (.bool r.isNone) W := fun W r => run_eql_map_nil W _ _ _ r Tryz.underlying59
  have HH := Lib.hid h
  have HNX := Lib.hid hnx
  clear h hnx
  go_enter Tryz.func21, Tryz.ntmps21
  go_wp2_with fail
  refine co.mono ?_
  rintro e w1 ⟨rfl, b1⟩
  have h1 := HH.out.below b1
  have hB1 : B ≤ w1.heap.size := Nat.le_trans hB b1.size
  have ch := has_any h1 id hidm
  have HT1 := Lib.hid (AncTurn.of b1 b m)
  have HBB1 := Lib.hid (b1.mono hB)
  have HS1 := Lib.hid b1.size
  clear b1 co
  by_cases hin : id ∈ had
  · rw [decide_eq_true hin] at ch
    have cn := numbered_any hB1 h1 id hin hh (by omega)
    have hn1 : nx = slNum id (slLeast had id) := by rw [HNX.out, if_pos hin]
    have hf9 := fun (D : SlDU) (hf : FreeIs D had) => hf.num hin hh (by omega : id.length ≤ 900)
    rw [← hn1] at cn
    rw [← hn1] at hf9
    have hnl : nx.length ≤ maxLen := by
      rw [hn1]; unfold slNum maxLen
      have hl := slLeast_is had id hh
      have := (decDigits_ok (n := slLeast had id) (by omega)).2.2
      simp; omega
    have CH := Lib.hid ch
    have CN := Lib.hid cn
    have HF9 := Lib.hid hf9
    have hkey := slKey nx hnl
    clear ch cn hin hn1 hf9 h1
    go_wp2_with fail
    refine CH.out.mono ?_
    rintro e w' ⟨rfl, rfl⟩
    go_wp2_with fail
    refine CN.out.mono ?_
    rintro e w2 ⟨rfl, g, n, D, rfl, hBg, hn, hf, hm2, hbl2, ht2, hb2⟩
    have hlt := (Array.getElem?_eq_some_iff.1 hbl2).1
    have c0 : w2.cell? ⟨b, 0, none⟩ = some (.map (some g)) := (cell_of_row w2 b 0 _ _ (0, 0) hbl2).trans rfl
    have hgb : b ≠ g := slMap_ne hm2 hbl2
    obtain ⟨w5, hup, hm5, hg5⟩ := hm2.update slLaw Tryz.underlying59 (by unfold maxLen; omega) hkey (val := .int .i64 2) (plainElem_int Tryz.underlying3 (by decide))
    have ht5 : AncTurn w2 w5 b (.map (some g)) := ⟨hg5.size, fun x hx _ hxm => hg5.block x hx (fun e => hxm (by injection e with e; rw [e]))⟩
    have hbl5 : w5.heap[b]? = some (.cells #[.map (some g)] 61 (0, 0)) := (hg5.block b hlt (fun e => hgb (by injection e))).trans hbl2
    have hb5 : Below B w2 w5 := (Below.refl B w2).grown hg5 (by have := hb2.size; omega) (fun x e => by injection e with e; omega)
    have HE := Lib.hid (show NextEnd w w5 B b (.map (some g)) (had ++ [nx]) from
      ⟨⟨_, ⟨hbl5, HH.out.base, .inr ⟨g, n + 1 + 1, _, rfl, hBg, hm5, by simp; omega, HF9.out D hf⟩⟩, fun g' e => .inl e⟩, (HT1.out.trans ht2).trans ht5, (HBB1.out.trans hb2).trans hb5⟩)
    clear hm2 hm5 hg5 ht5 hbl5 hb5 hbl2 ht2 hb2 hf HF9 CN
    go_wp2
    go_ret
    exact ⟨rfl, HE.out⟩
  · rw [decide_eq_false hin] at ch
    have hn1 : nx = id := by rw [HNX.out, if_neg hin]
    have hkey := slKey id hidm
    have CH := Lib.hid ch
    have hbl1 := h1.blk
    have hlt := (Array.getElem?_eq_some_iff.1 hbl1).1
    have c0 := h1.cell
    clear ch hin
    subst hn1
    rcases h1.map with ⟨rfl, hD⟩ | ⟨g, n, D, rfl, hBg, hm, hn, hf⟩
    · have hD9 := Lib.hid hD
      clear hD
      have hmm := @run_makeMap Tryz.prog
      have f1 : (w1.alloc (.map #[] 0)).frozen? ⟨b, 0, none⟩ = false := by
        have := (Below.heap_alloc w1 (.map #[] 0) b hlt).trans hbl1
        simp [World.frozen?, this]
      have y2 : (w1.alloc (.map #[] 0)).cell? ⟨b, 0, none⟩ = some (.map none) := cell_of_row _ b 0 _ _ (0, 0) ((Below.heap_alloc w1 (.map #[] 0) b hlt).trans hbl1)
      have hss : (w1.setCell ⟨b, 0, none⟩ (.map (some w1.heap.size))).heap.size = w1.heap.size := by simp [World.setCell]
      have hm4 : SlMap ((w1.setCell ⟨b, 0, none⟩ (.map (some w1.heap.size))).alloc (.map #[] 0)) w1.heap.size 0 (.map []) := by
        have := World.ownsMap_made (w1.setCell ⟨b, 0, none⟩ (.map (some w1.heap.size))) Tryz.prog 9 (plainElem (H := Unit) Tryz.prog 3)
        rwa [hss] at this
      have hbl4 : ((w1.setCell ⟨b, 0, none⟩ (.map (some w1.heap.size))).alloc (.map #[] 0)).heap[b]? = some (.cells #[.map (some w1.heap.size)] 61 (0, 0)) := by
        rw [Below.heap_alloc _ _ b (by rw [hss]; exact hlt)]
        simp [World.setCell, Array.getElem?_modify, hbl1]
      have ht4 : AncTurn w1 ((w1.setCell ⟨b, 0, none⟩ (.map (some w1.heap.size))).alloc (.map #[] 0)) b (.map none) :=
        ⟨by simp only [alloc_size, hss]; omega, fun x hx hxb _ => by rw [Below.heap_alloc _ _ x (by rw [hss]; exact hx), Below.heap_setCell _ _ _ x hxb]⟩
      have hb4 : Below B w1 ((w1.setCell ⟨b, 0, none⟩ (.map (some w1.heap.size))).alloc (.map #[] 0)) := ((Below.refl B w1).setCell h1.base _).alloc (by rw [hss]; exact hB1) _
      obtain ⟨w5, hup, hm5, hg5⟩ := hm4.update slLaw Tryz.underlying59 (by unfold maxLen; omega) hkey (val := .int .i64 2) (plainElem_int Tryz.underlying3 (by decide))
      have hbl5 : w5.heap[b]? = some (.cells #[.map (some w1.heap.size)] 61 (0, 0)) := (hg5.block b (by simp only [alloc_size, hss]; omega) (fun e => by injection e with e; omega)).trans hbl4
      have ht5 : AncTurn w1 w5 b (.map none) := ⟨Nat.le_trans ht4.size hg5.size, fun x hx hxb hxm => (hg5.block x (by simp only [alloc_size, hss]; omega) (fun e => by injection e with e; omega)).trans (ht4.rest x hx hxb hxm)⟩
      have hb5 : Below B w1 w5 := hb4.grown hg5 (by simp only [alloc_size, hss]; omega) (fun x e => by injection e with e; omega)
      have HE := Lib.hid (show NextEnd w w5 B b (.map none) (had ++ [nx]) from
        ⟨⟨_, ⟨hbl5, HH.out.base, .inr ⟨w1.heap.size, 0 + 1, _, rfl, hB1, hm5, by simp; omega, by rw [hD9.out]; exact FreeIs.nil.new (by omega)⟩⟩, fun g' e => .inr (by injection e with e; injection e with e; have := HS1.out; omega)⟩, HT1.out.trans ht5, HBB1.out.trans hb5⟩)
      clear h1 hbl1 hm4 hbl4 ht4 hb4 hm5 hg5 hbl5 ht5 hb5 hss
      go_wp2_with fail
      refine CH.out.mono ?_
      rintro e w' ⟨rfl, rfl⟩
      go_wp2
      go_ret
      exact ⟨rfl, HE.out⟩
    · obtain ⟨w5, hup, hm5, hg5⟩ := hm.update slLaw Tryz.underlying59 (by unfold maxLen; omega) hkey (val := .int .i64 2) (plainElem_int Tryz.underlying3 (by decide))
      have hgb : b ≠ g := slMap_ne hm hbl1
      have ht5 : AncTurn w1 w5 b (.map (some g)) := ⟨hg5.size, fun x hx _ hxm => hg5.block x hx (fun e => hxm (by injection e with e; rw [e]))⟩
      have hbl5 : w5.heap[b]? = some (.cells #[.map (some g)] 61 (0, 0)) := (hg5.block b hlt (fun e => hgb (by injection e))).trans hbl1
      have hb5 : Below B w1 w5 := (Below.refl B w1).grown hg5 hB1 (fun x e => by injection e with e; omega)
      have HE := Lib.hid (show NextEnd w w5 B b (.map (some g)) (had ++ [nx]) from
        ⟨⟨_, ⟨hbl5, HH.out.base, .inr ⟨g, n + 1, _, rfl, hBg, hm5, by simp; omega, hf.new (by omega)⟩⟩, fun g' e => .inl e⟩, HT1.out.trans ht5, HBB1.out.trans hb5⟩)
      clear h1 hm hm5 hg5 ht5 hbl5 hb5 hbl1 hf
      go_wp2_with fail
      refine CH.out.mono ?_
      rintro e w' ⟨rfl, rfl⟩
      go_wp2
      go_ret
      exact ⟨rfl, HE.out⟩
end Go.Proofs.YtpifhjdbcdcelaaGreatDoor
