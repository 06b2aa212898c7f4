/-
  Package repair: Fold: what it answers, in plain words, over the model's own reading of runes.
-/
import Derived.Test.YtpifhjdbcdcelaaDoorRepairA
import Derived.Test.YtpifhjdbcdcelaaDoorRepairB
namespace Go.Proofs.YtpifhjdbcdcelaaDoor
open Go.RowKit
set_option linter.unusedSimpArgs false
set_option linter.unusedVariables false

def strayB (s : ByteArray) (pos : Nat) : Bool := ((Utf8.decode s pos).1 : Int) == 65533 && !Lib.hasPrefix (s.data.toList.drop pos) [239, 191, 189]
/-- What one rune that is no blank adds. -/
def foldOne (s : ByteArray) (pos : Nat) : List UInt8 :=
  if strayB s pos then [s.data.toList.getD pos 0] else Lib.encodeRune (smallI (Utf8.decode s pos).1)
def foldFrom (s : ByteArray) : Nat → Nat → Bool → Bool → List UInt8
  | 0, _, _, _ => []
  | fuel + 1, pos, gap, any =>
    if pos < s.size then
      if spaceB (Utf8.decode s pos).1 then foldFrom s fuel (pos + (Utf8.decode s pos).2) true any
      else ((if gap && any then [32] else []) ++ foldOne s pos) ++ foldFrom s fuel (pos + (Utf8.decode s pos).2) false true
    else []
def foldB (s : ByteArray) : List UInt8 := foldFrom s s.size 0 false false

theorem foldFrom_end (s : ByteArray) (fuel pos : Nat) (g a : Bool) (h : ¬ pos < s.size) : foldFrom s fuel pos g a = [] := by
  cases fuel with
  | zero => rfl
  | succ f => simp [foldFrom, h]
theorem foldOne_pos (s : ByteArray) (pos : Nat) : 1 ≤ (foldOne s pos).length ∧ (foldOne s pos).length ≤ 4 := by
  unfold foldOne
  have h2 := Lib.encodeRuneZ_length (smallI (Utf8.decode s pos).1)
  split
  · simp
  · simpa [Lib.encodeRune] using h2
theorem foldFrom_space {s : ByteArray} {f pos : Nat} {g a : Bool} {acc out : List UInt8} (hp : pos < s.size) (hb : spaceB (Utf8.decode s pos).1 = true) (h : acc ++ foldFrom s (f + 1) pos g a = out) :
    acc ++ foldFrom s f (pos + (Utf8.decode s pos).2) true a = out := by
  rw [← h]; simp [foldFrom, hp, hb]
theorem foldFrom_other {s : ByteArray} {f pos : Nat} {g a : Bool} {acc out : List UInt8} (hp : pos < s.size) (hb : spaceB (Utf8.decode s pos).1 = false) (h : acc ++ foldFrom s (f + 1) pos g a = out) :
    (acc ++ ((if g && a then [32] else []) ++ foldOne s pos)) ++ foldFrom s f (pos + (Utf8.decode s pos).2) false true = out := by
  rw [← h]; simp [foldFrom, hp, hb]

theorem smallI_le (r : Int) (h0 : 0 ≤ r) (h1 : r ≤ 2147483647) : 0 ≤ smallI r ∧ smallI r ≤ 2147483647 := by
  unfold smallI
  split
  · rename_i h
    simp [inB] at h
    omega
  · omega
theorem extract_drop (s : ByteArray) (pos : Nat) : (s.extract pos s.size).data.toList = s.data.toList.drop pos := by
  simp only [ByteArray.data_extract, Array.toList_extract, List.extract]
  exact List.take_of_length_le (by simp)
theorem stray_at (s : ByteArray) (pos : Nat) (w : World) :
    Calls Tryd.prog 32 #[.string (s.extract pos s.size), .int .i32 (Utf8.decode s pos).1] w fun e w' => e = .returned (.bool (strayB s pos)) ∧ w = w' := by
  have h := stray_any (s.extract pos s.size) (Utf8.decode s pos).1 w
  rw [extract_drop] at h
  exact h
theorem getD_byte (s : ByteArray) (pos : Nat) (hp : pos < s.size) : s.data.toList.getD pos 0 = s[pos] := by
  have : pos < s.data.toList.length := by simpa using hp
  rw [List.getD_eq_getElem?_getD, List.getElem?_eq_getElem this]
  rfl

/-- The loop's relation. -/
def FoldRel (s : ByteArray) (w : World) (B : Nat) (k : Nat) (gap : Value) (wr : World) : Prop :=
  ∃ (pos fuel : Nat) (acc : List UInt8) (g : Bool), gap = .bool g ∧ wr.heap[k]? = some (.stringIter s pos) ∧ Lib.IsBuilderF 51 5 B B (Lib.byteCells acc) wr ∧ Below B w wr ∧ acc ++ foldFrom s fuel pos g (!acc.isEmpty) = foldB s ∧ s.size ≤ pos + fuel ∧ acc.length ≤ 5 * pos

set_option maxHeartbeats 4000000 in
set_option maxRecDepth 1000000 in
theorem fold_any (s : ByteArray) (w : World) (hs : s.size ≤ 17592186044416) :
    Calls Tryd.prog 23 #[.string s] w fun e w' => e = .returned (.string ⟨(foldB s).toArray⟩) ∧ Below w.heap.size w w' := by
  go_enter Tryd.func23, Tryd.ntmps23
  go_wp2_with fail
  go_loopw [4] (fun gap wr => FoldRel s w w.heap.size (w.heap.size + 1) gap wr) (fun _ wr => s.size - wr.iterPos (w.heap.size + 1))
  case atStart =>
    refine ⟨0, s.size, [], false, rfl, ?_, (Lib.IsBuilderF.of (Lib.fresh_isBuilder 51 5 w)).alloc _, ((Below.refl _ w).alloc (Nat.le_refl _) _).alloc (by simp) _, rfl, by omega, by simp⟩
    have := World.iter_heap (w.alloc (.cells #[.pointer none, .slice none 0 0] 51)) s 0
    simpa using this
  case round =>
    obtain ⟨pos, fuel, acc, g, rfl, hit, hI, hbw, hacc, hfu, hal⟩ := hrel
    have hsz : w.heap.size + 1 < wr.heap.size := (Array.getElem?_eq_some_iff.1 hit).1
    by_cases hp : pos < s.size
    · have hnx : ∀ ty, (Instr.next (.pointer (some ⟨w.heap.size + 1, 0, none⟩)) true ty).run Tryd.prog wr = _ := fun ty => Lib.run_next_any_at wr (w.heap.size + 1) s pos ty hit hp
      have hwd := width_pos s pos hp
      have hd1 := decode_le s pos
      have hI2 := hI.iterAt hit (pos + (Utf8.decode s pos).2)
      have hit2 := Lib.iterAt_heap wr (w.heap.size + 1) s pos (pos + (Utf8.decode s pos).2) hit
      have hbw2 := Lib.below_iterAt hbw (k := w.heap.size + 1) (by omega) s (pos + (Utf8.decode s pos).2)
      have hsz2 : w.heap.size ≤ (wr.iterAt (w.heap.size + 1) s (pos + (Utf8.decode s pos).2)).heap.size := by rw [Lib.iterAt_size]; omega
      obtain ⟨f, rfl⟩ : ∃ f, fuel = f + 1 := ⟨fuel - 1, by omega⟩
      have Hit := Lib.hid hit
      clear hI hbw hit
      cases hb : spaceB (Utf8.decode s pos).1 with
      | true =>
        have HS := Lib.hid (foldFrom_space hp hb hacc)
        have sp := space_any (Utf8.decode s pos).1 (wr.iterAt (w.heap.size + 1) s (pos + (Utf8.decode s pos).2))
        rw [hb] at sp
        clear hb hacc
        go_wp2_with (go_at_call 31; refine sp.mono ?_; rintro e w' ⟨rfl, rfl⟩)
        go_roundw
        case rel => exact ⟨_, f, acc, _, rfl, hit2, hI2, hbw2, HS.out, by omega, by omega⟩
        case measure => simp only [World.iterPos, hit2, Hit.out]; omega
      | false =>
        have HS := Lib.hid (foldFrom_other hp hb hacc)
        have sp := space_any (Utf8.decode s pos).1 (wr.iterAt (w.heap.size + 1) s (pos + (Utf8.decode s pos).2))
        rw [hb] at sp
        clear hb hacc
        cases g with
        | false =>
          go_wp2_with (go_at_call 31; refine sp.mono ?_; rintro e w' ⟨rfl, rfl⟩)
          have HS2 := Lib.hid (show acc ++ foldOne s pos ++ foldFrom s f (pos + (Utf8.decode s pos).2) false true = foldB s from by have := HS.out; simpa [] using this)
          cases hst : strayB s pos with
          | true =>
            have E1 := Lib.hid (show Lib.byteCells (acc ++ foldOne s pos) = Lib.byteCells (acc) ++ [.int .u8 s[pos].toNat] from by rw [Lib.byteCells_append]; unfold foldOne; rw [if_pos hst, getD_byte s pos hp]; rfl)
            have hone := foldOne_pos s pos
            have stp := fun w1 => stray_at s pos w1
            simp only [hst] at stp
            clear hst
            go_wp2_with fail
            refine (stp _).mono ?_
            rintro e w' ⟨rfl, rfl⟩
            go_wp2_with (go_at_call 15; refine (Tryd.Builder_WriteByte_k w.heap.size w.heap.size _ _ _ hI2 (by rw [Lib.byteCells_length]; first | omega | (rw [List.length_append]; simp; omega)) (by exact hsz2)).mono ?_)
            rintro e W9 ⟨rfl, g9, b9, k9⟩
            have hit9 := k9.iter hit2 (by omega)
            go_wp2
            go_roundw
            case rel =>
              have hl : (acc ++ foldOne s pos).length ≤ 5 * (pos + (Utf8.decode s pos).2) := by simp only [List.length_append, List.length_cons, List.length_nil]; omega
              have he : (acc ++ foldOne s pos).isEmpty = false := by rw [List.isEmpty_eq_false_iff_exists_mem]; exact ⟨_, List.mem_append_right _ (List.getElem_mem (n := 0) (by omega))⟩
              exact ⟨_, f, acc ++ foldOne s pos, _, rfl, hit9, by rw [E1.out]; exact (Or.inr g9), hbw2.trans b9, by rw [he]; exact HS2.out, by omega, hl⟩
            case measure => simp only [World.iterPos, hit9, Hit.out]; omega
          | false =>
            have E1 := Lib.hid (show Lib.byteCells (acc ++ foldOne s pos) = Lib.byteCells (acc) ++ Lib.runeCells (smallI (Utf8.decode s pos).1) from by unfold foldOne; rw [if_neg (by rw [hst]; simp), cells_rune])
            have hone := foldOne_pos s pos
            have stp := fun w1 => stray_at s pos w1
            simp only [hst] at stp
            clear hst
            have hsm := smallI_le (Utf8.decode s pos).1 (by omega) (by omega)
            go_wp2_with fail
            refine (stp _).mono ?_
            rintro e w' ⟨rfl, rfl⟩
            go_wp2_with (first | (go_at_call 34; refine (small_any _ _).mono ?_; rintro e w' ⟨rfl, rfl⟩) | (go_at_call 33; refine (Tryd.Builder_WriteRune_k w.heap.size w.heap.size _ _ (by omega) (by omega) _ hI2 (by rw [Lib.byteCells_length]; first | omega | (rw [List.length_append]; simp; omega)) (by exact hsz2)).mono ?_))
            rintro e W9 ⟨rfl, g9, b9, k9⟩
            have hit9 := k9.iter hit2 (by omega)
            go_wp2
            go_roundw
            case rel =>
              have hl : (acc ++ foldOne s pos).length ≤ 5 * (pos + (Utf8.decode s pos).2) := by simp only [List.length_append, List.length_cons, List.length_nil]; omega
              have he : (acc ++ foldOne s pos).isEmpty = false := by rw [List.isEmpty_eq_false_iff_exists_mem]; exact ⟨_, List.mem_append_right _ (List.getElem_mem (n := 0) (by omega))⟩
              exact ⟨_, f, acc ++ foldOne s pos, _, rfl, hit9, by rw [E1.out]; exact (Or.inr g9), hbw2.trans b9, by rw [he]; exact HS2.out, by omega, hl⟩
            case measure => simp only [World.iterPos, hit9, Hit.out]; omega
        | true =>
          have hlen := Tryd.Builder_Len_f w.heap.size w.heap.size _ _ hI2
          rw [Lib.byteCells_length] at hlen
          by_cases hne : acc = []
          · subst hne
            simp only [List.length_nil] at hlen
            go_wp2_with (go_at_call 31; refine sp.mono ?_; rintro e w' ⟨rfl, rfl⟩)
            go_wp2_with (go_at_call 14; refine hlen.mono ?_; rintro e w' ⟨rfl, rfl⟩)
            have HS2 := Lib.hid (show [] ++ foldOne s pos ++ foldFrom s f (pos + (Utf8.decode s pos).2) false true = foldB s from by have := HS.out; simpa [] using this)
            cases hst : strayB s pos with
            | true =>
              have E1 := Lib.hid (show Lib.byteCells ([] ++ foldOne s pos) = Lib.byteCells ([]) ++ [.int .u8 s[pos].toNat] from by rw [Lib.byteCells_append]; unfold foldOne; rw [if_pos hst, getD_byte s pos hp]; rfl)
              have hone := foldOne_pos s pos
              have stp := fun w1 => stray_at s pos w1
              simp only [hst] at stp
              clear hst
              go_wp2_with fail
              refine (stp _).mono ?_
              rintro e w' ⟨rfl, rfl⟩
              go_wp2_with (go_at_call 15; refine (Tryd.Builder_WriteByte_k w.heap.size w.heap.size _ _ _ hI2 (by rw [Lib.byteCells_length]; first | omega | (rw [List.length_append]; simp; omega)) (by exact hsz2)).mono ?_)
              rintro e W9 ⟨rfl, g9, b9, k9⟩
              have hit9 := k9.iter hit2 (by omega)
              go_wp2
              go_roundw
              case rel =>
                have hl : ([] ++ foldOne s pos).length ≤ 5 * (pos + (Utf8.decode s pos).2) := by simp only [List.length_append, List.length_cons, List.length_nil]; omega
                have he : ([] ++ foldOne s pos).isEmpty = false := by rw [List.isEmpty_eq_false_iff_exists_mem]; exact ⟨_, List.mem_append_right _ (List.getElem_mem (n := 0) (by omega))⟩
                exact ⟨_, f, [] ++ foldOne s pos, _, rfl, hit9, by rw [E1.out]; exact (Or.inr g9), hbw2.trans b9, by rw [he]; exact HS2.out, by omega, hl⟩
              case measure => simp only [World.iterPos, hit9, Hit.out]; omega
            | false =>
              have E1 := Lib.hid (show Lib.byteCells ([] ++ foldOne s pos) = Lib.byteCells ([]) ++ Lib.runeCells (smallI (Utf8.decode s pos).1) from by unfold foldOne; rw [if_neg (by rw [hst]; simp), cells_rune])
              have hone := foldOne_pos s pos
              have stp := fun w1 => stray_at s pos w1
              simp only [hst] at stp
              clear hst
              have hsm := smallI_le (Utf8.decode s pos).1 (by omega) (by omega)
              go_wp2_with fail
              refine (stp _).mono ?_
              rintro e w' ⟨rfl, rfl⟩
              go_wp2_with (first | (go_at_call 34; refine (small_any _ _).mono ?_; rintro e w' ⟨rfl, rfl⟩) | (go_at_call 33; refine (Tryd.Builder_WriteRune_k w.heap.size w.heap.size _ _ (by omega) (by omega) _ hI2 (by rw [Lib.byteCells_length]; first | omega | (rw [List.length_append]; simp; omega)) (by exact hsz2)).mono ?_))
              rintro e W9 ⟨rfl, g9, b9, k9⟩
              have hit9 := k9.iter hit2 (by omega)
              go_wp2
              go_roundw
              case rel =>
                have hl : ([] ++ foldOne s pos).length ≤ 5 * (pos + (Utf8.decode s pos).2) := by simp only [List.length_append, List.length_cons, List.length_nil]; omega
                have he : ([] ++ foldOne s pos).isEmpty = false := by rw [List.isEmpty_eq_false_iff_exists_mem]; exact ⟨_, List.mem_append_right _ (List.getElem_mem (n := 0) (by omega))⟩
                exact ⟨_, f, [] ++ foldOne s pos, _, rfl, hit9, by rw [E1.out]; exact (Or.inr g9), hbw2.trans b9, by rw [he]; exact HS2.out, by omega, hl⟩
              case measure => simp only [World.iterPos, hit9, Hit.out]; omega
          · have hpos : 0 < acc.length := List.length_pos_iff.2 hne
            have hem : acc.isEmpty = false := by simpa using hne
            go_wp2_with (go_at_call 31; refine sp.mono ?_; rintro e w' ⟨rfl, rfl⟩)
            go_wp2_with (go_at_call 14; refine hlen.mono ?_; rintro e w' ⟨rfl, rfl⟩)
            go_wp2_with (go_at_call 15; refine (Tryd.Builder_WriteByte_k w.heap.size w.heap.size _ _ _ hI2 (by rw [Lib.byteCells_length]; omega) hsz2).mono ?_)
            rintro e W2 ⟨rfl, g1, b1, k1⟩
            have hit3 := k1.iter hit2 (by omega)
            have hI3 : Lib.IsBuilderF 51 5 w.heap.size w.heap.size (Lib.byteCells (acc ++ [32])) W2 := by rw [Lib.byteCells_append]; exact Or.inr g1
            have hbw3 := hbw2.trans b1
            have hsz3 : w.heap.size ≤ W2.heap.size := Nat.le_trans hsz2 b1.size
            have HS2 := Lib.hid (show acc ++ [32] ++ foldOne s pos ++ foldFrom s f (pos + (Utf8.decode s pos).2) false true = foldB s from by have := HS.out; simpa [hem] using this)
            cases hst : strayB s pos with
            | true =>
              have E1 := Lib.hid (show Lib.byteCells (acc ++ [32] ++ foldOne s pos) = Lib.byteCells (acc ++ [32]) ++ [.int .u8 s[pos].toNat] from by rw [Lib.byteCells_append]; unfold foldOne; rw [if_pos hst, getD_byte s pos hp]; rfl)
              have hone := foldOne_pos s pos
              have stp := fun w1 => stray_at s pos w1
              simp only [hst] at stp
              clear hst
              go_wp2_with fail
              refine (stp _).mono ?_
              rintro e w' ⟨rfl, rfl⟩
              go_wp2_with (go_at_call 15; refine (Tryd.Builder_WriteByte_k w.heap.size w.heap.size _ _ _ hI3 (by rw [Lib.byteCells_length]; first | omega | (rw [List.length_append]; simp; omega)) (by exact hsz3)).mono ?_)
              rintro e W9 ⟨rfl, g9, b9, k9⟩
              have hit9 := k9.iter hit3 (by omega)
              go_wp2
              go_roundw
              case rel =>
                have hl : (acc ++ [32] ++ foldOne s pos).length ≤ 5 * (pos + (Utf8.decode s pos).2) := by simp only [List.length_append, List.length_cons, List.length_nil]; omega
                have he : (acc ++ [32] ++ foldOne s pos).isEmpty = false := by rw [List.isEmpty_eq_false_iff_exists_mem]; exact ⟨_, List.mem_append_right _ (List.getElem_mem (n := 0) (by omega))⟩
                exact ⟨_, f, acc ++ [32] ++ foldOne s pos, _, rfl, hit9, by rw [E1.out]; exact (Or.inr g9), hbw3.trans b9, by rw [he]; exact HS2.out, by omega, hl⟩
              case measure => simp only [World.iterPos, hit9, Hit.out]; omega
            | false =>
              have E1 := Lib.hid (show Lib.byteCells (acc ++ [32] ++ foldOne s pos) = Lib.byteCells (acc ++ [32]) ++ Lib.runeCells (smallI (Utf8.decode s pos).1) from by unfold foldOne; rw [if_neg (by rw [hst]; simp), cells_rune])
              have hone := foldOne_pos s pos
              have stp := fun w1 => stray_at s pos w1
              simp only [hst] at stp
              clear hst
              have hsm := smallI_le (Utf8.decode s pos).1 (by omega) (by omega)
              go_wp2_with fail
              refine (stp _).mono ?_
              rintro e w' ⟨rfl, rfl⟩
              go_wp2_with (first | (go_at_call 34; refine (small_any _ _).mono ?_; rintro e w' ⟨rfl, rfl⟩) | (go_at_call 33; refine (Tryd.Builder_WriteRune_k w.heap.size w.heap.size _ _ (by omega) (by omega) _ hI3 (by rw [Lib.byteCells_length]; first | omega | (rw [List.length_append]; simp; omega)) (by exact hsz3)).mono ?_))
              rintro e W9 ⟨rfl, g9, b9, k9⟩
              have hit9 := k9.iter hit3 (by omega)
              go_wp2
              go_roundw
              case rel =>
                have hl : (acc ++ [32] ++ foldOne s pos).length ≤ 5 * (pos + (Utf8.decode s pos).2) := by simp only [List.length_append, List.length_cons, List.length_nil]; omega
                have he : (acc ++ [32] ++ foldOne s pos).isEmpty = false := by rw [List.isEmpty_eq_false_iff_exists_mem]; exact ⟨_, List.mem_append_right _ (List.getElem_mem (n := 0) (by omega))⟩
                exact ⟨_, f, acc ++ [32] ++ foldOne s pos, _, rfl, hit9, by rw [E1.out]; exact (Or.inr g9), hbw3.trans b9, by rw [he]; exact HS2.out, by omega, hl⟩
              case measure => simp only [World.iterPos, hit9, Hit.out]; omega
    · have hnx : ∀ ty, (Instr.next (.pointer (some ⟨w.heap.size + 1, 0, none⟩)) true ty).run Tryd.prog wr = _ := fun ty => Lib.run_next_end_at wr (w.heap.size + 1) s pos ty hit hp
      go_wp2_with (go_at_call 17; refine (Tryd.Builder_String_any_k w.heap.size w.heap.size acc _ hI (by omega)).mono ?_)
      rintro e W2 ⟨rfl, _, b1, _⟩
      go_wp2
      go_ret
      rw [foldFrom_end s fuel pos _ _ hp, List.append_nil] at hacc
      subst hacc
      exact ⟨rfl, hbw.trans b1⟩

end Go.Proofs.YtpifhjdbcdcelaaDoor
