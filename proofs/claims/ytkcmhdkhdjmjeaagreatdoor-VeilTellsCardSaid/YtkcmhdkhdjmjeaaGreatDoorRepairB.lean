/-
  Package repair: Text: what it answers, in plain words, over the model's own reading of runes.
-/
import Derived.Test.YtkcmhdkhdjmjeaaGreatDoorBase
import Derived.WalkKit
import Derived.BigCall
import Derived.BigQuiet
import Derived.Deep.QuietTactic
import Derived.Lib.Hide
import Derived.Lib.OthersKept
import Derived.Lib.RuneBytes
namespace Go.Proofs.YtkcmhdkhdjmjeaaGreatDoor
open Go.RowKit

theorem width_pos (s : ByteArray) (pos : Nat) (h : pos < s.size) : 1 ≤ (Utf8.decode s pos).2 := by
  by_cases ha : (s[pos]'h).toNat < 128
  · rw [decode_ascii s pos h ha]
    exact Nat.le_refl _
  · exact (decode_high s pos h (by omega)).2

/-- What one rune adds to a text, when 'last' was read ahead of it. -/
def textOne (r last : Int) : List UInt8 :=
  if r = 10 ∧ last = 13 then [] else if r = 13 then [10] else if r = 0 then Lib.encodeRune 65533 else Lib.encodeRune r
def textFrom (s : ByteArray) : Nat → Nat → Int → List UInt8
  | 0, _, _ => []
  | fuel + 1, pos, last => if pos < s.size then textOne (Utf8.decode s pos).1 last ++ textFrom s fuel (pos + (Utf8.decode s pos).2) (Utf8.decode s pos).1 else []
def textB (s : ByteArray) : List UInt8 := textFrom s s.size 0 0

theorem textFrom_end (s : ByteArray) (fuel pos : Nat) (last : Int) (h : ¬ pos < s.size) : textFrom s fuel pos last = [] := by
  cases fuel with
  | zero => rfl
  | succ f => simp [textFrom, h]

theorem textFrom_step {s : ByteArray} {f pos : Nat} {l : Int} {acc out : List UInt8} (hp : pos < s.size) (h : acc ++ textFrom s (f + 1) pos l = out) :
    (acc ++ textOne (Utf8.decode s pos).1 l) ++ textFrom s f (pos + (Utf8.decode s pos).2) (Utf8.decode s pos).1 = out := by
  rw [← h]; simp [textFrom, hp]
theorem textOne_le (r l : Int) : (textOne r l).length ≤ 4 := by
  unfold textOne
  have h1 := Lib.encodeRuneZ_length 65533
  have h2 := Lib.encodeRuneZ_length r
  split
  · simp
  · split
    · simp
    · split <;> simp [Lib.encodeRune] <;> omega

theorem alloc_self (w : World) (o : Obj) : (w.alloc o).heap[w.heap.size]? = some o := by
  show (w.heap.push o)[w.heap.size]? = _
  simp
theorem alloc_grows (w : World) (o : Obj) : w.heap.size ≤ (w.alloc o).heap.size := by
  show _ ≤ (w.heap.push o).size
  simp
theorem cells_rune (acc : List UInt8) (r : Int) : Lib.byteCells (acc ++ Lib.encodeRune r) = Lib.byteCells acc ++ Lib.runeCells r := by
  rw [Lib.byteCells_append, Lib.byteCells_encodeRune]

/-- The loop's relation. -/
def TextRel (s : ByteArray) (w : World) (B : Nat) (k : Nat) (last : Value) (wr : World) : Prop :=
  ∃ (pos fuel : Nat) (acc : List UInt8) (l : Int), last = .int .i32 l ∧ wr.heap[k]? = some (.stringIter s pos) ∧ Lib.IsBuilderF 115 5 B B (Lib.byteCells acc) wr ∧ Below B w wr ∧ acc ++ textFrom s fuel pos l = textB s ∧ s.size ≤ pos + fuel ∧ acc.length ≤ 4 * pos

set_option maxHeartbeats 4000000 in
set_option maxRecDepth 1000000 in
theorem text_any (s : ByteArray) (w : World) (hs : s.size ≤ 35184372088832) :
    Calls Tryz.prog 32 #[.string s] w fun e w' => e = .returned (.string ⟨(textB s).toArray⟩) ∧ Below w.heap.size w w' := by
  go_enter Tryz.func32, Tryz.ntmps32
  go_wp2_with fail
  refine (Tryz.Builder_Grow_fresh w.heap.size w.heap.size s.size _ (Nat.le_refl _) (alloc_self _ _) (alloc_grows _ _) (by omega)).mono ?_
  rintro e W1 ⟨rfl, hB0, hbe0⟩
  have hbw0 : Below w.heap.size w W1 := ((Below.refl _ w).alloc (Nat.le_refl _) _).trans hbe0
  have hlt0 := hB0.lt
  have hF0 := (Lib.IsBuilderF.of (Or.inr hB0)).alloc (.stringIter s 0)
  clear hbe0 hB0
  go_wp2_with fail
  go_loopw [4] (fun last wr => TextRel s w w.heap.size W1.heap.size last wr) (fun _ wr => s.size - wr.iterPos W1.heap.size)
  case atStart =>
    refine ⟨0, s.size, [], 0, rfl, ?_, hF0, hbw0.alloc (by omega) _, rfl, by omega, by simp⟩
    exact World.iter_heap W1 s 0
  case round =>
    obtain ⟨pos, fuel, acc, l, rfl, hit, hI, hbw, hacc, hfu, hal⟩ := hrel
    have hsz : W1.heap.size < wr.heap.size := (Array.getElem?_eq_some_iff.1 hit).1
    by_cases hp : pos < s.size
    · have hnx : ∀ ty, (Instr.next (.pointer (some ⟨W1.heap.size, 0, none⟩)) true ty).run Tryz.prog wr = _ := fun ty => Lib.run_next_any_at wr W1.heap.size s pos ty hit hp
      have hwd := width_pos s pos hp
      have hd1 := decode_le s pos
      have hI2 := hI.iterAt hit (pos + (Utf8.decode s pos).2)
      have hit2 := Lib.iterAt_heap wr W1.heap.size s pos (pos + (Utf8.decode s pos).2) hit
      have hbw2 := Lib.below_iterAt hbw (k := W1.heap.size) (by omega) s (pos + (Utf8.decode s pos).2)
      have hsz2 : w.heap.size ≤ (wr.iterAt W1.heap.size s (pos + (Utf8.decode s pos).2)).heap.size := by rw [Lib.iterAt_size]; omega
      obtain ⟨f, rfl⟩ : ∃ f, fuel = f + 1 := ⟨fuel - 1, by omega⟩
      have HS := Lib.hid (textFrom_step hp hacc)
      have hle := textOne_le (Utf8.decode s pos).1 l
      have hit0 := hit
      clear hacc hI hbw hit
      have Hit := Lib.hid hit0
      clear hit0
      generalize hr : (Utf8.decode s pos).1 = r at *
      generalize hd : (Utf8.decode s pos).2 = d at *
      clear hr hd
      by_cases h10 : (r : Int) = 10
      · have f10 : ((r : Int) == 10) = true := by simp; omega
        have f13 : ((r : Int) == 13) = false := by simp; omega
        have f0 : ((r : Int) == 0) = false := by simp; omega
        by_cases hl : l = 13
        · have fl : (l == 13) = true := by simp; omega
          have E1 := Lib.hid (show Lib.byteCells (acc ++ textOne r l) = Lib.byteCells acc from by unfold textOne; rw [if_pos ⟨h10, hl⟩]; simp)
          clear h10 hl
          go_wp2
          go_roundw
          case rel => exact ⟨_, f, acc ++ textOne r l, _, rfl, hit2, by rw [E1.out]; exact hI2, hbw2, HS.out, by omega, by rw [List.length_append]; omega⟩
          case measure => simp only [World.iterPos, hit2, Hit.out]; omega
        · have fl : (l == 13) = false := by simp; omega
          have E1 := Lib.hid (show Lib.byteCells (acc ++ textOne r l) = Lib.byteCells acc ++ Lib.runeCells r from by unfold textOne; rw [if_neg (by omega), if_neg (by omega), if_neg (by omega), cells_rune])
          clear h10 hl
          go_wp2_with (go_at_call 69; refine (Tryz.Builder_WriteRune_k w.heap.size w.heap.size _ _ (by omega) (by omega) _ hI2 (by rw [Lib.byteCells_length]; omega) hsz2).mono ?_)
          rintro e W2 ⟨rfl, g1, b1, k1⟩
          have hit3 := k1.iter hit2 (by omega)
          go_wp2
          go_roundw
          case rel => exact ⟨_, f, acc ++ textOne r l, _, rfl, hit3, by rw [E1.out]; exact (Or.inr g1), (hbw2.trans b1), HS.out, by omega, by rw [List.length_append]; omega⟩
          case measure => simp only [World.iterPos, hit3, Hit.out]; omega
      · have f10 : ((r : Int) == 10) = false := by simp; omega
        by_cases h13 : (r : Int) = 13
        · have f13 : ((r : Int) == 13) = true := by simp; omega
          have E1 := Lib.hid (show Lib.byteCells (acc ++ textOne r l) = Lib.byteCells acc ++ [.int .u8 10] from by unfold textOne; rw [if_neg (by omega), if_pos h13, Lib.byteCells_append]; rfl)
          clear h10 h13
          go_wp2_with (go_at_call 68; refine (Tryz.Builder_WriteByte_k w.heap.size w.heap.size _ 10 _ hI2 (by rw [Lib.byteCells_length]; omega) hsz2).mono ?_)
          rintro e W2 ⟨rfl, g1, b1, k1⟩
          have hit3 := k1.iter hit2 (by omega)
          go_wp2
          go_roundw
          case rel => exact ⟨_, f, acc ++ textOne r l, _, rfl, hit3, by rw [E1.out]; exact (Or.inr g1), (hbw2.trans b1), HS.out, by omega, by rw [List.length_append]; omega⟩
          case measure => simp only [World.iterPos, hit3, Hit.out]; omega
        · have f13 : ((r : Int) == 13) = false := by simp; omega
          by_cases h0 : (r : Int) = 0
          · have f0 : ((r : Int) == 0) = true := by simp; omega
            have E1 := Lib.hid (show Lib.byteCells (acc ++ textOne r l) = Lib.byteCells acc ++ Lib.runeCells 65533 from by unfold textOne; rw [if_neg (by omega), if_neg (by omega), if_pos h0, cells_rune])
            clear h10 h13 h0
            go_wp2_with (go_at_call 69; refine (Tryz.Builder_WriteRune_k w.heap.size w.heap.size _ _ (by omega) (by omega) _ hI2 (by rw [Lib.byteCells_length]; omega) hsz2).mono ?_)
            rintro e W2 ⟨rfl, g1, b1, k1⟩
            have hit3 := k1.iter hit2 (by omega)
            go_wp2
            go_roundw
            case rel => exact ⟨_, f, acc ++ textOne r l, _, rfl, hit3, by rw [E1.out]; exact (Or.inr g1), (hbw2.trans b1), HS.out, by omega, by rw [List.length_append]; omega⟩
            case measure => simp only [World.iterPos, hit3, Hit.out]; omega
          · have f0 : ((r : Int) == 0) = false := by simp; omega
            have E1 := Lib.hid (show Lib.byteCells (acc ++ textOne r l) = Lib.byteCells acc ++ Lib.runeCells r from by unfold textOne; rw [if_neg (by omega), if_neg (by omega), if_neg (by omega), cells_rune])
            clear h10 h13 h0
            go_wp2_with (go_at_call 69; refine (Tryz.Builder_WriteRune_k w.heap.size w.heap.size _ _ (by omega) (by omega) _ hI2 (by rw [Lib.byteCells_length]; omega) hsz2).mono ?_)
            rintro e W2 ⟨rfl, g1, b1, k1⟩
            have hit3 := k1.iter hit2 (by omega)
            go_wp2
            go_roundw
            case rel => exact ⟨_, f, acc ++ textOne r l, _, rfl, hit3, by rw [E1.out]; exact (Or.inr g1), (hbw2.trans b1), HS.out, by omega, by rw [List.length_append]; omega⟩
            case measure => simp only [World.iterPos, hit3, Hit.out]; omega
    · have hnx : ∀ ty, (Instr.next (.pointer (some ⟨W1.heap.size, 0, none⟩)) true ty).run Tryz.prog wr = _ := fun ty => Lib.run_next_end_at wr W1.heap.size s pos ty hit hp
      go_wp2_with (go_at_call 70; refine (Tryz.Builder_String_any_k w.heap.size w.heap.size acc _ hI (by omega)).mono ?_)
      rintro e W2 ⟨rfl, _, b1, _⟩
      go_wp2
      go_ret
      rw [textFrom_end s fuel pos _ hp, List.append_nil] at hacc
      subst hacc
      exact ⟨rfl, hbw.trans b1⟩

end Go.Proofs.YtkcmhdkhdjmjeaaGreatDoor
