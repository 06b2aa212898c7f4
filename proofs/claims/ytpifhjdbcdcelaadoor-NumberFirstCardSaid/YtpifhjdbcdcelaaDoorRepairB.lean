/-
  Package repair: what Text answers, in plain words (the walk: XRepairBt).
-/
import Derived.Test.YtpifhjdbcdcelaaDoorBase
import Derived.WalkKit
import Derived.BigCall
import Derived.BigQuiet
import Derived.Deep.QuietTactic
import Derived.Lib.Hide
import Derived.Lib.OthersKept
import Derived.Lib.RuneBytes
namespace Go.Proofs.YtpifhjdbcdcelaaDoor
open Go.RowKit

theorem width_pos (s : ByteArray) (pos : Nat) (h : pos < s.size) : 1 ≤ (Utf8.decode s pos).2 := by
  by_cases ha : (s[pos]'h).toNat < 128
  · rw [decode_ascii s pos h ha]
    exact Nat.le_refl _
  · exact (decode_high s pos h (by omega)).2

/-- What one rune adds to a text, when 'last' was read ahead of it. -/
def textOne (r last : Int) : List UInt8 :=
  if r = 10 ∧ last = 13 then [] else if r = 13 then [10] else if r = 0 then Lib.encodeRune 65533 else Lib.encodeRune r
def textFrom (s : ByteArray) : Nat → Nat → Int → List UInt8
  | 0, _, _ => []
  | fuel + 1, pos, last => if pos < s.size then textOne (Utf8.decode s pos).1 last ++ textFrom s fuel (pos + (Utf8.decode s pos).2) (Utf8.decode s pos).1 else []
def textB (s : ByteArray) : List UInt8 := textFrom s s.size 0 0

theorem textFrom_end (s : ByteArray) (fuel pos : Nat) (last : Int) (h : ¬ pos < s.size) : textFrom s fuel pos last = [] := by
  cases fuel with
  | zero => rfl
  | succ f => simp [textFrom, h]

theorem textFrom_step {s : ByteArray} {f pos : Nat} {l : Int} {acc out : List UInt8} (hp : pos < s.size) (h : acc ++ textFrom s (f + 1) pos l = out) :
    (acc ++ textOne (Utf8.decode s pos).1 l) ++ textFrom s f (pos + (Utf8.decode s pos).2) (Utf8.decode s pos).1 = out := by
  rw [← h]; simp [textFrom, hp]
theorem textOne_le (r l : Int) : (textOne r l).length ≤ 4 := by
  unfold textOne
  have h1 := Lib.encodeRuneZ_length 65533
  have h2 := Lib.encodeRuneZ_length r
  split
  · simp
  · split
    · simp
    · split <;> simp [Lib.encodeRune] <;> omega

theorem alloc_self (w : World) (o : Obj) : (w.alloc o).heap[w.heap.size]? = some o := by
  show (w.heap.push o)[w.heap.size]? = _
  simp
theorem alloc_grows (w : World) (o : Obj) : w.heap.size ≤ (w.alloc o).heap.size := by
  show _ ≤ (w.heap.push o).size
  simp
theorem cells_rune (acc : List UInt8) (r : Int) : Lib.byteCells (acc ++ Lib.encodeRune r) = Lib.byteCells acc ++ Lib.runeCells r := by
  rw [Lib.byteCells_append, Lib.byteCells_encodeRune]

end Go.Proofs.YtpifhjdbcdcelaaDoor
