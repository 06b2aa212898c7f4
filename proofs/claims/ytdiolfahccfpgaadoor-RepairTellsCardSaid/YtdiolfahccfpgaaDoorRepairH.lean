/-
  What Text and Fold hand back, as strings.
-/
import Derived.Test.YtdiolfahccfpgaaDoorRepairG
import Derived.Test.YtdiolfahccfpgaaDoorRepairD
import Derived.Outline
namespace Go.Proofs.YtdiolfahccfpgaaDoor
open Go.RowKit
set_option linter.unusedSimpArgs false
set_option linter.unusedVariables false

theorem segs_len : ∀ (n : Nat) (l : List UInt8), l.length ≤ n → (segs l).length ≤ l.length
  | _, [], _ => by simp [segs_nil]
  | n + 1, b :: l, hn => by
    have hw := dec_width b l
    simp only [List.length_cons] at hn
    rw [segs_cons]
    have := segs_len n ((b :: l).drop (dec (b :: l)).2) (by rw [List.length_drop, List.length_cons]; omega)
    rw [List.length_drop, List.length_cons] at this
    simp only [List.length_cons]
    omega
theorem textS_len : ∀ (cs : List (Nat × List UInt8)) (last : Int), (textS cs last).length ≤ 4 * cs.length
  | [], _ => by simp [textS]
  | c :: cs, last => by
    have h1 := textOne_le c.1 last
    have h2 := textS_len cs c.1
    simp only [textS, List.length_append, List.length_cons]
    omega
theorem textL_len (l : List UInt8) : (textL l).length ≤ 4 * l.length := by
  have h1 := textS_len (segs l) 0
  have h2 := segs_len l.length l (Nat.le_refl _)
  unfold textL
  omega
theorem chunkOut_len (c : Nat × List UInt8) : (chunkOut c).length ≤ 4 := by
  unfold chunkOut
  split
  · rename_i h
    simp [stray] at h
    omega
  · have := Lib.encodeRuneZ_length (smallI c.1)
    simp [Lib.encodeRune]; omega
theorem foldS_len : ∀ (cs : List (Nat × List UInt8)) (g a : Bool), (foldS cs g a).length ≤ 5 * cs.length
  | [], _, _ => by simp [foldS]
  | c :: cs, g, a => by
    have h1 := chunkOut_len c
    have h2 := foldS_len cs true a
    have h3 := foldS_len cs false true
    simp only [foldS, List.length_cons]
    split
    · omega
    · simp only [List.length_append]
      split <;> simp <;> omega
theorem foldL_len (l : List UInt8) : (foldL l).length ≤ 5 * l.length := by
  have h1 := foldS_len (segs l) false false
  have h2 := segs_len l.length l (Nat.le_refl _)
  unfold foldL
  omega

/-- What Text, and Fold, hand back, as strings. -/
def textOf (s : ByteArray) : ByteArray := ⟨(textL s.data.toList).toArray⟩
def foldOf (s : ByteArray) : ByteArray := ⟨(foldL s.data.toList).toArray⟩
theorem text_of (s : ByteArray) (w : World) (hs : s.size ≤ 17592186044416) :
    Calls Tryd.prog 5 #[.string s] w fun e w' => e = .returned (.string (textOf s)) ∧ Below w.heap.size w w' := by
  have := text_any s w (by omega)
  rw [textB_segs] at this
  exact this
theorem fold_of (s : ByteArray) (w : World) (hs : s.size ≤ 17592186044416) :
    Calls Tryd.prog 13 #[.string s] w fun e w' => e = .returned (.string (foldOf s)) ∧ Below w.heap.size w w' := by
  have := fold_any s w hs
  rw [foldB_segs] at this
  exact this
/-- 'Text hands back r for s', wherever it is called; so 'Fold'. -/
def TextIs (s r : ByteArray) : Prop := ∀ w1 : World, Calls Tryd.prog 5 #[.string s] w1 fun e w' => e = .returned (.string r) ∧ Below w1.heap.size w1 w'
def FoldIs (s r : ByteArray) : Prop := ∀ w1 : World, Calls Tryd.prog 13 #[.string s] w1 fun e w' => e = .returned (.string r) ∧ Below w1.heap.size w1 w'
theorem textIs (s : ByteArray) (hs : s.size ≤ 17592186044416) : TextIs s (textOf s) := fun w1 => text_of s w1 hs
theorem foldIs (s : ByteArray) (hs : s.size ≤ 17592186044416) : FoldIs s (foldOf s) := fun w1 => fold_of s w1 hs
theorem size_list (s : ByteArray) : s.data.toList.length = s.size := by simp
theorem textOf_size (s : ByteArray) : (textOf s).size ≤ 4 * s.size := by
  have := textL_len s.data.toList
  rw [size_list] at this
  show (textL s.data.toList).toArray.size ≤ _
  simpa using this
theorem foldOf_size (s : ByteArray) : (foldOf s).size ≤ 5 * s.size := by
  have := foldL_len s.data.toList
  rw [size_list] at this
  show (foldL s.data.toList).toArray.size ≤ _
  simpa using this
theorem textOf_twice (s : ByteArray) : textOf (textOf s) = textOf s := by
  unfold textOf
  simp only [textL_twice]
theorem foldOf_twice (s : ByteArray) : foldOf (foldOf s) = foldOf s := by
  unfold foldOf
  simp only [foldL_twice]
theorem textOf_byte (s : ByteArray) (k : Nat) (h : k < (textOf s).size) : (textOf s)[k].toNat ≠ 0 ∧ (textOf s)[k].toNat ≠ 13 := by
  have hm : (textOf s)[k] ∈ textL s.data.toList := by
    have h' : k < (textL s.data.toList).length := by
      have : (textOf s).size = (textL s.data.toList).length := by show (textL s.data.toList).toArray.size = _; simp
      omega
    exact List.getElem_mem (l := textL s.data.toList) h'
  have := textL_bytes _ _ hm
  exact ⟨fun e => this.1 (UInt8.toNat.inj e), fun e => this.2 (UInt8.toNat.inj e)⟩

theorem encode_eq (n : Nat) (h : Utf8.valid n = true) : Utf8.encode n = ⟨(Lib.encodeRune n).toArray⟩ := by
  have hv := of_valid n h
  unfold Utf8.encode
  simp only [h, if_true, Int.toNat_natCast]
  by_cases h1 : n < 128
  · rw [if_pos (by omega), enc1 n h1]
  · by_cases h2 : n < 2048
    · rw [if_neg (by omega), if_pos (by omega), enc2 n (by omega) h2]
    · by_cases h3 : n < 65536
      · rw [if_neg (by omega), if_neg (by omega), if_pos (by omega), enc3 n (by omega)]
      · rw [if_neg (by omega), if_neg (by omega), if_neg (by omega), enc4 n (by omega) (by omega)]
theorem encode_size (r : Int) : (Utf8.encode r).size ≤ 4 := by
  unfold Utf8.encode
  dsimp only
  generalize (if Utf8.valid r = true then r.toNat else Utf8.runeError) = c
  split
  · exact (by decide : (1 : Nat) ≤ 4)
  · split
    · exact (by decide : (2 : Nat) ≤ 4)
    · split
      · exact (by decide : (3 : Nat) ≤ 4)
      · exact (by decide : (4 : Nat) ≤ 4)


end Go.Proofs.YtdiolfahccfpgaaDoor
