/-
  RepairTwice's walk.
-/
import Derived.Test.YtdiolfahccfpgaaRepairG
import Derived.Test.YtdiolfahccfpgaaRepairD
import Derived.Outline
namespace Go.Proofs.Ytdiolfahccfpgaa
open Go.RowKit
set_option linter.unusedSimpArgs false
set_option linter.unusedVariables false

theorem segs_len : ∀ (n : Nat) (l : List UInt8), l.length ≤ n → (segs l).length ≤ l.length
  | _, [], _ => by simp [segs_nil]
  | n + 1, b :: l, hn => by
    have hw := dec_width b l
    simp only [List.length_cons] at hn
    rw [segs_cons]
    have := segs_len n ((b :: l).drop (dec (b :: l)).2) (by rw [List.length_drop, List.length_cons]; omega)
    rw [List.length_drop, List.length_cons] at this
    simp only [List.length_cons]
    omega
theorem textS_len : ∀ (cs : List (Nat × List UInt8)) (last : Int), (textS cs last).length ≤ 4 * cs.length
  | [], _ => by simp [textS]
  | c :: cs, last => by
    have h1 := textOne_le c.1 last
    have h2 := textS_len cs c.1
    simp only [textS, List.length_append, List.length_cons]
    omega
theorem textL_len (l : List UInt8) : (textL l).length ≤ 4 * l.length := by
  have h1 := textS_len (segs l) 0
  have h2 := segs_len l.length l (Nat.le_refl _)
  unfold textL
  omega
theorem chunkOut_len (c : Nat × List UInt8) : (chunkOut c).length ≤ 4 := by
  unfold chunkOut
  split
  · rename_i h
    simp [stray] at h
    omega
  · have := Lib.encodeRuneZ_length (smallI c.1)
    simp [Lib.encodeRune]; omega
theorem foldS_len : ∀ (cs : List (Nat × List UInt8)) (g a : Bool), (foldS cs g a).length ≤ 5 * cs.length
  | [], _, _ => by simp [foldS]
  | c :: cs, g, a => by
    have h1 := chunkOut_len c
    have h2 := foldS_len cs true a
    have h3 := foldS_len cs false true
    simp only [foldS, List.length_cons]
    split
    · omega
    · simp only [List.length_append]
      split <;> simp <;> omega
theorem foldL_len (l : List UInt8) : (foldL l).length ≤ 5 * l.length := by
  have h1 := foldS_len (segs l) false false
  have h2 := segs_len l.length l (Nat.le_refl _)
  unfold foldL
  omega

/-- What Text, and Fold, hand back, as strings. -/
def textOf (s : ByteArray) : ByteArray := ⟨(textL s.data.toList).toArray⟩
def foldOf (s : ByteArray) : ByteArray := ⟨(foldL s.data.toList).toArray⟩
theorem text_of (s : ByteArray) (w : World) (hs : s.size ≤ 17592186044416) :
    Calls Try.prog 9 #[.string s] w fun e w' => e = .returned (.string (textOf s)) ∧ Below w.heap.size w w' := by
  have := text_any s w (by omega)
  rw [textB_segs] at this
  exact this
theorem fold_of (s : ByteArray) (w : World) (hs : s.size ≤ 17592186044416) :
    Calls Try.prog 10 #[.string s] w fun e w' => e = .returned (.string (foldOf s)) ∧ Below w.heap.size w w' := by
  have := fold_any s w hs
  rw [foldB_segs] at this
  exact this
/-- 'Text hands back r for s', wherever it is called; so 'Fold'. -/
def TextIs (s r : ByteArray) : Prop := ∀ w1 : World, Calls Try.prog 9 #[.string s] w1 fun e w' => e = .returned (.string r) ∧ Below w1.heap.size w1 w'
def FoldIs (s r : ByteArray) : Prop := ∀ w1 : World, Calls Try.prog 10 #[.string s] w1 fun e w' => e = .returned (.string r) ∧ Below w1.heap.size w1 w'
theorem textIs (s : ByteArray) (hs : s.size ≤ 17592186044416) : TextIs s (textOf s) := fun w1 => text_of s w1 hs
theorem foldIs (s : ByteArray) (hs : s.size ≤ 17592186044416) : FoldIs s (foldOf s) := fun w1 => fold_of s w1 hs
theorem size_list (s : ByteArray) : s.data.toList.length = s.size := by simp
theorem textOf_size (s : ByteArray) : (textOf s).size ≤ 4 * s.size := by
  have := textL_len s.data.toList
  rw [size_list] at this
  show (textL s.data.toList).toArray.size ≤ _
  simpa using this
theorem foldOf_size (s : ByteArray) : (foldOf s).size ≤ 5 * s.size := by
  have := foldL_len s.data.toList
  rw [size_list] at this
  show (foldL s.data.toList).toArray.size ≤ _
  simpa using this
theorem textOf_twice (s : ByteArray) : textOf (textOf s) = textOf s := by
  unfold textOf
  simp only [textL_twice]
theorem foldOf_twice (s : ByteArray) : foldOf (foldOf s) = foldOf s := by
  unfold foldOf
  simp only [foldL_twice]
theorem textOf_byte (s : ByteArray) (k : Nat) (h : k < (textOf s).size) : (textOf s)[k].toNat ≠ 0 ∧ (textOf s)[k].toNat ≠ 13 := by
  have hm : (textOf s)[k] ∈ textL s.data.toList := by
    have h' : k < (textL s.data.toList).length := by
      have : (textOf s).size = (textL s.data.toList).length := by show (textL s.data.toList).toArray.size = _; simp
      omega
    exact List.getElem_mem (l := textL s.data.toList) h'
  have := textL_bytes _ _ hm
  exact ⟨fun e => this.1 (UInt8.toNat.inj e), fun e => this.2 (UInt8.toNat.inj e)⟩

set_option maxHeartbeats 1000000 in
theorem repairTwice_long (w : World) (a0 : ByteArray) (w0 : a0.size ≤ maxLen) (a1 : ByteArray) (w1 : a1.size ≤ maxLen) (a2 : ByteArray) (w2 : a2.size ≤ maxLen) (h : 400 < a0.size ∨ 100 < a1.size ∨ 100 < a2.size) :
    Calls Try.prog 3 #[.string a0, .string a1, .string a2] w fun e w' => e = .returned (.bool true) ∧ Below w.heap.size w w' := by
  unfold maxLen at w0 w1 w2
  by_cases h0 : 400 < a0.size
  · clear h
    go_enter Try.func3, Try.ntmps3
    go_wp2_with (go_at_call 8; refine (alive_any _).mono ?_; rintro e w3 ⟨rfl, b1⟩)
    go_ret
    exact ⟨rfl, by assumption⟩
  · by_cases h1 : 100 < a1.size
    · clear h
      go_enter Try.func3, Try.ntmps3
      go_wp2_with (go_at_call 8; refine (alive_any _).mono ?_; rintro e w3 ⟨rfl, b1⟩)
      go_ret
      exact ⟨rfl, by assumption⟩
    · have h2 : 100 < a2.size := by omega
      clear h
      go_enter Try.func3, Try.ntmps3
      go_wp2_with (go_at_call 8; refine (alive_any _).mono ?_; rintro e w3 ⟨rfl, b1⟩)
      go_ret
      exact ⟨rfl, by assumption⟩

set_option maxHeartbeats 2000000 in
theorem repairTwice_short (w : World) (a0 a1 a2 : ByteArray) (h0 : a0.size ≤ 400) (h1 : a1.size ≤ 100) (h2 : a2.size ≤ 100) (X F : ByteArray) (hX : X.size ≤ 1600) (hF : F.size ≤ 500)
    (cX : TextIs a0 X)
    (cX2 : TextIs X X)
    (cF : FoldIs a1 F)
    (cF2 : FoldIs F F)
    (c3 : FoldIs (⟨#[32, 9]⟩ ++ a1 ++ ⟨#[10, 32]⟩) F) (G : ByteArray)
    (c4 : FoldIs (a1 ++ ⟨#[32]⟩ ++ a2) G)
    (c5 : FoldIs (a1 ++ ⟨#[32, 10, 9, 32]⟩ ++ a2) G)
    (hb : ∀ k (h : k < X.size), X[k].toNat ≠ 0 ∧ X[k].toNat ≠ 13) :
    Calls Try.prog 3 #[.string a0, .string a1, .string a2] w fun e w' => e = .returned (.bool true) ∧ Below w.heap.size w w' := by
  go_enter Try.func3, Try.ntmps3
  go_wp2_with fail
  refine (alive_any _).mono ?_
  rintro e W1 ⟨rfl, b1⟩
  go_wp2_with fail
  refine (cX _).mono ?_
  rintro e W2 ⟨rfl, b2⟩
  go_wp2_with fail
  refine (cF _).mono ?_
  rintro e W3 ⟨rfl, b3⟩
  go_wp2_with fail
  have HB := Lib.hid hb
  clear hb
  go_loop [9] (fun i => ∃ k : Nat, k ≤ X.size ∧ i = .int .i64 k) (fun i => X.size - (intOf i).toNat)
  case atStart => exact ⟨0, Nat.zero_le _, rfl⟩
  case round =>
    obtain ⟨k, hk, rfl⟩ := hrel
    by_cases hlt : k < X.size
    · have ⟨g1, g2⟩ := HB.out k hlt
      have f1 : ((X[k].toNat : Int) == 0) = false := by simp; omega
      have f2 : ((X[k].toNat : Int) == 13) = false := by simp; omega
      clear g1 g2
      go_wp2
      go_round
      case rel => exact ⟨k + 1, by omega, by go_num⟩
      case measure => simp [intOf]; omega
    · go_wp2_with fail
      refine (cX2 _).mono ?_
      rintro e W4 ⟨rfl, b4⟩
      go_wp2_with fail
      refine (cF2 _).mono ?_
      rintro e W5 ⟨rfl, b5⟩
      go_wp2_with fail
      refine (c3 _).mono ?_
      rintro e W6 ⟨rfl, b6⟩
      go_wp2_with fail
      refine (c4 _).mono ?_
      rintro e W7 ⟨rfl, b7⟩
      go_wp2_with fail
      refine (c5 _).mono ?_
      rintro e W8 ⟨rfl, b8⟩
      go_wp2
      go_ret
      have s1 := b1.size
      have s2 := b2.size
      have s3 := b3.size
      have s4 := b4.size
      have s5 := b5.size
      have s6 := b6.size
      have s7 := b7.size
      exact ⟨ret_bool (by simp), ((((((b1.trans (b2.mono (by omega))).trans (b3.mono (by omega))).trans (b4.mono (by omega))).trans (b5.mono (by omega))).trans (b6.mono (by omega))).trans (b7.mono (by omega))).trans (b8.mono (by omega))⟩

theorem foldOf_around (a : ByteArray) : foldOf (⟨#[32, 9]⟩ ++ a ++ ⟨#[10, 32]⟩) = foldOf a := by
  unfold foldOf
  simp only [ByteArray.data_append, Array.toList_append, foldL_around]
theorem foldOf_between (a b : ByteArray) : foldOf (a ++ ⟨#[32, 10, 9, 32]⟩ ++ b) = foldOf (a ++ ⟨#[32]⟩ ++ b) := by
  unfold foldOf
  simp only [ByteArray.data_append, Array.toList_append, foldL_between]

theorem repairTwice_walk (w : World) (a0 : ByteArray) (w0 : a0.size ≤ maxLen) (a1 : ByteArray) (w1 : a1.size ≤ maxLen) (a2 : ByteArray) (w2 : a2.size ≤ maxLen) :
    Calls Try.prog 3 #[.string a0, .string a1, .string a2] w fun e w' => e = .returned (.bool true) ∧ Below w.heap.size w w' := by
  by_cases h : 400 < a0.size ∨ 100 < a1.size ∨ 100 < a2.size
  · exact repairTwice_long w a0 w0 a1 w1 a2 w2 h
  · have hX := textOf_size a0
    have hF := foldOf_size a1
    have c1 := textIs a0 (by omega)
    have c2 := textIs (textOf a0) (by omega)
    rw [textOf_twice] at c2
    have d1 := foldIs a1 (by omega)
    have d2 := foldIs (foldOf a1) (by omega)
    rw [foldOf_twice] at d2
    have d3 := foldIs (⟨#[32, 9]⟩ ++ a1 ++ ⟨#[10, 32]⟩) (by simp only [ByteArray.size_append]; show 2 + a1.size + 2 ≤ _; omega)
    rw [foldOf_around] at d3
    have d4 := foldIs (a1 ++ ⟨#[32]⟩ ++ a2) (by simp only [ByteArray.size_append]; show a1.size + 1 + a2.size ≤ _; omega)
    have d5 := foldIs (a1 ++ ⟨#[32, 10, 9, 32]⟩ ++ a2) (by simp only [ByteArray.size_append]; show a1.size + 4 + a2.size ≤ _; omega)
    rw [foldOf_between] at d5
    have hb := textOf_byte a0
    generalize textOf a0 = X at *
    generalize foldOf a1 = F at *
    exact repairTwice_short w a0 a1 a2 (by omega) (by omega) (by omega) X F (by omega) (by omega) c1 c2 d1 d2 d3 _ d4 d5 hb

end Go.Proofs.Ytdiolfahccfpgaa
