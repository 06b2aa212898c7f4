/-
  The laws of the layer target: TargetPlain: its walk; plain facts of letters.
-/
import Derived.Test.YtkldloglpbiioaaDoorTgtH
namespace Go.Proofs.YtkldloglpbiioaaDoor
open Go.RowKit
set_option linter.unusedSimpArgs false
set_option linter.unusedVariables false

def Letters (l : List UInt8) : Prop := ∀ b ∈ l, 97 ≤ b.toNat ∧ b.toNat ≤ 122
theorem unL_plain : ∀ l : List UInt8, (∀ b ∈ l, b.toNat ≠ 92 ∧ b.toNat ≠ 38) → unL l = l
  | [], _ => rfl
  | b :: l, h => by
    have hb := h b (by simp)
    rw [unL_byte (escL_none hb.1 hb.2), unL_plain l (fun x hx => h x (by simp [hx]))]
theorem unL_letters {l : List UInt8} (h : Letters l) : unL l = l := unL_plain l fun b hb => by have := h b hb; omega
theorem bareGo_letters : ∀ (u l : List UInt8) (i : Nat), Letters u → bareGo (u ++ l) 0 false i = bareGo l 0 false (i + u.length)
  | [], _, _, _ => rfl
  | b :: u, l, i, h => by
    have hb := h b (by simp)
    have hh : hidB b.toNat = false := by simp [hidB]; omega
    rw [List.cons_append, bareGo_on hh (by omega), if_neg (by simp), if_neg (by omega), if_neg (by omega), if_neg (by omega), bareGo_letters u l _ (fun x hx => h x (by simp [hx])), List.length_cons, show i + 1 + u.length = i + (u.length + 1) from by omega]
theorem btwGo_plain (c : UInt8) (nv : List UInt8) : ∀ (u l : List UInt8) (i : Nat), (∀ b ∈ u, b.toNat ≠ 0 ∧ b.toNat ≠ 92 ∧ b ≠ c ∧ b ∉ nv) → btwGo c nv (u ++ l) false i = btwGo c nv l false (i + u.length)
  | [], _, _, _ => rfl
  | b :: u, l, i, h => by
    obtain ⟨h1, h2, h3, h4⟩ := h b (by simp)
    rw [List.cons_append, btwGo_on h1 h2 h3 h4, btwGo_plain c nv u l _ (fun x hx => h x (by simp [hx])), List.length_cons, show i + 1 + u.length = i + (u.length + 1) from by omega]
theorem encL_letters {l : List UInt8} (h : Letters l) : encL l = l := encL_stays l fun x hx => by
  have hb := h x hx
  have hl : lowI x.toNat = x.toNat := by unfold lowI; rw [if_neg (by rw [inR_iff]; omega)]
  unfold stayB
  rw [hl, (inR_iff _ _ _).2 (by omega)]
  rfl
theorem letters_ne {u : List UInt8} (h : Letters u) {b : UInt8} (hb : b.toNat < 97) (hne : u ≠ []) (l : List UInt8) : Lib.hasPrefix (u ++ l) [b] = false := by
  match u, hne with
  | x :: u, _ =>
    have hx := h x (by simp)
    rw [← Bool.not_eq_true]
    intro e
    have h2 : [b] <+: x :: (u ++ l) := List.isPrefixOf_iff_prefix.1 e
    have := (List.cons_prefix_cons.1 h2).1
    subst this
    omega
theorem dest_letters {u : List UInt8} (h : Letters u) (hne : u ≠ []) (l : List UInt8) : destL (u ++ 32 :: l) = (u, u.length, true) := by
  have hb : bareGo (u ++ 32 :: l) 0 false 0 = (u.length, 0) := by
    rw [bareGo_letters u _ 0 h, bareGo_stop (Or.inl (by decide)), Nat.zero_add]
  have hl : 0 < u.length := List.length_pos_iff.2 hne
  unfold destL
  rw [if_neg (by rw [letters_ne h (by decide) hne]; simp)]
  unfold bareL
  rw [hb]
  simp only [Nat.lt_irrefl, if_false]
  rw [List.take_left, unL_letters h, decide_eq_true hl]
theorem dest_sharp {u : List UInt8} (h : Letters u) (l : List UInt8) : destL (60 :: (u ++ 32 :: (u ++ 62 :: l))) = (u ++ 32 :: u, 2 * u.length + 3, true) := by
  have hu : ∀ b ∈ u, b.toNat ≠ 0 ∧ b.toNat ≠ 92 ∧ b ≠ 62 ∧ b ∉ [60, (10 : UInt8)] := by
    intro b hb
    have := h b hb
    refine ⟨by omega, by omega, ?_, ?_⟩
    · rintro rfl
      exact absurd this.1 (by decide)
    · intro e
      simp only [List.mem_cons, List.not_mem_nil, or_false] at e
      rcases e with rfl | rfl
      · exact absurd this.1 (by decide)
      · exact absurd this.1 (by decide)
  have hb : btwGo 62 [60, 10] (u ++ 32 :: (u ++ 62 :: l)) false 1 = some (2 * u.length + 2) := by
    rw [btwGo_plain 62 [60, 10] u _ 1 hu, btwGo_on (by decide) (by decide) (by decide) (by decide), btwGo_plain 62 [60, 10] u _ _ hu, btwGo_shut (by decide) (by decide) rfl]
    congr 1
    omega
  unfold destL
  rw [if_pos (by rfl)]
  unfold btwL
  rw [List.drop_one, List.tail_cons, hb]
  simp only
  have ht : ((60 :: (u ++ 32 :: (u ++ 62 :: l))).take (2 * u.length + 2)).drop 1 = u ++ 32 :: u := by
    rw [show 2 * u.length + 2 = (2 * u.length + 1) + 1 from rfl, List.take_succ_cons, List.drop_one, List.tail_cons]
    rw [show u ++ 32 :: (u ++ 62 :: l) = (u ++ 32 :: u) ++ 62 :: l from by simp]
    rw [List.take_append_of_le_length (by simp; omega), List.take_of_length_le (by simp; omega)]
  rw [ht, unL_plain (u ++ 32 :: u) (by
    intro b hb
    rw [List.mem_append, List.mem_cons] at hb
    rcases hb with hb | rfl | hb
    · have := h b hb; omega
    · decide
    · have := h b hb; omega)]

theorem one_toList (b : UInt8) : (⟨#[b]⟩ : ByteArray).data.toList = [b] := rfl
theorem letters_snoc {s : ByteArray} {k : Nat} (h : Letters (s.data.toList.take k)) (hp : k < s.size) (h1 : 97 ≤ s[k].toNat) (h2 : s[k].toNat ≤ 122) : Letters (s.data.toList.take (k + 1)) := by
  rw [take_snoc s k hp]
  intro b hb
  rw [List.mem_append, List.mem_singleton] at hb
  rcases hb with hb | rfl
  · exact h b hb
  · exact ⟨h1, h2⟩
def LetRel (s : ByteArray) (i : Value) : Prop := ∃ k : Nat, i = .int .i64 k ∧ k ≤ s.size ∧ Letters (s.data.toList.take k)

set_option maxHeartbeats 4000000 in
set_option maxRecDepth 100000 in
theorem targetPlain_in (w : World) (hn : TenIs w) (a0 a1 : ByteArray) (h0 : 0 < a0.size) (h1 : a0.size ≤ 60) (h2 : a1.size ≤ 40) :
    Calls Tryd.prog 8 #[.string a0, .string a1] w fun e w' => e = .returned (.bool true) ∧ Below w.heap.size w w' := by
  have ca := alive10_any w hn
  have HN := Lib.hid hn
  have fe := toList_empty h0
  have fe2 : (a0.toList == []) = false := by simpa using toList_ne h0
  clear hn
  go_enter Tryd.func8, Tryd.ntmps8
  go_wp2_with (go_at_call 9; refine ca.mono ?_; rintro e w1 ⟨rfl, b1⟩)
  go_loop [5] (fun i => LetRel a0 i) (fun i => a0.size - (intOf i).toNat)
  case atStart => exact ⟨0, rfl, Nat.zero_le _, by intro b hb; simp at hb⟩
  case round =>
    obtain ⟨k, rfl, hk, hL⟩ := hrel
    by_cases hp : k < a0.size
    · have hix := index_str a0 k k rfl hp
      by_cases hb : 97 ≤ a0[k].toNat ∧ a0[k].toNat ≤ 122
      · have HL := Lib.hid (letters_snoc hL hp hb.1 hb.2)
        obtain ⟨hb1, hb2⟩ := hb
        clear hL
        generalize a0[k] = b at *
        go_wp2
        go_round
        case rel => exact ⟨k + 1, by go_num, by omega, HL.out⟩
        case measure => simp [intOf]; omega
      · have hcase : a0[k].toNat < 97 ∨ 97 ≤ a0[k].toNat ∧ 122 < a0[k].toNat := by omega
        clear hL hb
        generalize a0[k] = b at *
        rcases hcase with hb | ⟨hb, hb2⟩
        all_goals
          go_wp2
          go_ret
          exact ⟨rfl, b1⟩
    · obtain rfl : k = a0.size := by omega
      rw [List.take_of_length_le (by simp)] at hL
      have hU : a0.data.toList ≠ [] := by
        intro e
        have := congrArg List.length e
        simp only [Array.length_toList, List.length_nil] at this
        exact absurd (show a0.size = 0 from this) (by omega)
      have hz : a0.data.toList.length = a0.size := by simp
      have z1 : ((a0 ++ (⟨#[32]⟩ : ByteArray)) ++ a1).size ≤ 1000 := by
        rw [ByteArray.size_append, ByteArray.size_append]; show a0.size + 1 + a1.size ≤ _; omega
      have z2 : ((((((⟨#[60]⟩ : ByteArray) ++ a0) ++ (⟨#[32]⟩ : ByteArray)) ++ a0) ++ (⟨#[62]⟩ : ByteArray)) ++ a1).size ≤ 1000 := by
        rw [ByteArray.size_append, ByteArray.size_append, ByteArray.size_append, ByteArray.size_append, ByteArray.size_append]; show 1 + a0.size + 1 + a0.size + 1 + a1.size ≤ _; omega
      have c1 := fun W hn => dest_any ((a0 ++ (⟨#[32]⟩ : ByteArray)) ++ a1) W hn (by omega)
      have c2 := fun W hn => dest_any ((((((⟨#[60]⟩ : ByteArray) ++ a0) ++ (⟨#[32]⟩ : ByteArray)) ++ a0) ++ (⟨#[62]⟩ : ByteArray)) ++ a1) W hn (by omega)
      have c3 := fun W hn => unescape_any a0 W hn (by omega)
      have c4 := fun W => encode_any a0 W (by omega)
      rw [show ((a0 ++ (⟨#[32]⟩ : ByteArray)) ++ a1).data.toList = a0.data.toList ++ 32 :: a1.data.toList from by simp, dest_letters hL hU] at c1
      rw [show ((((((⟨#[60]⟩ : ByteArray) ++ a0) ++ (⟨#[32]⟩ : ByteArray)) ++ a0) ++ (⟨#[62]⟩ : ByteArray)) ++ a1).data.toList = 60 :: (a0.data.toList ++ 32 :: (a0.data.toList ++ 62 :: a1.data.toList)) from by simp, dest_sharp hL] at c2
      rw [unL_letters hL] at c3
      rw [encL_letters hL] at c4
      unfold tib at c1 c2
      simp only [hz] at c1 c2
      rw [str_list] at c3 c4
      rw [str_list] at c1
      rw [show (⟨(a0.data.toList ++ 32 :: a0.data.toList).toArray⟩ : ByteArray) = (a0 ++ (⟨#[32]⟩ : ByteArray)) ++ a0 from by apply ByteArray.ext; apply Array.ext'; simp, show ((2 * a0.size + 3 : Nat) : Int) = 2 * (a0.size : Int) + 3 from by omega] at c2
      have C1 := Lib.hid c1
      have C2 := Lib.hid c2
      have C3 := Lib.hid c3
      have C4 := Lib.hid c4
      have r1 := fun W => run_string_add_sum (P := Tryd.prog) W a0 (⟨#[32]⟩ : ByteArray) (by show a0.size + 1 ≤ _; omega)
      clear c1 c2 c3 c4 hU hz hL
      go_wp2_with fail
      refine (C1.out _ (HN.out.below b1).1).mono ?_
      rintro e w2 ⟨rfl, b2⟩
      have q2 := b1.then b2
      go_wp2_with fail
      refine (C2.out _ (HN.out.below q2).1).mono ?_
      rintro e w3 ⟨rfl, b3⟩
      have q3 := q2.then b3
      go_wp2_with fail
      refine (C3.out _ (HN.out.below q3).1).mono ?_
      rintro e w4 ⟨rfl, b4⟩
      have q4 := q3.then b4
      go_wp2_with fail
      refine (C4.out _).mono ?_
      rintro e w5 ⟨rfl, b5⟩
      have q5 := q4.then b5
      go_wp2
      go_ret
      exact ⟨rfl, q5⟩

set_option maxHeartbeats 1000000 in
theorem targetPlain_walk (w : World) (hn : TenIs w) (a0 : ByteArray) (w0 : a0.size ≤ maxLen) (a1 : ByteArray) (w1 : a1.size ≤ maxLen) :
    Calls Tryd.prog 8 #[.string a0, .string a1] w fun e w' => e = .returned (.bool true) ∧ Below w.heap.size w w' := by
  unfold maxLen at w0 w1
  by_cases h : 0 < a0.size ∧ a0.size ≤ 60 ∧ a1.size ≤ 40
  · exact targetPlain_in w hn a0 a1 h.1 h.2.1 h.2.2
  · have ca := alive10_any w hn
    clear hn
    by_cases h0 : 0 < a0.size
    · have fe := toList_empty h0
      have fe2 : (a0.toList == []) = false := by simpa using toList_ne h0
      have hcase : 60 < a0.size ∨ a0.size ≤ 60 ∧ 40 < a1.size := by omega
      clear h
      rcases hcase with h1 | ⟨h1, h2⟩
      all_goals
        go_enter Tryd.func8, Tryd.ntmps8
        go_wp2_with (go_at_call 9; refine ca.mono ?_; rintro e w1 ⟨rfl, b1⟩)
        go_ret
        exact ⟨rfl, b1⟩
    · obtain rfl : a0 = ByteArray.empty := by
        have h1 : a0.data.toList = [] := List.eq_nil_of_length_eq_zero (by rw [show a0.data.toList.length = a0.size from by simp]; omega)
        rw [← str_list a0, h1]; rfl
      clear h h0
      go_enter Tryd.func8, Tryd.ntmps8
      go_wp2_with (go_at_call 9; refine ca.mono ?_; rintro e w1 ⟨rfl, b1⟩)
      go_ret
      exact ⟨rfl, b1⟩

end Go.Proofs.YtkldloglpbiioaaDoor
