/-
  Text and Fold over chunks, and what is so of them: what was made text stays so; what was folded stays so; blanks around, and between, do not matter.
-/
import Derived.Test.YtpifhjdbcdcelaaDoorRepairB
import Derived.Test.YtpifhjdbcdcelaaDoorRunes
namespace Go.Proofs.YtpifhjdbcdcelaaDoor
open Go.RowKit
set_option linter.unusedSimpArgs false
set_option linter.unusedVariables false

/-! ### Text -/
def textS : List (Nat × List UInt8) → Int → List UInt8
  | [], _ => []
  | c :: cs, last => textOne c.1 last ++ textS cs c.1

theorem drop_cons (s : ByteArray) (pos : Nat) (h : pos < s.size) : ∃ b l, s.data.toList.drop pos = b :: l := by
  have : pos < s.data.toList.length := by simpa using h
  exact ⟨_, _, List.drop_eq_getElem_cons this⟩
theorem textFrom_segs (s : ByteArray) : ∀ (fuel pos : Nat) (last : Int), s.size ≤ pos + fuel → textFrom s fuel pos last = textS (segs (s.data.toList.drop pos)) last
  | 0, pos, last, h => by
    rw [List.drop_eq_nil_of_le (by simpa using h)]; rfl
  | f + 1, pos, last, h => by
    by_cases hp : pos < s.size
    · have hw := width_pos s pos hp
      have ih := textFrom_segs s f (pos + (Utf8.decode s pos).2) (Utf8.decode s pos).1 (by omega)
      simp only [textFrom, if_pos hp]
      rw [ih]
      obtain ⟨b, l, e⟩ := drop_cons s pos hp
      rw [e, segs_cons, ← e, ← decode_dec, List.drop_drop]
      rfl
    · rw [textFrom_end s _ _ _ hp, List.drop_eq_nil_of_le (by simpa using hp)]; rfl
def textL (l : List UInt8) : List UInt8 := textS (segs l) 0
theorem textB_segs (s : ByteArray) : textB s = textL s.data.toList := by
  unfold textB textL
  rw [textFrom_segs s _ _ _ (by omega)]
  rfl

/-- The runes that a text has. -/
def textR : List Nat → Nat → List Nat
  | [], _ => []
  | r :: rs, last => (if r = 10 ∧ last = 13 then [] else if r = 13 then [10] else if r = 0 then [65533] else [r]) ++ textR rs r
def encs (rs : List Nat) : List UInt8 := rs.flatMap fun r : Nat => Lib.encodeRune r
theorem encs_append (a b : List Nat) : encs (a ++ b) = encs a ++ encs b := by simp [encs]
theorem encs_cons (a : Nat) (b : List Nat) : encs (a :: b) = Lib.encodeRune a ++ encs b := by simp [encs]
theorem textS_R : ∀ (cs : List (Nat × List UInt8)) (last : Nat), textS cs last = encs (textR (cs.map Prod.fst) last)
  | [], _ => rfl
  | c :: cs, last => by
    have ih := textS_R cs c.1
    simp only [textS, List.map_cons, textR, encs_append, ih]
    congr 1
    unfold textOne
    by_cases h1 : c.1 = 10 ∧ last = 13
    · rw [if_pos (by omega), if_pos h1]; rfl
    · rw [if_neg (by omega), if_neg h1]
      by_cases h2 : c.1 = 13
      · rw [if_pos (by omega), if_pos h2]; decide +kernel
      · rw [if_neg (by omega), if_neg h2]
        by_cases h3 : c.1 = 0
        · rw [if_pos (by omega), if_pos h3]; simp [encs]
        · rw [if_neg (by omega), if_neg h3]; simp [encs]
theorem textR_good : ∀ (rs : List Nat) (last : Nat), (∀ r ∈ rs, Utf8.valid r = true) → ∀ r ∈ textR rs last, Utf8.valid r = true ∧ r ≠ 0 ∧ r ≠ 13
  | [], _, _ => by simp [textR]
  | x :: rs, last, h => by
    intro r hr
    simp only [textR, List.mem_append] at hr
    rcases hr with hr | hr
    · split at hr
      · simp at hr
      · split at hr
        · simp at hr; subst hr; decide
        · split at hr
          · simp at hr; subst hr; decide
          · simp at hr; subst hr; exact ⟨h _ (by simp), by assumption, by assumption⟩
    · exact textR_good rs x (fun y hy => h y (by simp [hy])) r hr
theorem textR_id : ∀ (rs : List Nat) (last : Nat), (∀ r ∈ rs, r ≠ 0 ∧ r ≠ 13) → last ≠ 13 → textR rs last = rs
  | [], _, _, _ => rfl
  | x :: rs, last, h, hl => by
    have hx := h x (by simp)
    simp only [textR]
    rw [if_neg (by omega), if_neg hx.2, if_neg hx.1, textR_id rs x (fun y hy => h y (by simp [hy])) hx.2]
    rfl
theorem segs_encs : ∀ (rs : List Nat), (∀ r ∈ rs, Utf8.valid r = true) → segs (encs rs) = rs.map fun r : Nat => (r, Lib.encodeRune (r : Int))
  | [], _ => rfl
  | x :: rs, h => by
    rw [encs_cons, segs_enc x (h x (by simp)), segs_encs rs (fun y hy => h y (by simp [hy]))]
    rfl
theorem segs_valid : ∀ (n : Nat) (l : List UInt8), l.length ≤ n → ∀ c ∈ segs l, Utf8.valid c.1 = true
  | _, [], _ => by simp [segs_nil]
  | n + 1, b :: l, hn => by
    have hw := dec_width b l
    simp only [List.length_cons] at hn
    rw [segs_cons]
    intro c hc
    rw [List.mem_cons] at hc
    rcases hc with rfl | hc
    · exact dec_valid _
    · exact segs_valid n _ (by rw [List.length_drop, List.length_cons]; omega) c hc
theorem runes_valid (l : List UInt8) : ∀ r ∈ (segs l).map Prod.fst, Utf8.valid r = true := by
  intro r hr
  obtain ⟨c, hc, rfl⟩ := List.mem_map.1 hr
  exact segs_valid l.length l (Nat.le_refl _) c hc
theorem textL_R (l : List UInt8) : textL l = encs (textR ((segs l).map Prod.fst) 0) := textS_R _ 0
theorem textL_encs (rs : List Nat) (h : ∀ r ∈ rs, Utf8.valid r = true ∧ r ≠ 0 ∧ r ≠ 13) : textL (encs rs) = encs rs := by
  rw [textL_R, segs_encs rs (fun r hr => (h r hr).1), List.map_map]
  have : (rs.map (Prod.fst ∘ fun r : Nat => (r, Lib.encodeRune (r : Int)))) = rs := by
    rw [show (Prod.fst ∘ fun r : Nat => (r, Lib.encodeRune (r : Int))) = id from rfl, List.map_id]
  rw [this, textR_id rs 0 (fun r hr => (h r hr).2) (by omega)]
theorem textL_twice (l : List UInt8) : textL (textL l) = textL l := by
  rw [textL_R l]
  exact textL_encs _ (textR_good _ 0 (runes_valid l))
theorem enc_bytes (n : Nat) (hv : Utf8.valid n = true) (h0 : n ≠ 0) (h13 : n ≠ 13) : ∀ b ∈ Lib.encodeRune n, b ≠ 0 ∧ b ≠ 13 := by
  have big : ∀ x : Nat, 128 ≤ x → x < 256 → x.toUInt8 ≠ 0 ∧ x.toUInt8 ≠ 13 := by
    intro x h1 h2
    have := u8 x h2
    constructor <;> intro e <;> rw [e] at this <;> simp at this <;> omega
  have hv' := of_valid n hv
  by_cases h1 : n < 128
  · rw [enc1 n h1]
    intro b hb
    rw [List.mem_singleton] at hb
    subst hb
    have := u8 n (by omega)
    constructor <;> intro e <;> rw [e] at this <;> simp at this <;> omega
  · by_cases h2 : n < 2048
    · rw [enc2 n (by omega) h2]
      intro b hb
      simp only [List.mem_cons, List.not_mem_nil, or_false] at hb
      rcases hb with rfl | rfl
      · exact big _ (by omega) (by omega)
      · exact big _ (by omega) (by omega)
    · by_cases h3 : n < 65536
      · rw [enc3 n (by omega)]
        intro b hb
        simp only [List.mem_cons, List.not_mem_nil, or_false] at hb
        rcases hb with rfl | rfl | rfl
        · exact big _ (by omega) (by omega)
        · exact big _ (by omega) (by omega)
        · exact big _ (by omega) (by omega)
      · rw [enc4 n (by omega) (by omega)]
        intro b hb
        simp only [List.mem_cons, List.not_mem_nil, or_false] at hb
        rcases hb with rfl | rfl | rfl | rfl
        · exact big _ (by omega) (by omega)
        · exact big _ (by omega) (by omega)
        · exact big _ (by omega) (by omega)
        · exact big _ (by omega) (by omega)
theorem textL_bytes (l : List UInt8) : ∀ b ∈ textL l, b ≠ 0 ∧ b ≠ 13 := by
  rw [textL_R]
  intro b hb
  obtain ⟨r, hr, hbr⟩ := List.mem_flatMap.1 hb
  have := textR_good _ 0 (runes_valid l) r hr
  exact enc_bytes r this.1 this.2.1 this.2.2 b hbr

theorem segs_len : ∀ (n : Nat) (l : List UInt8), l.length ≤ n → (segs l).length ≤ l.length
  | _, [], _ => by simp [segs_nil]
  | n + 1, b :: l, hn => by
    have hw := dec_width b l
    simp only [List.length_cons] at hn
    rw [segs_cons]
    have := segs_len n ((b :: l).drop (dec (b :: l)).2) (by rw [List.length_drop, List.length_cons]; omega)
    rw [List.length_drop, List.length_cons] at this
    simp only [List.length_cons]
    omega
theorem textS_len : ∀ (cs : List (Nat × List UInt8)) (last : Int), (textS cs last).length ≤ 4 * cs.length
  | [], _ => by simp [textS]
  | c :: cs, last => by
    have h1 := textOne_le c.1 last
    have h2 := textS_len cs c.1
    simp only [textS, List.length_append, List.length_cons]
    omega
theorem textL_len (l : List UInt8) : (textL l).length ≤ 4 * l.length := by
  have h1 := textS_len (segs l) 0
  have h2 := segs_len l.length l (Nat.le_refl _)
  unfold textL
  omega

end Go.Proofs.YtpifhjdbcdcelaaDoor
