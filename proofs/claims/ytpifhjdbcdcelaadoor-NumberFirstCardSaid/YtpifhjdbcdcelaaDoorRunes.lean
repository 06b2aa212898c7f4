/-
  Plain facts on bytes and runes: a list of bytes falls into chunks (a rune and its bytes, as the model's own reading finds them).
-/
import Derived.Lib.RuneBytes
import Derived.Laws.RangeAny
namespace Go.Proofs.YtpifhjdbcdcelaaDoor
set_option linter.unusedSimpArgs false
set_option linter.unusedVariables false

/-- A byte that goes on within a rune. -/
def goesOn (b : UInt8) : Bool := b.toNat / 64 == 2

/-- The model's reading of one rune, over a list. -/
def dec (l : List UInt8) : Nat × Nat :=
  let at' (k : Nat) : Nat := (l.getD k 0).toNat
  let cont (k : Nat) : Bool := k < l.length && at' k / 64 == 2
  let b0 := at' 0
  if b0 < 0x80 then (b0, 1)
  else if b0 / 32 == 6 && cont 1 then
    let c := (b0 % 32) * 64 + at' 1 % 64
    if c ≥ 0x80 then (c, 2) else (65533, 1)
  else if b0 / 16 == 14 && cont 1 && cont 2 then
    let c := (b0 % 16) * 4096 + (at' 1 % 64) * 64 + at' 2 % 64
    if c ≥ 0x800 && Utf8.valid c then (c, 3) else (65533, 1)
  else if b0 / 8 == 30 && cont 1 && cont 2 && cont 3 then
    let c := (b0 % 8) * 262144 + (at' 1 % 64) * 4096 + (at' 2 % 64) * 64 + at' 3 % 64
    if c ≥ 0x10000 && Utf8.valid c then (c, 4) else (65533, 1)
  else (65533, 1)

theorem get_drop (s : ByteArray) (i k : Nat) : s.get! (i + k) = (s.data.toList.drop i).getD k 0 := by
  rw [List.getD_eq_getElem?_getD, List.getElem?_drop]
  show s.data[i + k]! = _
  rw [Array.getElem!_eq_getD, Array.getD_eq_getD_getElem?]
  simp
  rfl
theorem size_drop (s : ByteArray) (i k : Nat) : (i + k < s.size) ↔ k < (s.data.toList.drop i).length := by
  have : s.data.toList.length = s.size := by simp
  rw [List.length_drop, this]
  omega
theorem decode_dec (s : ByteArray) (i : Nat) : Utf8.decode s i = dec (s.data.toList.drop i) := by
  unfold Utf8.decode dec
  simp only [get_drop, size_drop, Utf8.runeError]

/-- What goes on, at a list's beginning. -/
def run (l : List UInt8) : List UInt8 := l.takeWhile goesOn

theorem dec_one (b : UInt8) : dec [b] = if b.toNat < 128 then (b.toNat, 1) else (65533, 1) := by
  simp [dec]
theorem dec_ascii (b : UInt8) (l : List UInt8) (h : b.toNat < 128) : dec (b :: l) = (b.toNat, 1) := by
  simp [dec, h]

/-- A rune hangs on its first byte and on what goes on behind it, alone. -/
theorem dec_run (b : UInt8) (l : List UInt8) : dec (b :: l) = dec (b :: run l) := by
  have hc : ∀ x : UInt8, goesOn x = true ↔ x.toNat / 64 = 2 := fun x => by simp [goesOn]
  match l with
  | [] => rfl
  | x :: l1 =>
    by_cases hx : goesOn x = true
    · have ex := (hc x).1 hx
      match l1 with
      | [] => simp [run, hx]
      | y :: l2 =>
        by_cases hy : goesOn y = true
        · have ey := (hc y).1 hy
          match l2 with
          | [] => simp [run, hx, hy]
          | z :: l3 =>
            by_cases hz : goesOn z = true
            · have ez := (hc z).1 hz
              simp [run, hx, hy, hz, dec]
            · have ez : ¬ z.toNat / 64 = 2 := fun e => hz ((hc z).2 e)
              simp [run, hx, hy, hz, dec, ez]
        · have ey : ¬ y.toNat / 64 = 2 := fun e => hy ((hc y).2 e)
          simp [run, hx, hy, dec, ey]
    · have ex : ¬ x.toNat / 64 = 2 := fun e => hx ((hc x).2 e)
      simp [run, hx, dec, ex]

theorem dec_width (b : UInt8) (l : List UInt8) : 1 ≤ (dec (b :: l)).2 ∧ (dec (b :: l)).2 ≤ l.length + 1 := by
  unfold dec
  simp only [List.length_cons]
  split
  · simp
  · split
    · rename_i h
      simp at h
      split
      · simp; omega
      · simp
    · split
      · rename_i h
        simp at h
        split
        · simp; omega
        · simp
      · split
        · rename_i h
          simp at h
          split
          · simp; omega
          · simp
        · simp

theorem valid_of (c : Nat) (h : c < 55296 ∨ (57344 ≤ c ∧ c ≤ 1114111)) : Utf8.valid c = true := by
  simp [Utf8.valid]; omega
theorem of_valid (c : Nat) (h : Utf8.valid c = true) : c < 55296 ∨ (57344 ≤ c ∧ c ≤ 1114111) := by
  simp [Utf8.valid] at h; omega

theorem dec_valid (l : List UInt8) : Utf8.valid (dec l).1 = true := by
  unfold dec
  dsimp only
  split
  · exact valid_of _ (by omega)
  · split
    · split
      · exact valid_of _ (by omega)
      · exact valid_of _ (by omega)
    · split
      · split
        · rename_i h; simp at h; exact h.2
        · exact valid_of _ (by omega)
      · split
        · split
          · rename_i h; simp at h; exact h.2
          · exact valid_of _ (by omega)
        · exact valid_of _ (by omega)

/-! ### Chunks -/
def segsF : Nat → List UInt8 → List (Nat × List UInt8)
  | 0, _ => []
  | _ + 1, [] => []
  | f + 1, b :: l => ((dec (b :: l)).1, (b :: l).take (dec (b :: l)).2) :: segsF f ((b :: l).drop (dec (b :: l)).2)
def segs (l : List UInt8) : List (Nat × List UInt8) := segsF l.length l

theorem segsF_more : ∀ (f g : Nat) (l : List UInt8), l.length ≤ f → l.length ≤ g → segsF f l = segsF g l
  | 0, 0, _, _, _ => rfl
  | 0, g + 1, [], _, _ => rfl
  | f + 1, 0, [], _, _ => rfl
  | f + 1, g + 1, [], _, _ => rfl
  | f + 1, g + 1, b :: l, hf, hg => by
    have hw := dec_width b l
    simp only [List.length_cons] at hf hg
    simp only [segsF]
    rw [segsF_more f g _ (by rw [List.length_drop, List.length_cons]; omega) (by rw [List.length_drop, List.length_cons]; omega)]
theorem segs_nil : segs [] = [] := rfl
theorem segs_cons (b : UInt8) (l : List UInt8) : segs (b :: l) = ((dec (b :: l)).1, (b :: l).take (dec (b :: l)).2) :: segs ((b :: l).drop (dec (b :: l)).2) := by
  have hw := dec_width b l
  show segsF (l.length + 1) (b :: l) = _
  simp only [segsF, segs]
  rw [segsF_more _ _ _ (by rw [List.length_drop, List.length_cons]; omega) (Nat.le_refl _)]

/-- Nothing goes on at this list's beginning. -/
def fresh (m : List UInt8) : Prop := ∀ x ∈ m.head?, goesOn x = false
theorem fresh_nil : fresh [] := by simp [fresh]
theorem fresh_cons (x : UInt8) (m : List UInt8) (h : goesOn x = false) : fresh (x :: m) := by simp [fresh, h]
theorem run_fresh {m : List UInt8} (h : fresh m) : run m = [] := by
  cases m with
  | nil => rfl
  | cons x m => simp [run, h x (by simp)]
theorem run_append {l m : List UInt8} (h : fresh m) : run (l ++ m) = run l := by
  induction l with
  | nil => rw [List.nil_append, run_fresh h]; rfl
  | cons x l ih =>
    unfold run at ih ⊢
    simp only [List.cons_append, List.takeWhile_cons]
    rw [ih]
theorem dec_append (b : UInt8) (l : List UInt8) {m : List UInt8} (h : fresh m) : dec (b :: (l ++ m)) = dec (b :: l) := by
  rw [dec_run, run_append h, ← dec_run]

theorem segs_append {m : List UInt8} (h : fresh m) : ∀ (n : Nat) (l : List UInt8), l.length ≤ n → segs (l ++ m) = segs l ++ segs m
  | _, [], _ => by simp [segs_nil]
  | n + 1, b :: l, hn => by
    have hw := dec_width b l
    simp only [List.length_cons] at hn
    rw [segs_cons b l]
    show segs (b :: (l ++ m)) = _
    rw [segs_cons b (l ++ m), dec_append b l h]
    have e1 : (b :: (l ++ m)).take (dec (b :: l)).2 = (b :: l).take (dec (b :: l)).2 := by
      rw [← List.cons_append, List.take_append_of_le_length (by rw [List.length_cons]; omega)]
    have e2 : (b :: (l ++ m)).drop (dec (b :: l)).2 = (b :: l).drop (dec (b :: l)).2 ++ m := by
      rw [← List.cons_append, List.drop_append_of_le_length (by rw [List.length_cons]; omega)]
    rw [e1, e2, segs_append h n _ (by rw [List.length_drop, List.length_cons]; omega)]
    rfl
theorem segs_app (l : List UInt8) {m : List UInt8} (h : fresh m) : segs (l ++ m) = segs l ++ segs m := segs_append h l.length l (Nat.le_refl _)

/-! ### A rune's own bytes -/
theorem u8 (n : Nat) (h : n < 256) : (n.toUInt8).toNat = n := by simp; omega

theorem enc1 (n : Nat) (h : n < 128) : Lib.encodeRune n = [n.toUInt8] := by
  unfold Lib.encodeRune
  rw [Lib.encodeRuneZ_one (by omega) (by omega)]
  simp
theorem enc2 (n : Nat) (h : 128 ≤ n) (h2 : n < 2048) : Lib.encodeRune n = [(192 + n / 64).toUInt8, (128 + n % 64).toUInt8] := by
  unfold Lib.encodeRune
  rw [Lib.encodeRuneZ_two (by omega) (by omega)]
  simp only [List.map_cons, List.map_nil]
  rw [show (192 + (n : Int) / 64).toNat = 192 + n / 64 from by omega, show (128 + (n : Int) % 64).toNat = 128 + n % 64 from by omega]
theorem enc3 (n : Nat) (h : (2048 ≤ n ∧ n < 55296) ∨ (57344 ≤ n ∧ n < 65536)) : Lib.encodeRune n = [(224 + n / 4096).toUInt8, (128 + n / 64 % 64).toUInt8, (128 + n % 64).toUInt8] := by
  unfold Lib.encodeRune
  rw [Lib.encodeRuneZ_three (by omega)]
  simp only [List.map_cons, List.map_nil]
  rw [show (224 + (n : Int) / 4096).toNat = 224 + n / 4096 from by omega, show (128 + (n : Int) / 64 % 64).toNat = 128 + n / 64 % 64 from by omega, show (128 + (n : Int) % 64).toNat = 128 + n % 64 from by omega]
theorem enc4 (n : Nat) (h : 65536 ≤ n) (h2 : n ≤ 1114111) : Lib.encodeRune n = [(240 + n / 262144).toUInt8, (128 + n / 4096 % 64).toUInt8, (128 + n / 64 % 64).toUInt8, (128 + n % 64).toUInt8] := by
  unfold Lib.encodeRune
  rw [Lib.encodeRuneZ_four (by omega) (by omega)]
  simp only [List.map_cons, List.map_nil]
  rw [show (240 + (n : Int) / 262144).toNat = 240 + n / 262144 from by omega, show (128 + (n : Int) / 4096 % 64).toNat = 128 + n / 4096 % 64 from by omega, show (128 + (n : Int) / 64 % 64).toNat = 128 + n / 64 % 64 from by omega, show (128 + (n : Int) % 64).toNat = 128 + n % 64 from by omega]

theorem dec_enc (n : Nat) (hv : Utf8.valid n = true) (m : List UInt8) : dec (Lib.encodeRune n ++ m) = (n, (Lib.encodeRune n).length) := by
  have hv' := of_valid n hv
  by_cases h1 : n < 128
  · rw [enc1 n h1]
    show dec (_ :: m) = _
    rw [dec_ascii _ _ (by rw [u8 _ (by omega)]; exact h1), u8 _ (by omega)]
    rfl
  · by_cases h2 : n < 2048
    · rw [enc2 n (by omega) h2]
      have a := u8 (192 + n / 64) (by omega)
      have b := u8 (128 + n % 64) (by omega)
      generalize (192 + n / 64).toUInt8 = x at *
      generalize (128 + n % 64).toUInt8 = y at *
      simp only [dec, List.cons_append, List.nil_append, List.getD_cons_zero, List.getD_cons_succ, List.length_cons, List.length_nil, a, b]
      have e : (192 + n / 64) % 32 * 64 + (128 + n % 64) % 64 = n := by omega
      rw [if_neg (by omega), if_pos (by simp; omega), e, if_pos (by omega)]
    · by_cases h3 : n < 65536
      · rw [enc3 n (by omega)]
        have a := u8 (224 + n / 4096) (by omega)
        have b := u8 (128 + n / 64 % 64) (by omega)
        have c := u8 (128 + n % 64) (by omega)
        generalize (224 + n / 4096).toUInt8 = x at *
        generalize (128 + n / 64 % 64).toUInt8 = y at *
        generalize (128 + n % 64).toUInt8 = z at *
        simp only [dec, List.cons_append, List.nil_append, List.getD_cons_zero, List.getD_cons_succ, List.length_cons, List.length_nil, a, b, c]
        have e : (224 + n / 4096) % 16 * 4096 + (128 + n / 64 % 64) % 64 * 64 + (128 + n % 64) % 64 = n := by omega
        rw [if_neg (by omega), if_neg (by simp; omega), if_pos (by simp; omega), e, if_pos (by simp [hv]; omega)]
      · rw [enc4 n (by omega) (by omega)]
        have a := u8 (240 + n / 262144) (by omega)
        have b := u8 (128 + n / 4096 % 64) (by omega)
        have c := u8 (128 + n / 64 % 64) (by omega)
        have d := u8 (128 + n % 64) (by omega)
        generalize (240 + n / 262144).toUInt8 = x at *
        generalize (128 + n / 4096 % 64).toUInt8 = y at *
        generalize (128 + n / 64 % 64).toUInt8 = z at *
        generalize (128 + n % 64).toUInt8 = u at *
        simp only [dec, List.cons_append, List.nil_append, List.getD_cons_zero, List.getD_cons_succ, List.length_cons, List.length_nil, a, b, c, d]
        have e : (240 + n / 262144) % 8 * 262144 + (128 + n / 4096 % 64) % 64 * 4096 + (128 + n / 64 % 64) % 64 * 64 + (128 + n % 64) % 64 = n := by omega
        rw [if_neg (by omega), if_neg (by simp; omega), if_neg (by simp; omega), if_pos (by simp; omega), e, if_pos (by simp [hv]; omega)]

theorem enc_ne (n : Int) : Lib.encodeRune n ≠ [] := by
  intro h
  have := Lib.encodeRuneZ_length n
  have h2 : (Lib.encodeRune n).length = 0 := by rw [h]; rfl
  simp [Lib.encodeRune] at h2
  rw [h2] at this
  simp at this
theorem segs_enc (n : Nat) (hv : Utf8.valid n = true) (m : List UInt8) : segs (Lib.encodeRune n ++ m) = (n, Lib.encodeRune n) :: segs m := by
  have hd := dec_enc n hv m
  match h : Lib.encodeRune n with
  | [] => exact absurd h (enc_ne _)
  | x :: l =>
    rw [h] at hd
    rw [List.cons_append, segs_cons, ← List.cons_append, hd]
    simp

end Go.Proofs.YtpifhjdbcdcelaaDoor
