/-
  Plain facts of the layer target: what a text is without backslashes and entities; where a destination ends, and a title; both between brackets; which urls are safe; what is encoded.
-/
import Derived.Test.YtioolcnoiaoflaaGreatDoorEntP
import Derived.Test.YtioolcnoiaoflaaGreatDoorAsc
import Derived.Test.YtioolcnoiaoflaaGreatDoorRunes
import Derived.Laws.Cover4
namespace Go.Proofs.YtioolcnoiaoflaaGreatDoor
open Go.RowKit
set_option linter.unusedSimpArgs false
set_option linter.unusedVariables false

def tgHid (r : Int) : Bool := decide (r ≤ 32) || r == 127
def lowI (r : Int) : Int := if inR r 65 90 then r + 32 else r
def blkB (r : Int) : Bool := r == 32 || r == 9 || r == 10
def hasB (l : List UInt8) (r : Int) : Bool := l.any fun b => (b.toNat : Int) == r
def staysL : List UInt8 := [45, 46, 95, 126, 58, 47, 63, 35, 64, 33, 36, 38, 39, 40, 41, 42, 43, 44, 59, 61, 37]
def stayB (r : Int) : Bool := inR (lowI r) 97 122 || inR (lowI r) 48 57 || hasB staysL (lowI r)

/-- What a text begins with by a backslash, or as an entity, and how many bytes it has. -/
def escL (l : List UInt8) : List UInt8 × Nat :=
  if 1 < l.length ∧ (l.getD 0 0).toNat = 92 ∧ asciiB (l.getD 1 0).toNat = true then ([l.getD 1 0], 2) else ((atL l).1.data.toList, (atL l).2)
def unF : Nat → List UInt8 → List UInt8
  | 0, _ => []
  | _ + 1, [] => []
  | f + 1, b :: l => if 0 < (escL (b :: l)).2 then (escL (b :: l)).1 ++ unF f ((b :: l).drop (escL (b :: l)).2) else b :: unF f l
def unL (l : List UInt8) : List UInt8 := unF l.length l

/-- Where the sign c stands that closes. -/
def btwGo (c : UInt8) (never : List UInt8) : List UInt8 → Bool → Nat → Option Nat
  | [], _, _ => none
  | b :: l, bh, i => if b.toNat = 0 then none else if bh then btwGo c never l false (i + 1) else if b.toNat = 92 then btwGo c never l true (i + 1) else if b = c then some i else if b ∈ never then none else btwGo c never l false (i + 1)
def btwL (c : UInt8) (never : List UInt8) (l : List UInt8) : List UInt8 × Nat × Bool :=
  match btwGo c never (l.drop 1) false 1 with
  | none => ([], 0, false)
  | some i => (unL ((l.take i).drop 1), i + 1, true)

/-- How many bytes a destination has, and how many brackets are left open. -/
def bareGo : List UInt8 → Nat → Bool → Nat → Nat × Nat
  | [], o, _, i => (i, o)
  | b :: l, o, bh, i =>
    if tgHid b.toNat || (b.toNat == 41 && o == 0 && !bh) then (i, o)
    else if bh then bareGo l o false (i + 1) else if b.toNat = 92 then bareGo l o true (i + 1) else if b.toNat = 40 then bareGo l (o + 1) false (i + 1) else if b.toNat = 41 then bareGo l (o - 1) false (i + 1) else bareGo l o false (i + 1)
def bareL (l : List UInt8) : Nat := if 0 < (bareGo l 0 false 0).2 then 0 else (bareGo l 0 false 0).1

def destL (l : List UInt8) : List UInt8 × Nat × Bool :=
  if Lib.hasPrefix l [60] then btwL 62 [60, 10] l else (unL (l.take (bareL l)), bareL l, decide (0 < bareL l))
def titleL (l : List UInt8) : List UInt8 × Nat × Bool :=
  if Lib.hasPrefix l [34] then btwL 34 [] l else if Lib.hasPrefix l [39] then btwL 39 [] l else if Lib.hasPrefix l [40] then btwL 41 [40] l else ([], 0, false)
/-- Where blanks end that stand in a text from a byte on. -/
def behL (l : List UInt8) (k : Nat) : Nat := k + ((l.drop k).takeWhile fun b => blkB b.toNat).length
def shutL (l url title : List UInt8) (k : Nat) : List UInt8 × List UInt8 × Nat × Bool :=
  if Lib.hasPrefix (l.drop k) [41] then (url, title, k + 1, true) else ([], [], 0, false)
def insL2 (l url : List UInt8) (k : Nat) : List UInt8 × List UInt8 × Nat × Bool :=
  if blkB (l.getD (k - 1) 0).toNat then shutL l url (titleL (l.drop k)).1 (behL l (k + (titleL (l.drop k)).2.1)) else shutL l url [] k
def insideL (l : List UInt8) : List UInt8 × List UInt8 × Nat × Bool :=
  if Lib.hasPrefix l [40] then insL2 l (destL (l.drop (behL l 1))).1 (behL l (behL l 1 + (destL (l.drop (behL l 1))).2.1)) else ([], [], 0, false)

/-- Whether a url begins with a scheme. -/
def begL : List UInt8 → List UInt8 → Bool
  | _, [] => true
  | [], _ :: _ => false
  | b :: l, c :: sc => if tgHid b.toNat then begL l (c :: sc) else if lowI b.toNat = c.toNat then begL l sc else false
def barredL : List (List UInt8) := [[106, 97, 118, 97, 115, 99, 114, 105, 112, 116, 58], [118, 98, 115, 99, 114, 105, 112, 116, 58], [102, 105, 108, 101, 58], [100, 97, 116, 97, 58]]
def safeL (l : List UInt8) : Bool := !barredL.any fun sc => begL l sc

def hexL : List UInt8 := [48, 49, 50, 51, 52, 53, 54, 55, 56, 57, 65, 66, 67, 68, 69, 70]
def hexU (k : Nat) : UInt8 := hexL.getD k 0
def pctB (b : UInt8) : List UInt8 := [37, hexU (b.toNat / 16), hexU (b.toNat % 16)]
def encB (b : UInt8) : List UInt8 := if stayB b.toNat then [b] else pctB b
def encL (l : List UInt8) : List UInt8 := l.flatMap encB

/-! ### Entities: where they end, how long their texts are -/
theorem numGo_at {base : Int} {most : Nat} : ∀ (l : List UInt8) (i : Nat) (v u : Int) (j : Nat), numGo base most l i v = some (u, j) → ∃ d, j = i + d ∧ d < l.length ∧ (l.getD d 0).toNat = 59
  | [], _, _, _, _, h => by simp [numGo] at h
  | b :: l, i, v, u, j, h => by
    rw [numGo] at h
    split at h
    · rename_i h1
      simp at h
      exact ⟨0, by omega, by simp, by simpa using h1.1⟩
    · split at h
      · cases h
      · obtain ⟨d, e1, e2, e3⟩ := numGo_at l _ _ _ _ h
        exact ⟨d + 1, by omega, by simpa using e2, by simpa using e3⟩
theorem nameGo_at : ∀ (l : List UInt8) (i j : Nat), nameGo l i = some j → ∃ d, j = i + d ∧ d < l.length ∧ (l.getD d 0).toNat = 59
  | [], _, _, h => by simp [nameGo] at h
  | b :: l, i, j, h => by
    rw [nameGo] at h
    split at h
    · rename_i h1
      simp at h
      exact ⟨0, by omega, by simp, by simpa using h1⟩
    · split at h
      · obtain ⟨d, e1, e2, e3⟩ := nameGo_at l _ _ h
        exact ⟨d + 1, by omega, by simpa using e2, by simpa using e3⟩
      · cases h
theorem encode_le (v : Int) : (Utf8.encode v).data.toList.length ≤ 4 := by
  have := encode_size_le v
  simpa using this
theorem getD_drop (l : List UInt8) (f d : Nat) : (l.drop f).getD d 0 = l.getD (f + d) 0 := by
  simp [List.getD_eq_getElem?_getD]
/-- What is so of the entity that a text begins with. -/
def EntOk (l : List UInt8) (x : ByteArray × Nat) : Prop := x.1.data.toList.length ≤ 4 ∧ (0 < x.2 → x.2 ≤ l.length ∧ (l.getD (x.2 - 1) 0).toNat = 59)
theorem numAt_ok (base : Int) (f most : Nat) (l : List UInt8) : EntOk l (numAt base f most l) := by
  unfold numAt
  split
  · exact ⟨by simp, by simp⟩
  · rename_i v i h
    obtain ⟨d, rfl, e2, e3⟩ := numGo_at _ _ _ _ _ h
    rw [List.length_drop] at e2
    refine ⟨?_, fun _ => ⟨by simp; omega, ?_⟩⟩
    · unfold chrB
      split <;> exact encode_le _
    · rw [getD_drop] at e3
      rw [show f + (0 + d) + 1 - 1 = f + d from by omega]
      exact e3
theorem named_short : ∀ e ∈ namedL, e.2.length ≤ 4 := by decide +kernel
theorem lookL_short {l t : List UInt8} (h : lookL l = some t) : t.length ≤ 4 := by
  unfold lookL at h
  rw [Option.map_eq_some_iff] at h
  obtain ⟨e, h1, rfl⟩ := h
  exact named_short e (List.mem_of_find?_eq_some h1)
theorem nameAt_ok (l : List UInt8) : EntOk l (nameAt l) := by
  unfold nameAt
  split
  · exact ⟨by simp, by simp⟩
  · rename_i i h
    obtain ⟨d, rfl, e2, e3⟩ := nameGo_at _ _ _ h
    rw [List.length_drop] at e2
    unfold nameOf
    split
    · exact ⟨by simp, by simp⟩
    · rename_i t ht
      refine ⟨by simpa using lookL_short ht, fun _ => ⟨by simp; omega, ?_⟩⟩
      rw [getD_drop] at e3
      rw [show 1 + (0 + d) + 1 - 1 = 1 + d from by omega]
      exact e3
theorem atL_ok (l : List UInt8) : EntOk l (atL l) := by
  unfold atL
  split
  · exact numAt_ok _ _ _ _
  · split
    · exact numAt_ok _ _ _ _
    · split
      · exact numAt_ok _ _ _ _
      · split
        · exact nameAt_ok _
        · exact ⟨by simp, by simp⟩
theorem atL_none {b : UInt8} {l : List UInt8} (h : b.toNat ≠ 38) : atL (b :: l) = (ByteArray.empty, 0) := by
  have hb : b ≠ 38 := by intro e; subst e; exact h rfl
  have hb2 : ¬ (38 : UInt8) = b := fun e => hb e.symm
  unfold atL
  simp [Lib.hasPrefix, hb2]

/-! ### Texts without backslashes and entities -/
theorem asciiB_low {r : Int} (h : asciiB r = true) : r < 128 := by
  simp [asciiB, inB] at h; omega
theorem escL_ok (l : List UInt8) : (escL l).1.length ≤ 4 ∧ (0 < (escL l).2 → (escL l).2 ≤ l.length ∧ (l.getD ((escL l).2 - 1) 0).toNat < 128) := by
  unfold escL
  split
  · rename_i h
    refine ⟨by simp, fun _ => ⟨by show 2 ≤ _; omega, ?_⟩⟩
    have := asciiB_low h.2.2
    show (l.getD 1 0).toNat < 128
    omega
  · have h := atL_ok l
    refine ⟨h.1, fun h0 => ⟨(h.2 h0).1, ?_⟩⟩
    have := (h.2 h0).2
    show (l.getD ((atL l).2 - 1) 0).toNat < 128
    omega
theorem escL_none {b : UInt8} {l : List UInt8} (h1 : b.toNat ≠ 92) (h2 : b.toNat ≠ 38) : (escL (b :: l)).2 = 0 := by
  unfold escL
  rw [if_neg (by simp [h1]), atL_none h2]
theorem unF_more : ∀ (f g : Nat) (l : List UInt8), l.length ≤ f → l.length ≤ g → unF f l = unF g l
  | 0, 0, _, _, _ => rfl
  | 0, g + 1, [], _, _ => rfl
  | f + 1, 0, [], _, _ => rfl
  | f + 1, g + 1, [], _, _ => rfl
  | f + 1, g + 1, b :: l, hf, hg => by
    simp only [List.length_cons] at hf hg
    simp only [unF]
    split
    · rename_i h0
      rw [unF_more f g _ (by rw [List.length_drop, List.length_cons]; omega) (by rw [List.length_drop, List.length_cons]; omega)]
    · rw [unF_more f g _ (by omega) (by omega)]
theorem unL_nil : unL [] = [] := rfl
theorem unL_esc {b : UInt8} {l : List UInt8} (h : 0 < (escL (b :: l)).2) : unL (b :: l) = (escL (b :: l)).1 ++ unL ((b :: l).drop (escL (b :: l)).2) := by
  unfold unL
  simp only [List.length_cons, unF]
  rw [if_pos h, unF_more _ _ _ (by rw [List.length_drop, List.length_cons]; omega) (Nat.le_refl _)]
theorem unL_byte {b : UInt8} {l : List UInt8} (h : (escL (b :: l)).2 = 0) : unL (b :: l) = b :: unL l := by
  unfold unL
  simp only [List.length_cons, unF]
  rw [if_neg (by omega)]
theorem unL_high : ∀ (m l : List UInt8), (∀ b ∈ m, 128 ≤ b.toNat) → unL (m ++ l) = m ++ unL l
  | [], _, _ => rfl
  | b :: m, l, h => by
    have hb := h b (by simp)
    rw [List.cons_append, unL_byte (escL_none (by omega) (by omega)), unL_high m l (fun x hx => h x (by simp [hx]))]
    rfl
theorem unL_len : ∀ (n : Nat) (l : List UInt8), l.length ≤ n → (unL l).length ≤ 4 * l.length
  | _, [], _ => by simp [unL_nil]
  | n + 1, b :: l, hn => by
    simp only [List.length_cons] at hn
    by_cases h : 0 < (escL (b :: l)).2
    · rw [unL_esc h]
      have h1 := escL_ok (b :: l)
      have h2 := unL_len n ((b :: l).drop (escL (b :: l)).2) (by rw [List.length_drop, List.length_cons]; omega)
      have h3 := h1.2 h
      simp only [List.length_drop, List.length_cons, List.length_append] at h2 h3 ⊢
      omega
    · rw [unL_byte (by omega)]
      have := unL_len n l (by omega)
      simp only [List.length_cons]
      omega

/-! ### What a rune of many bytes does -/
theorem decode_max (s : ByteArray) (k : Nat) : (Utf8.decode s k).1 ≤ 1114111 := by
  rw [decode_dec]
  have := of_valid _ (dec_valid (s.data.toList.drop k))
  omega
/-- A rune that is not ASCII: its bytes. -/
theorem rune_high (s : ByteArray) (k : Nat) (h : k < s.size) (ha : 128 ≤ (s[k]'h).toNat) :
    1 ≤ (Utf8.decode s k).2 ∧ k + (Utf8.decode s k).2 ≤ s.size ∧ 128 ≤ (Utf8.decode s k).1 ∧ ∃ m, s.data.toList.drop k = m ++ s.data.toList.drop (k + (Utf8.decode s k).2) ∧ m.length = (Utf8.decode s k).2 ∧ ∀ b ∈ m, 128 ≤ b.toNat := by
  obtain ⟨h1, h2⟩ := decode_high s k h ha
  obtain ⟨h3, h4⟩ := decode_tail s k h
  refine ⟨h2, h3, h1, (s.data.toList.drop k).take (Utf8.decode s k).2, ?_, ?_, ?_⟩
  · rw [← List.drop_drop, List.take_append_drop]
  · rw [List.length_take, List.length_drop]
    have : s.data.toList.length = s.size := by simp
    omega
  · intro b hb
    obtain ⟨j, hj, rfl⟩ := List.getElem_of_mem hb
    rw [List.length_take] at hj
    rw [List.getElem_take, List.getElem_drop]
    by_cases hj0 : j = 0
    · subst hj0
      exact ha
    · have := h4 j (by omega) (by omega)
      rw [get!_list s (k + j) (by omega)] at this
      exact this
theorem btwGo_high (c : UInt8) (never : List UInt8) (hc : c.toNat < 128) (hn : ∀ b ∈ never, b.toNat < 128) : ∀ (m l : List UInt8) (i : Nat), (∀ b ∈ m, 128 ≤ b.toNat) → btwGo c never (m ++ l) false i = btwGo c never l false (i + m.length)
  | [], _, _, _ => rfl
  | b :: m, l, i, h => by
    have hb := h b (by simp)
    rw [List.cons_append, btwGo, if_neg (by omega), if_neg (by simp), if_neg (by omega), if_neg (by intro e; subst e; omega), if_neg (by intro e; have := hn b e; omega), btwGo_high c never hc hn m l _ (fun x hx => h x (by simp [hx]))]
    rw [List.length_cons, show i + 1 + m.length = i + (m.length + 1) from by omega]
theorem btwGo_rune (c : UInt8) (never : List UInt8) (hc : c.toNat < 128) (hn : ∀ b ∈ never, b.toNat < 128) (m l : List UInt8) (bh : Bool) (i : Nat) (h : ∀ b ∈ m, 128 ≤ b.toNat) (hm : 1 ≤ m.length) : btwGo c never (m ++ l) bh i = btwGo c never l false (i + m.length) := by
  cases bh with
  | false => exact btwGo_high c never hc hn m l i h
  | true =>
    match m, hm with
    | b :: m, _ =>
      have hb := h b (by simp)
      rw [List.cons_append, btwGo, if_neg (by omega), if_pos rfl, btwGo_high c never hc hn m l _ (fun x hx => h x (by simp [hx]))]
      rw [List.length_cons, show i + 1 + m.length = i + (m.length + 1) from by omega]
theorem btwGo_some (c : UInt8) (never : List UInt8) : ∀ (l : List UInt8) (bh : Bool) (i j : Nat), btwGo c never l bh i = some j → i ≤ j ∧ j < i + l.length ∧ l.getD (j - i) 0 = c
  | [], _, _, _, h => by simp [btwGo] at h
  | b :: l, bh, i, j, h => by
    have next : ∀ bh', btwGo c never l bh' (i + 1) = some j → i ≤ j ∧ j < i + (b :: l).length ∧ (b :: l).getD (j - i) 0 = c := by
      intro bh' h1
      obtain ⟨e1, e2, e3⟩ := btwGo_some c never l _ _ _ h1
      refine ⟨by omega, by rw [List.length_cons]; omega, ?_⟩
      rw [show j - i = (j - (i + 1)) + 1 from by omega]
      simpa using e3
    rw [btwGo] at h
    split at h
    · cases h
    · split at h
      · exact next _ h
      · split at h
        · exact next _ h
        · split at h
          · rename_i h1
            simp at h
            subst h
            exact ⟨Nat.le_refl _, by simp, by simp [h1]⟩
          · split at h
            · cases h
            · exact next _ h
theorem hidB_high {r : Int} (h : 128 ≤ r) : tgHid r = false := by simp [tgHid]; omega
theorem bareGo_one {b : UInt8} (l : List UInt8) (o i : Nat) (bh : Bool) (h : 128 ≤ b.toNat) : bareGo (b :: l) o bh i = bareGo l o false (i + 1) := by
  rw [bareGo, if_neg (by rw [hidB_high (by omega)]; simp; omega), if_neg (by omega : ¬ b.toNat = 92), if_neg (by omega : ¬ b.toNat = 40), if_neg (by omega : ¬ b.toNat = 41), ite_self]
theorem bareGo_high (m l : List UInt8) (o i : Nat) (bh : Bool) (h : ∀ b ∈ m, 128 ≤ b.toNat) (hm : 1 ≤ m.length) : bareGo (m ++ l) o bh i = bareGo l o false (i + m.length) := by
  have go : ∀ (m : List UInt8) (i : Nat), (∀ b ∈ m, 128 ≤ b.toNat) → bareGo (m ++ l) o false i = bareGo l o false (i + m.length) := by
    intro m
    induction m with
    | nil => intro i _; rfl
    | cons b m ih =>
      intro i h
      rw [List.cons_append, bareGo_one _ _ _ _ (h b (by simp)), ih _ (fun x hx => h x (by simp [hx])), List.length_cons, show i + 1 + m.length = i + (m.length + 1) from by omega]
  match m, hm with
  | b :: m, _ =>
    rw [List.cons_append, bareGo_one _ _ _ _ (h b (by simp)), go m _ (fun x hx => h x (by simp [hx])), List.length_cons, show i + 1 + m.length = i + (m.length + 1) from by omega]
theorem bareGo_le : ∀ (l : List UInt8) (o i : Nat) (bh : Bool), i ≤ (bareGo l o bh i).1 ∧ (bareGo l o bh i).1 ≤ i + l.length
  | [], _, _, _ => by simp [bareGo]
  | b :: l, o, i, bh => by
    have ih := fun o bh => bareGo_le l o (i + 1) bh
    rw [bareGo, List.length_cons]
    split
    · simp
    · split
      · have := ih o false; omega
      · split
        · have := ih o true; omega
        · split
          · have := ih (o + 1) false; omega
          · split
            · have := ih (o - 1) false; omega
            · have := ih o false; omega
theorem bareL_le (l : List UInt8) : bareL l ≤ l.length := by
  unfold bareL
  split
  · omega
  · have := bareGo_le l 0 0 false; omega
theorem lowI_high {r : Int} (h : 128 ≤ r) : lowI r = r := by
  unfold lowI
  rw [if_neg (by rw [inR_iff]; omega)]
theorem begL_high {b c : UInt8} {l sc : List UInt8} (h : 128 ≤ b.toNat) (hc : c.toNat < 128) : begL (b :: l) (c :: sc) = false := by
  rw [begL, if_neg (by rw [hidB_high (by omega)]; simp), lowI_high (by omega), if_neg (by omega)]
theorem blkB_high {r : Int} (h : 128 ≤ r) : blkB r = false := by simp [blkB]; omega
theorem btwL_le (c : UInt8) (never l : List UInt8) (h1 : 1 ≤ l.length) : (btwL c never l).2.1 ≤ l.length := by
  unfold btwL
  split
  · simp
  · rename_i i h
    have := (btwGo_some _ _ _ _ _ _ h).2.1
    rw [List.length_drop] at this
    show i + 1 ≤ _
    omega
theorem hasPrefix_len {l p : List UInt8} (h : Lib.hasPrefix l p = true) : p.length ≤ l.length := by
  have h1 : p <+: l := List.isPrefixOf_iff_prefix.1 h
  exact h1.length_le
theorem destL_le (l : List UInt8) : (destL l).2.1 ≤ l.length := by
  unfold destL
  split
  · rename_i h
    exact btwL_le _ _ _ (hasPrefix_len h)
  · exact bareL_le l
theorem titleL_le (l : List UInt8) : (titleL l).2.1 ≤ l.length := by
  unfold titleL
  split
  · rename_i h; exact btwL_le _ _ _ (hasPrefix_len h)
  · split
    · rename_i h; exact btwL_le _ _ _ (hasPrefix_len h)
    · split
      · rename_i h; exact btwL_le _ _ _ (hasPrefix_len h)
      · simp
theorem behL_le (l : List UInt8) (k : Nat) (h : k ≤ l.length) : k ≤ behL l k ∧ behL l k ≤ l.length := by
  unfold behL
  have := (List.takeWhile_sublist (fun b : UInt8 => blkB b.toNat) (l := l.drop k)).length_le
  rw [List.length_drop] at this
  omega

/-! ### What is encoded -/
theorem stayB_high {r : Int} (h : 128 ≤ r) : stayB r = false := by
  unfold stayB
  rw [lowI_high h]
  have h1 : inR r 97 122 = false := by rw [inR_f]; omega
  have h2 : inR r 48 57 = false := by rw [inR_f]; omega
  rw [h1, h2]
  simp [hasB, staysL]
  omega
theorem encL_append (a b : List UInt8) : encL (a ++ b) = encL a ++ encL b := by simp [encL]
theorem encL_cons (a : UInt8) (b : List UInt8) : encL (a :: b) = encB a ++ encL b := by simp [encL]
theorem encB_len (b : UInt8) : 1 ≤ (encB b).length ∧ (encB b).length ≤ 3 := by
  unfold encB
  split <;> simp [pctB]
theorem encL_len : ∀ l : List UInt8, l.length ≤ (encL l).length ∧ (encL l).length ≤ 3 * l.length
  | [] => by simp [encL]
  | b :: l => by
    have := encL_len l
    have := encB_len b
    rw [encL_cons, List.length_append, List.length_cons]
    omega
def urlSign (b : UInt8) : Bool := !(decide (b.toNat ≤ 32) || decide (127 ≤ b.toNat) || b.toNat == 34 || b.toNat == 60 || b.toNat == 62 || b.toNat == 92 || b.toNat == 96)
theorem all_bytes {p : UInt8 → Bool} (h : (List.range 256).all (fun n => p n.toUInt8) = true) (b : UInt8) : p b = true := by
  have h1 := List.all_eq_true.1 h b.toNat (List.mem_range.2 b.toNat_lt)
  have : b.toNat.toUInt8 = b := by simp
  rw [this] at h1
  exact h1
theorem encB_signs (b : UInt8) : ((encB b).all fun x => urlSign x && stayB x.toNat) = true :=
  all_bytes (p := fun b => (encB b).all fun x => urlSign x && stayB x.toNat) (by decide +kernel) b
theorem encL_signs (l : List UInt8) : ∀ x ∈ encL l, urlSign x = true ∧ stayB x.toNat = true := by
  intro x hx
  obtain ⟨b, _, hb⟩ := List.mem_flatMap.1 hx
  have := List.all_eq_true.1 (encB_signs b) x hb
  simpa using this
theorem encL_stays : ∀ l : List UInt8, (∀ x ∈ l, stayB x.toNat = true) → encL l = l
  | [], _ => rfl
  | b :: l, h => by
    rw [encL_cons, encL_stays l (fun x hx => h x (by simp [hx]))]
    unfold encB
    rw [if_pos (h b (by simp))]
    rfl
theorem encL_twice (l : List UInt8) : encL (encL l) = encL l := encL_stays _ fun x hx => (encL_signs l x hx).2

end Go.Proofs.YtioolcnoiaoflaaGreatDoor
namespace Go.Proofs.YtioolcnoiaoflaaGreatDoor
open Go.RowKit
set_option linter.unusedSimpArgs false
set_option linter.unusedVariables false
theorem btwGo_zero {c b : UInt8} {nv l : List UInt8} {bh : Bool} {i : Nat} (h : b.toNat = 0) : btwGo c nv (b :: l) bh i = none := by rw [btwGo, if_pos h]
theorem btwGo_bh {c b : UInt8} {nv l : List UInt8} {i : Nat} (h : ¬ b.toNat = 0) : btwGo c nv (b :: l) true i = btwGo c nv l false (i + 1) := by rw [btwGo, if_neg h, if_pos rfl]
theorem btwGo_slash {c b : UInt8} {nv l : List UInt8} {i : Nat} (h : b.toNat = 92) : btwGo c nv (b :: l) false i = btwGo c nv l true (i + 1) := by rw [btwGo, if_neg (by omega), if_neg (by simp), if_pos h]
theorem btwGo_shut {c b : UInt8} {nv l : List UInt8} {i : Nat} (h0 : ¬ b.toNat = 0) (h : ¬ b.toNat = 92) (hc : b = c) : btwGo c nv (b :: l) false i = some i := by rw [btwGo, if_neg h0, if_neg (by simp), if_neg h, if_pos hc]
theorem btwGo_never {c b : UInt8} {nv l : List UInt8} {i : Nat} (h0 : ¬ b.toNat = 0) (h : ¬ b.toNat = 92) (hc : ¬ b = c) (hn : b ∈ nv) : btwGo c nv (b :: l) false i = none := by rw [btwGo, if_neg h0, if_neg (by simp), if_neg h, if_neg hc, if_pos hn]
theorem btwGo_on {c b : UInt8} {nv l : List UInt8} {i : Nat} (h0 : ¬ b.toNat = 0) (h : ¬ b.toNat = 92) (hc : ¬ b = c) (hn : ¬ b ∈ nv) : btwGo c nv (b :: l) false i = btwGo c nv l false (i + 1) := by rw [btwGo, if_neg h0, if_neg (by simp), if_neg h, if_neg hc, if_neg hn]

/-! ### bare -/
theorem bareGo_stop {b : UInt8} {l : List UInt8} {o i : Nat} {bh : Bool} (h : tgHid b.toNat = true ∨ b.toNat = 41 ∧ o = 0 ∧ bh = false) : bareGo (b :: l) o bh i = (i, o) := by
  rw [bareGo, if_pos (by
    rcases h with h | ⟨h1, h2, h3⟩
    · simp [h]
    · simp [h1, h2, h3])]
theorem bareGo_on {b : UInt8} {l : List UInt8} {o i : Nat} {bh : Bool} (h : tgHid b.toNat = false) (h2 : ¬ (b.toNat = 41 ∧ o = 0 ∧ bh = false)) : bareGo (b :: l) o bh i =
    if bh then bareGo l o false (i + 1) else if b.toNat = 92 then bareGo l o true (i + 1) else if b.toNat = 40 then bareGo l (o + 1) false (i + 1) else if b.toNat = 41 then bareGo l (o - 1) false (i + 1) else bareGo l o false (i + 1) := by
  rw [bareGo, if_neg (by
    rw [h, Bool.false_or]
    intro e
    simp only [Bool.and_eq_true, beq_iff_eq, Bool.not_eq_true'] at e
    exact h2 ⟨e.1.1, e.1.2, e.2⟩)]

end Go.Proofs.YtioolcnoiaoflaaGreatDoor
