/-
  Plain facts of the layer block: which blocks may be; those that lines have may.
-/
import Derived.Test.YtoleoigpijgboaaDoorBlkP
namespace Go.Proofs.YtoleoigpijgboaaDoor
set_option linter.unusedSimpArgs false
set_option linter.unusedVariables false

def rightK (b : Blk) : Bool := !(b.kind == 2 && (decide (b.n < 1) || decide (6 < b.n))) && (decide (1 ≤ b.kind) && decide (b.kind ≤ 9))
def holdsK (k : Int) : Bool := k == 3 || k == 4 || k == 5 || k == 9
/-- A block's depth may be, behind what it may lie in. -/
def depthK (ar : List Int) (em : Bool) (b : Blk) : Bool := decide (0 ≤ b.depth) && decide (b.depth ≤ ar.length) && !(em && decide (b.depth < ar.length))
/-- Items lie in a list, and only there. -/
def inListK (ar : List Int) (d : Int) : Bool := decide (0 < d) && ((ar.take d.toNat).getLast? == some 4)
def rightF : List Int → Bool → List Blk → Bool
  | _, em, [] => !em
  | ar, em, b :: bs => if rightK b && depthK ar em b && (inListK ar b.depth == (b.kind == 5)) then
      rightF (if holdsK b.kind then ar.take b.depth.toNat ++ [b.kind] else ar.take b.depth.toNat) (b.kind == 4) bs else false
def rightB (bs : List Blk) : Bool := rightF [] false bs

/-- Blocks of this depth and deeper that may stand side by side. -/
def GoodAt (d : Nat) (X : List Blk) : Prop := ∀ ar : List Int, d ≤ ar.length → (ar.take d).getLast? ≠ some 4 → ∀ rest, ∃ ar' : List Int, d ≤ ar'.length ∧ ar'.take d = ar.take d ∧ rightF ar false (X ++ rest) = rightF ar' false rest
theorem GoodAt.nil (d : Nat) : GoodAt d [] := fun ar h _ rest => ⟨ar, h, rfl, rfl⟩
theorem GoodAt.append {d : Nat} {X Y : List Blk} (h : GoodAt d X) (k : GoodAt d Y) : GoodAt d (X ++ Y) := by
  intro ar ha hl rest
  obtain ⟨ar1, h1, h2, h3⟩ := h ar ha hl (Y ++ rest)
  obtain ⟨ar2, k1, k2, k3⟩ := k ar1 h1 (by rw [h2]; exact hl) rest
  exact ⟨ar2, k1, k2.trans h2, by rw [List.append_assoc, h3, k3]⟩
theorem inList_not {ar : List Int} {d : Nat} (hl : (ar.take d).getLast? ≠ some 4) : inListK ar (d : Int) = false := by
  unfold inListK
  rw [Int.toNat_natCast, beq_eq_false_iff_ne.2 hl, Bool.and_false]
theorem depthK_at {ar : List Int} {d : Nat} (h : d ≤ ar.length) (b : Blk) (hb : b.depth = d) : depthK ar false b = true := by
  unfold depthK
  rw [hb]
  simp; omega
theorem GoodAt.leaf {d : Nat} {b : Blk} (hd : b.depth = d) (hk : rightK b = true) (h5 : b.kind ≠ 5) (hh : holdsK b.kind = false) : GoodAt d [b] := by
  intro ar ha hl rest
  refine ⟨ar.take d, by rw [List.length_take]; omega, by rw [List.take_take, Nat.min_self], ?_⟩
  have h4 : (b.kind == 4) = false := by
    simp only [holdsK, Bool.or_eq_false_iff] at hh
    exact hh.1.1.2
  rw [List.cons_append, List.nil_append, rightF, hk, depthK_at ha b hd, hd, inList_not hl, beq_eq_false_iff_ne.2 h5, hh, h4, Int.toNat_natCast]
  rfl
theorem GoodAt.quote {d : Nat} {Y : List Blk} (h : GoodAt (d + 1) Y) : GoodAt d (⟨3, d, 0, false, [], []⟩ :: Y) := by
  intro ar ha hl rest
  have e1 : (ar.take d).length = d := by rw [List.length_take]; omega
  have e2 : (ar.take d ++ [3]).take (d + 1) = ar.take d ++ [3] := List.take_of_length_le (by rw [List.length_append, e1]; simp)
  obtain ⟨ar', h1, h2, h3⟩ := h (ar.take d ++ [3]) (by rw [List.length_append, e1]; simp) (by rw [e2, List.getLast?_concat]; decide) rest
  rw [e2] at h2
  refine ⟨ar', by omega, ?_, ?_⟩
  · have := congrArg (List.take d) h2
    rw [List.take_take, Nat.min_eq_left (by omega), List.take_append_of_le_length (by omega), List.take_take, Nat.min_self] at this
    exact this
  · rw [List.cons_append, rightF, depthK_at ha _ rfl, inList_not hl]
    exact h3
/-- One item, and what lies in it. -/
theorem good_item {d : Nat} {Y : List Blk} (h : GoodAt (d + 2) Y) (A : List Int) (hA : A.length = d) (ar : List Int) (em : Bool) (ha : d + 1 ≤ ar.length) (ht : ar.take (d + 1) = A ++ [4]) (he : em = true → ar.length = d + 1) (rest : List Blk) :
    ∃ ar' : List Int, d + 1 ≤ ar'.length ∧ ar'.take (d + 1) = A ++ [4] ∧ rightF ar em (⟨5, (d : Int) + 1, 0, false, [], []⟩ :: Y ++ rest) = rightF ar' false rest := by
  have e3 : (A ++ [(4 : Int), 5]).take (d + 1) = A ++ [4] := by
    rw [show A ++ [(4 : Int), 5] = (A ++ [4]) ++ [5] from by simp, List.take_append_of_le_length (by rw [List.length_append, hA]; simp)]
    exact List.take_of_length_le (by rw [List.length_append, hA]; simp)
  have e2 : (A ++ [4, 5]).take (d + 2) = A ++ [4, 5] := List.take_of_length_le (by rw [List.length_append, hA]; simp)
  obtain ⟨ar', h1, h2, h3⟩ := h (A ++ [4, 5]) (by rw [List.length_append, hA]; simp) (by rw [e2, show A ++ [(4 : Int), 5] = (A ++ [4]) ++ [5] from by simp, List.getLast?_concat]; decide) rest
  rw [e2] at h2
  refine ⟨ar', by omega, ?_, ?_⟩
  · have := congrArg (List.take (d + 1)) h2
    rw [List.take_take, Nat.min_eq_left (by omega), e3] at this
    exact this
  · have hdep : depthK ar em ⟨5, (d : Int) + 1, 0, false, [], []⟩ = true := by
      unfold depthK
      cases em with
      | false => simp <;> omega
      | true => have := he rfl; simp <;> omega
    have hin : inListK ar ((d : Int) + 1) = true := by
      unfold inListK
      rw [show ((d : Int) + 1).toNat = d + 1 from by omega, ht, List.getLast?_concat]
      simp <;> omega
    rw [List.cons_append, rightF, hdep, hin]
    show rightF (ar.take ((d : Int) + 1).toNat ++ [5]) false (Y ++ rest) = _
    rw [show ((d : Int) + 1).toNat = d + 1 from by omega, ht, List.append_assoc]
    exact h3
theorem good_items {d : Nat} (i : List (List UInt8) → List Blk) (hi : ∀ l, GoodAt (d + 2) (i l)) (sg : UInt8) : ∀ f l (A : List Int), A.length = d → ∀ (ar : List Int) (em : Bool), d + 1 ≤ ar.length → ar.take (d + 1) = A ++ [4] → (em = true → ar.length = d + 1 ∧ (itemsL d i sg f l).2 ≠ 0) → ∀ rest,
    ∃ ar' : List Int, d + 1 ≤ ar'.length ∧ ar'.take (d + 1) = A ++ [4] ∧ rightF ar em ((itemsL d i sg f l).1 ++ rest) = rightF ar' false rest
  | 0, l, A, hA, ar, em, ha, ht, he, rest => by
    cases em with
    | false => exact ⟨ar, ha, ht, by simp [itemsL]⟩
    | true => exact absurd rfl (he rfl).2
  | f + 1, [], A, hA, ar, em, ha, ht, he, rest => by
    cases em with
    | false => exact ⟨ar, ha, ht, by simp [itemsL]⟩
    | true => exact absurd rfl (he rfl).2
  | f + 1, s :: r, A, hA, ar, em, ha, ht, he, rest => by
    cases hm : mkItem s with
    | none =>
      have e : itemsL d i sg (f + 1) (s :: r) = ([], 0) := by simp only [itemsL, hm]
      rw [e] at he ⊢
      cases em with
      | false => exact ⟨ar, ha, ht, rfl⟩
      | true => exact absurd rfl (he rfl).2
    | some x =>
      obtain ⟨sg', n, cols, text⟩ := x
      by_cases hs : sg' = sg
      · have e : (itemsL d i sg (f + 1) (s :: r)).1 = ⟨5, (d : Int) + 1, 0, false, [], []⟩ :: i (text :: strippedL cols (r.take (deepL cols r))) ++ (itemsL d i sg f (r.drop (deepL cols r + blanksL (r.drop (deepL cols r))))).1 := by
          simp only [itemsL, hm, hs, eq_self, if_true]
        rw [e, List.append_assoc]
        obtain ⟨ar1, h1, h2, h3⟩ := good_item (hi _) A hA ar em ha ht (fun h => (he h).1) ((itemsL d i sg f (r.drop (deepL cols r + blanksL (r.drop (deepL cols r))))).1 ++ rest)
        obtain ⟨ar2, k1, k2, k3⟩ := good_items i hi sg f (r.drop (deepL cols r + blanksL (r.drop (deepL cols r)))) A hA ar1 false h1 h2 (fun h => by cases h) rest
        exact ⟨ar2, k1, k2, h3.trans k3⟩
      · have e : itemsL d i sg (f + 1) (s :: r) = ([], 0) := by simp only [itemsL, hm, hs, if_false]
        rw [e] at he ⊢
        cases em with
        | false => exact ⟨ar, ha, ht, rfl⟩
        | true => exact absurd rfl (he rfl).2
theorem good_list {d : Nat} (i : List (List UInt8) → List Blk) (hi : ∀ l, GoodAt (d + 2) (i l)) (l : List (List UInt8)) (hl : l ≠ []) : GoodAt d (listL d i l).1 := by
  unfold listL
  split
  · exact GoodAt.nil d
  · rename_i sg n c t hit
    intro ar ha hla rest
    have e1 : (ar.take d).length = d := by rw [List.length_take]; omega
    have hpos : (itemsL d i sg l.length l).2 ≠ 0 := by
      cases l with
      | nil => exact absurd rfl hl
      | cons s r =>
        have := itemsL_pos d i r.length s r hit
        rw [List.length_cons]
        omega
    obtain ⟨ar', h1, h2, h3⟩ := good_items i hi sg l.length l (ar.take d) e1 (ar.take d ++ [4]) true (by rw [List.length_append, e1]; simp) (List.take_of_length_le (by rw [List.length_append, e1]; simp)) (fun _ => ⟨by rw [List.length_append, e1]; simp, hpos⟩) rest
    refine ⟨ar', by omega, ?_, ?_⟩
    · have := congrArg (List.take d) h2
      rw [List.take_take, Nat.min_eq_left (by omega), List.take_append_of_le_length (by omega), List.take_take, Nat.min_self] at this
      exact this
    · rw [List.cons_append, rightF, depthK_at ha _ rfl, inList_not hla]
      exact h3
theorem mkHead_level {s t : List UInt8} {lv : Nat} (h : mkHead s = some (lv, t)) : 1 ≤ lv ∧ lv ≤ 6 := by
  unfold mkHead at h
  split at h
  · rename_i hc
    cases h
    exact ⟨hc.1, hc.2.1⟩
  · cases h
theorem mkUnder_le (s : List UInt8) : mkUnder s ≤ 2 := by
  unfold mkUnder
  split
  · omega
  · split <;> omega
theorem paraN_level (d : Int) : ∀ l, (paraN d l).2 ≤ 2
  | [] => by simp [paraN]
  | s :: l => by
    have := paraN_level d l
    have h2 := mkUnder_le s
    simp only [paraN]
    split
    · exact h2
    · split
      · simp
      · exact this
/-- A block in which none lies, that may be. -/
def Leafy (b : Blk) : Prop := rightK b = true ∧ b.kind ≠ 5 ∧ holdsK b.kind = false
theorem leafL_leafy (l : List (List UInt8)) (h : 0 < (leafL l).2) : Leafy (leafL l).1 := by
  have code : ∀ t i, Leafy ⟨6, 0, 0, false, t, i⟩ := fun t i => ⟨rfl, (show (6 : Int) ≠ 5 by decide), rfl⟩
  unfold leafL at h ⊢
  split
  · exact code _ _
  · rename_i h4
    rw [if_neg h4] at h
    split
    · unfold fencedL
      split
      · exact code _ _
      · exact code _ _
    · rename_i hf
      rw [hf] at h
      dsimp only at h
      split
      · rename_i lv t hh
        have := mkHead_level hh
        refine ⟨?_, (show (2 : Int) ≠ 5 by decide), rfl⟩
        simp [rightK]
        omega
      · rename_i hh
        rw [hh] at h
        dsimp only at h
        split
        · exact ⟨rfl, by decide, rfl⟩
        · rename_i hr
          rw [if_neg hr] at h
          exact absurd h (by simp)
theorem paraL_leafy (d : Int) (l : List (List UInt8)) : Leafy (paraL d l).1 := by
  have := paraN_level d l.tail
  unfold paraL
  split
  · refine ⟨?_, (show (2 : Int) ≠ 5 by decide), rfl⟩
    simp [rightK]
    omega
  · exact ⟨rfl, (show (1 : Int) ≠ 5 by decide), rfl⟩
theorem Leafy.depth {b : Blk} (h : Leafy b) (d : Int) : Leafy { b with depth := d } := h
theorem firstL_good {d : Nat} (q i : List (List UInt8) → List Blk) (hq : ∀ l, GoodAt (d + 1) (q l)) (hi : ∀ l, GoodAt (d + 2) (i l)) (l : List (List UInt8)) (hl : l ≠ []) : GoodAt d (firstL d q i l).1 := by
  unfold firstL
  split
  · exact GoodAt.nil d
  · split
    · rename_i h1
      have := leafL_leafy l h1
      exact GoodAt.leaf rfl this.1 this.2.1 this.2.2
    · split
      · exact (hq _).quote
      · split
        · exact good_list i hi l hl
        · split
          · exact GoodAt.leaf rfl rfl (by show (8 : Int) ≠ 5; decide) rfl
          · have := paraL_leafy d l
            exact GoodAt.leaf rfl this.1 this.2.1 this.2.2
theorem loopL_good {d : Nat} (first : List (List UInt8) → List Blk × Nat) (h : ∀ l, l ≠ [] → GoodAt d (first l).1) : ∀ f l, GoodAt d (loopL first f l)
  | 0, _ => GoodAt.nil d
  | _ + 1, [] => GoodAt.nil d
  | f + 1, s :: l => by
    simp only [loopL]
    exact (h (s :: l) (by simp)).append (loopL_good first h f _)
theorem GoodAt.empty (d : Nat) : ∀ l : List (List UInt8), GoodAt d ((fun _ => []) l) := fun _ => GoodAt.nil d
theorem allL_good : ∀ m, m ≤ 12 → ∀ l, GoodAt (12 - m) (allL m l)
  | 0, _, l => by rw [allL_loop]; exact loopL_good _ (fun l hl => firstL_good (d := 12) _ _ (GoodAt.empty _) (GoodAt.empty _) l hl) _ _
  | 1, _, l => by rw [allL_loop]; exact loopL_good _ (fun l hl => firstL_good (d := 11) _ _ (allL_good 0 (by omega)) (GoodAt.empty _) l hl) _ _
  | m + 2, hm, l => by
    have e1 : 12 - (m + 2) = 10 - m := by omega
    have hq := allL_good (m + 1) (by omega)
    have hi := allL_good m (by omega)
    rw [show 12 - (m + 1) = 10 - m + 1 from by omega] at hq
    rw [show 12 - m = 10 - m + 2 from by omega] at hi
    rw [allL_loop, e1]
    refine loopL_good _ (fun l hl => ?_) _ _
    show GoodAt (10 - m) (firstL (10 - (m : Int)) _ _ l).1
    rw [show (10 : Int) - m = ((10 - m : Nat) : Int) from by omega]
    exact firstL_good _ _ hq hi l hl
theorem parseB_right (l : List (List UInt8)) : rightB (parseB l) = true := by
  obtain ⟨ar', _, _, h⟩ := allL_good 12 (by omega) l [] (by simp) (by simp) []
  rw [List.append_nil] at h
  exact h

/-! ### No block lies too deep, none is a division, no paragraph is empty -/
def Sound (d : Int) (b : Blk) : Prop := d ≤ b.depth ∧ b.depth ≤ 12 ∧ b.kind ≠ 9 ∧ (b.kind = 1 → b.text ≠ [])
theorem dropWhile_none {p : UInt8 → Bool} : ∀ l : List UInt8, l.dropWhile p = [] → ∀ x ∈ l, p x = true
  | [], _, x, hx => by simp at hx
  | b :: l, h, x, hx => by
    rw [List.dropWhile_cons] at h
    split at h
    · rename_i hb
      rcases List.mem_cons.1 hx with rfl | hx
      · exact hb
      · exact dropWhile_none l h x hx
    · cases h
theorem trimGR_some (b : UInt8) (l : List UInt8) (h : isGap b = false) : trimGR (b :: l) ≠ [] := by
  rw [trimGR_def]
  intro e
  rw [List.reverse_eq_nil_iff] at e
  have := dropWhile_none _ e b (by simp)
  rw [h] at this
  cases this
theorem noBegin_some {s : List UInt8} (h : ¬ s.all isGap = true) : ∃ b t, noBegin s = b :: t ∧ isGap b = false := by
  unfold noBegin
  cases hd : s.dropWhile isGap with
  | nil =>
    exact absurd (List.all_eq_true.2 (dropWhile_none _ hd)) h
  | cons b t =>
    have := List.head?_dropWhile_not isGap s
    rw [hd] at this
    exact ⟨b, t, rfl, by simpa using this⟩
theorem flowL_some {s : List UInt8} {l : List (List UInt8)} (h : ¬ s.all isGap = true) : flowL (s :: l) ≠ [] := by
  obtain ⟨b, t, e, hb⟩ := noBegin_some h
  unfold flowL
  rw [List.map_cons, Lib.join_cons, e, List.cons_append]
  exact trimGR_some b _ hb
theorem leafL_kind (l : List (List UInt8)) (h : 0 < (leafL l).2) : (leafL l).1.kind = 6 ∨ (leafL l).1.kind = 2 ∨ (leafL l).1.kind = 7 := by
  unfold leafL at h ⊢
  split
  · exact Or.inl rfl
  · rename_i h4
    rw [if_neg h4] at h
    split
    · unfold fencedL
      split
      · exact Or.inl rfl
      · exact Or.inl rfl
    · rename_i hf
      rw [hf] at h
      dsimp only at h
      split
      · exact Or.inr (Or.inl rfl)
      · rename_i hh
        rw [hh] at h
        dsimp only at h
        split
        · exact Or.inr (Or.inr rfl)
        · rename_i hr
          rw [if_neg hr] at h
          exact absurd h (by simp)
theorem Sound.low {d e : Int} (h : e ≤ d) {b : Blk} (hb : Sound d b) : Sound e b := ⟨by have := hb.1; omega, hb.2⟩
theorem itemsL_sound {d : Int} (hd : d ≤ 10) (i : List (List UInt8) → List Blk) (hi : ∀ l, ∀ b ∈ i l, Sound (d + 2) b) (sg : UInt8) : ∀ f l, ∀ b ∈ (itemsL d i sg f l).1, Sound (d + 1) b
  | 0, _, b, hb => by simp [itemsL] at hb
  | _ + 1, [], b, hb => by simp [itemsL] at hb
  | f + 1, s :: r, b, hb => by
    simp only [itemsL] at hb
    split at hb
    · simp at hb
    · split at hb
      · simp only [List.cons_append, List.mem_cons, List.mem_append] at hb
        rcases hb with rfl | hb | hb
        · exact ⟨Int.le_refl _, by show d + 1 ≤ 12; omega, by show (5 : Int) ≠ 9; decide, fun h => by cases (show (5 : Int) = 1 from h)⟩
        · exact (hi _ b hb).low (by omega)
        · exact itemsL_sound hd i hi sg f _ b hb
      · simp at hb
theorem firstL_sound {d : Int} (q i : List (List UInt8) → List Blk) (hd : d ≤ 12) (hq : d < 12 → ∀ l, ∀ b ∈ q l, Sound (d + 1) b) (hi : d < 11 → ∀ l, ∀ b ∈ i l, Sound (d + 2) b) (l : List (List UInt8)) (hl : l ≠ []) : ∀ b ∈ (firstL d q i l).1, Sound d b := by
  intro b hb
  unfold firstL at hb
  split at hb
  · simp at hb
  · rename_i h0
    split at hb
    · rename_i h1
      simp at hb
      subst hb
      have hk := leafL_kind l h1
      refine ⟨Int.le_refl _, hd, ?_, fun h => ?_⟩
      · rcases hk with h | h | h <;> (show (leafL l).1.kind ≠ 9; omega)
      · have h : (leafL l).1.kind = 1 := h
        omega
    · split at hb
      · rename_i h2
        have hd2 : d < 12 := by simp only [beginsQ, Bool.and_eq_true, decide_eq_true_eq] at h2; exact h2.2
        rcases List.mem_cons.1 hb with rfl | hb
        · exact ⟨Int.le_refl _, hd, by show (3 : Int) ≠ 9; decide, fun h => by cases (show (3 : Int) = 1 from h)⟩
        · exact (hq hd2 _ b hb).low (by omega)
      · split at hb
        · rename_i h3
          have hd2 : d < 11 := by simp only [beginsI, Bool.and_eq_true, decide_eq_true_eq] at h3; exact h3.2
          unfold listL at hb
          split at hb
          · simp at hb
          · rcases List.mem_cons.1 hb with rfl | hb
            · exact ⟨Int.le_refl _, hd, by show (4 : Int) ≠ 9; decide, fun h => by cases (show (4 : Int) = 1 from h)⟩
            · exact (itemsL_sound (by omega) i (hi hd2) _ _ _ b hb).low (by omega)
        · split at hb
          · simp at hb
            subst hb
            exact ⟨Int.le_refl _, hd, by show (8 : Int) ≠ 9; decide, fun h => by cases (show (8 : Int) = 1 from h)⟩
          · simp at hb
            subst hb
            obtain ⟨s, r, rfl⟩ : ∃ s r, l = s :: r := by
              cases l with
              | nil => exact absurd rfl hl
              | cons s r => exact ⟨s, r, rfl⟩
            simp only [List.headD_cons] at h0
            refine ⟨Int.le_refl _, hd, ?_, fun h => ?_⟩
            · show (paraL d (s :: r)).1.kind ≠ 9
              unfold paraL
              split
              · show (2 : Int) ≠ 9; decide
              · show (1 : Int) ≠ 9; decide
            · show (paraL d (s :: r)).1.text ≠ []
              unfold paraL
              split
              · exact flowL_some h0
              · exact flowL_some h0
theorem loopL_sound {d : Int} (first : List (List UInt8) → List Blk × Nat) (h : ∀ l, l ≠ [] → ∀ b ∈ (first l).1, Sound d b) : ∀ f l, ∀ b ∈ loopL first f l, Sound d b
  | 0, _, b, hb => by simp [loopL] at hb
  | _ + 1, [], b, hb => by simp [loopL] at hb
  | f + 1, s :: l, b, hb => by
    simp only [loopL, List.mem_append] at hb
    rcases hb with hb | hb
    · exact h (s :: l) (by simp) b hb
    · exact loopL_sound first h f _ b hb
theorem allL_sound : ∀ m, ∀ l, ∀ b ∈ allL m l, Sound (12 - (m : Int)) b
  | 0, l, b, hb => by
    rw [allL_loop] at hb
    rw [show (12 : Int) - ((0 : Nat) : Int) = 12 from by omega]
    exact loopL_sound (firstM 0) (fun l hl => firstL_sound (d := 12) _ _ (by omega) (fun _ l b hb => by simp at hb) (fun _ l b hb => by simp at hb) l hl) _ _ b hb
  | 1, l, b, hb => by
    rw [allL_loop] at hb
    rw [show (12 : Int) - ((1 : Nat) : Int) = 11 from by omega]
    have h0 := allL_sound 0
    rw [show (12 : Int) - ((0 : Nat) : Int) = 11 + 1 from by omega] at h0
    exact loopL_sound (firstM 1) (fun l hl => firstL_sound (d := 11) _ _ (by omega) (fun _ => h0) (fun h => absurd h (by omega)) l hl) _ _ b hb
  | m + 2, l, b, hb => by
    rw [allL_loop] at hb
    have hq := allL_sound (m + 1)
    have hi := allL_sound m
    have e : (12 : Int) - ((m + 2 : Nat) : Int) = 10 - (m : Int) := by omega
    rw [e]
    refine loopL_sound _ (fun l hl => firstL_sound (d := 10 - (m : Int)) _ _ (by omega) (fun _ l b hb => ?_) (fun _ l b hb => ?_) l hl) _ _ b hb
    · have := hq l b hb
      rw [show (12 : Int) - ((m + 1 : Nat) : Int) = 10 - (m : Int) + 1 from by omega] at this
      exact this
    · have := hi l b hb
      rw [show (12 : Int) - (m : Int) = 10 - (m : Int) + 2 from by omega] at this
      exact this

end Go.Proofs.YtoleoigpijgboaaDoor
