/-
  Plain facts of the layer block: what a block is, which blocks lines have.
-/
import Derived.Test.YtoleoigpijgboaaDoorMrkP
import Derived.Test.YtoleoigpijgboaaDoorLineA
import Derived.Test.YtoleoigpijgboaaDoorLineJ
import Derived.Lib.Join
namespace Go.Proofs.YtoleoigpijgboaaDoor
set_option linter.unusedSimpArgs false
set_option linter.unusedVariables false

/-- A block. -/
structure Blk where
  kind : Int
  depth : Int
  n : Int
  tight : Bool
  text : List UInt8
  info : List UInt8
deriving DecidableEq, Inhabited

/-- How many lines, up to the last that is not blank, are blank or of so many columns. -/
def deepL (c : Nat) : List (List UInt8) → Nat
  | [] => 0
  | s :: l => if s.all isGap then (if deepL c l = 0 then 0 else deepL c l + 1) else if mCols s 0 < c then 0 else deepL c l + 1
def blanksL : List (List UInt8) → Nat
  | [] => 0
  | s :: l => if s.all isGap then blanksL l + 1 else 0
def strippedL (c : Nat) (ls : List (List UInt8)) : List (List UInt8) := ls.map fun s => stripL s c
def noBegin (l : List UInt8) : List UInt8 := l.dropWhile isGap
def flowL (ls : List (List UInt8)) : List UInt8 := trimGR (Lib.join (ls.map noBegin) [10])
def beginsQ (d : Int) (s : List UInt8) : Bool := (mkQuote s).isSome && decide (d < 12)
def beginsI (d : Int) (s : List UInt8) : Bool := (mkItem s).isSome && decide (d < 11)
def cutsL (d : Int) (s : List UInt8) : Bool := match mkItem s with
  | some (_, n, _, t) => decide (d < 11) && !t.all isGap && (n == -1 || n == 1)
  | none => false
def endsP (d : Int) (s : List UInt8) : Bool := s.all isGap || (mkFence s).isSome || (mkHead s).isSome || mkRule s || beginsQ d s || cutsL d s
/-- Of the lines behind a paragraph's first: how many belong to it, and of which level the line under it is, if there is one. -/
def paraN (d : Int) : List (List UInt8) → Nat × Nat
  | [] => (0, 0)
  | s :: l => if 0 < mkUnder s then (0, mkUnder s) else if endsP d s then (0, 0) else ((paraN d l).1 + 1, (paraN d l).2)
def paraL (d : Int) (l : List (List UInt8)) : Blk × Nat :=
  if 0 < (paraN d l.tail).2 then (⟨2, 0, (paraN d l.tail).2, false, flowL (l.take ((paraN d l.tail).1 + 1)), []⟩, (paraN d l.tail).1 + 2)
  else (⟨1, 0, 0, false, flowL (l.take ((paraN d l.tail).1 + 1)), []⟩, (paraN d l.tail).1 + 1)
def indentedL (l : List (List UInt8)) : Blk × Nat := (⟨6, 0, 0, false, joinL (strippedL 4 (l.take (deepL 4 l))), []⟩, deepL 4 l)
def fencedL (l : List (List UInt8)) (c : UInt8) (n : Nat) (info : List UInt8) : Blk × Nat := match l.tail.findIdx? (fun s => mkCloses s c n) with
  | some k => (⟨6, 0, 0, false, joinL (strippedL (mCols (l.headD []) 0) (l.tail.take k)), info⟩, k + 2)
  | none => (⟨6, 0, 0, false, joinL (strippedL (mCols (l.headD []) 0) l.tail), info⟩, l.length)
def rawN (l : List (List UInt8)) : Nat := (l.takeWhile fun s => !s.all isGap).length
def rawL (l : List (List UInt8)) : Blk × Nat := (⟨8, 0, 0, false, joinL (l.take (rawN l)), []⟩, rawN l)
def zeroBlk : Blk := ⟨0, 0, 0, false, [], []⟩
def leafL (l : List (List UInt8)) : Blk × Nat :=
  if 4 ≤ mCols (l.headD []) 0 then indentedL l else match mkFence (l.headD []) with
    | some (c, n, i) => fencedL l c n i
    | none => match mkHead (l.headD []) with
      | some (lv, t) => (⟨2, 0, lv, false, t, []⟩, 1)
      | none => if mkRule (l.headD []) then (⟨7, 0, 0, false, [], []⟩, 1) else (zeroBlk, 0)
def quotedL : List (List UInt8) → List (List UInt8)
  | [] => []
  | s :: l => match mkQuote s with
    | some t => t :: quotedL l
    | none => []
/-- The items of a list of this sign that go on here: their blocks, how many lines they are. -/
def itemsL (d : Int) (i : List (List UInt8) → List Blk) (sign : UInt8) : Nat → List (List UInt8) → List Blk × Nat
  | 0, _ => ([], 0)
  | _ + 1, [] => ([], 0)
  | f + 1, s :: r => match mkItem s with
    | none => ([], 0)
    | some (sg, _, cols, text) => if sg = sign then
        (⟨5, d + 1, 0, false, [], []⟩ :: i (text :: strippedL cols (r.take (deepL cols r))) ++ (itemsL d i sign f (r.drop (deepL cols r + blanksL (r.drop (deepL cols r))))).1,
          if (itemsL d i sign f (r.drop (deepL cols r + blanksL (r.drop (deepL cols r))))).2 = 0 then 1 + deepL cols r
          else 1 + deepL cols r + blanksL (r.drop (deepL cols r)) + (itemsL d i sign f (r.drop (deepL cols r + blanksL (r.drop (deepL cols r))))).2)
      else ([], 0)
def listL (d : Int) (i : List (List UInt8) → List Blk) (l : List (List UInt8)) : List Blk × Nat := match mkItem (l.headD []) with
  | none => ([], 1)
  | some (sg, n, _, _) => (⟨4, d, n, !(l.take (itemsL d i sg l.length l).2).any (fun s => s.all isGap), [], [sg]⟩ :: (itemsL d i sg l.length l).1, (itemsL d i sg l.length l).2)
def firstL (d : Int) (q i : List (List UInt8) → List Blk) (l : List (List UInt8)) : List Blk × Nat :=
  if (l.headD []).all isGap then ([], 1)
  else if 0 < (leafL l).2 then ([{ (leafL l).1 with depth := d }], (leafL l).2)
  else if beginsQ d (l.headD []) then (⟨3, d, 0, false, [], []⟩ :: q (quotedL l), (quotedL l).length)
  else if beginsI d (l.headD []) then listL d i l
  else if mkHtml (l.headD []) then ([{ (rawL l).1 with depth := d }], (rawL l).2)
  else ([{ (paraL d l).1 with depth := d }], (paraL d l).2)
def loopL (first : List (List UInt8) → List Blk × Nat) : Nat → List (List UInt8) → List Blk
  | 0, _ => []
  | _ + 1, [] => []
  | f + 1, s :: l => (first (s :: l)).1 ++ loopL first f ((s :: l).drop (first (s :: l)).2)
/-- The blocks of lines, at depth 12 - m. -/
def allL : Nat → List (List UInt8) → List Blk
  | 0, l => loopL (firstL 12 (fun _ => []) (fun _ => [])) l.length l
  | 1, l => loopL (firstL 11 (allL 0) (fun _ => [])) l.length l
  | m + 2, l => loopL (firstL (10 - m) (allL (m + 1)) (allL m)) l.length l
def parseB (l : List (List UInt8)) : List Blk := allL 12 l

/-! ### How many lines belong to what -/
theorem deepL_le (c : Nat) : ∀ l, deepL c l ≤ l.length
  | [] => Nat.le_refl _
  | s :: l => by
    have := deepL_le c l
    simp only [deepL, List.length_cons]
    split
    · split <;> omega
    · split <;> omega
theorem blanksL_le : ∀ l, blanksL l ≤ l.length
  | [] => Nat.le_refl _
  | s :: l => by
    have := blanksL_le l
    simp only [blanksL, List.length_cons]
    split <;> omega
theorem paraN_le (d : Int) : ∀ l, (paraN d l).1 + min (paraN d l).2 1 ≤ l.length
  | [] => by simp [paraN]
  | s :: l => by
    have := paraN_le d l
    simp only [paraN, List.length_cons]
    by_cases h1 : 0 < mkUnder s
    · rw [if_pos h1]; simp only; omega
    rw [if_neg h1]
    by_cases h2 : endsP d s = true
    · rw [if_pos h2]; simp only; omega
    rw [if_neg h2]
    simp only; omega
theorem paraL_pos (d : Int) (l : List (List UInt8)) : 1 ≤ (paraL d l).2 := by
  unfold paraL
  split <;> simp
theorem paraL_le (d : Int) (l : List (List UInt8)) (h : l ≠ []) : (paraL d l).2 ≤ l.length := by
  have h1 := paraN_le d l.tail
  have h2 : l.tail.length + 1 = l.length := by cases l with
    | nil => exact absurd rfl h
    | cons a t => simp
  unfold paraL
  split
  · simp only; omega
  · simp only; omega
theorem rawN_le (l : List (List UInt8)) : rawN l ≤ l.length := (List.takeWhile_prefix _).length_le
theorem fencedL_pos (l : List (List UInt8)) (c : UInt8) (n : Nat) (i : List UInt8) (h : l ≠ []) : 1 ≤ (fencedL l c n i).2 ∧ (fencedL l c n i).2 ≤ l.length := by
  have h2 : l.tail.length + 1 = l.length := by cases l with
    | nil => exact absurd rfl h
    | cons a t => simp
  unfold fencedL
  cases hk : l.tail.findIdx? (fun s => mkCloses s c n) with
  | none => simp only; omega
  | some k =>
    have : k < l.tail.length := by
      rw [List.findIdx?_eq_some_iff_findIdx_eq] at hk
      exact hk.1
    simp only; omega
theorem leafL_le (l : List (List UInt8)) (h : l ≠ []) : (leafL l).2 ≤ l.length := by
  have h1 : 1 ≤ l.length := by cases l with
    | nil => exact absurd rfl h
    | cons a t => simp
  unfold leafL
  split
  · exact deepL_le 4 l
  · split
    · exact (fencedL_pos l _ _ _ h).2
    · split
      · exact h1
      · split
        · exact h1
        · exact Nat.zero_le _
theorem quotedL_le : ∀ l, (quotedL l).length ≤ l.length
  | [] => Nat.le_refl _
  | s :: l => by
    have := quotedL_le l
    simp only [quotedL, List.length_cons]
    split
    · simp only [List.length_cons]; omega
    · simp
theorem itemsL_le (d : Int) (i : List (List UInt8) → List Blk) (sg : UInt8) : ∀ f l, (itemsL d i sg f l).2 ≤ l.length
  | 0, _ => Nat.zero_le _
  | _ + 1, [] => Nat.zero_le _
  | f + 1, s :: r => by
    simp only [itemsL]
    split
    · simp
    · rename_i sg' n cols text _
      split
      · have h1 := deepL_le cols r
        have h2 := blanksL_le (r.drop (deepL cols r))
        have h3 := itemsL_le d i sg f (r.drop (deepL cols r + blanksL (r.drop (deepL cols r))))
        rw [List.length_drop] at h2 h3
        simp only [List.length_cons]
        split <;> omega
      · simp
theorem itemsL_pos (d : Int) (i : List (List UInt8) → List Blk) (f : Nat) (s : List UInt8) (r : List (List UInt8)) {sg : UInt8} {n : Int} {c : Nat} {t : List UInt8} (h : mkItem s = some (sg, n, c, t)) : 1 ≤ (itemsL d i sg (f + 1) (s :: r)).2 := by
  simp only [itemsL, h, eq_self, if_true]
  split <;> omega
theorem listL_pos (d : Int) (i : List (List UInt8) → List Blk) (l : List (List UInt8)) (h : l ≠ []) : 1 ≤ (listL d i l).2 ∧ (listL d i l).2 ≤ l.length := by
  have h1 : 1 ≤ l.length := by cases l with
    | nil => exact absurd rfl h
    | cons a t => simp
  unfold listL
  split
  · exact ⟨Nat.le_refl _, h1⟩
  · rename_i sg n c t hi
    refine ⟨?_, itemsL_le d i sg _ l⟩
    cases l with
    | nil => exact absurd rfl h
    | cons s r => exact itemsL_pos d i r.length s r hi
theorem firstL_pos (d : Int) (q i : List (List UInt8) → List Blk) (l : List (List UInt8)) (h : l ≠ []) : 1 ≤ (firstL d q i l).2 ∧ (firstL d q i l).2 ≤ l.length := by
  obtain ⟨s, r, rfl⟩ : ∃ s r, l = s :: r := by
    cases l with
    | nil => exact absurd rfl h
    | cons s r => exact ⟨s, r, rfl⟩
  unfold firstL
  rw [List.headD_cons]
  by_cases hb : s.all isGap = true
  · rw [if_pos hb]
    simp
  rw [if_neg hb]
  by_cases h1 : 0 < (leafL (s :: r)).2
  · rw [if_pos h1]
    exact ⟨h1, leafL_le _ h⟩
  rw [if_neg h1]
  by_cases h2 : beginsQ d s = true
  · rw [if_pos h2]
    refine ⟨?_, quotedL_le _⟩
    simp only [beginsQ, Bool.and_eq_true] at h2
    simp only [quotedL]
    cases hq : mkQuote s with
    | none => rw [hq] at h2; simp at h2
    | some t => simp
  rw [if_neg h2]
  by_cases h3 : beginsI d s = true
  · rw [if_pos h3]
    exact listL_pos d i _ h
  rw [if_neg h3]
  by_cases h4 : mkHtml s = true
  · rw [if_pos h4]
    refine ⟨?_, rawN_le _⟩
    show 1 ≤ rawN (s :: r)
    unfold rawN
    rw [List.takeWhile_cons, if_pos (by simpa using hb)]
    simp
  rw [if_neg h4]
  exact ⟨paraL_pos d _, paraL_le d _ h⟩

/-! ### Fuel -/
theorem loopL_fuel (first : List (List UInt8) → List Blk × Nat) (hf : ∀ l, l ≠ [] → 1 ≤ (first l).2) : ∀ f g l, l.length ≤ f → l.length ≤ g → loopL first f l = loopL first g l
  | 0, 0, _, _, _ => rfl
  | 0, g + 1, [], _, _ => rfl
  | f + 1, 0, [], _, _ => rfl
  | f + 1, g + 1, [], _, _ => rfl
  | 0, g + 1, s :: l, h, _ => by simp at h
  | f + 1, 0, s :: l, _, h => by simp at h
  | f + 1, g + 1, s :: l, h1, h2 => by
    have h3 := hf (s :: l) (by simp)
    simp only [List.length_cons] at h1 h2
    simp only [loopL]
    rw [loopL_fuel first hf f g _ (by rw [List.length_drop, List.length_cons]; omega) (by rw [List.length_drop, List.length_cons]; omega)]
theorem loopL_step (first : List (List UInt8) → List Blk × Nat) (hf : ∀ l, l ≠ [] → 1 ≤ (first l).2) (l : List (List UInt8)) (h : l ≠ []) : loopL first l.length l = (first l).1 ++ loopL first (l.drop (first l).2).length (l.drop (first l).2) := by
  obtain ⟨s, r, rfl⟩ : ∃ s r, l = s :: r := by
    cases l with
    | nil => exact absurd rfl h
    | cons s r => exact ⟨s, r, rfl⟩
  have h3 := hf (s :: r) h
  rw [List.length_cons]
  simp only [loopL]
  rw [loopL_fuel first hf r.length _ _ (by rw [List.length_drop, List.length_cons]; omega) (Nat.le_refl _)]
theorem itemsL_fuel (d : Int) (i : List (List UInt8) → List Blk) (sg : UInt8) : ∀ f g l, l.length ≤ f → l.length ≤ g → itemsL d i sg f l = itemsL d i sg g l
  | 0, 0, _, _, _ => rfl
  | 0, g + 1, [], _, _ => rfl
  | f + 1, 0, [], _, _ => rfl
  | f + 1, g + 1, [], _, _ => rfl
  | 0, g + 1, s :: l, h, _ => by simp at h
  | f + 1, 0, s :: l, _, h => by simp at h
  | f + 1, g + 1, s :: l, h1, h2 => by
    simp only [List.length_cons] at h1 h2
    simp only [itemsL]
    cases mkItem s with
    | none => rfl
    | some x =>
      obtain ⟨sg', n, cols, text⟩ := x
      dsimp only
      rw [itemsL_fuel d i sg f g _ (by rw [List.length_drop]; omega) (by rw [List.length_drop]; omega)]
/-- What a level of depth finds first. -/
def firstM : Nat → List (List UInt8) → List Blk × Nat
  | 0 => firstL 12 (fun _ => []) (fun _ => [])
  | 1 => firstL 11 (allL 0) (fun _ => [])
  | m + 2 => firstL (10 - m) (allL (m + 1)) (allL m)
theorem allL_loop : ∀ m l, allL m l = loopL (firstM m) l.length l
  | 0, _ => by rw [allL]; rfl
  | 1, _ => by rw [allL]; rfl
  | m + 2, _ => by rw [allL]; rfl
theorem firstM_pos : ∀ m l, l ≠ [] → 1 ≤ (firstM m l).2 ∧ (firstM m l).2 ≤ l.length
  | 0, l, h => firstL_pos _ _ _ l h
  | 1, l, h => firstL_pos _ _ _ l h
  | m + 2, l, h => firstL_pos _ _ _ l h
theorem allL_nil (m : Nat) : allL m [] = [] := by rw [allL_loop]; rfl
theorem allL_step (m : Nat) (l : List (List UInt8)) (h : l ≠ []) : allL m l = (firstM m l).1 ++ allL m (l.drop (firstM m l).2) := by
  rw [allL_loop, loopL_step _ (fun l h => (firstM_pos m l h).1) l h, ← allL_loop]

end Go.Proofs.YtoleoigpijgboaaDoor
