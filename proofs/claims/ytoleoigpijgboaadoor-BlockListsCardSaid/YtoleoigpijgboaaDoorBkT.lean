/-
  Plain facts for BlockLists: items of one sign, with numbers one after the other, are one list; of another one another.
-/
import Derived.Test.YtoleoigpijgboaaDoorBkP
namespace Go.Proofs.YtoleoigpijgboaaDoor
set_option linter.unusedSimpArgs false
set_option linter.unusedVariables false

/-- A number's digits, ahead of what is there already. -/
def dgF : Nat → Nat → List UInt8 → List UInt8
  | 0, _, d => d
  | f + 1, v, d => if 0 < v ∨ d = [] then dgF f (v / 10) (UInt8.ofNat (48 + v % 10) :: d) else d
def dgL (v : Nat) : List UInt8 := dgF 6 v []
/-- An item's line. -/
def rowN (sg : UInt8) (v : Nat) : List UInt8 := dgL v ++ [sg, 32, 120]
def itemOk (sg : UInt8) (v : Nat) : Bool :=
  decide (mkItem (rowN sg v) = some (sg, (v : Int), (dgL v).length + 2, [120])) && decide (mCols (rowN sg v) 0 = 0) && decide (mkFence (rowN sg v) = none) && decide (mkHead (rowN sg v) = none) && !mkRule (rowN sg v) && decide (mkQuote (rowN sg v) = none) && !(rowN sg v).all isGap && decide (1 ≤ (dgL v).length) && decide ((dgL v).length ≤ 4)
theorem items_ok : (List.range 1014).all (fun v => itemOk 46 v && itemOk 41 v) = true := by decide +kernel
structure ItemRow (sg : UInt8) (v : Nat) : Prop where
  item : mkItem (rowN sg v) = some (sg, (v : Int), (dgL v).length + 2, [120])
  cols : mCols (rowN sg v) 0 = 0
  fence : mkFence (rowN sg v) = none
  head : mkHead (rowN sg v) = none
  rule : mkRule (rowN sg v) = false
  quote : mkQuote (rowN sg v) = none
  blank : (rowN sg v).all isGap = false
  one : 1 ≤ (dgL v).length
  four : (dgL v).length ≤ 4
theorem item_row {sg : UInt8} (hs : sg = 46 ∨ sg = 41) {v : Nat} (hv : v < 1014) : ItemRow sg v := by
  have h := List.all_eq_true.1 items_ok v (List.mem_range.2 hv)
  simp only [Bool.and_eq_true] at h
  have h2 : itemOk sg v = true := by
    rcases hs with rfl | rfl
    · exact h.1
    · exact h.2
  unfold itemOk at h2
  simp only [Bool.and_eq_true, decide_eq_true_eq, Bool.not_eq_true'] at h2
  obtain ⟨⟨⟨⟨⟨⟨⟨⟨h1, h2⟩, h3⟩, h4⟩, h5⟩, h6⟩, h7⟩, h8⟩, h9⟩ := h2
  exact ⟨h1, h2, h3, h4, h5, h6, h7, h8, h9⟩
/-- What stands behind an item's line. -/
def blk1 (bl : Bool) : List (List UInt8) := if bl then [[]] else []
/-- Items of these numbers. -/
def rowsN (sg : UInt8) (bl : Bool) (vs : List Nat) : List (List UInt8) := vs.flatMap fun v => rowN sg v :: blk1 bl
/-- What may come behind items of this sign: nothing, or an item of another sign. -/
def Other (sg : UInt8) (r : List (List UInt8)) : Prop := r = [] ∨ ∃ sg2 v t, r = rowN sg2 v :: t ∧ sg2 ≠ sg ∧ ItemRow sg2 v
def Next (r : List (List UInt8)) : Prop := r = [] ∨ ∃ sg2 v t, r = rowN sg2 v :: t ∧ ItemRow sg2 v
theorem Other.next {sg : UInt8} {r : List (List UInt8)} (h : Other sg r) : Next r := by
  rcases h with h | ⟨a, b, c, d, _, e⟩
  · exact Or.inl h
  · exact Or.inr ⟨a, b, c, d, e⟩
theorem deep_next (c : Nat) (hc : 0 < c) (bl : Bool) {r : List (List UInt8)} (h : Next r) : deepL c (blk1 bl ++ r) = 0 := by
  have h0 : deepL c r = 0 := by
    rcases h with rfl | ⟨sg2, v, t, rfl, hi⟩
    · rfl
    · simp only [deepL]
      rw [hi.blank, hi.cols, if_neg (by simp), if_pos hc]
  cases bl with
  | false => exact h0
  | true =>
    show deepL c ([] :: r) = 0
    simp only [deepL, List.all_nil, if_true, h0]
theorem blanks_next (bl : Bool) {r : List (List UInt8)} (h : Next r) : blanksL (blk1 bl ++ r) = (blk1 bl).length := by
  have h0 : blanksL r = 0 := by
    rcases h with rfl | ⟨sg2, v, t, rfl, hi⟩
    · rfl
    · simp only [blanksL]
      rw [hi.blank, if_neg (by simp)]
  cases bl with
  | false => exact h0
  | true =>
    show blanksL ([] :: r) = 1
    simp only [blanksL, List.all_nil, if_true, h0]
def itemB : Blk := ⟨5, 1, 0, false, [], []⟩
def xB : Blk := ⟨1, 2, 0, false, [120], []⟩
theorem all_x : allL 10 [[120]] = [xB] := by decide +kernel
def itemsN (n : Nat) : List Blk := (List.replicate n [itemB, xB]).flatten
theorem itemsN_succ (n : Nat) : itemsN (n + 1) = itemB :: xB :: itemsN n := by
  unfold itemsN
  rw [List.replicate_succ, List.flatten_cons]
  rfl
theorem rowsN_ge (sg : UInt8) (bl : Bool) (vs : List Nat) (h : vs ≠ []) : (blk1 bl).length + 1 ≤ (rowsN sg bl vs).length := by
  cases vs with
  | nil => exact absurd rfl h
  | cons u us =>
    rw [show rowsN sg bl (u :: us) = rowN sg u :: (blk1 bl ++ rowsN sg bl us) from by simp [rowsN], List.length_cons, List.length_append]
    omega
theorem items_rows {sg : UInt8} (hs : sg = 46 ∨ sg = 41) (bl : Bool) {rest : List (List UInt8)} (hr : Other sg rest) : ∀ (vs : List Nat) (f : Nat), (∀ v ∈ vs, v < 1014) → (rowsN sg bl vs ++ rest).length ≤ f →
    itemsL 0 (allL 10) sg f (rowsN sg bl vs ++ rest) = (itemsN vs.length, (rowsN sg bl vs).length - (if vs = [] then 0 else (blk1 bl).length))
  | [], f, _, hf => by
    show itemsL 0 (allL 10) sg f rest = ([], 0)
    cases f with
    | zero => rfl
    | succ f =>
      rcases hr with rfl | ⟨sg2, v, t, rfl, hne, hi⟩
      · rfl
      · simp only [itemsL, hi.item]
        rw [if_neg hne]
  | v :: vs, f, hv, hf => by
    have hi := item_row hs (hv v (by simp))
    have hv2 : ∀ v ∈ vs, v < 1014 := fun x hx => hv x (by simp [hx])
    have hnext : Next (rowsN sg bl vs ++ rest) := by
      cases vs with
      | nil => exact hr.next
      | cons u us => exact Or.inr ⟨sg, u, blk1 bl ++ (rowsN sg bl us ++ rest), by simp [rowsN], item_row hs (hv2 u (by simp))⟩
    have e : rowsN sg bl (v :: vs) ++ rest = rowN sg v :: (blk1 bl ++ (rowsN sg bl vs ++ rest)) := by simp [rowsN]
    have el : (rowsN sg bl (v :: vs)).length = 1 + (blk1 bl).length + (rowsN sg bl vs).length := by
      have := congrArg List.length (show rowsN sg bl (v :: vs) = rowN sg v :: (blk1 bl ++ rowsN sg bl vs) from by simp [rowsN])
      rw [this, List.length_cons, List.length_append]; omega
    rw [e] at hf ⊢
    cases f with
    | zero => simp at hf
    | succ f =>
      have ih := items_rows hs bl hr vs f hv2 (by simp only [List.length_cons, List.length_append] at hf ⊢; omega)
      simp only [itemsL, hi.item, if_true]
      rw [deep_next _ (by omega) bl hnext, List.take_zero, List.drop_zero, blanks_next bl hnext, Nat.zero_add, List.drop_append_of_le_length (Nat.le_refl _), List.drop_length, List.nil_append, ih]
      rw [show strippedL ((dgL v).length + 2) [] = [] from rfl, all_x, if_neg (show ¬ (v :: vs = []) by simp), el, List.length_cons, itemsN_succ]
      by_cases hvs : vs = []
      · subst hvs
        simp only [if_true, rowsN, List.flatMap_nil, List.length_nil, Nat.sub_zero, Prod.mk.injEq]
        exact ⟨rfl, by omega⟩
      · have hge := rowsN_ge sg bl vs hvs
        rw [if_neg hvs, if_neg (by omega)]
        simp only [Prod.mk.injEq]
        exact ⟨rfl, by omega⟩
/-- What one list of such lines is, and what is left. -/
theorem rows_end (sg : UInt8) (bl : Bool) : ∀ (vs : List Nat) (v : Nat), ∃ P, rowsN sg bl (v :: vs) = P ++ blk1 bl
  | [], v => ⟨[rowN sg v], by simp [rowsN]⟩
  | u :: us, v => by
    obtain ⟨P, hP⟩ := rows_end sg bl us u
    refine ⟨rowN sg v :: (blk1 bl ++ P), ?_⟩
    rw [show rowsN sg bl (v :: u :: us) = rowN sg v :: (blk1 bl ++ rowsN sg bl (u :: us)) from by simp [rowsN], hP]
    simp
theorem rows_tight {sg : UInt8} (hs : sg = 46 ∨ sg = 41) (bl : Bool) (v : Nat) (vs : List Nat) (hv : ∀ x ∈ v :: vs, x < 1014) (rest : List (List UInt8)) :
    ((rowsN sg bl (v :: vs) ++ rest).take ((rowsN sg bl (v :: vs)).length - (blk1 bl).length)).any (fun s => s.all isGap) = (bl && !vs.isEmpty) := by
  rw [List.take_append_of_le_length (by omega)]
  cases bl with
  | false =>
    rw [Bool.false_and, List.any_eq_false]
    intro s hsm
    have hm := List.mem_of_mem_take hsm
    unfold rowsN at hm
    obtain ⟨u, hu, hsu⟩ := List.mem_flatMap.1 hm
    simp only [blk1, Bool.false_eq_true, if_false, List.mem_singleton] at hsu
    subst hsu
    rw [(item_row hs (hv u hu)).blank]
    simp
  | true =>
    have hb := (item_row hs (hv v (by simp))).blank
    cases vs with
    | nil =>
      rw [show rowsN sg true [v] = [rowN sg v, []] from by simp [rowsN, blk1]]
      show [rowN sg v].any _ = _
      rw [List.any_cons, hb]
      rfl
    | cons u us =>
      obtain ⟨k, hk⟩ : ∃ k, (rowsN sg true (v :: u :: us)).length - (blk1 true).length = k + 2 := by
        have := rowsN_ge sg true (u :: us) (by simp)
        have e : (rowsN sg true (v :: u :: us)).length = 2 + (rowsN sg true (u :: us)).length := by
          rw [show rowsN sg true (v :: u :: us) = rowN sg v :: ([] :: rowsN sg true (u :: us)) from by simp [rowsN, blk1], List.length_cons, List.length_cons]; omega
        have e1 : (blk1 true).length = 1 := rfl
        exact ⟨(rowsN sg true (v :: u :: us)).length - 3, by omega⟩
      rw [hk, show rowsN sg true (v :: u :: us) = rowN sg v :: ([] :: rowsN sg true (u :: us)) from by simp [rowsN, blk1], List.take_succ_cons, List.take_succ_cons, List.any_cons, List.any_cons]
      simp
def listB (sg : UInt8) (v : Nat) (t : Bool) : Blk := ⟨4, 0, v, t, [], [sg]⟩
theorem parse_list {sg : UInt8} (hs : sg = 46 ∨ sg = 41) (bl : Bool) (v : Nat) (vs : List Nat) (hv : ∀ x ∈ v :: vs, x < 1014) {rest : List (List UInt8)} (hr : Other sg rest) :
    parseB (rowsN sg bl (v :: vs) ++ rest) = (listB sg v (!(bl && !vs.isEmpty)) :: itemsN (vs.length + 1)) ++ parseB rest := by
  have hi := item_row hs (hv v (by simp))
  obtain ⟨r, e⟩ : ∃ r, rowsN sg bl (v :: vs) ++ rest = rowN sg v :: r := ⟨blk1 bl ++ (rowsN sg bl vs ++ rest), by simp [rowsN]⟩
  have hit := items_rows hs bl hr (v :: vs) (rowsN sg bl (v :: vs) ++ rest).length hv (Nat.le_refl _)
  rw [if_neg (by simp), List.length_cons] at hit
  have hf : firstM 12 (rowsN sg bl (v :: vs) ++ rest) = (listB sg v (!(bl && !vs.isEmpty)) :: itemsN (vs.length + 1), (rowsN sg bl (v :: vs)).length - (blk1 bl).length) := by
    have hh : (rowsN sg bl (v :: vs) ++ rest).headD [] = rowN sg v := by rw [e]; rfl
    have hl : (leafL (rowsN sg bl (v :: vs) ++ rest)).2 = 0 := by
      unfold leafL
      rw [hh, hi.cols, if_neg (by omega), hi.fence, hi.head, hi.rule]
      rfl
    have hq : beginsQ 0 (rowN sg v) = false := by
      unfold beginsQ
      rw [hi.quote]
      rfl
    have hbi : beginsI 0 (rowN sg v) = true := by
      unfold beginsI
      rw [hi.item]
      rfl
    show firstL (10 - ((10 : Nat) : Int)) (allL 11) (allL 10) _ = _
    rw [show (10 : Int) - ((10 : Nat) : Int) = 0 from by omega]
    unfold firstL
    rw [hl, if_neg (by rw [hh, hi.blank]; simp), if_neg (by omega), hh, hq, if_neg (by simp), hbi, if_pos rfl]
    unfold listL
    rw [hh, hi.item]
    dsimp only
    rw [hit]
    dsimp only
    rw [rows_tight hs bl v vs hv rest]
    rfl
  obtain ⟨P, hP⟩ := rows_end sg bl vs v
  show allL 12 _ = _
  rw [allL_step 12 _ (by rw [e]; simp), hf]
  dsimp only
  rw [show (rowsN sg bl (v :: vs) ++ rest).drop ((rowsN sg bl (v :: vs)).length - (blk1 bl).length) = blk1 bl ++ rest from by
    rw [hP, List.length_append, Nat.add_sub_cancel, List.append_assoc, List.drop_left], allL_blanks 12 (blk1 bl) rest (fun s h => by
      cases bl with
      | false => simp [blk1] at h
      | true => simp [blk1] at h; subst h; rfl)]
  rfl
theorem parse_nil : parseB [] = [] := rfl
theorem parse_one {sg : UInt8} (hs : sg = 46 ∨ sg = 41) (bl : Bool) (v : Nat) (vs : List Nat) (hv : ∀ x ∈ v :: vs, x < 1014) : parseB (rowsN sg bl (v :: vs)) = listB sg v (!(bl && !vs.isEmpty)) :: itemsN (vs.length + 1) := by
  have h := parse_list hs bl v vs hv (rest := []) (Or.inl rfl)
  rw [List.append_nil, parse_nil, List.append_nil] at h
  exact h
theorem parse_two (bl : Bool) (v u : Nat) (vs : List Nat) (hv : ∀ x ∈ v :: vs, x < 1014) (hu : u < 1014) : parseB (rowsN 46 bl (v :: vs) ++ rowsN 41 bl [u]) = (listB 46 v (!(bl && !vs.isEmpty)) :: itemsN (vs.length + 1)) ++ (listB 41 u true :: itemsN 1) := by
  have hr : Other 46 (rowsN 41 bl [u]) := Or.inr ⟨41, u, blk1 bl, by simp [rowsN], by decide, item_row (Or.inr rfl) hu⟩
  rw [parse_list (Or.inl rfl) bl v vs hv hr, parse_one (Or.inr rfl) bl u [] (by simpa using hu)]
  simp

/-! ### The lines that the law makes -/
/-- The lines of the first k items; the last of n may have another sign. -/
def lawL (n fr : Nat) (bl ot : Bool) (k : Nat) : List (List UInt8) := (List.range k).flatMap fun j => rowN (if ot && decide (j + 1 = n) then 41 else 46) (fr + j) :: blk1 bl
theorem lawL_zero (n fr : Nat) (bl ot : Bool) : lawL n fr bl ot 0 = [] := rfl
theorem lawL_succ (n fr : Nat) (bl ot : Bool) (k : Nat) : lawL n fr bl ot (k + 1) = lawL n fr bl ot k ++ (rowN (if ot && decide (k + 1 = n) then 41 else 46) (fr + k) :: blk1 bl) := by
  unfold lawL
  rw [List.range_succ, List.flatMap_append]
  simp
theorem lawL_len (n fr : Nat) (bl ot : Bool) : ∀ k, (lawL n fr bl ot k).length = k * (1 + (blk1 bl).length)
  | 0 => by simp [lawL_zero]
  | k + 1 => by
    rw [lawL_succ, List.length_append, lawL_len n fr bl ot k, List.length_cons, Nat.add_mul]
    omega
theorem lawL_rows (n fr : Nat) (bl ot : Bool) (k : Nat) (hk : ot = false ∨ k < n) : lawL n fr bl ot k = rowsN 46 bl ((List.range k).map (fr + ·)) := by
  unfold lawL rowsN
  rw [List.flatMap_map]
  rw [List.flatMap_def, List.flatMap_def]
  congr 1
  apply List.map_congr_left
  intro j hj
  have hj2 := List.mem_range.1 hj
  rw [if_neg]
  rcases hk with h | h
  · rw [h]; simp
  · have : ¬ j + 1 = n := by omega
    simp [this]
theorem nums_cons (fr n : Nat) : (List.range (n + 1)).map (fr + ·) = fr :: (List.range n).map (fr + 1 + ·) := by
  rw [List.range_succ_eq_map, List.map_cons, List.map_map]
  simp only [Nat.add_zero, List.cons.injEq, true_and]
  apply List.map_congr_left
  intro j _
  simp
  omega
theorem nums_lt {fr n : Nat} (h : fr + n ≤ 1014) : ∀ x ∈ (List.range n).map (fr + ·), x < 1014 := by
  intro x hx
  obtain ⟨j, hj, rfl⟩ := List.mem_map.1 hx
  have := List.mem_range.1 hj
  omega
/-- How many blocks of this kind there are. -/
def kinds (c : Int) (bs : List Blk) : Nat := (bs.filter fun b => b.kind == c).length
theorem kinds_append (c : Int) (a b : List Blk) : kinds c (a ++ b) = kinds c a + kinds c b := by simp [kinds]
theorem kinds_items (n : Nat) : kinds 4 (itemsN n) = 0 ∧ kinds 5 (itemsN n) = n ∧ kinds 1 (itemsN n) = n := by
  induction n with
  | zero => exact ⟨rfl, rfl, rfl⟩
  | succ n ih =>
    rw [itemsN_succ, show itemB :: xB :: itemsN n = [itemB, xB] ++ itemsN n from rfl, kinds_append, kinds_append, kinds_append, ih.1, ih.2.1, ih.2.2]
    refine ⟨rfl, ?_, ?_⟩
    · rw [show kinds 5 [itemB, xB] = 1 from rfl]; omega
    · rw [show kinds 1 [itemB, xB] = 1 from rfl]; omega
theorem kinds_list (sg : UInt8) (v : Nat) (t : Bool) (n : Nat) : kinds 4 (listB sg v t :: itemsN n) = 1 ∧ kinds 5 (listB sg v t :: itemsN n) = n ∧ kinds 1 (listB sg v t :: itemsN n) = n := by
  have h := kinds_items n
  rw [show listB sg v t :: itemsN n = [listB sg v t] ++ itemsN n from rfl, kinds_append, kinds_append, kinds_append, h.1, h.2.1, h.2.2]
  exact ⟨rfl, by rw [show kinds 5 [listB sg v t] = 0 from rfl]; omega, by rw [show kinds 1 [listB sg v t] = 0 from rfl]; omega⟩
theorem items_three (n : Nat) : ∀ b ∈ itemsN n, b.kind = 5 ∨ b.kind = 1 := by
  intro b hb
  unfold itemsN at hb
  obtain ⟨l, hl, hbl⟩ := List.mem_flatten.1 hb
  rw [List.eq_of_mem_replicate hl] at hbl
  simp at hbl
  rcases hbl with rfl | rfl
  · exact Or.inl rfl
  · exact Or.inr rfl
/-- What the law asks of the blocks. -/
structure LawOk (n fr : Nat) (bl ot : Bool) (bs : List Blk) : Prop where
  kind : ∀ b ∈ bs, b.kind = 4 ∨ b.kind = 5 ∨ b.kind = 1
  first : ∀ b : Blk, bs[0]? = some b → b.kind = 4 ∧ b.n = (fr : Int) ∧ b.tight = (!bl || decide (n = 1) || (ot && decide (n = 2)))
  lists : kinds 4 bs = (if (ot && decide (1 < n)) = true then 2 else 1)
  items : kinds 5 bs = n
  paras : kinds 1 bs = n
theorem law_ok (n fr : Nat) (bl ot : Bool) (h1 : 1 ≤ n) (h15 : n ≤ 15) (hfr : fr ≤ 999) : LawOk n fr bl ot (parseB (lawL n fr bl ot n)) := by
  obtain ⟨k, rfl⟩ : ∃ k, n = k + 1 := ⟨n - 1, by omega⟩
  cases ot with
  | false =>
    have e : parseB (lawL (k + 1) fr bl false (k + 1)) = listB 46 fr (!(bl && !((List.range k).map (fr + 1 + ·)).isEmpty)) :: itemsN (k + 1) := by
      rw [lawL_rows _ _ _ _ _ (Or.inl rfl), nums_cons, parse_one (Or.inl rfl) bl fr _ (by rw [← nums_cons]; exact nums_lt (by omega))]
      simp
    rw [e]
    obtain ⟨h4, h5, h6⟩ := kinds_list 46 fr (!(bl && !((List.range k).map (fr + 1 + ·)).isEmpty)) (k + 1)
    refine ⟨fun b hb => ?_, fun b hb => ?_, by rw [h4]; rfl, h5, h6⟩
    · rcases List.mem_cons.1 hb with rfl | hb
      · exact Or.inl rfl
      · exact Or.inr (items_three _ b hb)
    · simp only [List.getElem?_cons_zero, Option.some.injEq] at hb
      subst hb
      refine ⟨rfl, rfl, ?_⟩
      show (!(bl && !((List.range k).map (fr + 1 + ·)).isEmpty)) = _
      cases bl <;> cases k <;> simp [List.range_succ_eq_map]
  | true =>
    cases k with
    | zero =>
      have e : parseB (lawL (0 + 1) fr bl true (0 + 1)) = listB 41 fr true :: itemsN 1 := by
        rw [show lawL (0 + 1) fr bl true (0 + 1) = rowsN 41 bl [fr] from by simp [lawL, rowsN], parse_one (Or.inr rfl) bl fr [] (by simp; omega)]
        simp
      rw [e]
      obtain ⟨h4, h5, h6⟩ := kinds_list 41 fr true 1
      refine ⟨fun b hb => ?_, fun b hb => ?_, by rw [h4]; rfl, h5, h6⟩
      · rcases List.mem_cons.1 hb with rfl | hb
        · exact Or.inl rfl
        · exact Or.inr (items_three _ b hb)
      · simp only [List.getElem?_cons_zero, Option.some.injEq] at hb
        subst hb
        refine ⟨rfl, rfl, ?_⟩
        show true = _
        cases bl <;> rfl
    | succ k =>
      have e : parseB (lawL (k + 1 + 1) fr bl true (k + 1 + 1)) = (listB 46 fr (!(bl && !((List.range k).map (fr + 1 + ·)).isEmpty)) :: itemsN (k + 1)) ++ (listB 41 (fr + (k + 1)) true :: itemsN 1) := by
        rw [lawL_succ, lawL_rows _ _ _ _ _ (Or.inr (by omega)), nums_cons]
        have e2 : (rowN (if true && decide (k + 1 + 1 = k + 1 + 1) then 41 else 46) (fr + (k + 1)) :: blk1 bl) = rowsN 41 bl [fr + (k + 1)] := by simp [rowsN]
        rw [e2, parse_two bl fr _ _ (by rw [← nums_cons]; exact nums_lt (by omega)) (by omega)]
        simp
      rw [e]
      obtain ⟨h4, h5, h6⟩ := kinds_list 46 fr (!(bl && !((List.range k).map (fr + 1 + ·)).isEmpty)) (k + 1)
      obtain ⟨g4, g5, g6⟩ := kinds_list 41 (fr + (k + 1)) true 1
      refine ⟨fun b hb => ?_, fun b hb => ?_, by rw [kinds_append, h4, g4, if_pos (by simp)], by rw [kinds_append, h5, g5], by rw [kinds_append, h6, g6]⟩
      · rcases List.mem_append.1 hb with hb | hb
        · rcases List.mem_cons.1 hb with rfl | hb
          · exact Or.inl rfl
          · exact Or.inr (items_three _ b hb)
        · rcases List.mem_cons.1 hb with rfl | hb
          · exact Or.inl rfl
          · exact Or.inr (items_three _ b hb)
      · rw [List.cons_append] at hb
        simp only [List.getElem?_cons_zero, Option.some.injEq] at hb
        subst hb
        refine ⟨rfl, rfl, ?_⟩
        show (!(bl && !((List.range k).map (fr + 1 + ·)).isEmpty)) = _
        cases bl <;> cases k <;> simp [List.range_succ_eq_map]

end Go.Proofs.YtoleoigpijgboaaDoor
