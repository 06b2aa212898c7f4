/-
  Plain facts for the laws of package block: words of small letters begin nothing; paragraphs that are made of them.
-/
import Derived.Test.YtoleoigpijgboaaDoorBlkS
import Derived.Test.YtoleoigpijgboaaDoorMkP
namespace Go.Proofs.YtoleoigpijgboaaDoor
set_option linter.unusedSimpArgs false
set_option linter.unusedVariables false

/-- A word of small letters. -/
def Word (x : List UInt8) : Prop := Low x ∧ x ≠ []
structure Nothing (x : List UInt8) : Prop where
  blank : x.all isGap = false
  cols : mCols x 0 = 0
  fence : mkFence x = none
  head : mkHead x = none
  rule : mkRule x = false
  quote : mkQuote x = none
  item : mkItem x = none
  html : mkHtml x = false
  under : mkUnder x = 0
theorem Word.nothing {x : List UInt8} (h : Word x) : Nothing x := by
  obtain ⟨hl, hne⟩ := h
  cases x with
  | nil => exact absurd rfl hne
  | cons b t =>
    have hb := hl b (by simp)
    have hg : isGap b = false := hl.gap (by simp)
    have hn : ∀ c : UInt8, c.toNat < 97 ∨ 122 < c.toNat → b ≠ c := by
      rintro c hc rfl
      omega
    have hbg := mkBegin_here (b := b) (l := t) hg
    have hr : ∀ c : UInt8, c.toNat < 97 → mkRow c (b :: t) = 0 := fun c hc => mkRow_other (hn c (Or.inl hc))
    have hc : ∀ c : UInt8, c.toNat < 97 → mkCloses (b :: t) c 1 = false := by
      intro c hc
      unfold mkCloses
      rw [hbg, hr c hc, decide_eq_false (by omega), Bool.false_and]
    refine ⟨by rw [List.all_cons, hg]; rfl, mCols_other hg, ?_, ?_, ?_, ?_, ?_, ?_, ?_⟩
    · unfold mkFence
      dsimp only
      rw [hbg]
      have hp : Lib.hasPrefix (b :: t) [126] = false := by
        have := hn 126 (by decide)
        simp [Lib.hasPrefix, List.isPrefixOf]
        exact fun e => this e.symm
      rw [hp]
      simp only [Bool.false_eq_true, if_false]
      rw [hr 96 (by decide), if_pos (Or.inl (by decide))]
    · unfold mkHead
      rw [hbg, hr 35 (by decide), if_neg (by rintro ⟨h, _⟩; omega)]
    · unfold mkRule
      rw [hbg]
      exact ruleH_no (fun _ => by simp [isRS, hn 45 (by decide), hn 42 (by decide), hn 95 (by decide)]) (fun h => by cases h) hg
    · unfold mkQuote
      rw [hbg]
      have hp : Lib.hasPrefix (b :: t) [62] = false := by
        have := hn 62 (by decide)
        simp [Lib.hasPrefix, List.isPrefixOf]
        exact fun e => this e.symm
      rw [hp]
      rfl
    · unfold mkItem
      dsimp only
      rw [hbg]
      have hi : itemSg (b :: t) = (0, 0, 0) := itemF_none (fun _ => ⟨hn 45 (by decide), hn 43 (by decide), hn 42 (by decide)⟩) (fun h => absurd h (by omega)) (fun _ => by simp [isDig]; omega)
      rw [hi]
      exact if_pos (Or.inl rfl)
    · unfold mkHtml
      rw [hbg]
      have h60 := hn 60 (by decide)
      split
      · rename_i e
        injection e with e1 _
        exact absurd e1 h60
      · rfl
    · unfold mkUnder
      rw [hc 61 (by decide), hc 45 (by decide)]
      rfl
theorem Nothing.ends {x : List UInt8} (h : Nothing x) (d : Int) : endsP d x = false := by
  unfold endsP cutsL beginsQ
  rw [h.blank, h.fence, h.head, h.rule, h.quote, h.item]
  rfl
theorem Nothing.first {x : List UInt8} (h : Nothing x) (d : Int) (q i : List (List UInt8) → List Blk) (r : List (List UInt8)) : firstL d q i (x :: r) = ([{ (paraL d (x :: r)).1 with depth := d }], (paraL d (x :: r)).2) := by
  have hl : (leafL (x :: r)).2 = 0 := by
    unfold leafL
    rw [List.headD_cons, h.cols, if_neg (by omega), h.fence, h.head, h.rule]
    rfl
  unfold firstL
  rw [List.headD_cons, h.blank, hl, if_neg (by simp), if_neg (by omega)]
  unfold beginsQ beginsI
  rw [h.quote, h.item, h.html]
  rfl
theorem paraN_words (d : Int) : ∀ (ls m : List (List UInt8)), (∀ x ∈ ls, Nothing x) → paraN d (ls ++ m) = (ls.length + (paraN d m).1, (paraN d m).2)
  | [], m, _ => by simp
  | x :: ls, m, h => by
    have hx := h x (by simp)
    rw [List.cons_append]
    simp only [paraN]
    rw [hx.under, if_neg (by omega), hx.ends, if_neg (by simp), paraN_words d ls m (fun y hy => h y (by simp [hy]))]
    simp only [List.length_cons, Prod.mk.injEq, and_true]
    omega

/-! ### What the text is -/
theorem Word.noBegin {x : List UInt8} (h : Word x) : noBegin x = x := by
  have := dropGap_low (r := []) h.1 h.2
  rw [List.append_nil] at this
  exact this
theorem join_two (x y : List UInt8) (r : List (List UInt8)) : Lib.join (x :: y :: r) [10] = x ++ 10 :: Lib.join (y :: r) [10] := by
  rw [Lib.join_cons, Lib.join_cons]
  simp [Lib.joinTail]
theorem join_last : ∀ ls : List (List UInt8), ls ≠ [] → (∀ x ∈ ls, Word x) → ∃ t b, Lib.join ls [10] = t ++ [b] ∧ isGap b = false
  | [], h, _ => absurd rfl h
  | [x], _, h => by
    obtain ⟨hl, hne⟩ := h x (by simp)
    rcases List.eq_nil_or_concat x with h0 | ⟨t, b, h0⟩
    · exact absurd h0 hne
    · rw [List.concat_eq_append] at h0
      exact ⟨t, b, by rw [Lib.join_one, h0], hl.gap (by rw [h0]; simp)⟩
  | x :: y :: r, _, h => by
    obtain ⟨t, b, e, hb⟩ := join_last (y :: r) (by simp) (fun z hz => h z (by simp [hz]))
    exact ⟨x ++ 10 :: t, b, by rw [join_two, e]; simp, hb⟩
theorem flow_words (ls : List (List UInt8)) (h : ∀ x ∈ ls, Word x) : flowL ls = Lib.join ls [10] := by
  unfold flowL
  rw [show ls.map noBegin = ls from by
    rw [List.map_congr_left (g := id) (fun x hx => (h x hx).noBegin), List.map_id]]
  by_cases h0 : ls = []
  · subst h0; rfl
  · obtain ⟨t, b, e, hb⟩ := join_last ls h0 h
    rw [e, trimGR_snoc _ _ hb]
/-- A paragraph of words, to the end, or to a blank line. -/
theorem para_words (d : Int) (x : List UInt8) (ls m : List (List UInt8)) (hx : Word x) (h : ∀ y ∈ ls, Word y) (hm : paraN d m = (0, 0)) : paraL d (x :: (ls ++ m)) = (⟨1, 0, 0, false, Lib.join (x :: ls) [10], []⟩, ls.length + 1) := by
  have hp := paraN_words d ls m (fun y hy => (h y hy).nothing)
  rw [hm, Nat.add_zero] at hp
  unfold paraL
  rw [List.tail_cons, hp, if_neg (by simp)]
  simp only
  rw [show (x :: (ls ++ m)).take (ls.length + 1) = x :: ls from by rw [List.take_succ_cons, List.take_append_of_le_length (Nat.le_refl _), List.take_length], flow_words (x :: ls) (fun y hy => by
    rcases List.mem_cons.1 hy with rfl | hy
    · exact hx
    · exact h y hy)]
theorem parse_words (x : List UInt8) (ls m : List (List UInt8)) (hx : Word x) (h : ∀ y ∈ ls, Word y) (hm : paraN 0 m = (0, 0)) : parseB (x :: (ls ++ m)) = ⟨1, 0, 0, false, Lib.join (x :: ls) [10], []⟩ :: parseB m := by
  have hf : firstM 12 (x :: (ls ++ m)) = ([⟨1, 0, 0, false, Lib.join (x :: ls) [10], []⟩], ls.length + 1) := by
    show firstL (10 - ((10 : Nat) : Int)) _ _ _ = _
    rw [hx.nothing.first]
    rw [show (10 : Int) - ((10 : Nat) : Int) = 0 from by omega, para_words 0 x ls m hx h hm]
  show allL 12 _ = _
  rw [allL_step 12 _ (by simp), hf]
  simp only [List.drop_succ_cons]
  rw [List.drop_append_of_le_length (Nat.le_refl _), List.drop_length, List.nil_append]
  rfl
theorem paraN_blank0 (d : Int) {s : List UInt8} (h : s.all isGap = true) (m : List (List UInt8)) : paraN d (s :: m) = (0, 0) := by
  have := paraN_blank d h m []
  exact this
theorem parseB_blank {s : List UInt8} (h : s.all isGap = true) (m : List (List UInt8)) : parseB (s :: m) = parseB m := allL_blank 12 s m h

/-! ### A heading that a row is under -/
theorem parse_under (x y : List UInt8) (m : List (List UInt8)) (hx : Word x) (lv : Nat) (hlv : 0 < lv) (hy : mkUnder y = lv) : parseB (x :: y :: m) = ⟨2, 0, lv, false, x, []⟩ :: parseB m := by
  have hp : paraL 0 (x :: y :: m) = (⟨2, 0, lv, false, x, []⟩, 2) := by
    unfold paraL
    rw [List.tail_cons]
    simp only [paraN, hy]
    rw [if_pos hlv]
    simp only
    rw [if_pos hlv, show (x :: y :: m).take (0 + 1) = [x] from rfl, flow_words [x] (fun z hz => by simp at hz; subst hz; exact hx), Lib.join_one]
  have hf : firstM 12 (x :: y :: m) = ([⟨2, 0, lv, false, x, []⟩], 2) := by
    show firstL (10 - ((10 : Nat) : Int)) _ _ _ = _
    rw [hx.nothing.first, show (10 : Int) - ((10 : Nat) : Int) = 0 from by omega, hp]
  show allL 12 _ = _
  rw [allL_step 12 _ (by simp), hf]
  rfl
theorem rows_all : ∀ n, n < 10 → 1 ≤ n → mkUnder (List.replicate n 61) = 1 ∧ mkUnder (List.replicate n 45) = 2 ∧
    ((parseB [List.replicate n 61])[0]?).map (fun b => decide (b.kind = 2)) = some false ∧ ((parseB [List.replicate n 45])[0]?).map (fun b => decide (b.kind = 2)) = some false := by decide +kernel

end Go.Proofs.YtoleoigpijgboaaDoor
