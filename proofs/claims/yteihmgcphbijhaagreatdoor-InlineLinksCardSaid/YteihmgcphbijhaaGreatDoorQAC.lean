/- Texts joined: DefR TgRp InS InU InV InW InX. -/
import Derived.Test.YteihmgcphbijhaaGreatDoorQAB
namespace Go.Proofs.YteihmgcphbijhaaGreatDoor
open Go.RowKit
set_option linter.unusedSimpArgs false
set_option linter.unusedVariables false
theorem title_sq {t : List UInt8} (h : Lowers t) (l : List UInt8) : titleL (39 :: (t ++ 39 :: l)) = (t, t.length + 2, true) := by
  have hgo : btwGo 39 [] (t ++ 39 :: l) false 1 = some (t.length + 1) := by
    rw [btwGo_plain 39 [] t _ 1 (by
      intro b hb
      have := h b hb
      refine ⟨by omega, by omega, ?_, by simp⟩
      rintro rfl
      exact absurd this.1 (by decide)), btwGo_shut (by decide) (by decide) rfl]
    congr 1
    omega
  unfold titleL
  rw [if_neg (by simp [Lib.hasPrefix]), if_pos (by rfl)]
  unfold btwL
  rw [List.drop_one, List.tail_cons, hgo]
  simp only
  rw [List.take_succ_cons, List.drop_one, List.tail_cons, List.take_left, unL_letters h]
end Go.Proofs.YteihmgcphbijhaaGreatDoor
namespace Go.Proofs.YteihmgcphbijhaaGreatDoor
open Go.RowKit
set_option linter.unusedSimpArgs false
set_option linter.unusedVariables false
end Go.Proofs.YteihmgcphbijhaaGreatDoor

namespace Go.Proofs.YteihmgcphbijhaaGreatDoor
open Go.RowKit
set_option linter.unusedSimpArgs false
set_option linter.unusedVariables false
theorem drop_at {L pre rest : List UInt8} {k : Nat} (h : L = pre ++ rest) (hk : k = pre.length) : L.drop k = rest := by
  subst h; subst hk; simp
theorem last_at {L pre rest : List UInt8} {y : UInt8} {k : Nat} (h : L = pre ++ y :: rest) (hk : k = pre.length + 1) : L.getD (k - 1) 0 = y := by
  subst h; subst hk
  rw [List.getD_eq_getElem?_getD, show pre.length + 1 - 1 = pre.length from rfl, List.getElem?_append_right (Nat.le_refl _), Nat.sub_self]
  rfl
theorem takeW_blanks : ∀ (g rest : List UInt8), Blanks g → (∀ b ∈ rest.head?, blkB b.toNat = false) → ((g ++ rest).takeWhile fun b => blkB b.toNat).length = g.length
  | [], rest, _, hr => by
    cases rest with
    | nil => rfl
    | cons b rest => exact takeW_stop (hr b (by simp))
  | b :: g, rest, hg, hr => by
    rw [List.cons_append, takeW_cons (hg b (by simp)), takeW_blanks g rest (fun x hx => hg x (by simp [hx])) hr, List.length_cons]
theorem beh_at {L pre g rest : List UInt8} {k : Nat} (h : L = pre ++ (g ++ rest)) (hk : k = pre.length) (hg : Blanks g) (hr : ∀ b ∈ rest.head?, blkB b.toNat = false) : behL L k = k + g.length := by
  unfold behL
  rw [drop_at h hk, takeW_blanks g rest hg hr]
theorem letter_blk {b : UInt8} (h : 97 ≤ b.toNat ∧ b.toNat ≤ 122) : blkB b.toNat = false := by simp [blkB]; omega
theorem snoc_of {l : List UInt8} (h : l ≠ []) : ∃ m x, l = m ++ [x] := ⟨l.dropLast, l.getLast h, (List.dropLast_concat_getLast h).symm⟩
theorem head_of {b : UInt8} {l : List UInt8} (h : blkB b.toNat = false) : ∀ x ∈ (b :: l).head?, blkB x.toNat = false := by
  intro x hx
  simp at hx
  subst hx
  exact h
theorem head_letters {u : List UInt8} (h : Lowers u) (hne : u ≠ []) (l : List UInt8) : ∀ x ∈ (u ++ l).head?, blkB x.toNat = false := by
  match u, hne with
  | b :: u, _ => exact head_of (letter_blk (h b (by simp)))
theorem first_stop {g : List UInt8} {x : UInt8} (hg : Blanks g) (hx : tgHid x.toNat = true ∨ x.toNat = 41) (l : List UInt8) : ∃ y r, g ++ x :: l = y :: r ∧ (tgHid y.toNat = true ∨ y.toNat = 41) := by
  cases g with
  | nil => exact ⟨x, l, rfl, hx⟩
  | cons b g => exact ⟨b, g ++ x :: l, rfl, Or.inl (blank_hid (hg b (by simp)))⟩
theorem title_none (l : List UInt8) : titleL (41 :: l) = ([], 0, false) := rfl
theorem rnd_open {g1 u : List UInt8} (h1 : Blanks g1) (hu : Lowers u) (hne : u ≠ []) {R : List UInt8} (hR : ∃ y r, R = y :: r ∧ (tgHid y.toNat = true ∨ y.toNat = 41)) :
    insideL (40 :: (g1 ++ (u ++ R))) = insL2 (40 :: (g1 ++ (u ++ R))) u (behL (40 :: (g1 ++ (u ++ R))) (1 + g1.length + u.length)) := by
  obtain ⟨y, r, rfl, hy⟩ := hR
  have a1 : behL (40 :: (g1 ++ (u ++ y :: r))) 1 = 1 + g1.length := beh_at (pre := [40]) rfl rfl h1 (head_letters hu hne _)
  have hd : (40 :: (g1 ++ (u ++ y :: r))).drop (1 + g1.length) = u ++ y :: r := drop_at (pre := 40 :: g1) rfl (by simp; omega)
  unfold insideL
  rw [if_pos (by rfl), a1, hd, dest_stop hu hne hy]
theorem tgShut_at {L pre rest url title : List UInt8} {k : Nat} (h : L = pre ++ 41 :: rest) (hk : k = pre.length) : shutL L url title k = (url, title, k + 1, true) := by
  unfold shutL
  rw [drop_at h hk, if_pos (by rfl)]
theorem rnd_plain {g1 g3 u : List UInt8} (h1 : Blanks g1) (h3 : Blanks g3) (hu : Lowers u) (hne : u ≠ []) (more : List UInt8) :
    insideL (40 :: (g1 ++ (u ++ (g3 ++ 41 :: more)))) = (u, [], 2 + g1.length + u.length + g3.length, true) := by
  rw [rnd_open h1 hu hne (first_stop h3 (Or.inr rfl) more)]
  have a2 : behL (40 :: (g1 ++ (u ++ (g3 ++ 41 :: more)))) (1 + g1.length + u.length) = 1 + g1.length + u.length + g3.length :=
    beh_at (pre := 40 :: (g1 ++ u)) (rest := 41 :: more) (by simp) (by simp; omega) h3 (head_of (by decide))
  rw [a2]
  have hsh : ∀ t, shutL (40 :: (g1 ++ (u ++ (g3 ++ 41 :: more)))) u t (1 + g1.length + u.length + g3.length) = (u, t, 2 + g1.length + u.length + g3.length, true) := by
    intro t
    rw [tgShut_at (pre := 40 :: (g1 ++ (u ++ g3))) (rest := more) (by simp) (by simp; omega)]
    congr 3
    omega
  unfold insL2
  by_cases hg : g3 = []
  · subst hg
    obtain ⟨u', x, rfl⟩ := snoc_of hne
    rw [last_at (pre := 40 :: (g1 ++ u')) (y := x) (rest := 41 :: more) (by simp) (by simp; omega), letter_blk (hu x (by simp)), if_neg (by simp), hsh]
  · obtain ⟨g', x, rfl⟩ := snoc_of hg
    rw [last_at (pre := 40 :: (g1 ++ (u ++ g'))) (y := x) (rest := 41 :: more) (by simp) (by simp; omega), h3 x (by simp), if_pos rfl]
    have hd : (40 :: (g1 ++ (u ++ ((g' ++ [x]) ++ 41 :: more)))).drop (1 + g1.length + u.length + (g' ++ [x]).length) = 41 :: more := drop_at (pre := 40 :: (g1 ++ (u ++ (g' ++ [x])))) (by simp) (by simp; omega)
    rw [hd, title_none]
    simp only [Nat.add_zero]
    rw [beh_at (pre := 40 :: (g1 ++ (u ++ (g' ++ [x])))) (g := []) (rest := 41 :: more) (by simp) (by simp; omega) (by intro b hb; simp at hb) (head_of (by decide))]
    exact hsh []
theorem rnd_titleq {g1 g2 g3 u t : List UInt8} (q : UInt8) (hqb : blkB q.toNat = false) (hq : ∀ l, titleL (q :: (t ++ q :: l)) = (t, t.length + 2, true)) (h1 : Blanks g1) (h2 : Blanks g2) (hg2 : g2 ≠ []) (h3 : Blanks g3) (hu : Lowers u) (hne : u ≠ []) (more : List UInt8) :
    insideL (40 :: (g1 ++ (u ++ (g2 ++ q :: (t ++ q :: (g3 ++ 41 :: more)))))) = (u, t, 4 + g1.length + u.length + g2.length + t.length + g3.length, true) := by
  have hR : ∃ y r, g2 ++ q :: (t ++ q :: (g3 ++ 41 :: more)) = y :: r ∧ (tgHid y.toNat = true ∨ y.toNat = 41) := by
    match g2, hg2 with
    | b :: g, _ => exact ⟨b, g ++ q :: (t ++ q :: (g3 ++ 41 :: more)), rfl, Or.inl (blank_hid (h2 b (by simp)))⟩
  rw [rnd_open h1 hu hne hR]
  have a2 : behL (40 :: (g1 ++ (u ++ (g2 ++ q :: (t ++ q :: (g3 ++ 41 :: more)))))) (1 + g1.length + u.length) = 1 + g1.length + u.length + g2.length :=
    beh_at (pre := 40 :: (g1 ++ u)) (rest := q :: (t ++ q :: (g3 ++ 41 :: more))) (by simp) (by simp; omega) h2 (head_of hqb)
  rw [a2]
  obtain ⟨g', x, rfl⟩ := snoc_of hg2
  unfold insL2
  rw [last_at (pre := 40 :: (g1 ++ (u ++ g'))) (y := x) (rest := q :: (t ++ q :: (g3 ++ 41 :: more))) (by simp) (by simp; omega), h2 x (by simp), if_pos rfl]
  have hd : (40 :: (g1 ++ (u ++ ((g' ++ [x]) ++ q :: (t ++ q :: (g3 ++ 41 :: more)))))).drop (1 + g1.length + u.length + (g' ++ [x]).length) = q :: (t ++ q :: (g3 ++ 41 :: more)) := drop_at (pre := 40 :: (g1 ++ (u ++ (g' ++ [x])))) (by simp) (by simp; omega)
  rw [hd, hq]
  simp only
  rw [beh_at (pre := 40 :: (g1 ++ (u ++ ((g' ++ [x]) ++ q :: (t ++ [q]))))) (g := g3) (rest := 41 :: more) (by simp) (by simp; omega) h3 (head_of (by decide))]
  rw [tgShut_at (pre := 40 :: (g1 ++ (u ++ ((g' ++ [x]) ++ q :: (t ++ q :: g3))))) (rest := more) (by simp) (by simp; omega)]
  congr 3
  omega
end Go.Proofs.YteihmgcphbijhaaGreatDoor

namespace Go.Proofs.YteihmgcphbijhaaGreatDoor
open Go.RowKit
set_option linter.unusedSimpArgs false
set_option linter.unusedVariables false
theorem lastMk_is (m : List Itm) (img : Bool) (pos : Nat) (sh : Bool) (l : List Ent) : lastMk (m.map Ent.it ++ .mk img pos sh :: l) = some (m, (img, pos, sh), l) := by
  induction m with
  | nil => rfl
  | cons x m ih => simp [lastMk, ih]
def ents (E : Env) (ps : List (List UInt8 × Tk)) : List Itm := (ps.flatMap fun q => entT E q.2).reverse.map ndI
theorem ents_map (E : Env) (ps : List (List UInt8 × Tk)) : (ps.flatMap fun q => entT E q.2).reverse.map (fun x => Ent.it (ndI x)) = (ents E ps).map Ent.it := by
  unfold ents
  rw [List.map_map]
  rfl
theorem ents_group (E : Env) (ps : List (List UInt8 × Tk)) : groupI (ents E ps).reverse = mergeI (ps.flatMap fun q => entT E q.2).flatten := by
  unfold ents
  rw [← List.map_reverse, List.reverse_reverse, all_nds _ (fun x hx => by obtain ⟨y, _, rfl⟩ := List.mem_map.1 hx; rfl), allI_nds]
/-- An opener, tokens that stand by themselves, and the sign that closes: what it is then. -/
theorem bracket (E : Env) (D : List Dfn) (img : Bool) (ps : List (List UInt8 × Tk)) (p r : List UInt8) (l : List Ent) (h : Cuts ps (93 :: r)) :
    inlFrom E D (p ++ (markOf img ++ (flatP ps ++ 93 :: r))) p.length l =
      match askedL D img (flatP ps) r with
      | none => inlFrom E D (p ++ (markOf img ++ (flatP ps ++ 93 :: r))) (p ++ (markOf img ++ (flatP ps ++ [93]))).length (.it (ndI [wordsI 0 [93]]) :: (ents E ps).map Ent.it ++ .it (ndI [wordsI 0 (markOf img)]) :: l)
      | some (x, n) => inlFrom E D (p ++ (markOf img ++ (flatP ps ++ 93 :: r))) ((p ++ (markOf img ++ (flatP ps ++ [93]))).length + n)
          (if x.kd = 6 then .it (ndI [{ x with txt := textI (mergeI (ps.flatMap fun q => entT E q.2).flatten) }]) :: l
           else if x.kd = 5 then .it (ndI (x :: deepI (mergeI (ps.flatMap fun q => entT E q.2).flatten))) :: l.map shutE
           else .it (ndI [x]) :: l) := by
  have hu : markOf img ≠ [] := by cases img <;> simp [markOf]
  have ht : nextL (markOf img ++ (flatP ps ++ 93 :: r)) = (.mark (markOf img), (markOf img).length) := by
    cases img
    · exact next_sq _
    · exact next_im _
  have e1 := inlFrom_plain E D p (markOf img) (flatP ps ++ 93 :: r) l hu ht (fun m e => by cases e; cases img <;> simp [markOf])
  have e2 : (stepI E D (p ++ (markOf img ++ (flatP ps ++ 93 :: r))) p.length (p ++ markOf img).length (.mark (markOf img)) l).1 = .mk img (p ++ markOf img).length false :: l := by
    cases img <;> simp [stepI, markOf]
  have e3 := cuts_run E D ps (p ++ markOf img) (93 :: r) (.mk img (p ++ markOf img).length false :: l) h
  rw [ents_map] at e3
  rw [e1, e2]
  have es : p ++ markOf img ++ (flatP ps ++ 93 :: r) = p ++ (markOf img ++ (flatP ps ++ 93 :: r)) := by simp
  rw [es] at e3
  rw [e3]
  generalize hs : p ++ (markOf img ++ (flatP ps ++ 93 :: r)) = s
  have hd : s.drop (p ++ markOf img ++ flatP ps).length = 93 :: r := by
    rw [← hs, show p ++ (markOf img ++ (flatP ps ++ 93 :: r)) = (p ++ markOf img ++ flatP ps) ++ 93 :: r from by simp]
    exact List.drop_left' rfl
  have hlt : (p ++ markOf img ++ flatP ps).length < s.length := by rw [← hs]; simp
  rw [inlFrom_tok E D s _ _ hlt (t := .mark [93]) (n := 1) (by rw [hd]; exact next_qs r)]
  have hx : (s.take (p ++ markOf img ++ flatP ps).length).drop (p ++ markOf img).length = flatP ps := by
    rw [← hs, show p ++ (markOf img ++ (flatP ps ++ 93 :: r)) = (p ++ markOf img ++ flatP ps) ++ 93 :: r from by simp, List.take_left' rfl]
    exact List.drop_left' rfl
  have hb : s.drop ((p ++ markOf img ++ flatP ps).length + 1) = r := by
    rw [← List.drop_drop, hd]; rfl
  have hc : stepI E D s (p ++ markOf img ++ flatP ps).length ((p ++ markOf img ++ flatP ps).length + 1) (.mark [93]) ((ents E ps).map Ent.it ++ .mk img (p ++ markOf img).length false :: l) = closeI D s (p ++ markOf img ++ flatP ps).length ((p ++ markOf img ++ flatP ps).length + 1) ((ents E ps).map Ent.it ++ .mk img (p ++ markOf img).length false :: l) := rfl
  rw [hc]
  unfold closeI
  rw [lastMk_is]
  simp only [Bool.false_eq_true, if_false, hx, hb]
  have el : (p ++ markOf img ++ flatP ps).length + 1 = (p ++ (markOf img ++ (flatP ps ++ [93]))).length := by simp; omega
  cases ha : askedL D img (flatP ps) r with
  | none =>
    simp only [el, Nat.add_zero]
  | some xn =>
    obtain ⟨x, n⟩ := xn
    simp only
    rw [el, ents_group]
    by_cases h6 : x.kd = 6
    · simp only [if_pos h6]
    · by_cases h5 : x.kd = 5
      · simp only [if_neg h6, if_pos h5]
      · simp only [if_neg h6, if_neg h5]
theorem lowers_of {u : List UInt8} (h : ∀ b ∈ u, lowB b = true) : Lowers u := fun b hb => by
  have := h b hb
  unfold lowB at this; rw [inR_iff] at this; omega
theorem group_one (x : Iln) (h : x.kd ≠ 1) : groupI [ndI [x]] = [x] := by
  rw [all_nds _ (by simp [ndI])]
  simp [allI, leftI, ndI, mergeI, mergeOne, h]
end Go.Proofs.YteihmgcphbijhaaGreatDoor

namespace Go.Proofs.YteihmgcphbijhaaGreatDoor
open Go.RowKit
set_option linter.unusedSimpArgs false
set_option linter.unusedVariables false
theorem lastMk_some {M : List Ent} {m : List Itm} {o : Bool × Nat × Bool} {l : List Ent} (h : lastMk M = some (m, o, l)) : M = m.map Ent.it ++ .mk o.1 o.2.1 o.2.2 :: l := by
  induction M generalizing m with
  | nil => cases h
  | cons e M ih =>
    cases e with
    | mk img pos sh => cases h; rfl
    | it x =>
      unfold lastMk at h
      split at h
      · next m2 o2 l2 he => cases h; rw [ih he]; rfl
      · cases h
theorem leftI_nd (l : List Iln) : leftI (ndI l) = l := rfl
end Go.Proofs.YteihmgcphbijhaaGreatDoor

namespace Go.Proofs.YteihmgcphbijhaaGreatDoor
open Go.RowKit
set_option linter.unusedSimpArgs false
set_option linter.unusedVariables false
def contK (k : Int) : Bool := k == 3 || k == 4 || k == 5 || k == 12
def nxtI (x : Iln) : Int := if contK x.kd then x.dp + 1 else x.dp
theorem nxtI_words {x : Iln} (h : x.kd = 1) : nxtI x = x.dp := by unfold nxtI; rw [h]; rfl
theorem nxtI_ge (x : Iln) : x.dp ≤ nxtI x := by unfold nxtI; split <;> omega
def nestAt : Int → List Iln → Int
  | d, [] => d
  | _, x :: l => nestAt (nxtI x) l
def nestOk : Int → List Iln → Bool
  | _, [] => true
  | d, x :: l => decide (x.dp ≤ d) && nestOk (nxtI x) l
theorem nestOk_append (a b : List Iln) : ∀ d, nestOk d (a ++ b) = (nestOk d a && nestOk (nestAt d a) b) := by
  induction a with
  | nil => intro d; rfl
  | cons x a ih => intro d; simp only [List.cons_append, nestOk, nestAt, ih, Bool.and_assoc]
theorem nestOk_mono (l : List Iln) {d e : Int} (h : d ≤ e) (k : nestOk d l = true) : nestOk e l = true := by
  cases l with
  | nil => rfl
  | cons x l =>
    simp only [nestOk, Bool.and_eq_true, decide_eq_true_eq] at k ⊢
    exact ⟨by omega, k.2⟩
theorem nestAt_lo (a : List Iln) (h : ∀ x ∈ a, 0 ≤ x.dp) : ∀ d, 0 ≤ d → 0 ≤ nestAt d a := by
  induction a with
  | nil => intro d hd; exact hd
  | cons x a ih =>
    intro d hd
    have hx := h x (by simp)
    exact ih (fun y hy => h y (by simp [hy])) _ (by have := nxtI_ge x; omega)
theorem nestOk_both {a b : List Iln} (h : ∀ x ∈ a, 0 ≤ x.dp) {d : Int} (hd : 0 ≤ d) (ha : nestOk d a = true) (hb : nestOk 0 b = true) : nestOk d (a ++ b) = true := by
  rw [nestOk_append, ha, nestOk_mono b (nestAt_lo a h d hd) hb]; rfl
theorem nestOk_deep (l : List Iln) (h : SmallD l) : ∀ d, nestOk (d + 1) (deepI l) = nestOk d l := by
  induction l with
  | nil => intro d; rfl
  | cons x l ih =>
    intro d
    have hx := h x (by simp)
    rw [show deepI (x :: l) = deepOne x :: deepI l from rfl]
    have e : nxtI (deepOne x) = nxtI x + 1 := by
      unfold nxtI deepOne
      simp only [wrap_small hx.1 hx.2]
      split <;> rfl
    simp only [nestOk, e, ih (fun y hy => h y (by simp [hy]))]
    congr 1
    simp only [deepOne, wrap_small hx.1 hx.2]
    exact decide_eq_decide.2 (by omega)
theorem nestOk_mergeOne (out : List Iln) (x : Iln) (r : List Iln) (d : Int) (h : nestOk d (out ++ x :: r) = true) : nestOk d (mergeOne out x ++ r) = true := by
  rcases List.eq_nil_or_concat out with rfl | ⟨l', y, rfl⟩
  · rw [mergeOne_nil]
    simp only [List.nil_append, nestOk, Bool.and_eq_true, decide_eq_true_eq] at h
    split
    · next hk =>
      rw [nxtI_words hk] at h
      split
      · exact nestOk_mono r h.1 h.2
      · simp only [List.cons_append, List.nil_append, nestOk, Bool.and_eq_true, decide_eq_true_eq]
        rw [nxtI_words rfl]
        exact ⟨h.1, h.2⟩
    · simp only [List.cons_append, List.nil_append, nestOk, Bool.and_eq_true, decide_eq_true_eq]
      exact h
  · rw [List.concat_eq_append] at h ⊢
    rw [mergeOne_snoc]
    rw [List.append_assoc, nestOk_append] at h
    simp only [List.cons_append, List.nil_append, nestOk, Bool.and_eq_true, decide_eq_true_eq] at h
    obtain ⟨h1, h2, h3, h4⟩ := h
    split
    · next hk =>
      rw [nxtI_words hk] at h4
      split
      · rw [List.append_assoc, nestOk_append, h1]
        simp only [List.cons_append, List.nil_append, nestOk, Bool.and_eq_true, decide_eq_true_eq, Bool.true_and]
        exact ⟨h2, nestOk_mono r h3 h4⟩
      · split
        · next hy =>
          rw [List.append_assoc, nestOk_append, h1]
          simp only [List.cons_append, List.nil_append, nestOk, Bool.and_eq_true, decide_eq_true_eq, Bool.true_and]
          rw [nxtI_words (x := { y with txt := y.txt ++ x.txt }) hy.1]
          exact ⟨h2, by show nestOk y.dp r = true; rw [hy.2]; exact h4⟩
        · rw [List.append_assoc, List.append_assoc, nestOk_append, h1]
          simp only [List.cons_append, List.nil_append, nestOk, Bool.and_eq_true, decide_eq_true_eq, Bool.true_and]
          rw [nxtI_words (x := wordsI x.dp x.txt) rfl]
          exact ⟨h2, h3, h4⟩
    · rw [List.append_assoc, List.append_assoc, nestOk_append, h1]
      simp only [List.cons_append, List.nil_append, nestOk, Bool.and_eq_true, decide_eq_true_eq, Bool.true_and]
      exact ⟨h2, h3, h4⟩
theorem nestOk_foldl (l : List Iln) : ∀ (p : List Iln) (d : Int), nestOk d (p ++ l) = true → nestOk d (l.foldl mergeOne p) = true := by
  induction l with
  | nil => intro p d h; simpa using h
  | cons x l ih => intro p d h; exact ih _ d (nestOk_mergeOne p x l d h)
theorem nestOk_merge {l : List Iln} {d : Int} (h : nestOk d l = true) : nestOk d (mergeI l) = true := nestOk_foldl l [] d h
/-- Kinds are kept when nodes are put together. -/
def KindsP (K : Int → Prop) (l : List Iln) : Prop := ∀ x ∈ l, K x.kd
theorem kindsP_mergeOne {K : Int → Prop} {out : List Iln} (h : KindsP K out) {x : Iln} (hx : K x.kd) : KindsP K (mergeOne out x) := by
  rcases List.eq_nil_or_concat out with rfl | ⟨l', y, rfl⟩
  · rw [mergeOne_nil]
    split
    · next hk =>
      split
      · exact h
      · intro z hz; simp at hz; subst hz; rw [hk] at hx; exact hx
    · intro z hz; simp at hz; subst hz; exact hx
  · rw [List.concat_eq_append] at h ⊢
    rw [mergeOne_snoc]
    have hl : ∀ z ∈ l', K z.kd := fun z hz => h z (List.mem_append_left _ hz)
    have hy : K y.kd := h y (by simp)
    split
    · next hk =>
      split
      · exact h
      · split
        · intro z hz
          rcases List.mem_append.1 hz with hz | hz
          · exact hl z hz
          · simp at hz; subst hz; exact hy
        · intro z hz
          rcases List.mem_append.1 hz with hz | hz
          · exact h z hz
          · simp at hz; subst hz; rw [hk] at hx; exact hx
    · intro z hz
      rcases List.mem_append.1 hz with hz | hz
      · exact h z hz
      · simp at hz; subst hz; exact hx
theorem kindsP_foldl {K : Int → Prop} (l : List Iln) : ∀ {p : List Iln}, KindsP K p → KindsP K l → KindsP K (l.foldl mergeOne p) := by
  induction l with
  | nil => intro p hp _; exact hp
  | cons x l ih => intro p hp hl; exact ih (kindsP_mergeOne hp (hl x (by simp))) (fun y hy => hl y (by simp [hy]))
theorem kindsP_merge {K : Int → Prop} {l : List Iln} (h : KindsP K l) : KindsP K (mergeI l) := kindsP_foldl l (by intro x hx; cases hx) h
/-- What is so of rows and nodes, and of what they become. -/
structure NKeep (K : Int → Prop) (T : Nat) (S : List Itm) : Prop where
  kinds : KindsP K (allI S)
  lo : ∀ x ∈ allI S, 0 ≤ x.dp
  hi : ∀ x ∈ allI S, x.dp + signsI S ≤ T
  nn : ∀ x ∈ S, 0 ≤ x.n
  shape : ∀ x ∈ S, nestOk 0 (leftI x) = true
theorem nshape_all (S : List Itm) (lo : ∀ x ∈ allI S, 0 ≤ x.dp) (h : ∀ x ∈ S, nestOk 0 (leftI x) = true) : nestOk 0 (allI S) = true := by
  induction S with
  | nil => rfl
  | cons x S ih =>
    rw [allI_cons] at lo ⊢
    exact nestOk_both (fun y hy => lo y (List.mem_append_left _ hy)) (Int.le_refl _) (h x (by simp)) (ih (fun y hy => lo y (List.mem_append_right _ hy)) (fun y hy => h y (by simp [hy])))
def hdN (k : Int) : Iln := ⟨if k = 2 then 4 else 3, 0, [], [], []⟩
theorem leftI_node (k : Int) (l : List Iln) : leftI (nodeI k l) = hdN k :: deepI l := by simp [nodeI, leftI, hdN]
theorem hdN_kd (k : Int) : (hdN k).kd = 3 ∨ (hdN k).kd = 4 := by
  unfold hdN
  by_cases h : k = 2
  · exact Or.inr (by simp [h])
  · exact Or.inl (by simp [h])
theorem hdN_nxt (k : Int) : nxtI (hdN k) = 1 := by
  unfold nxtI
  rw [if_pos]
  · rfl
  · rcases hdN_kd k with e | e <;> rw [e] <;> rfl
theorem pair_lists {A M R : List Itm} {o c : Itm} (ho : canOpen o c = true) (hc : canClose c = true) :
    allI (A ++ o :: M ++ c :: R) = allI A ++ (leftI o ++ (allI M ++ (leftI c ++ allI R))) ∧
    allI (A ++ lessI o (kOf o c) :: nodeI (kOf o c) (allI M) :: lessI c (kOf o c) :: R) = allI A ++ ([wordsI 0 (List.replicate (o.n - kOf o c).toNat o.sg)] ++ ((hdN (kOf o c) :: deepI (allI M)) ++ ([wordsI 0 (List.replicate (c.n - kOf o c).toNat c.sg)] ++ allI R))) ∧
    signsI (A ++ lessI o (kOf o c) :: nodeI (kOf o c) (allI M) :: lessI c (kOf o c) :: R) + 2 * (kOf o c).toNat + signsI M = signsI (A ++ o :: M ++ c :: R) ∧ 1 ≤ (kOf o c).toNat := by
  have hc0 := canClose_pos hc
  have ho0 := canOpen_pos ho
  have hk := kOf_is o c ho0.1 hc0.1
  have hos : o.sg ≠ 0 := by rw [ho0.2.1]; exact hc0.2.1
  refine ⟨by simp [allI_append, allI_cons], ?_, ?_, by omega⟩
  · rw [allI_append, allI_cons, allI_cons, allI_cons, leftI_less hos, leftI_less hc0.2.1, leftI_node]
  · simp only [signsI_append, signsI_cons, lessI, nodeI, List.append_assoc, List.cons_append]
    have e0 : ((0 : Int)).toNat = 0 := rfl
    omega
theorem NKeep.pair {K : Int → Prop} (k1 : K 1) (k3 : K 3) (k4 : K 4) {T : Nat} (hT : T ≤ 1000000) {A M R : List Itm} {o c : Itm} (h : NKeep K T (A ++ o :: M ++ c :: R)) (ho : canOpen o c = true) (hc : canClose c = true) :
    NKeep K T (A ++ lessI o (kOf o c) :: nodeI (kOf o c) (allI M) :: lessI c (kOf o c) :: R) := by
  have hc0 := canClose_pos hc
  have ho0 := canOpen_pos ho
  have hk := kOf_is o c ho0.1 hc0.1
  have hos : o.sg ≠ 0 := by rw [ho0.2.1]; exact hc0.2.1
  obtain ⟨eS, eN, sN, hk1⟩ := pair_lists (A := A) (M := M) (R := R) ho hc
  have hkin := h.kinds
  have hlo := h.lo
  have hhi := h.hi
  rw [eS] at hkin hlo hhi
  have smallM : SmallD (allI M) := fun x hx => by
    have h1 := hlo x (by simp [hx])
    have h2 := hhi x (by simp [hx])
    omega
  have memM : ∀ z ∈ deepI (allI M), ∃ y ∈ allI M, z = deepOne y ∧ z.dp = y.dp + 1 := fun z hz => by
    obtain ⟨y, hy, rfl⟩ := List.mem_map.1 hz
    have := smallM y hy
    exact ⟨y, hy, rfl, wrap_small this.1 this.2⟩
  have cases' : ∀ (P : Iln → Prop), (∀ x ∈ allI A, P x) → (∀ s, P (wordsI 0 s)) → P (hdN (kOf o c)) → (∀ x ∈ deepI (allI M), P x) → (∀ x ∈ allI R, P x) → ∀ x ∈ allI (A ++ lessI o (kOf o c) :: nodeI (kOf o c) (allI M) :: lessI c (kOf o c) :: R), P x := by
    intro P p1 p2 p3 p4 p5 x hx
    rw [eN] at hx
    simp only [List.mem_append, List.mem_cons, List.not_mem_nil, or_false] at hx
    rcases hx with hx | rfl | (rfl | hx) | rfl | hx
    · exact p1 x hx
    · exact p2 _
    · exact p3
    · exact p4 x hx
    · exact p2 _
    · exact p5 x hx
  refine ⟨?_, ?_, ?_, ?_, ?_⟩
  · refine cases' _ (fun x hx => hkin x (by simp [hx])) (fun s => k1) ?_ (fun x hx => ?_) (fun x hx => hkin x (by simp [hx]))
    · rcases hdN_kd (kOf o c) with e | e <;> rw [e]
      · exact k3
      · exact k4
    · obtain ⟨y, hy, rfl, _⟩ := memM x hx
      exact hkin y (by simp [hy])
  · refine cases' (fun x => 0 ≤ x.dp) (fun x hx => hlo x (by simp [hx])) (fun s => Int.le_refl _) (Int.le_refl _) (fun x hx => ?_) (fun x hx => hlo x (by simp [hx]))
    obtain ⟨y, hy, _, e⟩ := memM x hx
    have := hlo y (by simp [hy])
    omega
  · have hw := hhi (wordsI 0 (List.replicate o.n.toNat o.sg)) (by rw [leftI_row hos]; simp)
    simp only [wordsI] at hw
    refine cases' (fun x => x.dp + _ ≤ _) (fun x hx => ?_) (fun s => ?_) ?_ (fun x hx => ?_) (fun x hx => ?_)
    · have := hhi x (by simp [hx]); omega
    · simp only [wordsI]; omega
    · show (0 : Int) + _ ≤ _; omega
    · obtain ⟨y, hy, _, e⟩ := memM x hx
      have := hhi y (by simp [hy])
      omega
    · have := hhi x (by simp [hx]); omega
  · intro x hx
    simp only [List.mem_append, List.mem_cons] at hx
    rcases hx with hx | rfl | rfl | rfl | hx
    · exact h.nn x (by simp [hx])
    · simp only [lessI]; omega
    · simp [nodeI]
    · simp only [lessI]; omega
    · exact h.nn x (by simp [hx])
  · intro x hx
    simp only [List.mem_append, List.mem_cons] at hx
    rcases hx with hx | rfl | rfl | rfl | hx
    · exact h.shape x (by simp [hx])
    · rw [leftI_less hos]; rfl
    · have hM : nestOk 0 (allI M) = true := nshape_all M (fun y hy => hlo y (by simp [hy])) (fun y hy => h.shape y (by simp [hy]))
      rw [leftI_node]
      have e0 : (hdN (kOf o c)).dp = 0 := rfl
      simp only [nestOk, e0, Int.le_refl, decide_true, Bool.true_and, hdN_nxt]
      have := nestOk_deep (allI M) smallM 0
      rw [show ((0 : Int) + 1) = 1 from rfl] at this
      rw [this]; exact hM
    · rw [leftI_less hc0.2.1]; rfl
    · exact h.shape x (by simp [hx])
theorem nkeep_go {K : Int → Prop} (k1 : K 1) (k3 : K 3) (k4 : K 4) {T : Nat} (hT : T ≤ 1000000) : ∀ (f : Nat) (l r : List Itm), NKeep K T (l.reverse ++ r) → NKeep K T (groupGo f l r)
  | 0, l, r, h => by simpa [groupGo] using h
  | f + 1, l, [], h => by simpa [groupGo] using h
  | f + 1, l, c :: r, h => by
    simp only [groupGo]
    split
    · next hc =>
      split
      · exact nkeep_go k1 k3 k4 hT f _ _ (by simpa using h)
      · next m o l' he =>
        obtain ⟨rfl, ho, _⟩ := openerI_some he
        refine nkeep_go k1 k3 k4 hT f _ _ ?_
        have h' : NKeep K T (l'.reverse ++ o :: m.reverse ++ c :: r) := by simpa using h
        have := h'.pair k1 k3 k4 hT ho hc
        simpa using this
    · exact nkeep_go k1 k3 k4 hT f _ _ (by simpa using h)
theorem nkeep_group {K : Int → Prop} (k1 : K 1) (k3 : K 3) (k4 : K 4) {T : Nat} (hT : T ≤ 1000000) {S : List Itm} (h : NKeep K T S) : KindsP K (groupI S) ∧ nestOk 0 (groupI S) = true ∧ (∀ x ∈ groupI S, 0 ≤ x.dp ∧ x.dp ≤ T) ∧ Merged (groupI S) := by
  have hG := nkeep_go k1 k3 k4 hT (fuelI S) [] S (by simpa using h)
  refine ⟨kindsP_merge hG.kinds, nestOk_merge (nshape_all _ hG.lo hG.shape), ?_, mergeI_merged _⟩
  have hb : ∀ (l p : List Iln), (∀ x ∈ p, 0 ≤ x.dp ∧ x.dp ≤ (T : Int)) → (∀ x ∈ l, 0 ≤ x.dp ∧ x.dp ≤ (T : Int)) → ∀ x ∈ l.foldl mergeOne p, 0 ≤ x.dp ∧ x.dp ≤ (T : Int) := by
    intro l
    induction l with
    | nil => intro p hp _; exact hp
    | cons x l ih =>
      intro p hp hl
      refine ih _ ?_ (fun y hy => hl y (by simp [hy]))
      have hx := hl x (by simp)
      rcases List.eq_nil_or_concat p with rfl | ⟨l', y, rfl⟩
      · rw [mergeOne_nil]
        split
        · split
          · exact hp
          · intro z hz; simp at hz; subst hz; exact hx
        · intro z hz; simp at hz; subst hz; exact hx
      · rw [List.concat_eq_append] at hp ⊢
        rw [mergeOne_snoc]
        have hy := hp y (by simp)
        split
        · split
          · exact hp
          · split
            · intro z hz
              rcases List.mem_append.1 hz with hz | hz
              · exact hp z (List.mem_append_left _ hz)
              · simp at hz; subst hz; exact hy
            · intro z hz
              rcases List.mem_append.1 hz with hz | hz
              · exact hp z hz
              · simp at hz; subst hz; exact hx
        · intro z hz
          rcases List.mem_append.1 hz with hz | hz
          · exact hp z hz
          · simp at hz; subst hz; exact hx
  exact hb _ [] (by intro x hx; cases hx) (fun x hx => ⟨hG.lo x hx, by have := hG.hi x hx; omega⟩)
structure TxtSt (K : Int → Prop) (T rest : Nat) (l : List Ent) : Prop where
  kinds : KindsP K (allI (l.map entI))
  lo : ∀ x ∈ allI (l.map entI), 0 ≤ x.dp
  hi : ∀ x ∈ allI (l.map entI), x.dp + signsI (l.map entI) + rest ≤ T
  room : signsI (l.map entI) + rest ≤ T
  nn : ∀ x ∈ l.map entI, 0 ≤ x.n
  shape : ∀ x ∈ l.map entI, nestOk 0 (leftI x) = true
theorem TxtSt.less {K : Int → Prop} {T a b : Nat} {l : List Ent} (h : TxtSt K T a l) (hb : b ≤ a) : TxtSt K T b l :=
  ⟨h.kinds, h.lo, fun x hx => by have := h.hi x hx; omega, by have := h.room; omega, h.nn, h.shape⟩
/-- Nodes more. -/
theorem TxtSt.nodes {K : Int → Prop} {T a b : Nat} {l : List Ent} (h : TxtSt K T a l) (hb : b < a) (e : Ent) (x : List Iln) (he : entI e = ndI x) (hk : KindsP K x) (hlo : ∀ y ∈ x, 0 ≤ y.dp ∧ y.dp ≤ 1) (hs : nestOk 0 x = true) : TxtSt K T b (e :: l) := by
  have hr := h.room
  have e1 : allI ((e :: l).map entI) = x ++ allI (l.map entI) := by rw [List.map_cons, allI_cons, he]; rfl
  have e2 : signsI ((e :: l).map entI) = signsI (l.map entI) := by rw [List.map_cons, signsI_cons, he]; simp [ndI]
  refine ⟨?_, ?_, ?_, ?_, ?_, ?_⟩
  · rw [e1]; intro y hy
    rcases List.mem_append.1 hy with hy | hy
    · exact hk y hy
    · exact h.kinds y hy
  · rw [e1]; intro y hy
    rcases List.mem_append.1 hy with hy | hy
    · exact (hlo y hy).1
    · exact h.lo y hy
  · rw [e1, e2]; intro y hy
    rcases List.mem_append.1 hy with hy | hy
    · have := (hlo y hy).2; omega
    · have := h.hi y hy; omega
  · rw [e2]; omega
  · intro y hy
    rw [List.map_cons, he] at hy
    rcases List.mem_cons.1 hy with rfl | hy
    · exact Int.le_refl _
    · exact h.nn y hy
  · intro y hy
    rw [List.map_cons, he] at hy
    rcases List.mem_cons.1 hy with rfl | hy
    · exact hs
    · exact h.shape y hy
/-- A row more. -/
theorem TxtSt.row {K : Int → Prop} (k1 : K 1) {T a b n : Nat} {l : List Ent} (h : TxtSt K T a l) (hb : b + n ≤ a) (x : Itm) (hx : x.n = n) (hsg : x.sg ≠ 0) : TxtSt K T b (.it x :: l) := by
  have hr := h.room
  have e1 : allI ((Ent.it x :: l).map entI) = wordsI 0 (List.replicate x.n.toNat x.sg) :: allI (l.map entI) := by rw [List.map_cons, allI_cons]; rw [show entI (.it x) = x from rfl, leftI_row hsg]; rfl
  have e2 : signsI ((Ent.it x :: l).map entI) = n + signsI (l.map entI) := by rw [List.map_cons, signsI_cons, show entI (.it x) = x from rfl, hx]; simp
  refine ⟨?_, ?_, ?_, ?_, ?_, ?_⟩
  · rw [e1]; intro y hy
    rcases List.mem_cons.1 hy with rfl | hy
    · exact k1
    · exact h.kinds y hy
  · rw [e1]; intro y hy
    rcases List.mem_cons.1 hy with rfl | hy
    · exact Int.le_refl _
    · exact h.lo y hy
  · rw [e1, e2]; intro y hy
    rcases List.mem_cons.1 hy with rfl | hy
    · simp only [wordsI]; omega
    · have := h.hi y hy; omega
  · rw [e2]; omega
  · intro y hy
    rcases List.mem_cons.1 hy with e | hy
    · rw [e]; show 0 ≤ x.n; omega
    · exact h.nn y hy
  · intro y hy
    rcases List.mem_cons.1 hy with e | hy
    · rw [e]; show nestOk 0 (leftI x) = true; rw [leftI_row hsg]; rfl
    · exact h.shape y hy
theorem shutE_entI (l : List Ent) : (l.map shutE).map entI = l.map entI := by
  rw [List.map_map]
  refine List.map_congr_left fun e _ => ?_
  cases e with
  | it x => rfl
  | mk img pos sh => cases img <;> rfl
theorem asked_kd {D : List Dfn} {img : Bool} {x r : List UInt8} {y : Iln} {n : Nat} (h : askedL D img x r = some (y, n)) : (y.kd = 5 ∨ y.kd = 6 ∨ y.kd = 10 ∨ y.kd = 11) ∧ y.dp = 0 := by
  have hl : ∀ u v, ((linkN img u v).kd = 5 ∨ (linkN img u v).kd = 6 ∨ (linkN img u v).kd = 10 ∨ (linkN img u v).kd = 11) ∧ (linkN img u v).dp = 0 := fun u v => by
    cases img
    · exact ⟨Or.inl rfl, rfl⟩
    · exact ⟨Or.inr (Or.inl rfl), rfl⟩
  have hf : ∀ (q : Dfn × Bool) k, foundN img q k = some (y, n) → (y.kd = 5 ∨ y.kd = 6 ∨ y.kd = 10 ∨ y.kd = 11) ∧ y.dp = 0 := by
    intro q k hq
    unfold foundN at hq
    split at hq
    · cases hq; exact hl _ _
    · cases hq
  unfold askedL at h
  split at h
  · cases h; exact ⟨Or.inr (Or.inr (Or.inl rfl)), rfl⟩
  · split at h
    · cases h; exact ⟨Or.inr (Or.inr (Or.inr rfl)), rfl⟩
    · split at h
      · cases h; exact hl _ _
      · split at h
        · split at h
          · exact hf _ _ h
          · split at h
            · exact hf _ _ h
            · cases h
        · exact hf _ _ h
/-- A text's tokens, one by one. -/
theorem txt_step {K : Int → Prop} (hK : ∀ k : Int, 1 ≤ k → k ≤ 11 → K k) (E : Env) (hE : ∀ k, E.atom k = none) (D : List Dfn) (s : List UInt8) (T : Nat) (hT : T ≤ 1000000) (i n : Nat) (t : Tk) (l : List Ent) (hn : 1 ≤ n) (hi : i < s.length) (hin : i + n ≤ s.length)
    (hrun : ∀ b k, t = .run b k → n = k ∧ b ≠ 0) (h : TxtSt K T (s.length - i) l) : TxtSt K T (s.length - (i + n + (stepI E D s i (i + n) t l).2)) (stepI E D s i (i + n) t l).1 := by
  have k1 := hK 1 (by decide) (by decide)
  have hle : ∀ m, s.length - (i + n + m) < s.length - i := fun m => by omega
  have one : ∀ (y : Iln) (m : Nat), K y.kd → y.dp = 0 → TxtSt K T (s.length - (i + n + m)) (.it (ndI [y]) :: l) := fun y m hk hd =>
    h.nodes (hle m) _ [y] rfl (by intro z hz; simp at hz; subst hz; exact hk) (by intro z hz; simp at hz; subst hz; omega) (by simp [nestOk, hd])
  unfold stepI
  cases t with
  | no => exact h.less (by omega)
  | word w => exact one (wordsI 0 w) 0 k1 rfl
  | code c => exact one _ 0 (hK 2 (by decide) (by decide)) rfl
  | tag x => exact one _ 0 (hK 9 (by decide) (by decide)) rfl
  | brk b => exact one _ 0 (by cases b <;> exact hK _ (by decide) (by decide)) rfl
  | atom k => simp only [hE, Option.getD_none]; exact h.nodes (hle 0) (.it (ndI [])) [] rfl (by intro z hz; cases hz) (by intro z hz; cases hz) rfl
  | auto u x =>
    refine h.nodes (hle 0) _ [⟨5, 0, [], u, []⟩, wordsI 1 x] rfl ?_ ?_ ?_
    · intro z hz
      simp at hz
      rcases hz with rfl | rfl
      · exact hK 5 (by decide) (by decide)
      · exact k1
    · intro z hz
      simp at hz
      rcases hz with rfl | rfl <;> simp [wordsI]
    · rfl
  | run b k =>
    obtain ⟨rfl, hb⟩ := hrun b k rfl
    exact TxtSt.row k1 h (n := n) (by omega) _ rfl hb
  | mark m =>
    simp only
    split
    · exact h.nodes (hle 0) (.mk false (i + n) false) [wordsI 0 [91]] rfl (by intro z hz; simp at hz; subst hz; exact k1) (by intro z hz; simp at hz; subst hz; simp [wordsI]) rfl
    · split
      · exact h.nodes (hle 0) (.mk true (i + n) false) [wordsI 0 [33, 91]] rfl (by intro z hz; simp at hz; subst hz; exact k1) (by intro z hz; simp at hz; subst hz; simp [wordsI]) rfl
      · unfold closeI
        split
        · exact one (wordsI 0 [93]) 0 k1 rfl
        · next m img pos sh l' hm =>
          have em := lastMk_some hm
          simp only at em
          have eA : allI (l.map entI) = allI m ++ ([wordsI 0 (markOf img)] ++ allI (l'.map entI)) := by
            rw [em, List.map_append, List.map_cons, List.map_map, allI_append, allI_cons]
            have : m.map (entI ∘ Ent.it) = m := by
              refine (List.map_congr_left fun x _ => ?_).trans (List.map_id _)
              rfl
            rw [this]
            rfl
          have eG : signsI (l.map entI) = signsI m + signsI (l'.map entI) := by
            rw [em, List.map_append, List.map_cons, List.map_map, signsI_append, signsI_cons]
            have : m.map (entI ∘ Ent.it) = m := by
              refine (List.map_congr_left fun x _ => ?_).trans (List.map_id _)
              rfl
            rw [this]
            simp [entI, ndI]
          have memS : ∀ x, x ∈ m ∨ x ∈ l'.map entI → x ∈ l.map entI := fun x hx => by
            rw [em]
            rcases hx with hx | hx
            · simp only [List.map_append, List.mem_append, List.map_map]
              exact Or.inl (List.mem_map.2 ⟨x, hx, rfl⟩)
            · simp only [List.map_append, List.mem_append, List.map_cons, List.mem_cons]
              exact Or.inr (Or.inr hx)
          have hl' : ∀ b, b ≤ s.length - i → TxtSt K T b l' := fun b hb => by
            refine ⟨fun x hx => h.kinds x (by rw [eA]; simp [hx]), fun x hx => h.lo x (by rw [eA]; simp [hx]), fun x hx => ?_, ?_, fun x hx => h.nn x (memS x (Or.inr hx)), fun x hx => h.shape x (memS x (Or.inr hx))⟩
            · have := h.hi x (by rw [eA]; simp [hx])
              omega
            · have := h.room
              omega
          split
          · next _ hask =>
            -- no pair: words
            refine ⟨?_, ?_, ?_, ?_, ?_, ?_⟩
            all_goals
              have eA2 : allI ((Ent.it (ndI [wordsI 0 [93]]) :: m.map Ent.it ++ Ent.it (ndI [wordsI 0 (markOf img)]) :: l').map entI) = [wordsI 0 [93]] ++ allI (l.map entI) := by
                rw [eA]
                simp only [List.cons_append, List.map_cons, List.map_append, List.map_map, allI_cons, allI_append]
                have : m.map (entI ∘ Ent.it) = m := by
                  refine (List.map_congr_left fun x _ => ?_).trans (List.map_id _)
                  rfl
                rw [this]
                rfl
              have eG2 : signsI ((Ent.it (ndI [wordsI 0 [93]]) :: m.map Ent.it ++ Ent.it (ndI [wordsI 0 (markOf img)]) :: l').map entI) = signsI (l.map entI) := by
                rw [eG]
                simp only [List.cons_append, List.map_cons, List.map_append, List.map_map, signsI_cons, signsI_append]
                have : m.map (entI ∘ Ent.it) = m := by
                  refine (List.map_congr_left fun x _ => ?_).trans (List.map_id _)
                  rfl
                rw [this]
                simp [entI, ndI]
            · simp only; rw [eA2]; intro y hy
              rcases List.mem_append.1 hy with hy | hy
              · simp at hy; subst hy; exact k1
              · exact h.kinds y hy
            · simp only; rw [eA2]; intro y hy
              rcases List.mem_append.1 hy with hy | hy
              · simp at hy; subst hy; exact Int.le_refl _
              · exact h.lo y hy
            · simp only; rw [eA2, eG2]; intro y hy
              have hr := h.room
              rcases List.mem_append.1 hy with hy | hy
              · simp at hy; subst hy; simp only [wordsI]; omega
              · have := h.hi y hy; omega
            · simp only; rw [eG2]; have := h.room; omega
            · intro y hy
              simp only [List.cons_append, List.map_cons, List.map_append, List.map_map, List.mem_cons, List.mem_append, List.mem_map, Function.comp] at hy
              rcases hy with rfl | ⟨z, hz, rfl⟩ | rfl | ⟨z, hz, rfl⟩
              · exact Int.le_refl _
              · exact h.nn z (memS z (Or.inl hz))
              · exact Int.le_refl _
              · exact h.nn _ (memS _ (Or.inr (List.mem_map.2 ⟨z, hz, rfl⟩)))
            · intro y hy
              simp only [List.cons_append, List.map_cons, List.map_append, List.map_map, List.mem_cons, List.mem_append, List.mem_map, Function.comp] at hy
              rcases hy with rfl | ⟨z, hz, rfl⟩ | rfl | ⟨z, hz, rfl⟩
              · rfl
              · exact h.shape z (memS z (Or.inl hz))
              · rfl
              · exact h.shape _ (memS _ (Or.inr (List.mem_map.2 ⟨z, hz, rfl⟩)))
          · next x q hask =>
            have hsh : sh = false := by
              cases sh
              · rfl
              · simp at hask
            subst hsh
            simp only [Bool.false_eq_true, if_false] at hask
            obtain ⟨hkd, hdp⟩ := asked_kd hask
            have hTm : NKeep K (T - signsI (l'.map entI) - (s.length - i)) m.reverse := by
              have hr := h.room
              refine ⟨fun y hy => h.kinds y ?_, fun y hy => h.lo y ?_, fun y hy => ?_, fun y hy => h.nn y (memS y (Or.inl (List.mem_reverse.1 hy))), fun y hy => h.shape y (memS y (Or.inl (List.mem_reverse.1 hy)))⟩
              · rw [eA]
                obtain ⟨z, hz, hyz⟩ := List.mem_flatMap.1 hy
                exact List.mem_append_left _ (List.mem_flatMap.2 ⟨z, List.mem_reverse.1 hz, hyz⟩)
              · rw [eA]
                obtain ⟨z, hz, hyz⟩ := List.mem_flatMap.1 hy
                exact List.mem_append_left _ (List.mem_flatMap.2 ⟨z, List.mem_reverse.1 hz, hyz⟩)
              · have := h.hi y (by
                  rw [eA]
                  obtain ⟨z, hz, hyz⟩ := List.mem_flatMap.1 hy
                  exact List.mem_append_left _ (List.mem_flatMap.2 ⟨z, List.mem_reverse.1 hz, hyz⟩))
                rw [signsI_reverse]
                omega
            have hg := nkeep_group k1 (hK 3 (by decide) (by decide)) (hK 4 (by decide) (by decide)) (by omega) hTm
            have single : ∀ (y : Iln), K y.kd → y.dp = 0 → TxtSt K T (s.length - (i + n + q)) (.it (ndI [y]) :: l') := fun y hk hd =>
              (hl' (s.length - i) (Nat.le_refl _)).nodes (hle q) _ [y] rfl (by intro z hz; simp at hz; subst hz; exact hk) (by intro z hz; simp at hz; subst hz; omega) (by simp [nestOk, hd])
            by_cases h6 : x.kd = 6
            · simp only [if_pos h6]
              exact single _ (by show K x.kd; rw [h6]; exact hK 6 (by decide) (by decide)) hdp
            · by_cases h5 : x.kd = 5
              · simp only [if_neg h6, if_pos h5]
                have hr := h.room
                have hsmall : SmallD (groupI m.reverse) := fun y hy => by have := hg.2.2.1 y hy; omega
                have hdeep : ∀ y ∈ deepI (groupI m.reverse), ∃ z ∈ groupI m.reverse, y = deepOne z ∧ y.dp = z.dp + 1 := fun y hy => by
                  obtain ⟨z, hz, rfl⟩ := List.mem_map.1 hy
                  have := hsmall z hz
                  exact ⟨z, hz, rfl, wrap_small this.1 this.2⟩
                have eA3 : allI ((Ent.it (ndI (x :: deepI (groupI m.reverse))) :: l'.map shutE).map entI) = (x :: deepI (groupI m.reverse)) ++ allI (l'.map entI) := by
                  rw [List.map_cons, allI_cons, shutE_entI]; rfl
                have eG3 : signsI ((Ent.it (ndI (x :: deepI (groupI m.reverse))) :: l'.map shutE).map entI) = signsI (l'.map entI) := by
                  rw [List.map_cons, signsI_cons, shutE_entI]; simp [entI, ndI]
                have hl0 := hl' (s.length - i) (Nat.le_refl _)
                refine ⟨?_, ?_, ?_, ?_, ?_, ?_⟩
                · rw [eA3]; intro y hy
                  simp only [List.cons_append, List.mem_cons, List.mem_append] at hy
                  rcases hy with rfl | hy | hy
                  · rw [h5]; exact hK 5 (by decide) (by decide)
                  · obtain ⟨z, hz, rfl, _⟩ := hdeep y hy
                    exact hg.1 z hz
                  · exact hl0.kinds y hy
                · rw [eA3]; intro y hy
                  simp only [List.cons_append, List.mem_cons, List.mem_append] at hy
                  rcases hy with rfl | hy | hy
                  · omega
                  · obtain ⟨z, hz, _, e⟩ := hdeep y hy
                    have := (hg.2.2.1 z hz).1
                    omega
                  · exact hl0.lo y hy
                · rw [eA3, eG3]; intro y hy
                  simp only [List.cons_append, List.mem_cons, List.mem_append] at hy
                  rcases hy with rfl | hy | hy
                  · omega
                  · obtain ⟨z, hz, _, e⟩ := hdeep y hy
                    have := (hg.2.2.1 z hz).2
                    omega
                  · have := hl0.hi y hy; omega
                · rw [eG3]; omega
                · intro y hy
                  rw [List.map_cons, shutE_entI] at hy
                  rcases List.mem_cons.1 hy with rfl | hy
                  · exact Int.le_refl _
                  · exact hl0.nn y hy
                · intro y hy
                  rw [List.map_cons, shutE_entI] at hy
                  rcases List.mem_cons.1 hy with rfl | hy
                  · show nestOk 0 (x :: deepI (groupI m.reverse)) = true
                    simp only [nestOk, hdp, Int.le_refl, decide_true, Bool.true_and]
                    rw [show nxtI x = 0 + 1 from by unfold nxtI; rw [h5, hdp]; rfl, nestOk_deep _ hsmall]
                    exact hg.2.1
                  · exact hl0.shape y hy
              · simp only [if_neg h6, if_neg h5]
                refine single x ?_ hdp
                rcases hkd with e | e | e | e <;> rw [e]
                · exact hK 5 (by decide) (by decide)
                · exact hK 6 (by decide) (by decide)
                · exact hK 10 (by decide) (by decide)
                · exact hK 11 (by decide) (by decide)
theorem next_run_len (l : List UInt8) (b : UInt8) (k n : Nat) (h : nextL l = (.run b k, n)) : n = k ∧ b ≠ 0 := by
  unfold nextL at h
  split at h
  · unfold wordTk at h; simp at h
  · have : ∀ (t : Tk × Nat), t = (.run b k, n) → t.1 = .run b k ∧ t.2 = n := fun t e => by rw [e]; exact ⟨rfl, rfl⟩
    unfold firstTk at h
    simp only at h
    split at h
    · unfold atomL at h; simp only at h; split at h <;> cases h
    · split at h
      · unfold escapedL at h
        split at h
        · cases h
        · split at h
          · split at h <;> cases h
          · cases h
      · split at h
        · cases h
        · split at h
          · exfalso
            have : ∀ (f : Nat) (l : List UInt8) (n k : Nat) (b : UInt8) (m q : Nat), codeGo l n f k ≠ (.run b m, q) := by
              intro f
              induction f with
              | zero => intro l n k b m q e; cases e
              | succ f ih =>
                intro l n k b m q e
                unfold codeGo at e
                split at e
                · cases e
                · simp only at e
                  split at e
                  · cases e
                  · exact ih _ _ _ _ _ _ e
            exact this _ _ _ _ _ _ _ h
          · split at h
            · unfold pointedL at h
              simp only at h
              split at h
              · cases h
              · split at h <;> cases h
            · split at h
              · next hc =>
                cases h
                refine ⟨rfl, ?_⟩
                rcases hc with e | e <;> rw [e] <;> decide
              · split at h
                · unfold markTk at h
                  split at h
                  · cases h
                  · split at h
                    · cases h
                    · split at h <;> cases h
                · split at h
                  · unfold lineTk at h
                    simp only at h
                    split at h <;> cases h
                  · cases h
theorem txt_all {K : Int → Prop} (hK : ∀ k : Int, 1 ≤ k → k ≤ 11 → K k) (E : Env) (hE : ∀ k, E.atom k = none) (D : List Dfn) (s : List UInt8) (T : Nat) (hT : T ≤ 1000000) : ∀ (f i : Nat) (l : List Ent), TxtSt K T (s.length - i) l → s.length ≤ i + f → TxtSt K T 0 (inlGo E D s f i l)
  | 0, i, l, h, hf => h.less (by omega)
  | f + 1, i, l, h, hf => by
    simp only [inlGo]
    split
    · next hi =>
      have hne : s.drop i ≠ [] := by intro e; have := congrArg List.length e; simp at this; omega
      have h1 := (next_len (s.drop i) hne).1
      have h2 := (next_len (s.drop i) hne).2
      rw [List.length_drop] at h2
      exact txt_all hK E hE D s T hT f _ _ (txt_step hK E hE D s T hT i _ _ l h1 hi (by omega) (fun b k e => next_run_len (s.drop i) b k _ (by rw [← e])) h) (by omega)
    · exact h.less (by omega)
/-- A text without atoms: its nodes lie in one another as they may. -/
theorem shapes_plain (D : List Dfn) (s : List UInt8) (hs : s.length ≤ 1000000) : (∀ x ∈ rawI D s, 1 ≤ x.kd ∧ x.kd ≤ 11 ∧ 0 ≤ x.dp ∧ x.dp ≤ s.length) ∧ nestOk 0 (rawI D s) = true ∧ Merged (rawI D s) := by
  have h0 : TxtSt (fun k => 1 ≤ k ∧ k ≤ 11) s.length (s.length - 0) [] := ⟨fun x hx => (by cases hx), fun x hx => (by cases hx), fun x hx => (by cases hx), (by simp [signsI]), fun x hx => (by cases hx), fun x hx => (by cases hx)⟩
  have h1 := txt_all (K := fun k => 1 ≤ k ∧ k ≤ 11) (fun k a b => ⟨a, b⟩) rawE (fun _ => rfl) D s s.length hs s.length 0 [] h0 (by omega)
  have hN : NKeep (fun k => 1 ≤ k ∧ k ≤ 11) s.length ((inlGo rawE D s s.length 0 []).reverse.map entI) := by
    rw [List.map_reverse]
    have hm : ∀ y, y ∈ allI ((inlGo rawE D s s.length 0 []).map entI).reverse → y ∈ allI ((inlGo rawE D s s.length 0 []).map entI) := fun y hy => by
      obtain ⟨z, hz, hyz⟩ := List.mem_flatMap.1 hy
      exact List.mem_flatMap.2 ⟨z, List.mem_reverse.1 hz, hyz⟩
    refine ⟨fun y hy => h1.kinds y (hm y hy), fun y hy => h1.lo y (hm y hy), fun y hy => ?_, fun y hy => h1.nn y (List.mem_reverse.1 hy), fun y hy => h1.shape y (List.mem_reverse.1 hy)⟩
    have := h1.hi y (hm y hy)
    rw [signsI_reverse]
    omega
  have hg := nkeep_group ⟨by decide, by decide⟩ ⟨by decide, by decide⟩ ⟨by decide, by decide⟩ hs hN
  exact ⟨fun x hx => ⟨(hg.1 x hx).1, (hg.1 x hx).2, (hg.2.2.1 x hx).1, (hg.2.2.1 x hx).2⟩, hg.2.1, hg.2.2.2⟩
end Go.Proofs.YteihmgcphbijhaaGreatDoor

namespace Go.Proofs.YteihmgcphbijhaaGreatDoor
open Go.RowKit
set_option linter.unusedSimpArgs false
set_option linter.unusedVariables false
theorem numGo_n0 {base : Int} {most : Nat} : ∀ (l : List UInt8) (i : Nat) (v u : Int) (j : Nat), numGo base most l i v = some (u, j) → ∃ d, j = i + d ∧ ∀ k, k ≤ d → (l.getD k 0).toNat ≠ 0
  | [], _, _, _, _, h => by simp [numGo] at h
  | b :: l, i, v, u, j, h => by
    rw [numGo] at h
    split at h
    · rename_i h1
      simp at h
      refine ⟨0, by omega, fun k hk => ?_⟩
      have : k = 0 := by omega
      subst this
      simp only [List.getD_cons_zero]; omega
    · rename_i h1
      split at h
      · cases h
      · rename_i h2
        obtain ⟨d, e1, e2⟩ := numGo_n0 l _ _ _ _ h
        refine ⟨d + 1, by omega, fun k hk => ?_⟩
        cases k with
        | zero =>
          simp only [List.getD_cons_zero]
          intro e
          apply h2
          left
          rw [e]
          simp [digOk, inR]
        | succ k => simpa using e2 k (by omega)
theorem nameGo_n0 : ∀ (l : List UInt8) (i j : Nat), nameGo l i = some j → ∃ d, j = i + d ∧ ∀ k, k ≤ d → (l.getD k 0).toNat ≠ 0
  | [], _, _, h => by simp [nameGo] at h
  | b :: l, i, j, h => by
    rw [nameGo] at h
    split at h
    · rename_i h1
      simp at h
      refine ⟨0, by omega, fun k hk => ?_⟩
      have : k = 0 := by omega
      subst this
      simp only [List.getD_cons_zero]; omega
    · split at h
      · rename_i h2
        obtain ⟨d, e1, e2⟩ := nameGo_n0 l _ _ h
        refine ⟨d + 1, by omega, fun k hk => ?_⟩
        cases k with
        | zero =>
          simp only [List.getD_cons_zero]
          intro e
          unfold isLow at h2
          rw [e] at h2
          simp [inR] at h2
        | succ k => simpa using e2 k (by omega)
      · cases h
theorem pre_n0 {l p : List UInt8} (h : Lib.hasPrefix l p = true) (hp : ∀ b ∈ p, b.toNat ≠ 0) (k : Nat) (hk : k < p.length) : (l.getD k 0).toNat ≠ 0 := by
  obtain ⟨m, rfl⟩ := List.isPrefixOf_iff_prefix.1 h
  rw [List.getD_eq_getElem?_getD, List.getElem?_append_left hk, List.getElem?_eq_getElem hk]
  exact hp _ (List.getElem_mem hk)
theorem numAt_n0 (base : Int) (most : Nat) (l p : List UInt8) (h : Lib.hasPrefix l p = true) (hp : ∀ b ∈ p, b.toNat ≠ 0) : ∀ k, k < (numAt base p.length most l).2 → (l.getD k 0).toNat ≠ 0 := by
  intro k hk
  unfold numAt at hk
  split at hk
  · simp at hk
  · rename_i v i hv
    obtain ⟨d, e1, e2⟩ := numGo_n0 _ _ _ _ _ hv
    simp only at hk
    by_cases hl : k < p.length
    · exact pre_n0 h hp k hl
    · have := e2 (k - p.length) (by omega)
      rw [getD_drop, show p.length + (k - p.length) = k from by omega] at this
      exact this
theorem atL_n0 (l : List UInt8) : ∀ k, k < (atL l).2 → (l.getD k 0).toNat ≠ 0 := by
  intro k hk
  unfold atL at hk
  split at hk
  · rename_i h; exact numAt_n0 16 6 l [38, 35, 120] h (by decide) k hk
  · split at hk
    · rename_i h; exact numAt_n0 16 6 l [38, 35, 88] h (by decide) k hk
    · split at hk
      · rename_i h; exact numAt_n0 10 7 l [38, 35] h (by decide) k hk
      · split at hk
        · rename_i h
          unfold nameAt at hk
          split at hk
          · simp at hk
          · rename_i i hi
            obtain ⟨d, e1, e2⟩ := nameGo_n0 _ _ _ hi
            have hk2 : k < 1 + i + 1 := by
              unfold nameOf at hk
              split at hk
              · simp at hk
              · exact hk
            cases k with
            | zero => exact pre_n0 h (by decide) 0 (by simp)
            | succ k =>
              have := e2 k (by omega)
              rw [getD_drop, show 1 + k = k + 1 from by omega] at this
              exact this
        · simp at hk
/-- What is behind: nothing, or a byte 0. -/
def Zero (r : List UInt8) : Prop := r = [] ∨ ∃ r', r = 0 :: r'
theorem Zero.past {p : UInt8 → Bool} (hp : p 0 = false) {r : List UInt8} (hr : Zero r) (u : List UInt8) (k : Nat) (hk : k ≤ u.length) : pastL p (u ++ r) k ≤ u.length := by
  have h0 : ∀ b ∈ r.head?, p b = false := by
    rcases hr with rfl | ⟨r', rfl⟩
    · simp
    · simp [hp]
  have htw : ∀ (x : List UInt8), ((x ++ r).takeWhile p).length ≤ x.length := by
    intro x
    induction x with
    | nil =>
      rw [List.nil_append]
      cases r with
      | nil => simp
      | cons b r => rw [List.takeWhile_cons, h0 b (by simp)]; simp
    | cons b x ih =>
      rw [List.cons_append, List.takeWhile_cons]
      split
      · simp only [List.length_cons]; omega
      · simp
  unfold pastL
  rw [List.drop_append_of_le_length hk]
  have := htw (u.drop k)
  rw [List.length_drop] at this
  omega
theorem Zero.has {r : List UInt8} (hr : Zero r) (u : List UInt8) (k : Nat) (hk : u.length ≤ k) (hk2 : k ≤ u.length) (b : UInt8) (hb : b ≠ 0) : hasL (u ++ r) k b = false := by
  have : k = u.length := by omega
  subst this
  unfold hasL
  rw [List.getElem?_append_right (Nat.le_refl _)]
  rcases hr with rfl | ⟨r', rfl⟩
  · simp
  · simp; exact hb.symm
def okB (b : UInt8) : Bool := b != 0 && b != 92 && b != 96 && b != 60 && b != 91 && b != 93
inductive TkOk : Tk → Prop
  | word (w : List UInt8) : TkOk (.word w)
  | run (b : UInt8) (k : Nat) : TkOk (.run b k)
  | brk (h : Bool) : TkOk (.brk h)
theorem zero_word {r : List UInt8} (hr : Zero r) (c : UInt8) (t : List UInt8) (hc : c ≠ 0) : TkOk (wordTk (c :: t ++ r)).1 ∧ 1 ≤ (wordTk (c :: t ++ r)).2 ∧ (wordTk (c :: t ++ r)).2 ≤ (c :: t).length := by
  refine ⟨TkOk.word _, (word_len (c :: t ++ r) (by simp)).1, ?_⟩
  unfold wordTk
  simp only
  split
  · unfold rowL
    refine Zero.past ?_ hr (c :: t) 1 (by simp)
    simpa using hc.symm
  · exact Zero.past (by decide +kernel) hr (c :: t) 1 (by simp)
theorem next_zeroW {r : List UInt8} (hr : Zero r) (u : List UInt8) (hu : u ≠ []) (h : ∀ b ∈ u, okB b = true) : TkOk (nextL (u ++ r)).1 ∧ 1 ≤ (nextL (u ++ r)).2 ∧ (nextL (u ++ r)).2 ≤ u.length := by
  obtain ⟨c, t, rfl⟩ : ∃ c t, u = c :: t := by cases u with | nil => exact absurd rfl hu | cons c t => exact ⟨c, t, rfl⟩
  have hc := h c (by simp)
  simp only [okB, Bool.and_eq_true, bne_iff_ne, ne_eq] at hc
  obtain ⟨⟨⟨⟨⟨h0, h92⟩, h96⟩, h60⟩, h91⟩, h93⟩ := hc
  have hw := zero_word hr c t h0
  have hpos := (next_len (c :: t ++ r) (by simp)).1
  suffices TkOk (nextL (c :: t ++ r)).1 ∧ (nextL (c :: t ++ r)).2 ≤ (c :: t).length from ⟨this.1, hpos, this.2⟩
  unfold nextL
  split
  · exact ⟨hw.1, hw.2.2⟩
  · next hf =>
    have hd : (c :: t ++ r).headD 1 = c := rfl
    unfold firstTk at hf ⊢
    simp only [hd] at hf ⊢
    rw [if_neg h0, if_neg h92] at hf ⊢
    by_cases h38 : c = 38
    · rw [if_pos h38] at hf ⊢
      refine ⟨TkOk.word _, ?_⟩
      show (atL (c :: t ++ r)).2 ≤ _
      refine Classical.byContradiction fun hlt => ?_
      rcases hr with rfl | ⟨r', rfl⟩
      · have := atL_len (c :: t ++ [])
        rw [List.append_nil] at this hlt
        exact hlt this
      · have := atL_n0 (c :: t ++ 0 :: r') (c :: t).length (by omega)
        rw [List.getD_eq_getElem?_getD, List.getElem?_append_right (Nat.le_refl _)] at this
        simp at this
    · rw [if_neg h38, if_neg h96, if_neg h60] at hf ⊢
      by_cases h42 : c = 42 ∨ c = 95
      · rw [if_pos h42] at hf ⊢
        refine ⟨TkOk.run _ _, ?_⟩
        show rowL (c :: t ++ r) ≤ _
        unfold rowL
        refine Zero.past ?_ hr (c :: t) 1 (by simp)
        simpa using Ne.symm h0
      · rw [if_neg h42] at hf ⊢
        by_cases h33 : c = 33 ∨ c = 91 ∨ c = 93
        · exfalso
          rw [if_pos h33] at hf
          have hc33 : c = 33 := by
            rcases h33 with e | e | e
            · exact e
            · exact absurd e h91
            · exact absurd e h93
          subst hc33
          have hno : Lib.hasPrefix (33 :: t ++ r) [33, 91] = false := by
            cases t with
            | nil =>
              rcases hr with rfl | ⟨r', rfl⟩ <;> rfl
            | cons d t =>
              have hd := h d (by simp)
              simp only [okB, Bool.and_eq_true, bne_iff_ne, ne_eq] at hd
              have e : ((91 : UInt8) == d) = false := by simpa using Ne.symm hd.1.2
              show ((33 : UInt8) == 33 && ((91 : UInt8) == d && List.isPrefixOf [] (t ++ r))) = false
              rw [e]; rfl
          unfold markTk at hf
          rw [hno] at hf
          simp [Lib.hasPrefix] at hf
        · rw [if_neg h33] at hf ⊢
          by_cases h32 : c = 32 ∨ c = 10
          · rw [if_pos h32] at hf ⊢
            unfold lineTk at hf ⊢
            simp only at hf ⊢
            have he : pastL (fun b => b == 32) (c :: t ++ r) 0 ≤ (c :: t).length := Zero.past (by decide) hr (c :: t) 0 (by simp)
            split
            · next hh => rw [if_pos hh] at hf; exact absurd rfl hf
            · next hh =>
              refine ⟨TkOk.brk _, ?_⟩
              have hlt : pastL (fun b => b == 32) (c :: t ++ r) 0 + 1 ≤ (c :: t).length := by
                refine Classical.byContradiction fun hn => hh ?_
                exact hr.has (c :: t) _ (by omega) he 10 (by decide)
              exact Zero.past (by decide) hr (c :: t) _ hlt
          · rw [if_neg h32] at hf
            exact absurd rfl hf
/-- What words, breaks and rows are. -/
structure Plain (x : Itm) : Prop where
  nn : 0 ≤ x.n
  is : (x.sg ≠ 0 ∧ x.nd = []) ∨ (x.sg = 0 ∧ x.n = 0 ∧ ∃ y : Iln, x.nd = [y] ∧ (y.kd = 1 ∨ y.kd = 7 ∨ y.kd = 8) ∧ y.dp = 0)
theorem plain_nd (y : Iln) (h : y.kd = 1 ∨ y.kd = 7 ∨ y.kd = 8) (hd : y.dp = 0) : Plain (ndI [y]) := ⟨Int.le_refl _, Or.inr ⟨rfl, rfl, y, rfl, h, hd⟩⟩
theorem plain_nodes {x : Itm} (h : Plain x) : ∀ y ∈ leftI x, (y.kd = 1 ∨ y.kd = 7 ∨ y.kd = 8) ∧ y.dp = 0 := by
  rcases h.is with ⟨h1, _⟩ | ⟨h1, _, y, h2, h3, h4⟩
  · intro y hy
    rw [leftI_row h1] at hy
    simp at hy
    subst hy
    exact ⟨Or.inl rfl, rfl⟩
  · intro z hz
    unfold leftI at hz
    rw [if_pos h1, h2] at hz
    simp at hz
    subst hz
    exact ⟨h3, h4⟩
theorem plain_shape {x : Itm} (h : Plain x) : nestOk 0 (leftI x) = true := by
  rcases h.is with ⟨h1, _⟩ | ⟨h1, _, y, h2, h3, h4⟩
  · rw [leftI_row h1]; rfl
  · unfold leftI
    rw [if_pos h1, h2]
    simp [nestOk, h4]
/-- Tokens of a text that has none of the signs: plain items. -/
theorem plain_run (E : Env) (D : List Dfn) : ∀ (n : Nat) (p u r : List UInt8) (l : List Ent), u.length ≤ n → Zero r → (∀ b ∈ u, okB b = true) →
    ∃ A : List Itm, inlFrom E D (p ++ (u ++ r)) p.length l = inlFrom E D (p ++ (u ++ r)) (p ++ u).length (A.map Ent.it ++ l) ∧ (∀ x ∈ A, Plain x) ∧ signsI A ≤ u.length
  | 0, p, u, r, l, hn, hr, h => by
    have : u = [] := List.eq_nil_of_length_eq_zero (by omega)
    subst this
    exact ⟨[], by simp, by simp, by simp [signsI]⟩
  | n + 1, p, u, r, l, hn, hr, h => by
    by_cases hu : u = []
    · subst hu
      exact ⟨[], by simp, by simp, by simp [signsI]⟩
    · obtain ⟨h1, h2, h3⟩ := next_zeroW hr u hu h
      generalize ht : nextL (u ++ r) = tk at h1 h2 h3
      obtain ⟨t, k⟩ := tk
      simp only at h1 h2 h3
      have hsplit : u = u.take k ++ u.drop k := (List.take_append_drop k u).symm
      have hlen : (u.take k).length = k := by rw [List.length_take]; omega
      have ht2 : nextL (u.take k ++ (u.drop k ++ r)) = (t, (u.take k).length) := by rw [← List.append_assoc, ← hsplit, hlen, ht]
      have hne : u.take k ≠ [] := by intro e; rw [e] at hlen; simp at hlen; omega
      have e1 := inlFrom_plain E D p (u.take k) (u.drop k ++ r) l hne ht2 (fun m e => by rw [e] at h1; cases h1)
      have es : p ++ (u.take k ++ (u.drop k ++ r)) = p ++ (u ++ r) := by rw [← List.append_assoc (u.take k), ← hsplit]
      rw [es] at e1
      have hx : ∃ x, Plain x ∧ (stepI E D (p ++ (u ++ r)) p.length (p ++ u.take k).length t l).1 = .it x :: l ∧ x.n.toNat ≤ k := by
        cases h1 with
        | word w => exact ⟨ndI [wordsI 0 w], plain_nd _ (Or.inl rfl) rfl, rfl, by simp [ndI]⟩
        | brk b => exact ⟨ndI [⟨if b then 8 else 7, 0, [], [], []⟩], plain_nd _ (by cases b <;> simp) rfl, rfl, by simp [ndI]⟩
        | run b m =>
          obtain ⟨rfl, hb⟩ := next_run_len _ b m k ht
          exact ⟨_, ⟨by simp, Or.inl ⟨hb, rfl⟩⟩, rfl, by simp⟩
      obtain ⟨x, x1, x2, x3⟩ := hx
      obtain ⟨A, a1, a2, a3⟩ := plain_run E D n (p ++ u.take k) (u.drop k) r (.it x :: l) (by rw [List.length_drop]; omega) hr (fun b hb => h b (List.mem_of_mem_drop hb))
      refine ⟨A ++ [x], ?_, ?_, ?_⟩
      · have es2 : p ++ u.take k ++ (u.drop k ++ r) = p ++ (u ++ r) := by rw [List.append_assoc, es]
        rw [es2] at a1
        have es3 : (p ++ u.take k ++ u.drop k).length = (p ++ u).length := by rw [List.append_assoc, ← hsplit]
        rw [e1, x2, a1, es3]
        simp
      · intro y hy
        rcases List.mem_append.1 hy with hy | hy
        · exact a2 y hy
        · simp at hy; subst hy; exact x1
      · rw [signsI_append, signsI_cons]
        rw [List.length_drop] at a3
        have : signsI [] = 0 := rfl
        omega
def shiftI (k : Int) (l : List Iln) : List Iln := l.map fun x => { x with dp := x.dp + k }
def spanB (lb : List UInt8) (X : List Iln) (d : Int) : List Iln := ⟨12, d, lb, [], []⟩ :: shiftI (d + 1) X
theorem span_deep (lb : List UInt8) (X : List Iln) (d : Int) (h : SmallD (spanB lb X d)) : deepI (spanB lb X d) = spanB lb X (d + 1) := by
  have h0 := h ⟨12, d, lb, [], []⟩ (by simp [spanB])
  simp only at h0
  unfold spanB
  rw [show deepI (⟨12, d, lb, [], []⟩ :: shiftI (d + 1) X) = deepOne ⟨12, d, lb, [], []⟩ :: deepI (shiftI (d + 1) X) from rfl]
  congr 1
  · simp only [deepOne, wrap_small h0.1 h0.2]
  · unfold deepI shiftI
    rw [List.map_map]
    refine List.map_congr_left fun x hx => ?_
    have hx2 := h { x with dp := x.dp + (d + 1) } (List.mem_cons_of_mem _ (List.mem_map.2 ⟨x, hx, rfl⟩))
    simp only at hx2
    simp only [Function.comp, deepOne, wrap_small hx2.1 hx2.2]
    congr 1
    omega
def No12 (l : List Iln) : Prop := ∀ x ∈ l, x.kd ≠ 12
def BlkIn (lb : List UInt8) (X : List Iln) (l : List Iln) : Prop := ∃ P d Q, l = P ++ (spanB lb X d ++ Q) ∧ No12 P ∧ 0 ≤ d ∧ nestOk d Q = true
def HasB (lb : List UInt8) (X : List Iln) : List Itm → Prop
  | [] => False
  | x :: S => BlkIn lb X (leftI x) ∨ (No12 (leftI x) ∧ HasB lb X S)
theorem HasB_append (lb : List UInt8) (X : List Iln) : ∀ (A B : List Itm), HasB lb X (A ++ B) ↔ HasB lb X A ∨ (No12 (allI A) ∧ HasB lb X B)
  | [], B => by simp [HasB, allI, No12]
  | x :: A, B => by
    rw [List.cons_append]
    simp only [HasB]
    rw [HasB_append lb X A B, allI_cons]
    have : No12 (leftI x ++ allI A) ↔ No12 (leftI x) ∧ No12 (allI A) := by
      unfold No12
      simp only [List.mem_append]
      exact ⟨fun h => ⟨fun y hy => h y (Or.inl hy), fun y hy => h y (Or.inr hy)⟩, fun h y hy => hy.elim (h.1 y) (h.2 y)⟩
    rw [this]
    constructor
    · rintro (h | ⟨h, h2 | ⟨h2, h3⟩⟩)
      · exact Or.inl (Or.inl h)
      · exact Or.inl (Or.inr ⟨h, h2⟩)
      · exact Or.inr ⟨⟨h, h2⟩, h3⟩
    · rintro ((h | ⟨h, h2⟩) | ⟨⟨h, h2⟩, h3⟩)
      · exact Or.inl h
      · exact Or.inr ⟨h, Or.inl h2⟩
      · exact Or.inr ⟨h, Or.inr ⟨h2, h3⟩⟩
theorem BlkIn.is12 {lb : List UInt8} {X l : List Iln} (h : BlkIn lb X l) : ¬ No12 l := by
  obtain ⟨P, d, Q, rfl, _⟩ := h
  intro hn
  exact hn ⟨12, d, lb, [], []⟩ (by simp [spanB]) rfl
theorem words_no12 (s : List UInt8) : No12 [wordsI 0 s] := by intro x hx; simp at hx; subst hx; simp [wordsI]
/-- Where the block is, in all the nodes. -/
theorem HasB_all {lb : List UInt8} {X : List Iln} : ∀ {S : List Itm}, (∀ x ∈ allI S, 0 ≤ x.dp) → (∀ x ∈ S, nestOk 0 (leftI x) = true) → HasB lb X S → BlkIn lb X (allI S)
  | [], _, _, h => by cases h
  | x :: S, lo, sh, h => by
    rw [allI_cons] at lo ⊢
    have lo1 : ∀ y ∈ leftI x, 0 ≤ y.dp := fun y hy => lo y (List.mem_append_left _ hy)
    have lo2 : ∀ y ∈ allI S, 0 ≤ y.dp := fun y hy => lo y (List.mem_append_right _ hy)
    rcases h with ⟨P, d, Q, e, h1, h2, h3⟩ | ⟨h1, h2⟩
    · refine ⟨P, d, Q ++ allI S, by rw [e]; simp, h1, h2, ?_⟩
      exact nestOk_both (fun y hy => lo1 y (by rw [e]; simp [hy])) h2 h3 (nshape_all S lo2 (fun y hy => sh y (by simp [hy])))
    · obtain ⟨P, d, Q, e, g1, g2, g3⟩ := HasB_all lo2 (fun y hy => sh y (by simp [hy])) h2
      refine ⟨leftI x ++ P, d, Q, by rw [e]; simp, ?_, g2, g3⟩
      intro y hy
      rcases List.mem_append.1 hy with hy | hy
      · exact h1 y hy
      · exact g1 y hy
theorem deepI_no12 {l : List Iln} (h : No12 l) : No12 (deepI l) := by
  intro x hx
  obtain ⟨y, hy, rfl⟩ := List.mem_map.1 hx
  exact h y hy
theorem HasB.pair {lb : List UInt8} {X : List Iln} {K : Int → Prop} {T : Nat} (hT : T ≤ 1000000) {A M R : List Itm} {o c : Itm} (hN : NKeep K T (A ++ o :: M ++ c :: R)) (h : HasB lb X (A ++ o :: M ++ c :: R)) (ho : canOpen o c = true) (hc : canClose c = true) :
    HasB lb X (A ++ lessI o (kOf o c) :: nodeI (kOf o c) (allI M) :: lessI c (kOf o c) :: R) := by
  have hc0 := canClose_pos hc
  have ho0 := canOpen_pos ho
  have hos : o.sg ≠ 0 := by rw [ho0.2.1]; exact hc0.2.1
  have hcs := hc0.2.1
  have no1 : No12 (leftI (lessI o (kOf o c))) := by rw [leftI_less hos]; exact words_no12 _
  have no2 : No12 (leftI (lessI c (kOf o c))) := by rw [leftI_less hcs]; exact words_no12 _
  have hlo := hN.lo
  have hhi := hN.hi
  have hsh := hN.shape
  have eS : allI (A ++ o :: M ++ c :: R) = allI A ++ (leftI o ++ (allI M ++ (leftI c ++ allI R))) := by simp [allI_append, allI_cons]
  rw [eS] at hlo hhi
  rw [List.append_assoc, HasB_append] at h
  rw [HasB_append]
  rcases h with h | ⟨hA, h⟩
  · exact Or.inl h
  · refine Or.inr ⟨hA, ?_⟩
    rw [List.cons_append] at h
    simp only [HasB] at h ⊢
    rcases h with h | ⟨_, h⟩
    · exact absurd (by rw [leftI_row hos]; exact words_no12 _) h.is12
    · refine Or.inr ⟨no1, ?_⟩
      rw [HasB_append] at h
      rcases h with h | ⟨hM, h⟩
      · left
        obtain ⟨P, d, Q, e, g1, g2, g3⟩ := HasB_all (fun x hx => hlo x (by simp [hx])) (fun x hx => hsh x (by simp [hx])) h
        rw [leftI_node, e]
        have small : SmallD (allI M) := fun x hx => by
          have h1 := hlo x (by simp [hx])
          have h2 := hhi x (by simp [hx])
          omega
        rw [e] at small
        refine ⟨hdN (kOf o c) :: deepI P, d + 1, deepI Q, ?_, ?_, by omega, ?_⟩
        · rw [deepI_append, deepI_append, span_deep lb X d (fun x hx => small x (by simp [hx]))]; rfl
        · intro x hx
          rcases List.mem_cons.1 hx with rfl | hx
          · rcases hdN_kd (kOf o c) with e | e <;> rw [e] <;> decide
          · exact deepI_no12 g1 x hx
        · rw [nestOk_deep Q (fun x hx => small x (by simp [hx]))]; exact g3
      · right
        refine ⟨?_, ?_⟩
        · rw [leftI_node]
          intro x hx
          rcases List.mem_cons.1 hx with rfl | hx
          · rcases hdN_kd (kOf o c) with e | e <;> rw [e] <;> decide
          · exact deepI_no12 hM x hx
        · simp only [HasB] at h ⊢
          rcases h with h | ⟨_, h⟩
          · exact absurd (by rw [leftI_row hcs]; exact words_no12 _) h.is12
          · exact Or.inr ⟨no2, h⟩
theorem hasB_go {lb : List UInt8} {X : List Iln} {K : Int → Prop} (k1 : K 1) (k3 : K 3) (k4 : K 4) {T : Nat} (hT : T ≤ 1000000) : ∀ (f : Nat) (l r : List Itm), NKeep K T (l.reverse ++ r) → HasB lb X (l.reverse ++ r) → HasB lb X (groupGo f l r)
  | 0, l, r, _, h => by simpa [groupGo] using h
  | f + 1, l, [], _, h => by simpa [groupGo] using h
  | f + 1, l, c :: r, hN, h => by
    simp only [groupGo]
    split
    · next hc =>
      split
      · exact hasB_go k1 k3 k4 hT f _ _ (by simpa using hN) (by simpa using h)
      · next m o l' he =>
        obtain ⟨rfl, ho, _⟩ := openerI_some he
        have hN' : NKeep K T (l'.reverse ++ o :: m.reverse ++ c :: r) := by simpa using hN
        have h' : HasB lb X (l'.reverse ++ o :: m.reverse ++ c :: r) := by simpa using h
        refine hasB_go k1 k3 k4 hT f _ _ ?_ ?_
        · have := hN'.pair k1 k3 k4 hT ho hc
          simpa using this
        · have := HasB.pair hT hN' h' ho hc
          simpa using this
    · exact hasB_go k1 k3 k4 hT f _ _ (by simpa using hN) (by simpa using h)
theorem shift_merged {X : List Iln} (h : Merged X) (k : Int) : Merged (shiftI k X) := by
  refine ⟨fun x hx hk => ?_, fun p a b q e => ?_⟩
  · obtain ⟨y, hy, rfl⟩ := List.mem_map.1 hx
    exact h.1 y hy hk
  · rintro ⟨h1, h2, h3⟩
    unfold shiftI at e
    have e' := e
    obtain ⟨p', r1, hX, hp, hr1⟩ := List.map_eq_append_iff.1 e'
    obtain ⟨a', r2, rfl, ha, hr2⟩ := List.map_eq_cons_iff.1 hr1
    obtain ⟨b', q', rfl, hb, hq⟩ := List.map_eq_cons_iff.1 hr2
    refine h.2 p' a' b' q' hX ⟨?_, ?_, ?_⟩
    · rw [← ha] at h1; exact h1
    · rw [← hb] at h2; exact h2
    · rw [← ha, ← hb] at h3; simp at h3; exact h3
theorem span_merged {lb : List UInt8} {X : List Iln} (h : Merged X) (d : Int) : Merged (spanB lb X d) := by
  have hs := shift_merged h (d + 1)
  refine ⟨fun x hx hk => ?_, fun p a b q e => ?_⟩
  · rcases List.mem_cons.1 hx with rfl | hx
    · simp at hk
    · exact hs.1 x hx hk
  · cases p with
    | nil =>
      simp only [spanB, List.nil_append, List.cons.injEq] at e
      rintro ⟨h1, _⟩
      rw [← e.1] at h1
      simp at h1
    | cons y p =>
      simp only [spanB, List.cons_append, List.cons.injEq] at e
      exact hs.2 p a b q e.2
/-- Rows and nodes around a span: its nodes stay together. -/
theorem span_group {lb : List UInt8} {X : List Iln} {K : Int → Prop} (k1 : K 1) (k3 : K 3) (k4 : K 4) {T : Nat} (hT : T ≤ 1000000) {S : List Itm} (hN : NKeep K T S) (h : HasB lb X S) (hX : Merged X) (hXd : ∀ x ∈ X, 0 ≤ x.dp) :
    ∃ P d Q, groupI S = P ++ (spanB lb X d ++ Q) ∧ No12 P ∧ 0 ≤ d ∧ d ≤ T ∧ nestOk d Q = true := by
  have hG := nkeep_go k1 k3 k4 hT (fuelI S) [] S (by simpa using hN)
  have hB := hasB_go k1 k3 k4 hT (fuelI S) [] S (by simpa using hN) (by simpa using h)
  obtain ⟨P, d, Q, e, g1, g2, g3⟩ := HasB_all hG.lo hG.shape hB
  refine ⟨mergeI P, d, mergeI Q, ?_, ?_, g2, ?_, nestOk_merge g3⟩
  · unfold groupI
    rw [e, mergeI_append, List.foldl_append]
    have hb : ∀ q, beginsAt (spanB lb X d) q = false := fun q => by
      unfold beginsAt
      rw [mergeI_same (span_merged hX d)]
      simp [spanB]
    rw [foldl_apart (spanB lb X d) (mergeI P) (fun q _ => hb q), mergeI_same (span_merged hX d)]
    rw [foldl_apart Q, List.append_assoc]
    intro q hq
    have hq2 : d < q := by
      rcases List.eq_nil_or_concat X with rfl | ⟨X', y, rfl⟩
      · have e2 : mergeI P ++ spanB lb [] d = mergeI P ++ [⟨12, d, lb, [], []⟩] := rfl
        rw [e2, endsAt_snoc] at hq
        simp at hq
      · rw [List.concat_eq_append] at hq hXd
        have hy := hXd y (by simp)
        have e2 : mergeI P ++ spanB lb (X' ++ [y]) d = (mergeI P ++ (⟨12, d, lb, [], []⟩ :: shiftI (d + 1) X')) ++ [{ y with dp := y.dp + (d + 1) }] := by simp [spanB, shiftI]
        rw [e2, endsAt_snoc] at hq
        simp at hq
        omega
    unfold beginsAt
    have hm := nestOk_merge g3
    cases hq3 : mergeI Q with
    | nil => rfl
    | cons z Z =>
      rw [hq3] at hm
      simp only [nestOk, Bool.and_eq_true, decide_eq_true_eq] at hm
      simp only [List.head?_cons, Bool.and_eq_false_iff, beq_eq_false_iff_ne]
      right
      omega
  · have := kindsP_merge (K := fun k => k ≠ 12) (l := P) g1
    exact this
  · have := hG.hi ⟨12, d, lb, [], []⟩ (by rw [e]; simp [spanB])
    simp only at this
    omega
/-- A span between texts that have none of the signs. -/
theorem spans_plain (D : List Dfn) (lb tx u v : List UInt8) (hu : ∀ b ∈ u, okB b = true) (hv : ∀ b ∈ v, okB b = true) (hl : u.length + v.length + tx.length ≤ 10000) :
    ∃ P d Q, inlL [⟨lb, tx⟩] D (u ++ ([0, 48, 0] ++ v)) = P ++ (spanB lb (rawI D tx) d ++ Q) ∧ No12 P ∧ 0 ≤ d ∧ d ≤ 20000 ∧ nestOk d Q = true := by
  generalize hE : atmE D [⟨lb, tx⟩] = E
  have hat : E.atom 0 = some (⟨12, 0, lb, [], []⟩ :: deepI (rawI D tx)) := by rw [← hE]; rfl
  obtain ⟨A, a1, a2, a3⟩ := plain_run E D u.length [] u ([0, 48, 0] ++ v) [] (Nat.le_refl _) (Or.inr ⟨[48, 0] ++ v, rfl⟩) hu
  simp only [List.nil_append, List.length_nil, List.append_nil] at a1
  have e1 := inlFrom_plain E D u [0, 48, 0] v (A.map Ent.it) (by simp) (next_atom0 v) (fun m e => by cases e)
  have e2 : (stepI E D (u ++ ([0, 48, 0] ++ v)) u.length (u ++ [0, 48, 0]).length (.atom 0) (A.map Ent.it)).1 = .it (ndI (⟨12, 0, lb, [], []⟩ :: deepI (rawI D tx))) :: A.map Ent.it := by
    unfold stepI
    simp only [hat, Option.getD_some]
  obtain ⟨B, b1, b2, b3⟩ := plain_run E D v.length (u ++ [0, 48, 0]) v [] (.it (ndI (⟨12, 0, lb, [], []⟩ :: deepI (rawI D tx))) :: A.map Ent.it) (Nat.le_refl _) (Or.inl rfl) hv
  have es : u ++ [0, 48, 0] ++ (v ++ []) = u ++ ([0, 48, 0] ++ v) := by simp
  rw [es] at b1
  have hend : inlFrom E D (u ++ ([0, 48, 0] ++ v)) 0 [] = B.map Ent.it ++ .it (ndI (⟨12, 0, lb, [], []⟩ :: deepI (rawI D tx))) :: A.map Ent.it := by
    rw [a1, e1, e2, b1, inlFrom_end _ _ _ _ _ (by simp <;> omega)]
  have hS : inlL [⟨lb, tx⟩] D (u ++ ([0, 48, 0] ++ v)) = groupI (A.reverse ++ ndI (⟨12, 0, lb, [], []⟩ :: deepI (rawI D tx)) :: B.reverse) := by
    unfold inlL
    rw [hE, inlE_from, hend]
    congr 1
    simp only [List.reverse_append, List.reverse_cons, List.map_append, List.map_cons, List.map_nil, List.append_assoc, List.cons_append, List.nil_append, ← List.map_reverse, List.map_map]
    have h1 : ∀ L : List Itm, L.map (entI ∘ Ent.it) = L := fun L => (List.map_congr_left fun x _ => rfl).trans (List.map_id _)
    rw [h1, h1]
    rfl
  have hX := shapes_plain D tx (by omega)
  have hXs : SmallD (rawI D tx) := fun x hx => by have := hX.1 x hx; omega
  have hsp : ⟨12, 0, lb, [], []⟩ :: deepI (rawI D tx) = spanB lb (rawI D tx) 0 := by
    unfold spanB shiftI deepI
    congr 1
    refine List.map_congr_left fun x hx => ?_
    have := hXs x hx
    simp only [deepOne, wrap_small this.1 this.2]
    rfl
  have hB : HasB lb (rawI D tx) (A.reverse ++ ndI (⟨12, 0, lb, [], []⟩ :: deepI (rawI D tx)) :: B.reverse) := by
    rw [HasB_append]
    refine Or.inr ⟨?_, Or.inl ⟨[], 0, [], ?_, fun x hx => (by cases hx), Int.le_refl _, rfl⟩⟩
    · intro x hx
      obtain ⟨i, hi, hxi⟩ := List.mem_flatMap.1 hx
      have := (plain_nodes (a2 i (List.mem_reverse.1 hi)) x hxi).1
      omega
    · rw [leftI_nd, hsp]; simp
  have hnodes : ∀ x ∈ allI (A.reverse ++ ndI (⟨12, 0, lb, [], []⟩ :: deepI (rawI D tx)) :: B.reverse), (1 ≤ x.kd ∧ x.kd ≤ 12) ∧ 0 ≤ x.dp ∧ x.dp ≤ tx.length + 1 := by
    intro x hx
    rw [allI_append, allI_cons] at hx
    rcases List.mem_append.1 hx with hx | hx
    · obtain ⟨i, hi, hxi⟩ := List.mem_flatMap.1 hx
      have := plain_nodes (a2 i (List.mem_reverse.1 hi)) x hxi
      omega
    · rcases List.mem_append.1 hx with hx | hx
      · rw [leftI_nd] at hx
        rcases List.mem_cons.1 hx with rfl | hx
        · simp only; omega
        · obtain ⟨y, hy, rfl⟩ := List.mem_map.1 hx
          have h1 := hX.1 y hy
          have h2 := hXs y hy
          simp only [deepOne, wrap_small h2.1 h2.2]
          omega
      · obtain ⟨i, hi, hxi⟩ := List.mem_flatMap.1 hx
        have := plain_nodes (b2 i (List.mem_reverse.1 hi)) x hxi
        omega
  have hN : NKeep (fun k => 1 ≤ k ∧ k ≤ 12) (u.length + v.length + tx.length + 1) (A.reverse ++ ndI (⟨12, 0, lb, [], []⟩ :: deepI (rawI D tx)) :: B.reverse) := by
    refine ⟨fun x hx => (hnodes x hx).1, fun x hx => (hnodes x hx).2.1, fun x hx => ?_, fun x hx => ?_, fun x hx => ?_⟩
    · have := (hnodes x hx).2.2
      rw [signsI_append, signsI_cons, signsI_reverse, signsI_reverse]
      simp only [ndI]
      have e0 : ((0 : Int)).toNat = 0 := rfl
      omega
    · simp only [List.mem_append, List.mem_cons, List.mem_reverse] at hx
      rcases hx with hx | rfl | hx
      · exact (a2 x hx).nn
      · exact Int.le_refl _
      · exact (b2 x hx).nn
    · simp only [List.mem_append, List.mem_cons, List.mem_reverse] at hx
      rcases hx with hx | rfl | hx
      · exact plain_shape (a2 x hx)
      · rw [leftI_nd]
        simp only [nestOk, Int.le_refl, decide_true, Bool.true_and]
        rw [show nxtI ⟨12, 0, lb, [], []⟩ = 0 + 1 from rfl, nestOk_deep _ hXs]
        exact hX.2.1
      · exact plain_shape (b2 x hx)
  obtain ⟨P, d, Q, g1, g2, g3, g4, g5⟩ := span_group (lb := lb) (X := rawI D tx) (by decide) (by decide) (by decide) (by omega) hN hB hX.2.2 (fun x hx => (hX.1 x hx).2.2.1)
  exact ⟨P, d, Q, by rw [hS, g1], g2, g3, by omega, g5⟩
end Go.Proofs.YteihmgcphbijhaaGreatDoor

namespace Go.Proofs.YteihmgcphbijhaaGreatDoor
open Go.RowKit
set_option linter.unusedSimpArgs false
set_option linter.unusedVariables false
theorem bs_ascii (z : ByteArray) (kk : Nat) (e : Bool) (hz : ∀ k (h : k < z.size), (z[k]'h).toNat < 128 ∧ (z[k]'h).toNat ≠ 0) : ∀ (f pos : Nat) (last : Int), pos ≤ kk → kk ≤ z.size → z.size ≤ pos + f → (kk = z.size → e = true) →
    bsFrom z kk e f pos last = ((if h : pos < kk ∧ kk - 1 < z.size then ((z[kk - 1]'h.2).toNat : Int) else last), (if h : kk < z.size then ((z[kk]'h).toNat : Int) else 10))
  | 0, pos, last, h1, h2, h3, h4 => by
    have : pos = kk := by omega
    subst this
    rw [bsFrom_end z pos e 0 pos last (by omega), h4 (by omega), if_pos rfl, dif_neg (by omega), dif_neg (by omega)]
  | f + 1, pos, last, h1, h2, h3, h4 => by
    by_cases hp : pos < z.size
    · have hd := decode_ascii z pos hp (hz pos hp).1
      have hs : shownI ((z[pos]'hp).toNat : Int) = ((z[pos]'hp).toNat : Int) := by unfold shownI; rw [if_neg (by have := (hz pos hp).2; omega)]
      unfold bsFrom
      rw [if_pos hp, hd]
      simp only [hs]
      by_cases hk : pos = kk
      · subst hk
        rw [if_pos rfl, dif_neg (by omega), dif_pos hp]
      · rw [if_neg hk, bs_ascii z kk e hz f (pos + 1) _ (by omega) h2 (by omega) h4]
        congr 1
        by_cases h5 : pos + 1 < kk
        · rw [dif_pos ⟨h5, by omega⟩, dif_pos ⟨by omega, by omega⟩]
        · have h6 : pos = kk - 1 := by omega
          subst h6
          rw [dif_neg (by omega), dif_pos ⟨by omega, by omega⟩]
    · have : pos = kk := by omega
      subst this
      rw [bsFrom_end z pos e _ pos last hp, h4 (by omega), if_pos rfl, dif_neg (by omega), dif_neg (by omega)]
def befL (s : List UInt8) (k : Nat) : Int := if k = 0 then 10 else ((s.getD (k - 1) 0).toNat : Int)
def aftL (s : List UInt8) (k : Nat) : Int := if k < s.length then ((s.getD k 0).toNat : Int) else 10
theorem get_mk (s : List UInt8) (k : Nat) (h : k < (⟨s.toArray⟩ : ByteArray).size) : (⟨s.toArray⟩ : ByteArray)[k]'h = s.getD k 0 := by
  have h' : k < s.length := by rw [str_size] at h; exact h
  show s.toArray[k] = _
  rw [List.getD_eq_getElem?_getD, List.getElem?_eq_getElem h']
  simp
theorem around_ascii (s : List UInt8) (hs : ∀ b ∈ s, b.toNat < 128 ∧ b.toNat ≠ 0) (k : Nat) (hk : k ≤ s.length) : bsB ⟨s.toArray⟩ k = (befL s k, aftL s k) := by
  have hsz := str_size s
  rw [bsB_in _ k (by rw [hsz]; exact hk), hsz]
  have hget : ∀ (a b : Nat) (j : Nat) (h : j < ((⟨s.toArray⟩ : ByteArray).extract a b).size), ((⟨s.toArray⟩ : ByteArray).extract a b)[j]'h = s.getD (a + j) 0 := by
    intro a b j h
    rw [ByteArray.size_extract, hsz] at h
    rw [ByteArray.getElem_extract, get_mk]
  have hlen : ((⟨s.toArray⟩ : ByteArray).extract (k - 4) (min s.length (k + 4))).size = min s.length (k + 4) - (k - 4) := by rw [ByteArray.size_extract, hsz]; omega
  rw [bs_ascii _ _ _ (fun j h => by
    rw [hget]
    rw [hlen] at h
    have hj : k - 4 + j < s.length := by omega
    rw [List.getD_eq_getElem?_getD, List.getElem?_eq_getElem hj]
    exact hs _ (List.getElem_mem hj)) _ 0 10 (Nat.zero_le _) (by rw [hlen]; omega) (by omega) (fun h => by rw [hlen] at h; simp; omega)]
  unfold befL aftL
  congr 1
  · by_cases h0 : k = 0
    · rw [dif_neg (by omega), if_pos h0]
    · rw [dif_pos ⟨by omega, by rw [hlen]; omega⟩, if_neg h0, hget, show k - 4 + (k - (k - 4) - 1) = k - 1 from by omega]
  · by_cases h0 : k < s.length
    · rw [dif_pos (by rw [hlen]; omega), if_pos h0, hget, show k - 4 + (k - (k - 4)) = k from by omega]
    · rw [dif_neg (by rw [hlen]; omega), if_neg h0]
def alB (b : UInt8) : Bool := lowB b || b == 42 || b == 96 || b == 32
def Shut (z : List UInt8) : Prop := ∃ r, z = 93 :: r ∧ ∀ b ∈ r, b ≠ 96
theorem alB_is {b : UInt8} (h : alB b = true) : lowB b = true ∨ b = 42 ∨ b = 96 ∨ b = 32 := by
  simp only [alB, Bool.or_eq_true, beq_iff_eq] at h
  rcases h with ((h | h) | h) | h
  · exact Or.inl h
  · exact Or.inr (Or.inl h)
  · exact Or.inr (Or.inr (Or.inl h))
  · exact Or.inr (Or.inr (Or.inr h))
theorem alB_ne {b : UInt8} (h : alB b = true) : b ≠ 10 ∧ b ≠ 93 ∧ b ≠ 94 ∧ b ≠ 35 ∧ b ≠ 0 := by
  refine ⟨?_, ?_, ?_, ?_, ?_⟩ <;> (rintro rfl; revert h; decide)
theorem tw_local (p : UInt8 → Bool) (hp : p 93 = false) {z : List UInt8} (hz : Shut z) : ∀ x : List UInt8, (x ++ z).takeWhile p = x.takeWhile p
  | [] => by
    obtain ⟨r, rfl, _⟩ := hz
    simp [hp]
  | b :: x => by
    rw [List.cons_append, List.takeWhile_cons, List.takeWhile_cons, tw_local p hp hz x]
theorem past_local (p : UInt8 → Bool) (hp : p 93 = false) {z : List UInt8} (hz : Shut z) (u : List UInt8) (k : Nat) (hk : k ≤ u.length) : pastL p (u ++ z) k = pastL p u k := by
  unfold pastL
  rw [List.drop_append_of_le_length hk, tw_local p hp hz]
theorem row_local {z : List UInt8} (hz : Shut z) (c : UInt8) (t : List UInt8) (hc : c ≠ 93) : rowL (c :: t ++ z) = rowL (c :: t) := by
  unfold rowL
  exact past_local _ (by simpa using hc.symm) hz (c :: t) 1 (by simp)
theorem pre_local (n : Nat) (hn : 1 ≤ n) {z : List UInt8} (hz : Shut z) : ∀ (a : List UInt8), (List.replicate n (96 : UInt8)).isPrefixOf (a ++ z) = (List.replicate n (96 : UInt8)).isPrefixOf a := by
  induction n with
  | zero => omega
  | succ n ih =>
    intro a
    rw [List.replicate_succ]
    cases a with
    | nil =>
      obtain ⟨r, rfl, _⟩ := hz
      simp [List.isPrefixOf]
    | cons b a =>
      rw [List.cons_append]
      simp only [List.isPrefixOf]
      cases n with
      | zero => simp [List.isPrefixOf]
      | succ m => rw [ih (by omega) a]
theorem idx_tail (n : Nat) (hn : 1 ≤ n) {z : List UInt8} (hz : Shut z) : Lib.index z (List.replicate n 96) = -1 := by
  obtain ⟨r, rfl, hr⟩ := hz
  exact tkIdx_none n hn (93 :: r) (fun b hb => by
    rcases List.mem_cons.1 hb with rfl | hb
    · decide
    · exact hr b hb)
theorem idx_local (n : Nat) (hn : 1 ≤ n) {z : List UInt8} (hz : Shut z) : ∀ a : List UInt8, Lib.index (a ++ z) (List.replicate n 96) = Lib.index a (List.replicate n 96)
  | [] => by
    rw [List.nil_append, idx_tail n hn hz]
    obtain ⟨m, rfl⟩ : ∃ m, n = m + 1 := ⟨n - 1, by omega⟩
    rfl
  | b :: a => by
    have ih := idx_local n hn hz a
    have hp := pre_local n hn hz (b :: a)
    rw [List.cons_append] at hp ⊢
    rw [Lib.index, Lib.index, hp, ih]
theorem idx_bound (n : Nat) (hn : 1 ≤ n) : ∀ (a : List UInt8), ¬ Lib.index a (List.replicate n 96) < 0 → (Lib.index a (List.replicate n 96)).toNat + n ≤ a.length ∧ (a.drop (Lib.index a (List.replicate n 96)).toNat).take n = List.replicate n 96
  | [], h => by
    obtain ⟨m, rfl⟩ : ∃ m, n = m + 1 := ⟨n - 1, by omega⟩
    exact absurd (show Lib.index [] (List.replicate (m + 1) 96) < 0 from by rw [List.replicate_succ]; exact (by decide : (-1 : Int) < 0)) h
  | b :: a, h => by
    by_cases hp : (List.replicate n (96 : UInt8)).isPrefixOf (b :: a) = true
    · have e : Lib.index (b :: a) (List.replicate n 96) = 0 := by rw [Lib.index, if_pos hp]
      obtain ⟨r, hr⟩ := List.isPrefixOf_iff_prefix.1 hp
      rw [e, ← hr]
      refine ⟨?_, ?_⟩
      · simp
      · simp
    · have e : Lib.index (b :: a) (List.replicate n 96) = if Lib.index a (List.replicate n 96) == -1 then -1 else Lib.index a (List.replicate n 96) + 1 := by
        rw [Lib.index, if_neg hp]
      rw [e] at h ⊢
      by_cases hm : (Lib.index a (List.replicate n 96) == -1) = true
      · rw [if_pos hm] at h; exact absurd (by decide) h
      · rw [if_neg hm] at h ⊢
        have hge : ¬ Lib.index a (List.replicate n 96) < 0 := by
          intro hlt
          have := Lib.index_ge a (List.replicate n 96)
          simp at hm
          omega
        obtain ⟨h1, h2⟩ := idx_bound n hn a hge
        have ht : (Lib.index a (List.replicate n 96) + 1).toNat = (Lib.index a (List.replicate n 96)).toNat + 1 := by omega
        rw [ht]
        refine ⟨by simp; omega, ?_⟩
        rw [List.drop_succ_cons]
        exact h2
theorem head_rep {n : Nat} (hn : 1 ≤ n) {u : List UInt8} (h : u.take n = List.replicate n 96) : ∃ t, u = 96 :: t := by
  cases u with
  | nil => simp at h; omega
  | cons c t =>
    obtain ⟨m, rfl⟩ : ∃ m, n = m + 1 := ⟨n - 1, by omega⟩
    rw [List.take_succ_cons, List.replicate_succ] at h
    exact ⟨t, by rw [(List.cons.inj h).1]⟩
theorem code_local (n : Nat) (hn : 1 ≤ n) {z : List UInt8} (hz : Shut z) (u : List UInt8) (hnu : n ≤ u.length) (hR : u.take n = List.replicate n 96) : ∀ (m f g k : Nat), u.length - k ≤ m → k ≤ u.length → u.length - k < f → u.length - k < g → codeGo (u ++ z) n f k = codeGo u n g k
  | m, 0, g, k, _, _, h, _ => by omega
  | m, f + 1, 0, k, _, _, _, h => by omega
  | m, f + 1, g + 1, k, hm, hk, hf, hg => by
    have ht : (u ++ z).take n = u.take n := List.take_append_of_le_length hnu
    have hi : Lib.index ((u ++ z).drop k) ((u ++ z).take n) = Lib.index (u.drop k) (u.take n) := by
      rw [ht, hR, List.drop_append_of_le_length hk, idx_local n hn hz]
    rw [codeGo, codeGo, hi]
    by_cases hneg : Lib.index (u.drop k) (u.take n) < 0
    · rw [if_pos hneg, if_pos hneg, ht]
    · rw [if_neg hneg, if_neg hneg]
      simp only
      rw [hR] at hneg ⊢
      obtain ⟨b1, b2⟩ := idx_bound n hn (u.drop k) hneg
      generalize he : (Lib.index (u.drop k) (List.replicate n 96)).toNat = q at b1 b2 ⊢
      rw [List.length_drop] at b1
      rw [List.drop_drop] at b2
      obtain ⟨t, hu⟩ := head_rep hn b2
      have hrow : rowL ((u ++ z).drop (k + q)) = rowL (u.drop (k + q)) := by
        rw [List.drop_append_of_le_length (by omega), hu]
        exact row_local hz 96 t (by decide)
      have hr1 := rowL_pos (u.drop (k + q))
      have hr2 := rowL_le (u.drop (k + q)) (by rw [hu]; simp)
      rw [List.length_drop] at hr2
      rw [hrow, List.take_append_of_le_length (by omega)]
      split
      · rfl
      · cases m with
        | zero => omega
        | succ m => exact code_local n hn hz u hnu hR m f g _ (by omega) (by omega) (by omega) (by omega)
theorem tw_take (p : UInt8 → Bool) (t : List UInt8) : t.take (t.takeWhile p).length = t.takeWhile p := (List.prefix_iff_eq_take.1 (List.takeWhile_prefix p)).symm
theorem tw_drop (p : UInt8 → Bool) : ∀ t : List UInt8, t.drop (t.takeWhile p).length = t.dropWhile p
  | [] => rfl
  | b :: t => by
    by_cases hb : p b = true
    · rw [List.takeWhile_cons, if_pos hb, List.dropWhile_cons, if_pos hb, List.length_cons, List.drop_succ_cons, tw_drop p t]
    · rw [List.takeWhile_cons, if_neg hb, List.dropWhile_cons, if_neg hb]; rfl
theorem take_row (t : List UInt8) : (96 :: t).take (rowL (96 :: t)) = List.replicate (rowL (96 :: t)) 96 := by
  unfold rowL pastL
  simp only [List.headD_cons, List.drop_succ_cons, List.drop_zero]
  rw [Nat.add_comm, List.take_succ_cons, List.replicate_succ]
  congr 1
  have h1 : t.take (t.takeWhile fun b => b == 96).length = t.takeWhile fun b => b == 96 := tw_take _ t
  rw [h1]
  exact List.eq_replicate_iff.2 ⟨rfl, fun b hb => by have := takeWhile_all (· == (96 : UInt8)) t b hb; simpa using this⟩
theorem first_low {c : UInt8} (t : List UInt8) (h : lowB c = true) : firstTk (c :: t) = (.no, 0) := first_word c t (word_low c h)
theorem line_none (l : List UInt8) (h : hasL l (pastL (fun b => b == 32) l 0) 10 = false) : lineTk l = (.brk false, 0) := by
  unfold lineTk
  simp only [h, if_true]
theorem al_has {u : List UInt8} (h : ∀ b ∈ u, alB b = true) (k : Nat) : hasL u k 10 = false := by
  cases hh : hasL u k 10 with
  | false => rfl
  | true =>
    unfold hasL at hh
    have hm := List.mem_of_getElem? (eq_of_beq hh)
    exact absurd rfl (alB_ne (h 10 hm)).1
theorem al_has_local {u z : List UInt8} (hz : Shut z) (h : ∀ b ∈ u, alB b = true) (k : Nat) (hk : k ≤ u.length) : hasL (u ++ z) k 10 = false := by
  by_cases hlt : k < u.length
  · have := al_has h k
    unfold hasL at this ⊢
    rw [List.getElem?_append_left hlt]
    exact this
  · obtain ⟨r, rfl, _⟩ := hz
    have : k = u.length := by omega
    subst this
    unfold hasL
    rw [List.getElem?_append_right (Nat.le_refl _)]
    simp
/-- A token of a text of letters, stars, backquotes and blanks. -/
theorem next_local {z : List UInt8} (hz : Shut z) (u : List UInt8) (hu : u ≠ []) (h : ∀ b ∈ u, alB b = true) : nextL (u ++ z) = nextL u := by
  obtain ⟨c, t, rfl⟩ : ∃ c t, u = c :: t := by cases u with | nil => exact absurd rfl hu | cons c t => exact ⟨c, t, rfl⟩
  have hc := alB_is (h c (by simp))
  have hc93 := (alB_ne (h c (by simp))).2.1
  have hrow := row_local hz c t hc93
  have hrl := rowL_le (c :: t) (by simp)
  have hword : wordTk (c :: t ++ z) = wordTk (c :: t) := by
    have hp := past_local tkWord (by decide +kernel) hz (c :: t) 1 (by simp)
    have hd1 : (c :: t ++ z).headD 1 = c := rfl
    have hd2 : (c :: t).headD 1 = c := rfl
    unfold wordTk
    simp only [hd1, hd2, hp, hrow]
    rw [List.take_append_of_le_length (by
      split
      · exact hrl
      · exact pastL_le _ _ _ (by simp))]
  rcases hc with hl | rfl | rfl | rfl
  · unfold nextL
    rw [List.cons_append, first_low _ hl, first_low _ hl, if_pos rfl, if_pos rfl, ← List.cons_append, hword]
  · have e : ∀ x, firstTk (42 :: x) = (.run 42 (rowL (42 :: x)), rowL (42 :: x)) := fun x => rfl
    unfold nextL
    rw [List.cons_append, e, e, ← List.cons_append, hrow, hword]
  · have e : ∀ x, firstTk (96 :: x) = codeL (96 :: x) := fun x => rfl
    have hcode : codeL (96 :: t ++ z) = codeL (96 :: t) := by
      unfold codeL
      rw [hrow]
      exact code_local (rowL (96 :: t)) (rowL_pos _) hz (96 :: t) hrl (take_row t) _ _ _ _ (Nat.le_refl _) hrl (by simp; omega) (by simp; omega)
    unfold nextL
    rw [List.cons_append, e, e, ← List.cons_append, hcode, hword]
  · have hp := past_local (fun b => b == 32) (by decide) hz (32 :: t) 0 (by simp)
    have hle : pastL (fun b => b == 32) (32 :: t) 0 ≤ (32 :: t).length := pastL_le _ _ _ (by simp)
    have l1 : lineTk (32 :: t ++ z) = (.brk false, 0) := line_none _ (by rw [hp]; exact al_has_local hz h _ hle)
    have l2 : lineTk (32 :: t) = (.brk false, 0) := line_none _ (al_has h _)
    unfold nextL
    rw [first_blank _ (Or.inl rfl), first_blank _ (Or.inl rfl), l1, l2, if_pos rfl, if_pos rfl, hword]
theorem past_last (p : UInt8 → Bool) (c : UInt8) (t : List UInt8) (hc : p c = true) : p ((c :: t).getD (pastL p (c :: t) 1 - 1) 0) = true := by
  unfold pastL
  simp only [List.drop_succ_cons, List.drop_zero]
  rw [Nat.add_comm, Nat.add_sub_cancel]
  cases hm : (t.takeWhile p).length with
  | zero => simpa using hc
  | succ m =>
    rw [List.getD_cons_succ]
    have hlt : m < (t.takeWhile p).length := by omega
    have e : t = t.takeWhile p ++ t.dropWhile p := (List.takeWhile_append_dropWhile ..).symm
    have : t.getD m 0 = (t.takeWhile p)[m] := by
      rw [List.getD_eq_getElem?_getD]
      conv => lhs; rw [e]
      rw [List.getElem?_append_left hlt, List.getElem?_eq_getElem hlt]
      rfl
    rw [this]
    exact takeWhile_all p t _ (List.getElem_mem hlt)
theorem past_next (p : UInt8 → Bool) (c : UInt8) (t : List UInt8) : ∀ b ∈ ((c :: t).drop (pastL p (c :: t) 1)).head?, p b = false := by
  intro b hb
  unfold pastL at hb
  simp only [List.drop_succ_cons, List.drop_zero] at hb
  rw [Nat.add_comm, List.drop_succ_cons] at hb
  have hd : t.drop (t.takeWhile p).length = t.dropWhile p := tw_drop p t
  rw [hd] at hb
  have := List.head?_dropWhile_not p t
  cases h : t.dropWhile p with
  | nil => rw [h] at hb; simp at hb
  | cons x r =>
    rw [h] at this hb
    simp at this hb
    subst hb
    exact this
theorem code_last (n : Nat) (hn : 1 ≤ n) (u : List UInt8) (hnu : n ≤ u.length) (hR : u.take n = List.replicate n 96) : ∀ (f k : Nat), k ≤ u.length → ((∃ w, (codeGo u n f k).1 = .word w) ∨ ∃ c, (codeGo u n f k).1 = .code c) ∧ u.getD ((codeGo u n f k).2 - 1) 0 = 96 := by
  have hlast : u.getD (n - 1) 0 = 96 := by
    have h1 : (u.take n)[n - 1]? = some 96 := by rw [hR, List.getElem?_replicate, if_pos (by omega)]
    rw [List.getElem?_take, if_pos (by omega)] at h1
    rw [List.getD_eq_getElem?_getD, h1]
    rfl
  intro f
  induction f with
  | zero => intro k _; exact ⟨Or.inl ⟨_, rfl⟩, hlast⟩
  | succ f ih =>
    intro k hk
    rw [codeGo]
    split
    · exact ⟨Or.inl ⟨_, rfl⟩, hlast⟩
    · next hneg =>
      rw [hR] at hneg
      simp only
      rw [hR]
      obtain ⟨b1, b2⟩ := idx_bound n hn (u.drop k) hneg
      generalize he : (Lib.index (u.drop k) (List.replicate n 96)).toNat = q at b1 b2 ⊢
      rw [List.length_drop] at b1
      rw [List.drop_drop] at b2
      obtain ⟨t, hu⟩ := head_rep hn b2
      have hr1 := rowL_pos (u.drop (k + q))
      have hr2 := rowL_le (u.drop (k + q)) (by rw [hu]; simp)
      rw [List.length_drop] at hr2
      split
      · refine ⟨Or.inr ⟨_, rfl⟩, ?_⟩
        simp only
        have h1 := past_last (fun b => b == 96) 96 t (by rfl)
        have h2 : rowL (u.drop (k + q)) = pastL (fun b => b == 96) (96 :: t) 1 := by rw [hu]; rfl
        rw [← h2, ← hu, getD_drop] at h1
        rw [show k + q + rowL (u.drop (k + q)) - 1 = k + q + (rowL (u.drop (k + q)) - 1) from by omega]
        simpa using h1
      · exact ih _ (by omega)
/-- What such a token is; it ends where no row of stars goes on. -/
theorem next_al (u : List UInt8) (hu : u ≠ []) (h : ∀ b ∈ u, alB b = true) : ((∃ w, (nextL u).1 = .word w) ∨ (∃ c, (nextL u).1 = .code c) ∨ (nextL u).1 = .run 42 (nextL u).2 ∧ u.headD 0 = 42 ∧ (nextL u).2 = rowL u) ∧ (u.getD ((nextL u).2 - 1) 0 ≠ 42 ∨ ∀ b ∈ (u.drop (nextL u).2).head?, b ≠ 42) := by
  obtain ⟨c, t, rfl⟩ : ∃ c t, u = c :: t := by cases u with | nil => exact absurd rfl hu | cons c t => exact ⟨c, t, rfl⟩
  have hc := alB_is (h c (by simp))
  rcases hc with hl | rfl | rfl | rfl
  · have e : nextL (c :: t) = wordTk (c :: t) := by unfold nextL; rw [first_low _ hl, if_pos rfl]
    rw [e]
    refine ⟨Or.inl ⟨_, rfl⟩, Or.inl ?_⟩
    have h32 : ¬ (c :: t).headD 1 = 32 := by intro e; simp at e; subst e; revert hl; decide
    have h1 := past_last tkWord c t (word_low c hl)
    unfold wordTk
    simp only [if_neg h32]
    intro e2
    rw [e2] at h1
    revert h1
    decide +kernel
  · have e : nextL (42 :: t) = (.run 42 (rowL (42 :: t)), rowL (42 :: t)) := by
      unfold nextL
      rw [show firstTk (42 :: t) = (.run 42 (rowL (42 :: t)), rowL (42 :: t)) from rfl, if_neg (by have := rowL_pos (42 :: t); simp only; omega)]
    rw [e]
    refine ⟨Or.inr (Or.inr ⟨rfl, rfl, rfl⟩), Or.inr ?_⟩
    intro b hb
    have := past_next (fun b => b == 42) 42 t b hb
    simpa using this
  · have hrl := rowL_le (96 :: t) (by simp)
    have hcl := code_last (rowL (96 :: t)) (rowL_pos _) (96 :: t) hrl (take_row t) ((96 :: t).length + 1) (rowL (96 :: t)) hrl
    have hw : wordTk (96 :: t) = (.word ((96 :: t).take (pastL tkWord (96 :: t) 1)), pastL tkWord (96 :: t) 1) := by
      unfold wordTk
      rw [if_neg (by simp)]
    by_cases h0 : (codeL (96 :: t)).2 = 0
    · exfalso
      have : 1 ≤ (codeL (96 :: t)).2 := by
        have hf := code_len (96 :: t) (rowL (96 :: t)) hrl (rowL_pos _)
        unfold codeL
        have hpos : ∀ (f k : Nat), 1 ≤ (codeGo (96 :: t) (rowL (96 :: t)) f k).2 := by
          intro f
          induction f with
          | zero => intro k; exact rowL_pos _
          | succ f ih =>
            intro k
            rw [codeGo]
            split
            · exact rowL_pos _
            · simp only
              split
              · have := rowL_pos ((96 :: t).drop (k + (Lib.index ((96 :: t).drop k) ((96 :: t).take (rowL (96 :: t)))).toNat))
                simp only; omega
              · exact ih _
        exact hpos _ _
      omega
    · have e : nextL (96 :: t) = codeL (96 :: t) := by
        unfold nextL
        rw [show firstTk (96 :: t) = codeL (96 :: t) from rfl, if_neg h0]
      rw [e]
      refine ⟨?_, Or.inl ?_⟩
      · rcases hcl.1 with hw | hc
        · exact Or.inl hw
        · exact Or.inr (Or.inl hc)
      · show (96 :: t).getD ((codeGo (96 :: t) (rowL (96 :: t)) ((96 :: t).length + 1) (rowL (96 :: t))).2 - 1) 0 ≠ 42
        rw [hcl.2]
        decide
  · have l2 : lineTk (32 :: t) = (.brk false, 0) := line_none _ (al_has h _)
    have e : nextL (32 :: t) = wordTk (32 :: t) := by unfold nextL; rw [first_blank _ (Or.inl rfl), l2, if_pos rfl]
    rw [e]
    refine ⟨Or.inl ⟨_, rfl⟩, Or.inl ?_⟩
    have h1 := past_last (fun b => b == 32) 32 t (by rfl)
    unfold wordTk
    rw [if_pos (by rfl)]
    show (32 :: t).getD (pastL (fun b => b == 32) (32 :: t) 1 - 1) 0 ≠ 42
    intro e2
    have h3 : (32 :: t).getD (pastL (fun b => b == 32) (32 :: t) 1 - 1) 0 = 32 := by simpa using h1
    rw [h3] at e2
    exact absurd e2 (by decide)
end Go.Proofs.YteihmgcphbijhaaGreatDoor
