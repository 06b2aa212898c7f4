/-
  Plain: an inline node; nodes put together (mergeI), one deeper (deepI), their text (textI).
-/
import Derived.Test.YtoomkhmmgjiniaaBase
namespace Go.Proofs.Ytoomkhmmgjiniaa
open Go.RowKit
set_option linter.unusedSimpArgs false
set_option linter.unusedVariables false

/-- An inline node. -/
structure Iln where
  kd : Int
  dp : Int
  txt : List UInt8
  url : List UInt8
  ttl : List UInt8
deriving DecidableEq, Inhabited

def wordsI (d : Int) (s : List UInt8) : Iln := ⟨1, d, s, [], []⟩
def deepOne (x : Iln) : Iln := { x with dp := IntKind.i64.wrap (x.dp + 1) }
def deepI (l : List Iln) : List Iln := l.map deepOne
/-- One node more, behind nodes that were put together. -/
def mergeOne (out : List Iln) (x : Iln) : List Iln :=
  if x.kd = 1 then
    if x.txt = [] then out
    else match out.getLast? with
      | some y => if y.kd = 1 ∧ y.dp = x.dp then out.dropLast ++ [{ y with txt := y.txt ++ x.txt }] else out ++ [wordsI x.dp x.txt]
      | none => [wordsI x.dp x.txt]
  else out ++ [x]
def mergeI (l : List Iln) : List Iln := l.foldl mergeOne []
def ilText (x : Iln) : List UInt8 := if x.kd = 1 ∨ x.kd = 2 ∨ x.kd = 6 then x.txt else if x.kd = 7 ∨ x.kd = 8 then [32] else []
def textI (l : List Iln) : List UInt8 := l.flatMap ilText

theorem deepI_nil : deepI [] = [] := rfl
theorem deepI_append (a b : List Iln) : deepI (a ++ b) = deepI a ++ deepI b := by simp [deepI]
theorem textI_append (a b : List Iln) : textI (a ++ b) = textI a ++ textI b := by simp [textI]
theorem textI_cons (a : Iln) (b : List Iln) : textI (a :: b) = ilText a ++ textI b := by simp [textI]
theorem mergeI_nil : mergeI [] = [] := rfl
theorem mergeI_append (a b : List Iln) : mergeI (a ++ b) = b.foldl mergeOne (mergeI a) := by simp [mergeI]
theorem mergeI_snoc (a : List Iln) (x : Iln) : mergeI (a ++ [x]) = mergeOne (mergeI a) x := by simp [mergeI]

/-- What one node does to nodes that end with y. -/
theorem mergeOne_snoc (out : List Iln) (y x : Iln) : mergeOne (out ++ [y]) x =
    if x.kd = 1 then (if x.txt = [] then out ++ [y] else if y.kd = 1 ∧ y.dp = x.dp then out ++ [{ y with txt := y.txt ++ x.txt }] else out ++ [y] ++ [wordsI x.dp x.txt]) else out ++ [y] ++ [x] := by
  unfold mergeOne
  simp only [List.getLast?_append, List.getLast?_singleton, Option.some_or, List.dropLast_concat]
theorem mergeOne_nil (x : Iln) : mergeOne [] x = if x.kd = 1 then (if x.txt = [] then [] else [wordsI x.dp x.txt]) else [x] := by
  unfold mergeOne
  simp
theorem mergeOne_ne (p q : List Iln) (hq : q ≠ []) (x : Iln) : mergeOne (p ++ q) x = p ++ mergeOne q x ∧ mergeOne q x ≠ [] := by
  obtain ⟨q', y, rfl⟩ : ∃ q' y, q = q' ++ [y] := ⟨q.dropLast, q.getLast hq, (List.dropLast_concat_getLast hq).symm⟩
  rw [← List.append_assoc, mergeOne_snoc, mergeOne_snoc]
  constructor
  · split
    · split
      · simp
      · split <;> simp
    · simp
  · split
    · split
      · simp
      · split <;> simp
    · simp
theorem foldl_ne (l p q : List Iln) (hq : q ≠ []) : l.foldl mergeOne (p ++ q) = p ++ l.foldl mergeOne q := by
  induction l generalizing q with
  | nil => rfl
  | cons x l ih =>
    have h := mergeOne_ne p q hq x
    simp only [List.foldl_cons]
    rw [h.1, ih _ h.2]
/-- Do nodes that were put together end in words of this depth? -/
def endsAt (p : List Iln) (d : Int) : Bool := match p.getLast? with | some y => y.kd == 1 && y.dp == d | none => false
/-- Do nodes, put together, begin with words of this depth? -/
def beginsAt (l : List Iln) (d : Int) : Bool := match (mergeI l).head? with | some y => y.kd == 1 && y.dp == d | none => false
theorem endsAt_snoc (p : List Iln) (y : Iln) (d : Int) : endsAt (p ++ [y]) d = (y.kd == 1 && y.dp == d) := by simp [endsAt]
theorem mergeOne_head (q : List Iln) (hq : q ≠ []) (x : Iln) : ∀ y, q.head? = some y → ∃ z, (mergeOne q x).head? = some z ∧ z.kd = y.kd ∧ z.dp = y.dp := by
  intro y hy
  obtain ⟨q', u, rfl⟩ : ∃ q' u, q = q' ++ [u] := ⟨q.dropLast, q.getLast hq, (List.dropLast_concat_getLast hq).symm⟩
  rw [mergeOne_snoc]
  cases q' with
  | nil =>
    simp at hy
    subst hy
    split
    · split
      · exact ⟨u, rfl, rfl, rfl⟩
      · split
        · exact ⟨_, rfl, rfl, rfl⟩
        · exact ⟨u, rfl, rfl, rfl⟩
    · exact ⟨u, rfl, rfl, rfl⟩
  | cons v q' =>
    simp at hy
    subst hy
    split
    · split
      · exact ⟨v, rfl, rfl, rfl⟩
      · split <;> exact ⟨v, rfl, rfl, rfl⟩
    · exact ⟨v, rfl, rfl, rfl⟩
theorem foldl_head (l q : List Iln) (hq : q ≠ []) : ∀ y, q.head? = some y → ∃ z, (l.foldl mergeOne q).head? = some z ∧ z.kd = y.kd ∧ z.dp = y.dp := by
  induction l generalizing q with
  | nil => intro y hy; exact ⟨y, hy, rfl, rfl⟩
  | cons x l ih =>
    intro y hy
    have h := mergeOne_ne [] q hq x
    obtain ⟨z, hz, e1, e2⟩ := mergeOne_head q hq x y hy
    obtain ⟨u, hu, f1, f2⟩ := ih (mergeOne q x) h.2 z hz
    exact ⟨u, hu, f1.trans e1, f2.trans e2⟩
/-- Nodes that do not go on with what stands ahead. -/
theorem foldl_apart (l : List Iln) : ∀ (p : List Iln), (∀ d, endsAt p d = true → beginsAt l d = false) → l.foldl mergeOne p = p ++ mergeI l := by
  induction l with
  | nil => intro p _; simp [mergeI]
  | cons x l ih =>
    intro p h
    by_cases hd : x.kd = 1 ∧ x.txt = []
    · have e1 : ∀ q, mergeOne q x = q := fun q => by unfold mergeOne; rw [if_pos hd.1, if_pos hd.2]
      have e2 : mergeI (x :: l) = mergeI l := by simp [mergeI, e1]
      rw [List.foldl_cons, e1, e2]
      refine ih p (fun d hd' => ?_)
      have := h d hd'
      unfold beginsAt at this ⊢
      rw [e2] at this
      exact this
    · have e0 : ∃ z, mergeOne [] x = [z] ∧ z.kd = x.kd ∧ z.dp = x.dp := by
        rw [mergeOne_nil]
        split
        · next hk =>
          rw [if_neg (fun ht => hd ⟨hk, ht⟩)]
          exact ⟨_, rfl, hk.symm, rfl⟩
        · exact ⟨_, rfl, rfl, rfl⟩
      obtain ⟨z, hz, z1, z2⟩ := e0
      have hM : mergeI (x :: l) = l.foldl mergeOne [z] := by simp only [mergeI, List.foldl_cons, hz]
      have hp : mergeOne p x = p ++ [z] := by
        rcases List.eq_nil_or_concat p with rfl | ⟨p', y, rfl⟩
        · exact hz
        · rw [List.concat_eq_append] at h ⊢
          rw [mergeOne_snoc]
          have hz' := hz
          rw [mergeOne_nil] at hz'
          split
          · next hk =>
            have ht : x.txt ≠ [] := fun ht => hd ⟨hk, ht⟩
            rw [if_pos hk, if_neg ht] at hz'
            rw [if_neg ht, if_neg]
            · cases hz'; rfl
            · rintro ⟨y1, y2⟩
              have hb := h y.dp (by rw [endsAt_snoc]; simp [y1])
              obtain ⟨u, hu, u1, u2⟩ := foldl_head l [z] (by simp) z rfl
              unfold beginsAt at hb
              rw [hM, hu] at hb
              simp [u1, u2, z1, z2, hk, y2] at hb
          · next hk =>
            rw [if_neg hk] at hz'
            cases hz'; rfl
      rw [List.foldl_cons, hp, foldl_ne l p [z] (by simp), hM]
/-- What was put together: no words are empty, none stand side by side, words have no url and no title. -/
def Merged (l : List Iln) : Prop := (∀ x ∈ l, x.kd = 1 → x.txt ≠ [] ∧ x.url = [] ∧ x.ttl = []) ∧ ∀ p a b q, l = p ++ a :: b :: q → ¬ (a.kd = 1 ∧ b.kd = 1 ∧ a.dp = b.dp)
theorem merged_snoc {l : List Iln} (h : Merged l) (x : Iln) (h1 : x.kd = 1 → x.txt ≠ [] ∧ x.url = [] ∧ x.ttl = []) (h2 : x.kd = 1 → endsAt l x.dp = false) : Merged (l ++ [x]) := by
  refine ⟨fun y hy => ?_, fun p a b q e => ?_⟩
  · rcases List.mem_append.1 hy with hy | hy
    · exact h.1 y hy
    · simp at hy; subst hy; exact h1
  · rcases List.eq_nil_or_concat q with rfl | ⟨q', z, rfl⟩
    · have e' : l ++ [x] = (p ++ [a]) ++ [b] := by rw [e]; simp
      obtain ⟨rfl, e2⟩ := List.append_inj' e' rfl
      cases e2
      rintro ⟨a1, b1, ab⟩
      have := h2 b1
      rw [endsAt_snoc] at this
      simp [a1, ab] at this
    · rw [List.concat_eq_append] at e
      have e' : l ++ [x] = (p ++ a :: b :: q') ++ [z] := by rw [e]; simp
      obtain ⟨rfl, _⟩ := List.append_inj' e' rfl
      exact h.2 p a b q' rfl
theorem merged_front {l : List Iln} {x : Iln} (h : Merged (l ++ [x])) : Merged l :=
  ⟨fun y hy => h.1 y (List.mem_append_left _ hy), fun p a b q e => h.2 p a b (q ++ [x]) (by rw [e]; simp)⟩
theorem merged_last {l : List Iln} {x : Iln} (h : Merged (l ++ [x])) : (x.kd = 1 → x.txt ≠ [] ∧ x.url = [] ∧ x.ttl = []) ∧ (x.kd = 1 → endsAt l x.dp = false) := by
  refine ⟨h.1 x (by simp), fun hk => ?_⟩
  rcases List.eq_nil_or_concat l with rfl | ⟨l', y, rfl⟩
  · rfl
  · rw [List.concat_eq_append] at h ⊢
    rw [endsAt_snoc]
    have := h.2 l' y x [] (by simp)
    cases hb : (y.kd == 1 && y.dp == x.dp) with
    | false => rfl
    | true => simp at hb; exact absurd ⟨hb.1, hk, hb.2⟩ this
theorem mergeOne_merged {l : List Iln} (h : Merged l) (x : Iln) : Merged (mergeOne l x) := by
  rcases List.eq_nil_or_concat l with rfl | ⟨l', y, rfl⟩
  · rw [mergeOne_nil]
    split
    · split
      · exact h
      · next hk ht => exact merged_snoc (l := []) h (wordsI x.dp x.txt) (fun _ => ⟨ht, rfl, rfl⟩) (fun _ => rfl)
    · next hk => exact merged_snoc (l := []) h x (fun e => absurd e hk) (fun e => absurd e hk)
  · rw [List.concat_eq_append] at h ⊢
    rw [mergeOne_snoc]
    split
    · next hk =>
      split
      · exact h
      · next ht =>
        split
        · next hy =>
          have hl := merged_last h
          have hl1 := hl.1 hy.1
          exact merged_snoc (merged_front h) _ (fun _ => ⟨fun e => ht (List.append_eq_nil_iff.1 e).2, hl1.2⟩) (fun _ => hl.2 hy.1)
        · next hy => exact merged_snoc h _ (fun _ => ⟨ht, rfl, rfl⟩) (fun _ => by rw [endsAt_snoc]; simpa [wordsI] using hy)
    · next hk => exact merged_snoc h x (fun e => absurd e hk) (fun e => absurd e hk)
theorem foldl_merged (l : List Iln) : ∀ {p : List Iln}, Merged p → Merged (l.foldl mergeOne p) := by
  induction l with
  | nil => intro p h; exact h
  | cons x l ih => intro p h; exact ih (mergeOne_merged h x)
theorem merged_nil : Merged [] := ⟨by simp, fun p a b q e => by simp at e⟩
theorem mergeI_merged (l : List Iln) : Merged (mergeI l) := foldl_merged l merged_nil
theorem mergeI_same {l : List Iln} (h : Merged l) : mergeI l = l := by
  suffices ∀ (n : Nat) (l : List Iln), l.length = n → Merged l → mergeI l = l from this _ l rfl h
  intro n
  induction n with
  | zero => intro l hl _; rw [List.eq_nil_of_length_eq_zero hl]; rfl
  | succ n ih =>
    intro l hl h
    rcases List.eq_nil_or_concat l with rfl | ⟨l', y, rfl⟩
    · rfl
    · rw [List.concat_eq_append] at h hl ⊢
      rw [mergeI_snoc, ih l' (by simpa using hl) (merged_front h)]
      have hy := merged_last h
      rcases List.eq_nil_or_concat l' with rfl | ⟨l'', z, rfl⟩
      · rw [mergeOne_nil]
        split
        · next hk =>
          have := hy.1 hk
          rw [if_neg this.1]
          obtain ⟨kd, dp, txt, url, ttl⟩ := y
          simp at hk this ⊢
          simp [wordsI, hk, this]
        · rfl
      · rw [List.concat_eq_append] at hy ⊢
        rw [mergeOne_snoc]
        split
        · next hk =>
          have h1 := hy.1 hk
          have h2 := hy.2 hk
          rw [endsAt_snoc] at h2
          rw [if_neg h1.1, if_neg (by intro e; simp [e] at h2)]
          obtain ⟨kd, dp, txt, url, ttl⟩ := y
          simp at hk h1 ⊢
          simp [wordsI, hk, h1]
        · rfl
theorem mergeI_twice (l : List Iln) : mergeI (mergeI l) = mergeI l := mergeI_same (mergeI_merged l)
theorem mergeOne_text (out : List Iln) (x : Iln) : textI (mergeOne out x) = textI out ++ ilText x := by
  rcases List.eq_nil_or_concat out with rfl | ⟨l', y, rfl⟩
  · rw [mergeOne_nil]
    split
    · next hk =>
      split
      · next ht => simp [textI, ilText, hk, ht]
      · simp [textI, ilText, hk, wordsI]
    · simp [textI]
  · rw [List.concat_eq_append, mergeOne_snoc]
    split
    · next hk =>
      split
      · next ht => simp [ilText, hk, ht]
      · split
        · next hy => simp [textI, ilText, hk, hy.1]
        · simp [textI, ilText, hk, wordsI]
    · simp [textI]
theorem mergeI_text (l : List Iln) : textI (mergeI l) = textI l := by
  suffices ∀ (l p : List Iln), textI (l.foldl mergeOne p) = textI p ++ textI l from by have := this l []; simpa [textI, mergeI] using this
  intro l
  induction l with
  | nil => intro p; simp [textI]
  | cons x l ih => intro p; rw [List.foldl_cons, ih, mergeOne_text, textI_cons, List.append_assoc]
/-- Deeper by one, put together the same. -/
theorem mergeOne_deep (out : List Iln) (x : Iln) (hd : ∀ y ∈ out, IntKind.i64.wrap (y.dp + 1) = IntKind.i64.wrap (x.dp + 1) → y.dp = x.dp) : mergeOne (deepI out) (deepOne x) = deepI (mergeOne out x) := by
  by_cases hk : x.kd = 1
  · by_cases ht : x.txt = []
    · have e1 : ∀ q, mergeOne q x = q := fun q => by unfold mergeOne; rw [if_pos hk, if_pos ht]
      have e2 : ∀ q, mergeOne q (deepOne x) = q := fun q => by unfold mergeOne; rw [if_pos (show (deepOne x).kd = 1 from hk), if_pos (show (deepOne x).txt = [] from ht)]
      rw [e1, e2]
    · rcases List.eq_nil_or_concat out with rfl | ⟨l', y, rfl⟩
      · rw [deepI_nil, mergeOne_nil, mergeOne_nil, if_pos hk, if_neg ht, if_pos (show (deepOne x).kd = 1 from hk), if_neg (show ¬ (deepOne x).txt = [] from ht)]
        rfl
      · have hy := hd y (by simp)
        rw [List.concat_eq_append, deepI_append, show deepI [y] = [deepOne y] from rfl, mergeOne_snoc, mergeOne_snoc, if_pos hk, if_neg ht, if_pos (show (deepOne x).kd = 1 from hk), if_neg (show ¬ (deepOne x).txt = [] from ht)]
        by_cases he : y.kd = 1 ∧ y.dp = x.dp
        · rw [if_pos (show (deepOne y).kd = 1 ∧ (deepOne y).dp = (deepOne x).dp from ⟨he.1, by show IntKind.i64.wrap (y.dp + 1) = IntKind.i64.wrap (x.dp + 1); rw [he.2]⟩), if_pos he]
          simp [deepI, deepOne]
        · rw [if_neg (show ¬ ((deepOne y).kd = 1 ∧ (deepOne y).dp = (deepOne x).dp) from fun e => he ⟨e.1, hy e.2⟩), if_neg he]
          simp [deepI, deepOne, wordsI]
  · have e1 : ∀ q, mergeOne q x = q ++ [x] := fun q => by unfold mergeOne; rw [if_neg hk]
    have e2 : ∀ q, mergeOne q (deepOne x) = q ++ [deepOne x] := fun q => by unfold mergeOne; rw [if_neg (show ¬ (deepOne x).kd = 1 from hk)]
    rw [e1, e2, deepI_append]; rfl
def SmallD (l : List Iln) : Prop := ∀ x ∈ l, 0 ≤ x.dp ∧ x.dp ≤ 1000000
theorem wrap_small {d : Int} (h : 0 ≤ d) (h' : d ≤ 1000000) : IntKind.i64.wrap (d + 1) = d + 1 := by
  exact IntWalk.i64_in _ (by omega)
theorem mergeOne_small {out : List Iln} (h : SmallD out) {x : Iln} (hx : 0 ≤ x.dp ∧ x.dp ≤ 1000000) : SmallD (mergeOne out x) := by
  rcases List.eq_nil_or_concat out with rfl | ⟨l', y, rfl⟩
  · rw [mergeOne_nil]
    split
    · split
      · exact h
      · intro z hz; simp at hz; subst hz; exact hx
    · intro z hz; simp at hz; subst hz; exact hx
  · rw [List.concat_eq_append] at h ⊢
    have hy := h y (by simp)
    rw [mergeOne_snoc]
    have hl : ∀ z ∈ l', 0 ≤ z.dp ∧ z.dp ≤ 1000000 := fun z hz => h z (List.mem_append_left _ hz)
    split
    · split
      · exact h
      · split
        · intro z hz
          rcases List.mem_append.1 hz with hz | hz
          · exact hl z hz
          · simp at hz; subst hz; exact hy
        · intro z hz
          rcases List.mem_append.1 hz with hz | hz
          · exact h z hz
          · simp at hz; subst hz; exact hx
    · intro z hz
      rcases List.mem_append.1 hz with hz | hz
      · exact h z hz
      · simp at hz; subst hz; exact hx
theorem foldl_deep (l : List Iln) : ∀ (p : List Iln), SmallD p → SmallD l → (deepI l).foldl mergeOne (deepI p) = deepI (l.foldl mergeOne p) := by
  induction l with
  | nil => intro p _ _; rfl
  | cons x l ih =>
    intro p hp hl
    have hx := hl x (by simp)
    rw [show deepI (x :: l) = deepOne x :: deepI l from rfl, List.foldl_cons, List.foldl_cons, mergeOne_deep p x (fun y hy e => by
      have h1 := hp y hy
      rw [wrap_small h1.1 h1.2, wrap_small hx.1 hx.2] at e
      omega)]
    exact ih _ (mergeOne_small hp hx) (fun y hy => hl y (by simp [hy]))
theorem mergeI_deep {l : List Iln} (h : SmallD l) : mergeI (deepI l) = deepI (mergeI l) := foldl_deep l [] (by intro x hx; cases hx) h
theorem foldl_small (l : List Iln) : ∀ (p : List Iln), SmallD p → SmallD l → SmallD (l.foldl mergeOne p) := by
  induction l with
  | nil => intro p hp _; exact hp
  | cons x l ih => intro p hp hl; exact ih _ (mergeOne_small hp (hl x (by simp))) (fun y hy => hl y (by simp [hy]))
theorem mergeI_small {l : List Iln} (h : SmallD l) : SmallD (mergeI l) := foldl_small l [] (by intro x hx; cases hx) h

end Go.Proofs.Ytoomkhmmgjiniaa
