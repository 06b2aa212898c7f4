/-
  Plain: rows of signs and nodes (Itm), how rows are paired (groupI).
-/
import Derived.Test.YtoomkhmmgjiniaaIlP
namespace Go.Proofs.Ytoomkhmmgjiniaa
open Go.RowKit
set_option linter.unusedSimpArgs false
set_option linter.unusedVariables false

/-- Nodes (sg = 0), or a row of signs: n of them are left, 'ff' were there at first. -/
structure Itm where
  sg : UInt8
  n : Int
  ff : Int
  op : Bool
  cl : Bool
  nd : List Iln
deriving DecidableEq, Inhabited

def leftI (x : Itm) : List Iln := if x.sg = 0 then x.nd else [wordsI 0 (List.replicate x.n.toNat x.sg)]
def allI (l : List Itm) : List Iln := l.flatMap leftI
def canClose (c : Itm) : Bool := c.sg != 0 && c.cl && decide (0 < c.n)
def canOpen (o c : Itm) : Bool := o.sg == c.sg && o.op && decide (0 < o.n) && !((o.op && o.cl || c.op && c.cl) && (o.ff + c.ff).tmod 3 == 0 && (o.ff.tmod 3 != 0 || c.ff.tmod 3 != 0))
/-- The nearest one ahead (l: nearest first) that it may be paired with: what lies between (nearest first), itself, what stands ahead. -/
def openerI (c : Itm) : List Itm → Option (List Itm × Itm × List Itm)
  | [] => none
  | o :: l => if canOpen o c then some ([], o, l) else match openerI c l with
    | some (m, o', l') => some (o :: m, o', l')
    | none => none
def kOf (o c : Itm) : Int := if 2 ≤ o.n ∧ 2 ≤ c.n then 2 else 1
def nodeI (k : Int) (l : List Iln) : Itm := ⟨0, 0, 0, false, false, ⟨if k = 2 then 4 else 3, 0, [], [], []⟩ :: deepI l⟩
def lessI (o : Itm) (k : Int) : Itm := { o with n := o.n - k }
/-- l: what is done, nearest first; r: what comes. -/
def groupGo : Nat → List Itm → List Itm → List Itm
  | 0, l, r => l.reverse ++ r
  | _ + 1, l, [] => l.reverse
  | f + 1, l, c :: r =>
    if canClose c then
      match openerI c l with
      | none => groupGo f (c :: l) r
      | some (m, o, l') => groupGo f (nodeI (kOf o c) (allI m.reverse) :: lessI o (kOf o c) :: l') (lessI c (kOf o c) :: r)
    else groupGo f (c :: l) r
/-- How many signs are left. -/
def signsI (l : List Itm) : Nat := (l.map fun x => x.n.toNat).sum
def fuelI (l : List Itm) : Nat := l.length + signsI l
def groupI (l : List Itm) : List Iln := mergeI (allI (groupGo (fuelI l) [] l))

theorem allI_append (a b : List Itm) : allI (a ++ b) = allI a ++ allI b := by simp [allI]
theorem allI_cons (a : Itm) (b : List Itm) : allI (a :: b) = leftI a ++ allI b := by simp [allI]
theorem signsI_append (a b : List Itm) : signsI (a ++ b) = signsI a + signsI b := by simp [signsI]
theorem signsI_cons (a : Itm) (b : List Itm) : signsI (a :: b) = a.n.toNat + signsI b := by simp [signsI]
theorem signsI_reverse (a : List Itm) : signsI a.reverse = signsI a := by
  induction a with
  | nil => rfl
  | cons x a ih => rw [List.reverse_cons, signsI_append, ih, signsI_cons, signsI_cons]; simp [signsI]; omega

theorem openerI_some {c o : Itm} {l m l' : List Itm} (h : openerI c l = some (m, o, l')) : l = m ++ o :: l' ∧ canOpen o c = true ∧ ∀ x ∈ m, canOpen x c = false := by
  induction l generalizing m with
  | nil => cases h
  | cons x l ih =>
    unfold openerI at h
    split at h
    · cases h
      exact ⟨rfl, by assumption, by simp⟩
    · next hx =>
      split at h
      · next m2 o2 l2 he =>
        cases h
        obtain ⟨e, h1, h2⟩ := ih he
        refine ⟨by rw [e]; rfl, h1, fun y hy => ?_⟩
        rcases List.mem_cons.1 hy with rfl | hy
        · simpa using hx
        · exact h2 y hy
      · cases h
theorem openerI_none {c : Itm} {l : List Itm} (h : openerI c l = none) : ∀ x ∈ l, canOpen x c = false := by
  induction l with
  | nil => simp
  | cons x l ih =>
    unfold openerI at h
    split at h
    · cases h
    · next hx =>
      split at h
      · cases h
      · next he =>
        intro y hy
        rcases List.mem_cons.1 hy with rfl | hy
        · simpa using hx
        · exact ih he y hy
theorem openerI_is {c o : Itm} {m l' : List Itm} (ho : canOpen o c = true) (hm : ∀ x ∈ m, canOpen x c = false) : openerI c (m ++ o :: l') = some (m, o, l') := by
  induction m with
  | nil => simp [openerI, ho]
  | cons x m ih => simp [openerI, hm x (by simp), ih (fun y hy => hm y (by simp [hy]))]
theorem openerI_no {c : Itm} {l : List Itm} (h : ∀ x ∈ l, canOpen x c = false) : openerI c l = none := by
  induction l with
  | nil => rfl
  | cons x l ih => simp [openerI, h x (by simp), ih (fun y hy => h y (by simp [hy]))]
theorem canOpen_pos {o c : Itm} (h : canOpen o c = true) : 0 < o.n ∧ o.sg = c.sg ∧ o.op = true := by
  simp [canOpen] at h
  exact ⟨h.1.2, h.1.1.1, h.1.1.2⟩
theorem canClose_pos {c : Itm} (h : canClose c = true) : 0 < c.n ∧ c.sg ≠ 0 ∧ c.cl = true := by
  simp [canClose] at h
  exact ⟨h.2, h.1.1, h.1.2⟩
theorem kOf_is (o c : Itm) (ho : 0 < o.n) (hc : 0 < c.n) : (kOf o c = 1 ∨ kOf o c = 2) ∧ kOf o c ≤ o.n ∧ kOf o c ≤ c.n := by
  unfold kOf
  split <;> omega
/-- More fuel than is wanted changes nothing. -/
theorem groupGo_more : ∀ (f g : Nat) (l r : List Itm), r.length + signsI (l ++ r) ≤ f → f ≤ g → groupGo g l r = groupGo f l r
  | 0, g, l, r, h, _ => by
    have hr : r = [] := List.eq_nil_of_length_eq_zero (by omega)
    subst hr
    cases g <;> simp [groupGo]
  | f + 1, 0, l, r, h, hg => by omega
  | f + 1, g + 1, l, [], h, hg => rfl
  | f + 1, g + 1, l, c :: r, h, hg => by
    have hlen : (c :: r).length = r.length + 1 := rfl
    rw [signsI_append, signsI_cons] at h
    simp only [groupGo]
    split
    · next hc =>
      have hc0 := canClose_pos hc
      split
      · exact groupGo_more f g _ _ (by rw [signsI_append, signsI_cons]; omega) (by omega)
      · next m o l' he =>
        obtain ⟨rfl, ho, _⟩ := openerI_some he
        have ho0 := canOpen_pos ho
        have hk := kOf_is o c ho0.1 hc0.1
        rw [signsI_append, signsI_cons] at h
        refine groupGo_more f g _ _ ?_ (by omega)
        rw [signsI_append, signsI_cons, signsI_cons, signsI_cons]
        simp only [nodeI, lessI, List.length_cons]
        simp only [List.length_cons] at h
        have e0 : ((0 : Int)).toNat = 0 := rfl
        omega
    · exact groupGo_more f g _ _ (by rw [signsI_append, signsI_cons]; omega) (by omega)
theorem groupGo_fuel (f : Nat) (l r : List Itm) (h : r.length + signsI (l ++ r) ≤ f) : groupGo f l r = groupGo (r.length + signsI (l ++ r)) l r := groupGo_more _ _ _ _ (Nat.le_refl _) h
/-- Rows that may not close stay. -/
theorem groupGo_stay : ∀ (r l : List Itm) (f : Nat), (∀ c ∈ r, canClose c = false) → r.length ≤ f → groupGo f l r = l.reverse ++ r
  | [], l, f, _, _ => by cases f <;> simp [groupGo]
  | c :: r, l, 0, _, h => by simp at h
  | c :: r, l, f + 1, hc, h => by
    simp only [groupGo]
    rw [if_neg (by rw [hc c (by simp)]; simp), groupGo_stay r (c :: l) f (fun x hx => hc x (by simp [hx])) (by simpa using h)]
    simp
/-- Where no row may open, all stay. -/
theorem groupGo_none : ∀ (r l : List Itm) (f : Nat), (∀ x ∈ l ++ r, x.op = false) → r.length ≤ f → groupGo f l r = l.reverse ++ r
  | [], l, f, _, _ => by cases f <;> simp [groupGo]
  | c :: r, l, 0, _, h => by simp at h
  | c :: r, l, f + 1, hc, h => by
    have hn : openerI c l = none := openerI_no fun x hx => by
      have := hc x (List.mem_append_left _ hx)
      simp [canOpen, this]
    have ih := groupGo_none r (c :: l) f (fun x hx => hc x (by
      rcases List.mem_append.1 hx with hx | hx
      · rcases List.mem_cons.1 hx with rfl | hx
        · simp
        · exact List.mem_append_left _ hx
      · exact List.mem_append_right _ (by simp [hx]))) (by simpa using h)
    simp only [groupGo]
    split
    · rw [hn]; simp only; rw [ih]; simp
    · rw [ih]; simp

end Go.Proofs.Ytoomkhmmgjiniaa
