/-
  Plain: package emph's own way of pairing rows (pieces, what ends and begins at each; the places that may open) and the document's (groupGo) are one.
-/
import Derived.Test.YtoomkhmmgjiniaaEmP
namespace Go.Proofs.Ytoomkhmmgjiniaa
open Go.RowKit
set_option linter.unusedSimpArgs false
set_option linter.unusedVariables false

theorem wrap64_add (a b : Int) : IntKind.i64.wrap (IntKind.i64.wrap a + b) = IntKind.i64.wrap (a + b) := by
  simp only [IntKind.wrap_i64]
  omega

/-- An item, what is left of its row (it.n), how many nodes end at it, which begin behind it (the innermost first). -/
structure Pc where
  it : Itm
  en : Nat
  bg : List Int
deriving Inhabited

inductive Ev where
  | row (i : Nat) (x : Itm)
  | nd (l : List Iln)
  | dn (k : Int)
  | up

def deepBy (d : Int) (l : List Iln) : List Iln := l.map fun x => { x with dp := IntKind.i64.wrap (x.dp + d) }
def rowW (d : Int) (x : Itm) : List Iln := if 0 < x.n then [wordsI (IntKind.i64.wrap d) (List.replicate x.n.toNat x.sg)] else []
def ren : Int → List Ev → List Iln
  | _, [] => []
  | d, .row _ x :: r => rowW d x ++ ren d r
  | d, .nd l :: r => deepBy d l ++ ren d r
  | d, .dn k :: r => ⟨k, IntKind.i64.wrap d, [], [], []⟩ :: ren (d + 1) r
  | d, .up :: r => ren (d - 1) r
def dep : Int → List Ev → Int
  | d, [] => d
  | d, .row _ _ :: r => dep d r
  | d, .nd _ :: r => dep d r
  | d, .dn _ :: r => dep (d + 1) r
  | d, .up :: r => dep (d - 1) r
def evP (i : Nat) (p : Pc) : List Ev := if p.it.sg = 0 then [.nd p.it.nd] else List.replicate p.en .up ++ .row i p.it :: p.bg.reverse.map .dn
def evF : Nat → List Pc → List Ev
  | _, [] => []
  | i, p :: ps => evP i p ++ evF (i + 1) ps

theorem evF_append (a b : List Pc) : ∀ i, evF i (a ++ b) = evF i a ++ evF (i + a.length) b := by
  induction a with
  | nil => intro i; simp [evF]
  | cons x a ih => intro i; simp [evF, ih, Nat.add_assoc, Nat.add_comm 1]
theorem ren_append (a b : List Ev) : ∀ d, ren d (a ++ b) = ren d a ++ ren (dep d a) b := by
  induction a with
  | nil => intro d; rfl
  | cons x a ih => intro d; cases x <;> simp [ren, dep, ih]
theorem dep_append (a b : List Ev) : ∀ d, dep d (a ++ b) = dep (dep d a) b := by
  induction a with
  | nil => intro d; rfl
  | cons x a ih => intro d; cases x <;> simp [dep, ih]

theorem deepBy_append (d : Int) (a b : List Iln) : deepBy d (a ++ b) = deepBy d a ++ deepBy d b := by simp [deepBy]
theorem deepBy_deep (d : Int) (l : List Iln) : deepBy d (deepI l) = deepBy (d + 1) l := by
  simp only [deepBy, deepI, List.map_map]
  refine List.map_congr_left fun x _ => ?_
  simp only [Function.comp, deepOne, wrap64_add]
  rw [show x.dp + 1 + d = x.dp + (d + 1) by omega]
/-- Without words that have no text. -/
def someI (l : List Iln) : List Iln := l.filter fun x => !(x.kd == 1 && x.txt == [])
theorem someI_append (a b : List Iln) : someI (a ++ b) = someI a ++ someI b := by simp [someI]
theorem someI_deepBy (d : Int) (l : List Iln) : someI (deepBy d l) = deepBy d (someI l) := by
  simp only [someI, deepBy, List.filter_map]
  rfl
theorem mergeOne_some (out : List Iln) (x : Iln) (h : x.kd = 1 ∧ x.txt = []) : mergeOne out x = out := by unfold mergeOne; rw [if_pos h.1, if_pos h.2]
theorem foldl_some (l : List Iln) : ∀ p, (someI l).foldl mergeOne p = l.foldl mergeOne p := by
  induction l with
  | nil => intro p; rfl
  | cons x l ih =>
    intro p
    unfold someI at ih ⊢
    rw [List.filter_cons]
    split
    · simp only [List.foldl_cons]; exact ih _
    · next h =>
      have h' : x.kd = 1 ∧ x.txt = [] := by simpa using h
      rw [List.foldl_cons, mergeOne_some p x h']
      exact ih p
theorem mergeI_some (l : List Iln) : mergeI (someI l) = mergeI l := foldl_some l []
theorem some_row (d : Int) (x : Itm) (h : x.sg ≠ 0) : someI (rowW d x) = someI (deepBy d (leftI x)) := by
  unfold leftI rowW
  rw [if_neg h]
  split
  · simp [deepBy, wordsI]
  · next hn =>
    have : x.n.toNat = 0 := by omega
    simp [someI, deepBy, wordsI, this]

/-- A chunk of what happens: a row, or nodes (as they came, or made). -/
structure Ck where
  it : Itm
  pl : Nat
  ev : List Ev
def Ck.Ok (c : Ck) : Prop := if c.it.sg = 0 then ∀ d, someI (ren d c.ev) = someI (deepBy d c.it.nd) ∧ dep d c.ev = d else c.ev = [.row c.pl c.it]
def flatC (A : List Ck) : List Ev := A.flatMap Ck.ev
def itsC (A : List Ck) : List Itm := A.map Ck.it
def mayOpen (x : Itm) : Bool := x.sg != 0 && x.op && decide (0 < x.n)
/-- The places of the rows that may open. -/
def opsC (A : List Ck) : List Nat := (A.filter fun c => mayOpen c.it).map Ck.pl

theorem ok_ren {A : List Ck} (h : ∀ c ∈ A, c.Ok) : ∀ d, someI (ren d (flatC A)) = someI (deepBy d (allI (itsC A))) ∧ dep d (flatC A) = d := by
  induction A with
  | nil => intro d; exact ⟨rfl, rfl⟩
  | cons c A ih =>
    intro d
    have hc := h c (by simp)
    have h1 : someI (ren d c.ev) = someI (deepBy d (leftI c.it)) ∧ dep d c.ev = d := by
      unfold Ck.Ok at hc
      split at hc
      · next h0 => unfold leftI; rw [if_pos h0]; exact hc d
      · next h0 =>
        rw [hc]
        refine ⟨?_, rfl⟩
        simp only [ren, List.append_nil]
        exact some_row d c.it h0
    have ih' := ih (fun x hx => h x (by simp [hx])) d
    simp only [flatC, itsC, List.flatMap_cons, List.map_cons, allI_cons] at ih' ⊢
    rw [ren_append, dep_append, h1.2, someI_append, deepBy_append, someI_append, h1.1]
    exact ⟨by rw [ih'.1], ih'.2⟩

def rowAt (i : Nat) : Ev → Bool
  | .row j _ => i == j
  | _ => false
theorem split_row {i : Nat} {x x' : Itm} : ∀ (X X' Y Y' : List Ev), (∀ e ∈ X, rowAt i e = false) → (∀ e ∈ X', rowAt i e = false) → X ++ .row i x :: Y = X' ++ .row i x' :: Y' → X = X' ∧ x = x' ∧ Y = Y'
  | [], [], Y, Y', _, _, e => by simp at e; exact ⟨rfl, e.1, e.2⟩
  | [], b :: X', Y, Y', _, h', e => by
    simp at e
    have := h' b (by simp)
    rw [← e.1] at this
    simp [rowAt] at this
  | a :: X, [], Y, Y', h, _, e => by
    simp at e
    have := h a (by simp)
    rw [e.1] at this
    simp [rowAt] at this
  | a :: X, b :: X', Y, Y', h, h', e => by
    simp at e
    have := split_row X X' Y Y' (fun z hz => h z (by simp [hz])) (fun z hz => h' z (by simp [hz])) e.2
    exact ⟨by rw [e.1, this.1], this.2⟩
/-- The places of rows, in what happens. -/
def plE : Ev → Option Nat
  | .row i _ => some i
  | _ => none
theorem pls_up (n : Nat) : (List.replicate n Ev.up).filterMap plE = [] := by
  induction n with
  | zero => rfl
  | succ n ih => rw [List.replicate_succ, List.filterMap_cons]; exact ih
theorem pls_dn (l : List Int) : (l.map Ev.dn).filterMap plE = [] := by
  induction l with
  | nil => rfl
  | cons x l ih => rw [List.map_cons, List.filterMap_cons]; exact ih
theorem pls_P (i : Nat) (p : Pc) : (evP i p).filterMap plE = if p.it.sg = 0 then [] else [i] := by
  unfold evP
  split
  · rfl
  · rw [List.filterMap_append, pls_up, List.filterMap_cons]
    simp only [plE, pls_dn, List.nil_append]
theorem pls_F (ps : List Pc) : ∀ i, ((evF i ps).filterMap plE).Pairwise (· < ·) ∧ ∀ k ∈ (evF i ps).filterMap plE, i ≤ k ∧ k < i + ps.length := by
  induction ps with
  | nil => intro i; simp [evF]
  | cons p ps ih =>
    intro i
    obtain ⟨h1, h2⟩ := ih (i + 1)
    simp only [evF, List.filterMap_append, pls_P]
    split
    · refine ⟨by simpa using h1, fun k hk => ?_⟩
      have := h2 k (by simpa using hk)
      simp only [List.length_cons]; omega
    · refine ⟨?_, fun k hk => ?_⟩
      · simp only [List.singleton_append, List.pairwise_cons]
        exact ⟨fun k hk => by have := h2 k hk; omega, h1⟩
      · simp only [List.singleton_append, List.mem_cons] at hk
        simp only [List.length_cons]
        rcases hk with rfl | hk
        · omega
        · have := h2 k hk; omega
theorem rowAt_of {i : Nat} {l : List Ev} (h : i ∉ l.filterMap plE) : ∀ e ∈ l, rowAt i e = false := by
  intro e he
  cases e with
  | row j x =>
    simp only [rowAt]
    by_cases hij : i = j
    · exact absurd (List.mem_filterMap.2 ⟨_, he, by rw [hij]; rfl⟩) h
    · simpa using hij
  | nd l => rfl
  | dn k => rfl
  | up => rfl

/-- The pieces, e ends behind them, the places that may open: as the document has them (l: nearest first). -/
structure Sim (l : List Itm) (ps : List Pc) (e : Nat) (ops : List Nat) : Prop where
  ex : ∃ A : List Ck, l.reverse = itsC A ∧ (∀ c ∈ A, c.Ok) ∧ evF 0 ps ++ List.replicate e .up = flatC A ∧ ops = opsC A

theorem sim_nil : Sim [] [] 0 [] := ⟨[], rfl, by simp, rfl, rfl⟩
theorem sim_push {l : List Itm} {ps : List Pc} {e : Nat} {ops : List Nat} (h : Sim l ps e ops) (c : Itm) (he : c.sg = 0 → e = 0) :
    Sim (c :: l) (ps ++ [⟨c, e, []⟩]) 0 (if mayOpen c then ops ++ [ps.length] else ops) := by
  obtain ⟨A, h1, h2, h3, h4⟩ := h.ex
  by_cases h0 : c.sg = 0
  · have he0 := he h0
    subst he0
    refine ⟨A ++ [⟨c, 0, [.nd c.nd]⟩], ?_, ?_, ?_, ?_⟩
    · simp [itsC, h1]
    · intro x hx
      rcases List.mem_append.1 hx with hx | hx
      · exact h2 x hx
      · rw [List.mem_singleton] at hx
        subst hx
        unfold Ck.Ok
        rw [if_pos h0]
        intro d
        simp [ren, dep]
    · simp only [List.replicate_zero, List.append_nil] at h3 ⊢
      rw [evF_append, h3]
      simp [flatC, evF, evP, h0]
    · have : mayOpen c = false := by simp [mayOpen, h0]
      simp [opsC, this, h4]
  · refine ⟨A ++ [⟨c, ps.length, [.row ps.length c]⟩], ?_, ?_, ?_, ?_⟩
    · simp [itsC, h1]
    · intro x hx
      rcases List.mem_append.1 hx with hx | hx
      · exact h2 x hx
      · rw [List.mem_singleton] at hx
        subst hx
        unfold Ck.Ok
        rw [if_neg h0]
    · simp only [List.replicate_zero, List.append_nil]
      rw [evF_append]
      simp only [evF, evP, if_neg h0, List.append_nil, List.reverse_nil, List.map_nil, Nat.zero_add]
      rw [show flatC (A ++ [⟨c, ps.length, [.row ps.length c]⟩]) = flatC A ++ [.row ps.length c] by simp [flatC], ← h3]
      simp
    · by_cases hm : mayOpen c = true
      · simp [opsC, hm, h4]
      · simp [opsC, hm, h4]
/-- The places that may open ascend, and at each stands a row. -/
theorem plC_split {A : List Ck} (h : ∀ c ∈ A, c.Ok) {c : Ck} (hc : c ∈ A) (h0 : c.it.sg ≠ 0) : .row c.pl c.it ∈ flatC A := by
  have := h c hc
  unfold Ck.Ok at this
  rw [if_neg h0] at this
  exact List.mem_flatMap.2 ⟨c, hc, by rw [this]; simp⟩
theorem ev_mem {ps : List Pc} : ∀ {i k : Nat} {x : Itm}, Ev.row k x ∈ evF i ps → ∃ p, ps[k - i]? = some p ∧ i ≤ k ∧ p.it = x ∧ x.sg ≠ 0 := by
  induction ps with
  | nil => intro i k x h; simp [evF] at h
  | cons p ps ih =>
    intro i k x h
    simp only [evF, List.mem_append] at h
    rcases h with h | h
    · unfold evP at h
      split at h
      · simp at h
      · next h0 =>
        rw [List.mem_append, List.mem_cons, List.mem_replicate, List.mem_map] at h
        rcases h with ⟨_, h⟩ | h | ⟨_, _, h⟩
        · cases h
        · cases h
          exact ⟨p, by simp, Nat.le_refl _, rfl, h0⟩
        · cases h
    · obtain ⟨q, h1, h2, h3⟩ := ih h
      refine ⟨q, ?_, by omega, h3⟩
      rw [show k - i = (k - (i + 1)) + 1 by omega, List.getElem?_cons_succ]
      exact h1
theorem sim_at {l : List Itm} {ps : List Pc} {e : Nat} {ops : List Nat} (h : Sim l ps e ops) : ∀ k ∈ ops, ∃ p, ps[k]? = some p ∧ mayOpen p.it = true := by
  obtain ⟨A, h1, h2, h3, h4⟩ := h.ex
  intro k hk
  rw [h4] at hk
  obtain ⟨c, hc, rfl⟩ := List.mem_map.1 hk
  obtain ⟨hc, hm⟩ := List.mem_filter.1 hc
  have h0 : c.it.sg ≠ 0 := by simp [mayOpen] at hm; exact hm.1.1
  have hr := plC_split h2 hc h0
  rw [← h3, List.mem_append, List.mem_replicate] at hr
  rcases hr with hr | ⟨_, hr⟩
  · obtain ⟨p, e1, _, e2, _⟩ := ev_mem hr
    exact ⟨p, by simpa using e1, by rw [e2]; exact hm⟩
  · cases hr
/-- One list of places within another. -/
theorem pls_C {A : List Ck} (h : ∀ c ∈ A, c.Ok) : (opsC A).Sublist ((flatC A).filterMap plE) := by
  induction A with
  | nil => simp [opsC, flatC]
  | cons c A ih =>
    have ih' := ih fun x hx => h x (by simp [hx])
    have hc := h c (by simp)
    simp only [flatC, List.flatMap_cons, List.filterMap_append]
    unfold opsC at ih' ⊢
    rw [List.filter_cons]
    split
    · next hm =>
      have h0 : c.it.sg ≠ 0 := by simp [mayOpen] at hm; exact hm.1.1
      unfold Ck.Ok at hc
      rw [if_neg h0] at hc
      rw [hc]
      simp only [List.map_cons, List.filterMap_cons, plE, List.filterMap_nil, List.singleton_append]
      exact ih'.cons_cons _
    · exact ih'.trans (List.sublist_append_right _ _)
theorem sim_ops {l : List Itm} {ps : List Pc} {e : Nat} {ops : List Nat} (h : Sim l ps e ops) : ops.Pairwise (· < ·) := by
  obtain ⟨A, h1, h2, h3, h4⟩ := h.ex
  rw [h4]
  refine List.Pairwise.sublist (pls_C h2) ?_
  rw [← h3, List.filterMap_append, pls_up, List.append_nil]
  exact (pls_F ps 0).1

/-- Two rows that go together: of one sign, not three in all. -/
def fitI (o c : Itm) : Bool := o.sg == c.sg && !((o.op && o.cl || c.op && c.cl) && (o.ff + c.ff).tmod 3 == 0 && (o.ff.tmod 3 != 0 || c.ff.tmod 3 != 0))
theorem canOpen_is {o c : Itm} (hc : c.sg ≠ 0) : canOpen o c = (mayOpen o && fitI o c) := by
  unfold canOpen mayOpen fitI
  by_cases hs : o.sg = c.sg
  · have : o.sg ≠ 0 := by rw [hs]; exact hc
    simp [hs, hc, Bool.and_assoc]
  · have h1 : (o.sg == c.sg) = false := by simpa using hs
    simp [h1]

/-- Pairing: the place is the last that goes together with the closer. -/
theorem sim_none {l : List Itm} {ps : List Pc} {e : Nat} {ops : List Nat} (h : Sim l ps e ops) {c : Itm} (hc : c.sg ≠ 0)
    (hn : ∀ k ∈ ops, ∀ p, ps[k]? = some p → fitI p.it c = false) : openerI c l = none := by
  obtain ⟨A, h1, h2, h3, h4⟩ := h.ex
  refine openerI_no fun x hx => ?_
  rw [canOpen_is hc]
  by_cases hm : mayOpen x = true
  · have hx' : x ∈ itsC A := by rw [← h1]; simpa using hx
    obtain ⟨k, hk, rfl⟩ := List.mem_map.1 hx'
    have hk4 : k.pl ∈ ops := by rw [h4]; exact List.mem_map.2 ⟨k, List.mem_filter.2 ⟨hk, hm⟩, rfl⟩
    have h0 : k.it.sg ≠ 0 := by simp [mayOpen] at hm; exact hm.1.1
    have hr := plC_split h2 hk h0
    rw [← h3, List.mem_append, List.mem_replicate] at hr
    rcases hr with hr | ⟨_, hr⟩
    · obtain ⟨p, e1, _, e2, _⟩ := ev_mem hr
      have := hn k.pl hk4 p (by simpa using e1)
      rw [e2] at this
      simp [this]
    · cases hr
  · simp [hm]
theorem sim_pair {l : List Itm} {ps : List Pc} {e : Nat} {o1 o2 : List Nat} {j : Nat} (h : Sim l ps e (o1 ++ j :: o2)) {c : Itm} (hc : c.sg ≠ 0) {p : Pc} (hp : ps[j]? = some p)
    (hf : fitI p.it c = true) (hn : ∀ k ∈ o2, ∀ q, ps[k]? = some q → fitI q.it c = false) :
    ∃ m l', openerI c l = some (m, p.it, l') ∧
      Sim (nodeI (kOf p.it c) (allI m.reverse) :: lessI p.it (kOf p.it c) :: l') (ps.set j ⟨lessI p.it (kOf p.it c), p.en, p.bg ++ [if kOf p.it c = 2 then 4 else 3]⟩) (e + 1) (if 0 < p.it.n - kOf p.it c then o1 ++ [j] else o1) := by
  obtain ⟨A, h1, h2, h3, h4⟩ := h.ex
  -- the chunk of the opener
  obtain ⟨A1, k, A2, hA, hk1, hkp, hk2, hkm⟩ : ∃ A1 k A2, A = A1 ++ k :: A2 ∧ opsC A1 = o1 ∧ k.pl = j ∧ opsC A2 = o2 ∧ mayOpen k.it = true := by
    obtain ⟨F1, F2', e1, e2, e3⟩ := List.map_eq_append_iff.1 h4.symm
    obtain ⟨k, F2, rfl, e4, e5⟩ := List.map_eq_cons_iff.1 e3
    obtain ⟨A1, A2', rfl, e6, e7⟩ := List.filter_eq_append_iff.1 e1
    obtain ⟨B1, B2, rfl, e8, e9, e10⟩ := List.filter_eq_cons_iff.1 e7
    refine ⟨A1 ++ B1, k, B2, by simp, ?_, e4, by rw [opsC, e10, e5], e9⟩
    unfold opsC
    rw [List.filter_append, e6, List.filter_eq_nil_iff.2 e8, List.append_nil, e2]
  subst hA
  have h0 : k.it.sg ≠ 0 := by simp [mayOpen] at hkm; exact hkm.1.1
  have hkO := h2 k (by simp)
  unfold Ck.Ok at hkO
  rw [if_neg h0] at hkO
  -- the piece of the opener
  have hj : j < ps.length := (List.getElem?_eq_some_iff.1 hp).1
  have hps : ps = ps.take j ++ p :: ps.drop (j + 1) := by
    conv => lhs; rw [← List.take_append_drop j ps]
    rw [List.drop_eq_getElem_cons hj, (List.getElem?_eq_some_iff.1 hp).2]
  have hset : ∀ p' : Pc, ps.set j p' = ps.take j ++ p' :: ps.drop (j + 1) := fun p' => by
    rw [List.set_eq_take_append_cons_drop, if_pos hj]
  have htl : (ps.take j).length = j := by rw [List.length_take]; omega
  have hF := pls_F ps 0
  have hE : flatC (A1 ++ k :: A2) = flatC A1 ++ .row j k.it :: flatC A2 := by simp [flatC, hkO, hkp]
  rw [hE] at h3
  -- its place stands once
  have hnd : ((flatC A1).filterMap plE ++ j :: (flatC A2).filterMap plE).Pairwise (· < ·) := by
    have := hF.1
    have h5 : (evF 0 ps ++ List.replicate e Ev.up).filterMap plE = (evF 0 ps).filterMap plE := by rw [List.filterMap_append, pls_up, List.append_nil]
    rw [← h5, h3, List.filterMap_append, List.filterMap_cons] at this
    exact this
  have hnA : j ∉ (flatC A1).filterMap plE := fun hm => by
    have := (List.pairwise_append.1 hnd).2.2 j hm j (by simp)
    omega
  -- the piece is a row
  have hpr : p.it.sg ≠ 0 := by
    have hr := plC_split h2 (c := k) (by simp) h0
    rw [hE, ← h3, List.mem_append, List.mem_replicate] at hr
    rcases hr with hr | ⟨_, hr⟩
    · obtain ⟨q, e1, _, e2, e3⟩ := ev_mem hr
      rw [hkp] at e1
      simp only [Nat.sub_zero] at e1
      rw [hp] at e1
      cases e1
      rw [e2]
      exact e3
    · cases hr
  have hEp : ∀ q : Pc, q.it.sg ≠ 0 → evF 0 (ps.take j ++ q :: ps.drop (j + 1)) ++ List.replicate e Ev.up = (evF 0 (ps.take j) ++ List.replicate q.en .up) ++ .row j q.it :: (q.bg.reverse.map .dn ++ evF (j + 1) (ps.drop (j + 1)) ++ List.replicate e .up) := fun q hq => by
    rw [evF_append]
    simp [evF, evP, hq, htl]
  have hnP : j ∉ (evF 0 (ps.take j) ++ List.replicate p.en Ev.up).filterMap plE := fun hm => by
    rw [List.filterMap_append, pls_up, List.append_nil] at hm
    have := (pls_F (ps.take j) 0).2 j hm
    omega
  have h3' := h3
  rw [hps, hEp p hpr] at h3'
  obtain ⟨x1, x2, x3⟩ := split_row _ _ _ _ (rowAt_of hnP) (rowAt_of hnA) h3'
  refine ⟨(itsC A2).reverse, (itsC A1).reverse, ?_, ?_⟩
  · have : l = (itsC A2).reverse ++ p.it :: (itsC A1).reverse := by
      have := congrArg List.reverse h1
      rw [List.reverse_reverse] at this
      rw [this, x2]
      simp [itsC]
    rw [this]
    refine openerI_is ?_ fun x hx => ?_
    · rw [canOpen_is hc, x2, hkm, ← x2, hf]; rfl
    · rw [canOpen_is hc]
      by_cases hm : mayOpen x = true
      · have hx' : x ∈ itsC A2 := by simpa using hx
        obtain ⟨q, hq, rfl⟩ := List.mem_map.1 hx'
        have hq4 : q.pl ∈ o2 := by rw [← hk2]; exact List.mem_map.2 ⟨q, List.mem_filter.2 ⟨hq, hm⟩, rfl⟩
        have hq0 : q.it.sg ≠ 0 := by simp [mayOpen] at hm; exact hm.1.1
        have hr := plC_split h2 (c := q) (by simp [hq]) hq0
        rw [hE, ← h3, List.mem_append, List.mem_replicate] at hr
        rcases hr with hr | ⟨_, hr⟩
        · obtain ⟨u, e1, _, e2, _⟩ := ev_mem hr
          have := hn q.pl hq4 u (by simpa using e1)
          rw [e2] at this
          simp [this]
        · cases hr
      · simp [hm]
  · have hl0 : (lessI p.it (kOf p.it c)).sg ≠ 0 := hpr
    refine ⟨A1 ++ ⟨lessI p.it (kOf p.it c), j, [.row j (lessI p.it (kOf p.it c))]⟩ :: [⟨nodeI (kOf p.it c) (allI (itsC A2)), 0, .dn (if kOf p.it c = 2 then 4 else 3) :: flatC A2 ++ [.up]⟩], ?_, ?_, ?_, ?_⟩
    · simp [itsC]
    · intro x hx
      simp only [List.mem_append, List.mem_cons, List.not_mem_nil, or_false] at hx
      rcases hx with hx | rfl | rfl
      · exact h2 x (by simp [hx])
      · unfold Ck.Ok; rw [if_neg hl0]
      · unfold Ck.Ok
        rw [if_pos (show (nodeI (kOf p.it c) (allI (itsC A2))).sg = 0 from rfl)]
        intro d
        have hi := ok_ren (A := A2) (fun x hx => h2 x (by simp [hx])) (d + 1)
        simp only [List.cons_append, ren, dep, ren_append, dep_append, hi.2, List.append_nil, nodeI]
        refine ⟨?_, by omega⟩
        rw [show ∀ (y : Iln) (r : List Iln), someI (y :: r) = someI [y] ++ someI r from fun y r => by rw [← someI_append]; rfl, hi.1]
        rw [show ∀ (y : Iln) (r : List Iln), deepBy d (y :: r) = deepBy d [y] ++ deepBy d r from fun y r => by rw [← deepBy_append]; rfl, someI_append, deepBy_deep]
        simp [deepBy]
    · rw [hset, List.replicate_succ', ← List.append_assoc, hEp ⟨lessI p.it (kOf p.it c), p.en, p.bg ++ [if kOf p.it c = 2 then 4 else 3]⟩ hl0]
      simp only [flatC, List.flatMap_append, List.flatMap_cons, List.flatMap_nil, List.append_nil]
      rw [show (List.flatMap Ck.ev A1) = flatC A1 from rfl, ← x1, show (List.flatMap Ck.ev A2) = flatC A2 from rfl, ← x3]
      simp
    · have hlm : mayOpen (lessI p.it (kOf p.it c)) = decide (0 < p.it.n - kOf p.it c) := by
        have hkm' := hkm
        rw [← x2] at hkm'
        simp [mayOpen] at hkm'
        simp [mayOpen, lessI, hkm']
      have hnm : mayOpen (nodeI (kOf p.it c) (allI (itsC A2))) = false := rfl
      unfold opsC at hk1 ⊢
      rw [List.filter_append, List.map_append, hk1, List.filter_cons, List.filter_cons]
      simp only [hlm, hnm]
      by_cases hz : kOf p.it c < p.it.n <;> simp [hz]
/-- Depths that fit. -/
def WrapD (l : List Iln) : Prop := ∀ x ∈ l, IntKind.i64.wrap x.dp = x.dp
theorem wrapD_deep (l : List Iln) : WrapD (deepI l) := by
  intro x hx
  obtain ⟨y, _, rfl⟩ := List.mem_map.1 hx
  have := wrap64_add (y.dp + 1) 0
  simpa [deepOne] using this
theorem deepBy_zero {l : List Iln} (h : WrapD l) : deepBy 0 l = l := by
  unfold deepBy
  conv => rhs; rw [← List.map_id l]
  refine List.map_congr_left fun x hx => ?_
  simp [h x hx]
theorem wrapD_append {a b : List Iln} : WrapD (a ++ b) ↔ WrapD a ∧ WrapD b := by
  unfold WrapD
  constructor
  · exact fun h => ⟨fun x hx => h x (List.mem_append_left _ hx), fun x hx => h x (List.mem_append_right _ hx)⟩
  · rintro ⟨h, k⟩ x hx
    rcases List.mem_append.1 hx with hx | hx
    · exact h x hx
    · exact k x hx
theorem wrapD_row {x : Itm} (h : x.sg ≠ 0) : WrapD (leftI x) := by
  unfold leftI
  rw [if_neg h]
  intro y hy
  rw [List.mem_singleton] at hy
  subst hy
  rfl
theorem wrapD_node (k : Int) (l : List Iln) : WrapD (leftI (nodeI k l)) := by
  unfold leftI nodeI
  simp only [if_true]
  intro y hy
  rcases List.mem_cons.1 hy with rfl | hy
  · rfl
  · exact wrapD_deep l y hy
theorem wrapD_go : ∀ (f : Nat) (l r : List Itm), WrapD (allI l) → WrapD (allI r) → WrapD (allI (groupGo f l r))
  | 0, l, r, h, k => by
    simp only [groupGo, allI_append]
    refine wrapD_append.2 ⟨fun x hx => ?_, k⟩
    obtain ⟨y, hy, hx⟩ := List.mem_flatMap.1 hx
    exact h x (List.mem_flatMap.2 ⟨y, List.mem_reverse.1 hy, hx⟩)
  | f + 1, l, [], h, k => by
    simp only [groupGo]
    intro x hx
    obtain ⟨y, hy, hx⟩ := List.mem_flatMap.1 hx
    exact h x (List.mem_flatMap.2 ⟨y, List.mem_reverse.1 hy, hx⟩)
  | f + 1, l, c :: r, h, k => by
    rw [allI_cons, wrapD_append] at k
    have hp : WrapD (allI (groupGo f (c :: l) r)) := wrapD_go f (c :: l) r (by rw [allI_cons, wrapD_append]; exact ⟨k.1, h⟩) k.2
    simp only [groupGo]
    split
    · next hc =>
      have hc0 := canClose_pos hc
      split
      · exact hp
      · next m o l' he =>
        obtain ⟨rfl, ho, _⟩ := openerI_some he
        have ho0 := canOpen_pos ho
        rw [allI_append, allI_cons, wrapD_append, wrapD_append] at h
        refine wrapD_go f _ _ ?_ ?_
        · rw [allI_cons, allI_cons, wrapD_append, wrapD_append]
          exact ⟨wrapD_node _ _, wrapD_row (x := lessI o _) (by show o.sg ≠ 0; rw [ho0.2.1]; exact hc0.2.1), h.2.2⟩
        · rw [allI_cons, wrapD_append]
          exact ⟨wrapD_row (x := lessI c _) hc0.2.1, k.2⟩
    · exact hp
/-- At the end. -/
theorem sim_end {l : List Itm} {ps : List Pc} {ops : List Nat} (h : Sim l ps 0 ops) (hw : WrapD (allI l.reverse)) : mergeI (ren 0 (evF 0 ps)) = mergeI (allI l.reverse) := by
  obtain ⟨A, h1, h2, h3, h4⟩ := h.ex
  simp only [List.replicate_zero, List.append_nil] at h3
  rw [h3, ← mergeI_some, (ok_ren h2 0).1, mergeI_some, ← h1, deepBy_zero hw]

/-! ### how much there can be -/
def itN (x : Itm) : Nat := if x.sg = 0 then x.nd.length + (textI x.nd).length else 1 + x.n.toNat
def potI (S : List Itm) : Nat := (S.map itN).sum
def pcN (p : Pc) : Nat := itN p.it + (if p.it.sg = 0 then 0 else p.bg.length)
def potP (ps : List Pc) : Nat := (ps.map pcN).sum
theorem potP_append (a b : List Pc) : potP (a ++ b) = potP a + potP b := by simp [potP]
theorem potI_cons (x : Itm) (S : List Itm) : potI (x :: S) = itN x + potI S := by simp [potI]
theorem potP_set (p' : Pc) : ∀ (ps : List Pc) (j : Nat) (p : Pc), ps[j]? = some p → potP (ps.set j p') + pcN p = potP ps + pcN p'
  | [], j, p, h => by cases h
  | q :: ps, 0, p, h => by
    have e : q = p := Option.some.inj h
    subst e
    simp only [List.set_cons_zero, potP, List.map_cons, List.sum_cons]
    omega
  | q :: ps, j + 1, p, h => by
    have := potP_set p' ps j p h
    simp only [List.set_cons_succ, potP, List.map_cons, List.sum_cons] at *
    omega
theorem itN_less (x : Itm) {k : Int} (hk : 1 ≤ k) (hn : k ≤ x.n) : itN (lessI x k) ≤ itN x := by
  unfold itN lessI
  dsimp only
  split <;> omega
theorem pcN_less (p : Pc) {k : Int} (hk : 1 ≤ k) (hn : k ≤ p.it.n) (z : Int) : pcN ⟨lessI p.it k, p.en, p.bg ++ [z]⟩ ≤ pcN p := by
  unfold pcN itN lessI
  dsimp only
  rw [List.length_append, List.length_singleton]
  split <;> omega

/-- What is done, what comes: as far as the document has come. -/
structure Run (S : List Itm) (ps : List Pc) (e : Nat) (ops : List Nat) (r : List Itm) : Prop where
  pt : potP ps + potI r ≤ potI S
  ex : ∃ l, Sim l ps e ops ∧ ∀ f, r.length + signsI (l ++ r) ≤ f → groupGo (fuelI S) [] S = groupGo f l r

theorem run_start (S : List Itm) : Run S [] 0 [] S := ⟨by simp [potP], [], sim_nil, fun f h => (groupGo_more (fuelI S) f [] S (by unfold fuelI; simp) (by unfold fuelI; simpa using h)).symm⟩
theorem run_push {S : List Itm} {ps : List Pc} {e : Nat} {ops : List Nat} {c : Itm} {r : List Itm} (h : Run S ps e ops (c :: r)) (he : c.sg = 0 → e = 0)
    (hn : canClose c = true → ∀ k ∈ ops, ∀ p, ps[k]? = some p → fitI p.it c = false) : Run S (ps ++ [⟨c, e, []⟩]) 0 (if mayOpen c then ops ++ [ps.length] else ops) r := by
  obtain ⟨l, h1, h2⟩ := h.ex
  have hpt := h.pt
  refine ⟨by rw [potP_append]; rw [potI_cons] at hpt; have : potP [(⟨c, e, []⟩ : Pc)] = itN c := by simp [potP, pcN]
             omega, c :: l, sim_push h1 c he, fun f hf => ?_⟩
  have e1 : signsI (l ++ c :: r) = signsI (c :: l ++ r) := by
    simp only [signsI_append, signsI_cons, List.cons_append]; omega
  rw [h2 (f + 1) (by rw [e1, List.length_cons]; omega)]
  simp only [groupGo]
  split
  · next hc =>
    rw [sim_none h1 (canClose_pos hc).2.1 (hn hc)]
  · rfl
theorem run_pair {S : List Itm} {ps : List Pc} {e : Nat} {o1 o2 : List Nat} {j : Nat} {c : Itm} {r : List Itm} (h : Run S ps e (o1 ++ j :: o2) (c :: r)) (hc : canClose c = true) {p : Pc} (hp : ps[j]? = some p)
    (hf : fitI p.it c = true) (hn : ∀ k ∈ o2, ∀ q, ps[k]? = some q → fitI q.it c = false) :
    Run S (ps.set j ⟨lessI p.it (kOf p.it c), p.en, p.bg ++ [if kOf p.it c = 2 then 4 else 3]⟩) (e + 1) (if 0 < p.it.n - kOf p.it c then o1 ++ [j] else o1) (lessI c (kOf p.it c) :: r) := by
  obtain ⟨l, h1, h2⟩ := h.ex
  have hc0 := canClose_pos hc
  obtain ⟨m, l', h3, h4⟩ := sim_pair h1 hc0.2.1 hp hf hn
  obtain ⟨e0, ho, _⟩ := openerI_some h3
  have hk := kOf_is p.it c (canOpen_pos ho).1 hc0.1
  have hpt := h.pt
  have hp1 := potP_set ⟨lessI p.it (kOf p.it c), p.en, p.bg ++ [if kOf p.it c = 2 then 4 else 3]⟩ ps j p hp
  refine ⟨by rw [potI_cons] at *; have h5 := pcN_less p (k := kOf p.it c) (by omega) (by omega) (if kOf p.it c = 2 then 4 else 3); have h6 := itN_less c (k := kOf p.it c) (by omega) (by omega); omega, _, h4, fun f hf => ?_⟩
  rw [h2 (f + (c :: r).length + signsI (l ++ c :: r) + 1) (by omega)]
  simp only [groupGo]
  rw [if_pos hc, h3]
  exact groupGo_more f _ _ _ hf (by omega)
theorem run_end {S : List Itm} {ps : List Pc} {ops : List Nat} (h : Run S ps 0 ops []) (hw : WrapD (allI S)) : mergeI (ren 0 (evF 0 ps)) = groupI S := by
  obtain ⟨l, h1, h2⟩ := h.ex
  have e1 : groupGo (fuelI S) [] S = l.reverse := by
    rw [h2 (signsI l + 1) (by simp)]
    rfl
  unfold groupI
  rw [e1]
  refine sim_end h1 ?_
  rw [← e1]
  exact wrapD_go _ _ _ (by intro x hx; cases hx) hw

end Go.Proofs.Ytoomkhmmgjiniaa
