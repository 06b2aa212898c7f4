/- Texts joined: EmR EmA EmB EmC EmD EmE. -/
import Derived.Test.YtfbaknkmpilllaaGreatDoorQAA
import Derived.Deep.RegionHeld3
import Derived.Lib.SliceRun
namespace Go.Proofs.YtfbaknkmpilllaaGreatDoor
open Go.RowKit
set_option linter.unusedSimpArgs false
set_option linter.unusedVariables false
theorem wrap64_add (a b : Int) : IntKind.i64.wrap (IntKind.i64.wrap a + b) = IntKind.i64.wrap (a + b) := by
  simp only [IntKind.wrap_i64]
  omega
/-- An item, what is left of its row (it.n), how many nodes end at it, which begin behind it (the innermost first). -/
structure Pc where
  it : Itm
  en : Nat
  bg : List Int
deriving Inhabited
inductive Ev where
  | row (i : Nat) (x : Itm)
  | nd (l : List Iln)
  | dn (k : Int)
  | up
def deepBy (d : Int) (l : List Iln) : List Iln := l.map fun x => { x with dp := IntKind.i64.wrap (x.dp + d) }
def rowW (d : Int) (x : Itm) : List Iln := if 0 < x.n then [wordsI (IntKind.i64.wrap d) (List.replicate x.n.toNat x.sg)] else []
def ren : Int → List Ev → List Iln
  | _, [] => []
  | d, .row _ x :: r => rowW d x ++ ren d r
  | d, .nd l :: r => deepBy d l ++ ren d r
  | d, .dn k :: r => ⟨k, IntKind.i64.wrap d, [], [], []⟩ :: ren (d + 1) r
  | d, .up :: r => ren (d - 1) r
def dep : Int → List Ev → Int
  | d, [] => d
  | d, .row _ _ :: r => dep d r
  | d, .nd _ :: r => dep d r
  | d, .dn _ :: r => dep (d + 1) r
  | d, .up :: r => dep (d - 1) r
def evP (i : Nat) (p : Pc) : List Ev := if p.it.sg = 0 then [.nd p.it.nd] else List.replicate p.en .up ++ .row i p.it :: p.bg.reverse.map .dn
def evF : Nat → List Pc → List Ev
  | _, [] => []
  | i, p :: ps => evP i p ++ evF (i + 1) ps
theorem evF_append (a b : List Pc) : ∀ i, evF i (a ++ b) = evF i a ++ evF (i + a.length) b := by
  induction a with
  | nil => intro i; simp [evF]
  | cons x a ih => intro i; simp [evF, ih, Nat.add_assoc, Nat.add_comm 1]
theorem ren_append (a b : List Ev) : ∀ d, ren d (a ++ b) = ren d a ++ ren (dep d a) b := by
  induction a with
  | nil => intro d; rfl
  | cons x a ih => intro d; cases x <;> simp [ren, dep, ih]
theorem dep_append (a b : List Ev) : ∀ d, dep d (a ++ b) = dep (dep d a) b := by
  induction a with
  | nil => intro d; rfl
  | cons x a ih => intro d; cases x <;> simp [dep, ih]
theorem deepBy_append (d : Int) (a b : List Iln) : deepBy d (a ++ b) = deepBy d a ++ deepBy d b := by simp [deepBy]
theorem deepBy_deep (d : Int) (l : List Iln) : deepBy d (deepI l) = deepBy (d + 1) l := by
  simp only [deepBy, deepI, List.map_map]
  refine List.map_congr_left fun x _ => ?_
  simp only [Function.comp, deepOne, wrap64_add]
  rw [show x.dp + 1 + d = x.dp + (d + 1) by omega]
/-- Without words that have no text. -/
def someI (l : List Iln) : List Iln := l.filter fun x => !(x.kd == 1 && x.txt == [])
theorem someI_append (a b : List Iln) : someI (a ++ b) = someI a ++ someI b := by simp [someI]
theorem mergeOne_some (out : List Iln) (x : Iln) (h : x.kd = 1 ∧ x.txt = []) : mergeOne out x = out := by unfold mergeOne; rw [if_pos h.1, if_pos h.2]
theorem foldl_some (l : List Iln) : ∀ p, (someI l).foldl mergeOne p = l.foldl mergeOne p := by
  induction l with
  | nil => intro p; rfl
  | cons x l ih =>
    intro p
    unfold someI at ih ⊢
    rw [List.filter_cons]
    split
    · simp only [List.foldl_cons]; exact ih _
    · next h =>
      have h' : x.kd = 1 ∧ x.txt = [] := by simpa using h
      rw [List.foldl_cons, mergeOne_some p x h']
      exact ih p
theorem mergeI_some (l : List Iln) : mergeI (someI l) = mergeI l := foldl_some l []
theorem some_row (d : Int) (x : Itm) (h : x.sg ≠ 0) : someI (rowW d x) = someI (deepBy d (leftI x)) := by
  unfold leftI rowW
  rw [if_neg h]
  split
  · simp [deepBy, wordsI]
  · next hn =>
    have : x.n.toNat = 0 := by omega
    simp [someI, deepBy, wordsI, this]
/-- A chunk of what happens: a row, or nodes (as they came, or made). -/
structure Ck where
  it : Itm
  pl : Nat
  ev : List Ev
def Ck.Ok (c : Ck) : Prop := if c.it.sg = 0 then ∀ d, someI (ren d c.ev) = someI (deepBy d c.it.nd) ∧ dep d c.ev = d else c.ev = [.row c.pl c.it]
def flatC (A : List Ck) : List Ev := A.flatMap Ck.ev
def itsC (A : List Ck) : List Itm := A.map Ck.it
def mayOpen (x : Itm) : Bool := x.sg != 0 && x.op && decide (0 < x.n)
/-- The places of the rows that may open. -/
def opsC (A : List Ck) : List Nat := (A.filter fun c => mayOpen c.it).map Ck.pl
theorem ok_ren {A : List Ck} (h : ∀ c ∈ A, c.Ok) : ∀ d, someI (ren d (flatC A)) = someI (deepBy d (allI (itsC A))) ∧ dep d (flatC A) = d := by
  induction A with
  | nil => intro d; exact ⟨rfl, rfl⟩
  | cons c A ih =>
    intro d
    have hc := h c (by simp)
    have h1 : someI (ren d c.ev) = someI (deepBy d (leftI c.it)) ∧ dep d c.ev = d := by
      unfold Ck.Ok at hc
      split at hc
      · next h0 => unfold leftI; rw [if_pos h0]; exact hc d
      · next h0 =>
        rw [hc]
        refine ⟨?_, rfl⟩
        simp only [ren, List.append_nil]
        exact some_row d c.it h0
    have ih' := ih (fun x hx => h x (by simp [hx])) d
    simp only [flatC, itsC, List.flatMap_cons, List.map_cons, allI_cons] at ih' ⊢
    rw [ren_append, dep_append, h1.2, someI_append, deepBy_append, someI_append, h1.1]
    exact ⟨by rw [ih'.1], ih'.2⟩
def rowAt (i : Nat) : Ev → Bool
  | .row j _ => i == j
  | _ => false
theorem split_row {i : Nat} {x x' : Itm} : ∀ (X X' Y Y' : List Ev), (∀ e ∈ X, rowAt i e = false) → (∀ e ∈ X', rowAt i e = false) → X ++ .row i x :: Y = X' ++ .row i x' :: Y' → X = X' ∧ x = x' ∧ Y = Y'
  | [], [], Y, Y', _, _, e => by simp at e; exact ⟨rfl, e.1, e.2⟩
  | [], b :: X', Y, Y', _, h', e => by
    simp at e
    have := h' b (by simp)
    rw [← e.1] at this
    simp [rowAt] at this
  | a :: X, [], Y, Y', h, _, e => by
    simp at e
    have := h a (by simp)
    rw [e.1] at this
    simp [rowAt] at this
  | a :: X, b :: X', Y, Y', h, h', e => by
    simp at e
    have := split_row X X' Y Y' (fun z hz => h z (by simp [hz])) (fun z hz => h' z (by simp [hz])) e.2
    exact ⟨by rw [e.1, this.1], this.2⟩
/-- The places of rows, in what happens. -/
def plE : Ev → Option Nat
  | .row i _ => some i
  | _ => none
theorem pls_up (n : Nat) : (List.replicate n Ev.up).filterMap plE = [] := by
  induction n with
  | zero => rfl
  | succ n ih => rw [List.replicate_succ, List.filterMap_cons]; exact ih
theorem pls_dn (l : List Int) : (l.map Ev.dn).filterMap plE = [] := by
  induction l with
  | nil => rfl
  | cons x l ih => rw [List.map_cons, List.filterMap_cons]; exact ih
theorem pls_P (i : Nat) (p : Pc) : (evP i p).filterMap plE = if p.it.sg = 0 then [] else [i] := by
  unfold evP
  split
  · rfl
  · rw [List.filterMap_append, pls_up, List.filterMap_cons]
    simp only [plE, pls_dn, List.nil_append]
theorem pls_F (ps : List Pc) : ∀ i, ((evF i ps).filterMap plE).Pairwise (· < ·) ∧ ∀ k ∈ (evF i ps).filterMap plE, i ≤ k ∧ k < i + ps.length := by
  induction ps with
  | nil => intro i; simp [evF]
  | cons p ps ih =>
    intro i
    obtain ⟨h1, h2⟩ := ih (i + 1)
    simp only [evF, List.filterMap_append, pls_P]
    split
    · refine ⟨by simpa using h1, fun k hk => ?_⟩
      have := h2 k (by simpa using hk)
      simp only [List.length_cons]; omega
    · refine ⟨?_, fun k hk => ?_⟩
      · simp only [List.singleton_append, List.pairwise_cons]
        exact ⟨fun k hk => by have := h2 k hk; omega, h1⟩
      · simp only [List.singleton_append, List.mem_cons] at hk
        simp only [List.length_cons]
        rcases hk with rfl | hk
        · omega
        · have := h2 k hk; omega
theorem rowAt_of {i : Nat} {l : List Ev} (h : i ∉ l.filterMap plE) : ∀ e ∈ l, rowAt i e = false := by
  intro e he
  cases e with
  | row j x =>
    simp only [rowAt]
    by_cases hij : i = j
    · exact absurd (List.mem_filterMap.2 ⟨_, he, by rw [hij]; rfl⟩) h
    · simpa using hij
  | nd l => rfl
  | dn k => rfl
  | up => rfl
/-- The pieces, e ends behind them, the places that may open: as the document has them (l: nearest first). -/
structure Sim (l : List Itm) (ps : List Pc) (e : Nat) (ops : List Nat) : Prop where
  ex : ∃ A : List Ck, l.reverse = itsC A ∧ (∀ c ∈ A, c.Ok) ∧ evF 0 ps ++ List.replicate e .up = flatC A ∧ ops = opsC A
theorem sim_nil : Sim [] [] 0 [] := ⟨[], rfl, by simp, rfl, rfl⟩
theorem sim_push {l : List Itm} {ps : List Pc} {e : Nat} {ops : List Nat} (h : Sim l ps e ops) (c : Itm) (he : c.sg = 0 → e = 0) :
    Sim (c :: l) (ps ++ [⟨c, e, []⟩]) 0 (if mayOpen c then ops ++ [ps.length] else ops) := by
  obtain ⟨A, h1, h2, h3, h4⟩ := h.ex
  by_cases h0 : c.sg = 0
  · have he0 := he h0
    subst he0
    refine ⟨A ++ [⟨c, 0, [.nd c.nd]⟩], ?_, ?_, ?_, ?_⟩
    · simp [itsC, h1]
    · intro x hx
      rcases List.mem_append.1 hx with hx | hx
      · exact h2 x hx
      · rw [List.mem_singleton] at hx
        subst hx
        unfold Ck.Ok
        rw [if_pos h0]
        intro d
        simp [ren, dep]
    · simp only [List.replicate_zero, List.append_nil] at h3 ⊢
      rw [evF_append, h3]
      simp [flatC, evF, evP, h0]
    · have : mayOpen c = false := by simp [mayOpen, h0]
      simp [opsC, this, h4]
  · refine ⟨A ++ [⟨c, ps.length, [.row ps.length c]⟩], ?_, ?_, ?_, ?_⟩
    · simp [itsC, h1]
    · intro x hx
      rcases List.mem_append.1 hx with hx | hx
      · exact h2 x hx
      · rw [List.mem_singleton] at hx
        subst hx
        unfold Ck.Ok
        rw [if_neg h0]
    · simp only [List.replicate_zero, List.append_nil]
      rw [evF_append]
      simp only [evF, evP, if_neg h0, List.append_nil, List.reverse_nil, List.map_nil, Nat.zero_add]
      rw [show flatC (A ++ [⟨c, ps.length, [.row ps.length c]⟩]) = flatC A ++ [.row ps.length c] by simp [flatC], ← h3]
      simp
    · by_cases hm : mayOpen c = true
      · simp [opsC, hm, h4]
      · simp [opsC, hm, h4]
/-- The places that may open ascend, and at each stands a row. -/
theorem plC_split {A : List Ck} (h : ∀ c ∈ A, c.Ok) {c : Ck} (hc : c ∈ A) (h0 : c.it.sg ≠ 0) : .row c.pl c.it ∈ flatC A := by
  have := h c hc
  unfold Ck.Ok at this
  rw [if_neg h0] at this
  exact List.mem_flatMap.2 ⟨c, hc, by rw [this]; simp⟩
theorem ev_mem {ps : List Pc} : ∀ {i k : Nat} {x : Itm}, Ev.row k x ∈ evF i ps → ∃ p, ps[k - i]? = some p ∧ i ≤ k ∧ p.it = x ∧ x.sg ≠ 0 := by
  induction ps with
  | nil => intro i k x h; simp [evF] at h
  | cons p ps ih =>
    intro i k x h
    simp only [evF, List.mem_append] at h
    rcases h with h | h
    · unfold evP at h
      split at h
      · simp at h
      · next h0 =>
        rw [List.mem_append, List.mem_cons, List.mem_replicate, List.mem_map] at h
        rcases h with ⟨_, h⟩ | h | ⟨_, _, h⟩
        · cases h
        · cases h
          exact ⟨p, by simp, Nat.le_refl _, rfl, h0⟩
        · cases h
    · obtain ⟨q, h1, h2, h3⟩ := ih h
      refine ⟨q, ?_, by omega, h3⟩
      rw [show k - i = (k - (i + 1)) + 1 by omega, List.getElem?_cons_succ]
      exact h1
theorem sim_at {l : List Itm} {ps : List Pc} {e : Nat} {ops : List Nat} (h : Sim l ps e ops) : ∀ k ∈ ops, ∃ p, ps[k]? = some p ∧ mayOpen p.it = true := by
  obtain ⟨A, h1, h2, h3, h4⟩ := h.ex
  intro k hk
  rw [h4] at hk
  obtain ⟨c, hc, rfl⟩ := List.mem_map.1 hk
  obtain ⟨hc, hm⟩ := List.mem_filter.1 hc
  have h0 : c.it.sg ≠ 0 := by simp [mayOpen] at hm; exact hm.1.1
  have hr := plC_split h2 hc h0
  rw [← h3, List.mem_append, List.mem_replicate] at hr
  rcases hr with hr | ⟨_, hr⟩
  · obtain ⟨p, e1, _, e2, _⟩ := ev_mem hr
    exact ⟨p, by simpa using e1, by rw [e2]; exact hm⟩
  · cases hr
/-- One list of places within another. -/
theorem pls_C {A : List Ck} (h : ∀ c ∈ A, c.Ok) : (opsC A).Sublist ((flatC A).filterMap plE) := by
  induction A with
  | nil => simp [opsC, flatC]
  | cons c A ih =>
    have ih' := ih fun x hx => h x (by simp [hx])
    have hc := h c (by simp)
    simp only [flatC, List.flatMap_cons, List.filterMap_append]
    unfold opsC at ih' ⊢
    rw [List.filter_cons]
    split
    · next hm =>
      have h0 : c.it.sg ≠ 0 := by simp [mayOpen] at hm; exact hm.1.1
      unfold Ck.Ok at hc
      rw [if_neg h0] at hc
      rw [hc]
      simp only [List.map_cons, List.filterMap_cons, plE, List.filterMap_nil, List.singleton_append]
      exact ih'.cons_cons _
    · exact ih'.trans (List.sublist_append_right _ _)
theorem sim_ops {l : List Itm} {ps : List Pc} {e : Nat} {ops : List Nat} (h : Sim l ps e ops) : ops.Pairwise (· < ·) := by
  obtain ⟨A, h1, h2, h3, h4⟩ := h.ex
  rw [h4]
  refine List.Pairwise.sublist (pls_C h2) ?_
  rw [← h3, List.filterMap_append, pls_up, List.append_nil]
  exact (pls_F ps 0).1
/-- Two rows that go together: of one sign, not three in all. -/
def fitI (o c : Itm) : Bool := o.sg == c.sg && !((o.op && o.cl || c.op && c.cl) && (o.ff + c.ff).tmod 3 == 0 && (o.ff.tmod 3 != 0 || c.ff.tmod 3 != 0))
theorem canOpen_is {o c : Itm} (hc : c.sg ≠ 0) : canOpen o c = (mayOpen o && fitI o c) := by
  unfold canOpen mayOpen fitI
  by_cases hs : o.sg = c.sg
  · have : o.sg ≠ 0 := by rw [hs]; exact hc
    simp [hs, hc, Bool.and_assoc]
  · have h1 : (o.sg == c.sg) = false := by simpa using hs
    simp [h1]
/-- Pairing: the place is the last that goes together with the closer. -/
theorem sim_none {l : List Itm} {ps : List Pc} {e : Nat} {ops : List Nat} (h : Sim l ps e ops) {c : Itm} (hc : c.sg ≠ 0)
    (hn : ∀ k ∈ ops, ∀ p, ps[k]? = some p → fitI p.it c = false) : openerI c l = none := by
  obtain ⟨A, h1, h2, h3, h4⟩ := h.ex
  refine openerI_no fun x hx => ?_
  rw [canOpen_is hc]
  by_cases hm : mayOpen x = true
  · have hx' : x ∈ itsC A := by rw [← h1]; simpa using hx
    obtain ⟨k, hk, rfl⟩ := List.mem_map.1 hx'
    have hk4 : k.pl ∈ ops := by rw [h4]; exact List.mem_map.2 ⟨k, List.mem_filter.2 ⟨hk, hm⟩, rfl⟩
    have h0 : k.it.sg ≠ 0 := by simp [mayOpen] at hm; exact hm.1.1
    have hr := plC_split h2 hk h0
    rw [← h3, List.mem_append, List.mem_replicate] at hr
    rcases hr with hr | ⟨_, hr⟩
    · obtain ⟨p, e1, _, e2, _⟩ := ev_mem hr
      have := hn k.pl hk4 p (by simpa using e1)
      rw [e2] at this
      simp [this]
    · cases hr
  · simp [hm]
theorem sim_pair {l : List Itm} {ps : List Pc} {e : Nat} {o1 o2 : List Nat} {j : Nat} (h : Sim l ps e (o1 ++ j :: o2)) {c : Itm} (hc : c.sg ≠ 0) {p : Pc} (hp : ps[j]? = some p)
    (hf : fitI p.it c = true) (hn : ∀ k ∈ o2, ∀ q, ps[k]? = some q → fitI q.it c = false) :
    ∃ m l', openerI c l = some (m, p.it, l') ∧
      Sim (nodeI (kOf p.it c) (allI m.reverse) :: lessI p.it (kOf p.it c) :: l') (ps.set j ⟨lessI p.it (kOf p.it c), p.en, p.bg ++ [if kOf p.it c = 2 then 4 else 3]⟩) (e + 1) (if 0 < p.it.n - kOf p.it c then o1 ++ [j] else o1) := by
  obtain ⟨A, h1, h2, h3, h4⟩ := h.ex
  -- the chunk of the opener
  obtain ⟨A1, k, A2, hA, hk1, hkp, hk2, hkm⟩ : ∃ A1 k A2, A = A1 ++ k :: A2 ∧ opsC A1 = o1 ∧ k.pl = j ∧ opsC A2 = o2 ∧ mayOpen k.it = true := by
    obtain ⟨F1, F2', e1, e2, e3⟩ := List.map_eq_append_iff.1 h4.symm
    obtain ⟨k, F2, rfl, e4, e5⟩ := List.map_eq_cons_iff.1 e3
    obtain ⟨A1, A2', rfl, e6, e7⟩ := List.filter_eq_append_iff.1 e1
    obtain ⟨B1, B2, rfl, e8, e9, e10⟩ := List.filter_eq_cons_iff.1 e7
    refine ⟨A1 ++ B1, k, B2, by simp, ?_, e4, by rw [opsC, e10, e5], e9⟩
    unfold opsC
    rw [List.filter_append, e6, List.filter_eq_nil_iff.2 e8, List.append_nil, e2]
  subst hA
  have h0 : k.it.sg ≠ 0 := by simp [mayOpen] at hkm; exact hkm.1.1
  have hkO := h2 k (by simp)
  unfold Ck.Ok at hkO
  rw [if_neg h0] at hkO
  -- the piece of the opener
  have hj : j < ps.length := (List.getElem?_eq_some_iff.1 hp).1
  have hps : ps = ps.take j ++ p :: ps.drop (j + 1) := by
    conv => lhs; rw [← List.take_append_drop j ps]
    rw [List.drop_eq_getElem_cons hj, (List.getElem?_eq_some_iff.1 hp).2]
  have hset : ∀ p' : Pc, ps.set j p' = ps.take j ++ p' :: ps.drop (j + 1) := fun p' => by
    rw [List.set_eq_take_append_cons_drop, if_pos hj]
  have htl : (ps.take j).length = j := by rw [List.length_take]; omega
  have hF := pls_F ps 0
  have hE : flatC (A1 ++ k :: A2) = flatC A1 ++ .row j k.it :: flatC A2 := by simp [flatC, hkO, hkp]
  rw [hE] at h3
  -- its place stands once
  have hnd : ((flatC A1).filterMap plE ++ j :: (flatC A2).filterMap plE).Pairwise (· < ·) := by
    have := hF.1
    have h5 : (evF 0 ps ++ List.replicate e Ev.up).filterMap plE = (evF 0 ps).filterMap plE := by rw [List.filterMap_append, pls_up, List.append_nil]
    rw [← h5, h3, List.filterMap_append, List.filterMap_cons] at this
    exact this
  have hnA : j ∉ (flatC A1).filterMap plE := fun hm => by
    have := (List.pairwise_append.1 hnd).2.2 j hm j (by simp)
    omega
  -- the piece is a row
  have hpr : p.it.sg ≠ 0 := by
    have hr := plC_split h2 (c := k) (by simp) h0
    rw [hE, ← h3, List.mem_append, List.mem_replicate] at hr
    rcases hr with hr | ⟨_, hr⟩
    · obtain ⟨q, e1, _, e2, e3⟩ := ev_mem hr
      rw [hkp] at e1
      simp only [Nat.sub_zero] at e1
      rw [hp] at e1
      cases e1
      rw [e2]
      exact e3
    · cases hr
  have hEp : ∀ q : Pc, q.it.sg ≠ 0 → evF 0 (ps.take j ++ q :: ps.drop (j + 1)) ++ List.replicate e Ev.up = (evF 0 (ps.take j) ++ List.replicate q.en .up) ++ .row j q.it :: (q.bg.reverse.map .dn ++ evF (j + 1) (ps.drop (j + 1)) ++ List.replicate e .up) := fun q hq => by
    rw [evF_append]
    simp [evF, evP, hq, htl]
  have hnP : j ∉ (evF 0 (ps.take j) ++ List.replicate p.en Ev.up).filterMap plE := fun hm => by
    rw [List.filterMap_append, pls_up, List.append_nil] at hm
    have := (pls_F (ps.take j) 0).2 j hm
    omega
  have h3' := h3
  rw [hps, hEp p hpr] at h3'
  obtain ⟨x1, x2, x3⟩ := split_row _ _ _ _ (rowAt_of hnP) (rowAt_of hnA) h3'
  refine ⟨(itsC A2).reverse, (itsC A1).reverse, ?_, ?_⟩
  · have : l = (itsC A2).reverse ++ p.it :: (itsC A1).reverse := by
      have := congrArg List.reverse h1
      rw [List.reverse_reverse] at this
      rw [this, x2]
      simp [itsC]
    rw [this]
    refine openerI_is ?_ fun x hx => ?_
    · rw [canOpen_is hc, x2, hkm, ← x2, hf]; rfl
    · rw [canOpen_is hc]
      by_cases hm : mayOpen x = true
      · have hx' : x ∈ itsC A2 := by simpa using hx
        obtain ⟨q, hq, rfl⟩ := List.mem_map.1 hx'
        have hq4 : q.pl ∈ o2 := by rw [← hk2]; exact List.mem_map.2 ⟨q, List.mem_filter.2 ⟨hq, hm⟩, rfl⟩
        have hq0 : q.it.sg ≠ 0 := by simp [mayOpen] at hm; exact hm.1.1
        have hr := plC_split h2 (c := q) (by simp [hq]) hq0
        rw [hE, ← h3, List.mem_append, List.mem_replicate] at hr
        rcases hr with hr | ⟨_, hr⟩
        · obtain ⟨u, e1, _, e2, _⟩ := ev_mem hr
          have := hn q.pl hq4 u (by simpa using e1)
          rw [e2] at this
          simp [this]
        · cases hr
      · simp [hm]
  · have hl0 : (lessI p.it (kOf p.it c)).sg ≠ 0 := hpr
    refine ⟨A1 ++ ⟨lessI p.it (kOf p.it c), j, [.row j (lessI p.it (kOf p.it c))]⟩ :: [⟨nodeI (kOf p.it c) (allI (itsC A2)), 0, .dn (if kOf p.it c = 2 then 4 else 3) :: flatC A2 ++ [.up]⟩], ?_, ?_, ?_, ?_⟩
    · simp [itsC]
    · intro x hx
      simp only [List.mem_append, List.mem_cons, List.not_mem_nil, or_false] at hx
      rcases hx with hx | rfl | rfl
      · exact h2 x (by simp [hx])
      · unfold Ck.Ok; rw [if_neg hl0]
      · unfold Ck.Ok
        rw [if_pos (show (nodeI (kOf p.it c) (allI (itsC A2))).sg = 0 from rfl)]
        intro d
        have hi := ok_ren (A := A2) (fun x hx => h2 x (by simp [hx])) (d + 1)
        simp only [List.cons_append, ren, dep, ren_append, dep_append, hi.2, List.append_nil, nodeI]
        refine ⟨?_, by omega⟩
        rw [show ∀ (y : Iln) (r : List Iln), someI (y :: r) = someI [y] ++ someI r from fun y r => by rw [← someI_append]; rfl, hi.1]
        rw [show ∀ (y : Iln) (r : List Iln), deepBy d (y :: r) = deepBy d [y] ++ deepBy d r from fun y r => by rw [← deepBy_append]; rfl, someI_append, deepBy_deep]
        simp [deepBy]
    · rw [hset, List.replicate_succ', ← List.append_assoc, hEp ⟨lessI p.it (kOf p.it c), p.en, p.bg ++ [if kOf p.it c = 2 then 4 else 3]⟩ hl0]
      simp only [flatC, List.flatMap_append, List.flatMap_cons, List.flatMap_nil, List.append_nil]
      rw [show (List.flatMap Ck.ev A1) = flatC A1 from rfl, ← x1, show (List.flatMap Ck.ev A2) = flatC A2 from rfl, ← x3]
      simp
    · have hlm : mayOpen (lessI p.it (kOf p.it c)) = decide (0 < p.it.n - kOf p.it c) := by
        have hkm' := hkm
        rw [← x2] at hkm'
        simp [mayOpen] at hkm'
        simp [mayOpen, lessI, hkm']
      have hnm : mayOpen (nodeI (kOf p.it c) (allI (itsC A2))) = false := rfl
      unfold opsC at hk1 ⊢
      rw [List.filter_append, List.map_append, hk1, List.filter_cons, List.filter_cons]
      simp only [hlm, hnm]
      by_cases hz : kOf p.it c < p.it.n <;> simp [hz]
/-- Depths that fit. -/
def WrapD (l : List Iln) : Prop := ∀ x ∈ l, IntKind.i64.wrap x.dp = x.dp
theorem wrapD_deep (l : List Iln) : WrapD (deepI l) := by
  intro x hx
  obtain ⟨y, _, rfl⟩ := List.mem_map.1 hx
  have := wrap64_add (y.dp + 1) 0
  simpa [deepOne] using this
theorem deepBy_zero {l : List Iln} (h : WrapD l) : deepBy 0 l = l := by
  unfold deepBy
  conv => rhs; rw [← List.map_id l]
  refine List.map_congr_left fun x hx => ?_
  simp [h x hx]
theorem wrapD_append {a b : List Iln} : WrapD (a ++ b) ↔ WrapD a ∧ WrapD b := by
  unfold WrapD
  constructor
  · exact fun h => ⟨fun x hx => h x (List.mem_append_left _ hx), fun x hx => h x (List.mem_append_right _ hx)⟩
  · rintro ⟨h, k⟩ x hx
    rcases List.mem_append.1 hx with hx | hx
    · exact h x hx
    · exact k x hx
theorem wrapD_row {x : Itm} (h : x.sg ≠ 0) : WrapD (leftI x) := by
  unfold leftI
  rw [if_neg h]
  intro y hy
  rw [List.mem_singleton] at hy
  subst hy
  rfl
theorem wrapD_node (k : Int) (l : List Iln) : WrapD (leftI (nodeI k l)) := by
  unfold leftI nodeI
  simp only [if_true]
  intro y hy
  rcases List.mem_cons.1 hy with rfl | hy
  · rfl
  · exact wrapD_deep l y hy
theorem wrapD_go : ∀ (f : Nat) (l r : List Itm), WrapD (allI l) → WrapD (allI r) → WrapD (allI (groupGo f l r))
  | 0, l, r, h, k => by
    simp only [groupGo, allI_append]
    refine wrapD_append.2 ⟨fun x hx => ?_, k⟩
    obtain ⟨y, hy, hx⟩ := List.mem_flatMap.1 hx
    exact h x (List.mem_flatMap.2 ⟨y, List.mem_reverse.1 hy, hx⟩)
  | f + 1, l, [], h, k => by
    simp only [groupGo]
    intro x hx
    obtain ⟨y, hy, hx⟩ := List.mem_flatMap.1 hx
    exact h x (List.mem_flatMap.2 ⟨y, List.mem_reverse.1 hy, hx⟩)
  | f + 1, l, c :: r, h, k => by
    rw [allI_cons, wrapD_append] at k
    have hp : WrapD (allI (groupGo f (c :: l) r)) := wrapD_go f (c :: l) r (by rw [allI_cons, wrapD_append]; exact ⟨k.1, h⟩) k.2
    simp only [groupGo]
    split
    · next hc =>
      have hc0 := canClose_pos hc
      split
      · exact hp
      · next m o l' he =>
        obtain ⟨rfl, ho, _⟩ := openerI_some he
        have ho0 := canOpen_pos ho
        rw [allI_append, allI_cons, wrapD_append, wrapD_append] at h
        refine wrapD_go f _ _ ?_ ?_
        · rw [allI_cons, allI_cons, wrapD_append, wrapD_append]
          exact ⟨wrapD_node _ _, wrapD_row (x := lessI o _) (by show o.sg ≠ 0; rw [ho0.2.1]; exact hc0.2.1), h.2.2⟩
        · rw [allI_cons, wrapD_append]
          exact ⟨wrapD_row (x := lessI c _) hc0.2.1, k.2⟩
    · exact hp
/-- At the end. -/
theorem sim_end {l : List Itm} {ps : List Pc} {ops : List Nat} (h : Sim l ps 0 ops) (hw : WrapD (allI l.reverse)) : mergeI (ren 0 (evF 0 ps)) = mergeI (allI l.reverse) := by
  obtain ⟨A, h1, h2, h3, h4⟩ := h.ex
  simp only [List.replicate_zero, List.append_nil] at h3
  rw [h3, ← mergeI_some, (ok_ren h2 0).1, mergeI_some, ← h1, deepBy_zero hw]
def itN (x : Itm) : Nat := if x.sg = 0 then x.nd.length + (textI x.nd).length else 1 + x.n.toNat
def potI (S : List Itm) : Nat := (S.map itN).sum
def pcN (p : Pc) : Nat := itN p.it + (if p.it.sg = 0 then 0 else p.bg.length)
def potP (ps : List Pc) : Nat := (ps.map pcN).sum
theorem potP_append (a b : List Pc) : potP (a ++ b) = potP a + potP b := by simp [potP]
theorem potI_cons (x : Itm) (S : List Itm) : potI (x :: S) = itN x + potI S := by simp [potI]
theorem potP_set (p' : Pc) : ∀ (ps : List Pc) (j : Nat) (p : Pc), ps[j]? = some p → potP (ps.set j p') + pcN p = potP ps + pcN p'
  | [], j, p, h => by cases h
  | q :: ps, 0, p, h => by
    have e : q = p := Option.some.inj h
    subst e
    simp only [List.set_cons_zero, potP, List.map_cons, List.sum_cons]
    omega
  | q :: ps, j + 1, p, h => by
    have := potP_set p' ps j p h
    simp only [List.set_cons_succ, potP, List.map_cons, List.sum_cons] at *
    omega
theorem itN_less (x : Itm) {k : Int} (hk : 1 ≤ k) (hn : k ≤ x.n) : itN (lessI x k) ≤ itN x := by
  unfold itN lessI
  dsimp only
  split <;> omega
theorem pcN_less (p : Pc) {k : Int} (hk : 1 ≤ k) (hn : k ≤ p.it.n) (z : Int) : pcN ⟨lessI p.it k, p.en, p.bg ++ [z]⟩ ≤ pcN p := by
  unfold pcN itN lessI
  dsimp only
  rw [List.length_append, List.length_singleton]
  split <;> omega
/-- What is done, what comes: as far as the document has come. -/
structure Run (S : List Itm) (ps : List Pc) (e : Nat) (ops : List Nat) (r : List Itm) : Prop where
  pt : potP ps + potI r ≤ potI S
  ex : ∃ l, Sim l ps e ops ∧ ∀ f, r.length + signsI (l ++ r) ≤ f → groupGo (fuelI S) [] S = groupGo f l r
theorem run_start (S : List Itm) : Run S [] 0 [] S := ⟨by simp [potP], [], sim_nil, fun f h => (groupGo_more (fuelI S) f [] S (by unfold fuelI; simp) (by unfold fuelI; simpa using h)).symm⟩
theorem run_push {S : List Itm} {ps : List Pc} {e : Nat} {ops : List Nat} {c : Itm} {r : List Itm} (h : Run S ps e ops (c :: r)) (he : c.sg = 0 → e = 0)
    (hn : canClose c = true → ∀ k ∈ ops, ∀ p, ps[k]? = some p → fitI p.it c = false) : Run S (ps ++ [⟨c, e, []⟩]) 0 (if mayOpen c then ops ++ [ps.length] else ops) r := by
  obtain ⟨l, h1, h2⟩ := h.ex
  have hpt := h.pt
  refine ⟨by rw [potP_append]; rw [potI_cons] at hpt; have : potP [(⟨c, e, []⟩ : Pc)] = itN c := by simp [potP, pcN]
             omega, c :: l, sim_push h1 c he, fun f hf => ?_⟩
  have e1 : signsI (l ++ c :: r) = signsI (c :: l ++ r) := by
    simp only [signsI_append, signsI_cons, List.cons_append]; omega
  rw [h2 (f + 1) (by rw [e1, List.length_cons]; omega)]
  simp only [groupGo]
  split
  · next hc =>
    rw [sim_none h1 (canClose_pos hc).2.1 (hn hc)]
  · rfl
theorem run_pair {S : List Itm} {ps : List Pc} {e : Nat} {o1 o2 : List Nat} {j : Nat} {c : Itm} {r : List Itm} (h : Run S ps e (o1 ++ j :: o2) (c :: r)) (hc : canClose c = true) {p : Pc} (hp : ps[j]? = some p)
    (hf : fitI p.it c = true) (hn : ∀ k ∈ o2, ∀ q, ps[k]? = some q → fitI q.it c = false) :
    Run S (ps.set j ⟨lessI p.it (kOf p.it c), p.en, p.bg ++ [if kOf p.it c = 2 then 4 else 3]⟩) (e + 1) (if 0 < p.it.n - kOf p.it c then o1 ++ [j] else o1) (lessI c (kOf p.it c) :: r) := by
  obtain ⟨l, h1, h2⟩ := h.ex
  have hc0 := canClose_pos hc
  obtain ⟨m, l', h3, h4⟩ := sim_pair h1 hc0.2.1 hp hf hn
  obtain ⟨e0, ho, _⟩ := openerI_some h3
  have hk := kOf_is p.it c (canOpen_pos ho).1 hc0.1
  have hpt := h.pt
  have hp1 := potP_set ⟨lessI p.it (kOf p.it c), p.en, p.bg ++ [if kOf p.it c = 2 then 4 else 3]⟩ ps j p hp
  refine ⟨by rw [potI_cons] at *; have h5 := pcN_less p (k := kOf p.it c) (by omega) (by omega) (if kOf p.it c = 2 then 4 else 3); have h6 := itN_less c (k := kOf p.it c) (by omega) (by omega); omega, _, h4, fun f hf => ?_⟩
  rw [h2 (f + (c :: r).length + signsI (l ++ c :: r) + 1) (by omega)]
  simp only [groupGo]
  rw [if_pos hc, h3]
  exact groupGo_more f _ _ _ hf (by omega)
theorem run_end {S : List Itm} {ps : List Pc} {ops : List Nat} (h : Run S ps 0 ops []) (hw : WrapD (allI S)) : mergeI (ren 0 (evF 0 ps)) = groupI S := by
  obtain ⟨l, h1, h2⟩ := h.ex
  have e1 : groupGo (fuelI S) [] S = l.reverse := by
    rw [h2 (signsI l + 1) (by simp)]
    rfl
  unfold groupI
  rw [e1]
  refine sim_end h1 ?_
  rw [← e1]
  exact wrapD_go _ _ _ (by intro x hx; cases hx) hw
end Go.Proofs.YtfbaknkmpilllaaGreatDoor

namespace Go.Proofs.YtfbaknkmpilllaaGreatDoor
open Go.RowKit
set_option linter.unusedSimpArgs false
set_option linter.unusedVariables false
set_option maxRecDepth 100000
def ilV (x : Iln) : Value := .agg #[.int .i64 x.kd, .int .i64 x.dp, .string ⟨x.txt.toArray⟩, .string ⟨x.url.toArray⟩, .string ⟨x.ttl.toArray⟩]
/-- An item of package emph: lv: its nodes' slice. -/
def itV (x : Itm) (lv : Value) : Value := .agg #[.int .u8 x.sg.toNat, .int .i64 x.ff, .bool x.op, .bool x.cl, lv]
def kindV (sg : UInt8) (b : Bool) (r : Int) : Value := .agg #[.int .u8 sg.toNat, .bool b, .int .i64 r]
def kV (x : Itm) : Value := kindV x.sg (x.op && x.cl) (x.ff.tmod 3)
theorem box5 (w : World) (c0 c1 c2 c3 c4 : Value) (t : TypeId) : (w.alloc (.cells #[c0, c1, c2, c3, c4] t)).cell? ⟨w.heap.size, 0, none⟩ = some c0 ∧ (w.alloc (.cells #[c0, c1, c2, c3, c4] t)).cell? ⟨w.heap.size, 1, none⟩ = some c1 ∧
    (w.alloc (.cells #[c0, c1, c2, c3, c4] t)).cell? ⟨w.heap.size, 2, none⟩ = some c2 ∧ (w.alloc (.cells #[c0, c1, c2, c3, c4] t)).cell? ⟨w.heap.size, 3, none⟩ = some c3 ∧ (w.alloc (.cells #[c0, c1, c2, c3, c4] t)).cell? ⟨w.heap.size, 4, none⟩ = some c4 := by
  have h : ∀ j u, [c0, c1, c2, c3, c4][j]? = some u → _ := elt_cells w [c0, c1, c2, c3, c4] t
  simp only [addr_add, Nat.zero_add] at h
  exact ⟨h 0 _ rfl, h 1 _ rfl, h 2 _ rfl, h 3 _ rfl, h 4 _ rfl⟩
theorem box3 (w : World) (c0 c1 c2 : Value) (t : TypeId) : (w.alloc (.cells #[c0, c1, c2] t)).cell? ⟨w.heap.size, 0, none⟩ = some c0 ∧ (w.alloc (.cells #[c0, c1, c2] t)).cell? ⟨w.heap.size, 1, none⟩ = some c1 ∧
    (w.alloc (.cells #[c0, c1, c2] t)).cell? ⟨w.heap.size, 2, none⟩ = some c2 := by
  have h : ∀ j u, [c0, c1, c2][j]? = some u → _ := elt_cells w [c0, c1, c2] t
  simp only [addr_add, Nat.zero_add] at h
  exact ⟨h 0 _ rfl, h 1 _ rfl, h 2 _ rfl⟩
theorem empty_any (x : Iln) (w : World) : Calls Tryz.prog 67 #[ilV x] w fun e w' => e = .returned (.bool (x.kd == 1 && x.txt == [])) ∧ Below w.heap.size w w' := by
  obtain ⟨k, d, s, u, t⟩ := x
  unfold ilV
  dsimp only
  obtain ⟨x0, x1, x2, x3, x4⟩ := box5 w (.int .i64 k) (.int .i64 d) (.string ⟨s.toArray⟩) (.string ⟨u.toArray⟩) (.string ⟨t.toArray⟩) 30
  have b0 : Below w.heap.size w (w.alloc (.cells #[.int .i64 k, .int .i64 d, .string ⟨s.toArray⟩, .string ⟨u.toArray⟩, .string ⟨t.toArray⟩] 30)) := (Below.refl _ w).alloc (Nat.le_refl _) _
  have HB := Lib.hid b0
  clear b0
  go_enter Tryz.func67, Tryz.ntmps67
  go_wp2
  all_goals (go_ret; refine ⟨ret_bool (by cases s <;> simp_all), (Below.refl _ w).alloc (Nat.le_refl _) _⟩)
theorem words_any (d : Int) (s : List UInt8) (w : World) : Calls Tryz.prog 69 #[.int .i64 d, .string ⟨s.toArray⟩] w fun e w' => e = .returned (ilV (wordsI d s)) ∧ Below w.heap.size w w' := by
  go_enter Tryz.func69, Tryz.ntmps69
  go_wp2
  refine bodyPost_ret (results_cell_row rfl _ _ _ 30 _ (0, 0) _ rfl (heap_alloc_new _ _) Tryz.underlying30 rfl (by kernel_rfl)) rfl ?_
  exact ⟨rfl, (Below.refl _ w).alloc (Nat.le_refl _) _⟩
theorem shown_any (x : Iln) (w : World) : Calls Tryz.prog 26 #[ilV x] w fun e w' => e = .returned (.string ⟨(ilText x).toArray⟩) ∧ Below w.heap.size w w' := by
  obtain ⟨k, d, s, u, t⟩ := x
  unfold ilV
  dsimp only
  obtain ⟨x0, x1, x2, x3, x4⟩ := box5 w (.int .i64 k) (.int .i64 d) (.string ⟨s.toArray⟩) (.string ⟨u.toArray⟩) (.string ⟨t.toArray⟩) 30
  have b0 : Below w.heap.size w (w.alloc (.cells #[.int .i64 k, .int .i64 d, .string ⟨s.toArray⟩, .string ⟨u.toArray⟩, .string ⟨t.toArray⟩] 30)) := (Below.refl _ w).alloc (Nat.le_refl _) _
  have HB := Lib.hid b0
  clear b0
  go_enter Tryz.func26, Tryz.ntmps26
  go_wp2
  all_goals (go_ret; refine ⟨?_, (Below.refl _ w).alloc (Nat.le_refl _) _⟩)
  all_goals (simp_all [ilText])
theorem kindOf_any (x : Itm) (lv : Value) (w : World) : Calls Tryz.prog 64 #[itV x lv] w fun e w' => e = .returned (kV x) ∧ Below w.heap.size w w' := by
  obtain ⟨sg, n, ff, op, cl, nd⟩ := x
  unfold itV kV kindV
  dsimp only
  obtain ⟨x0, x1, x2, x3, x4⟩ := box5 w (.int .u8 sg.toNat) (.int .i64 ff) (.bool op) (.bool cl) lv 94
  have b0 : Below w.heap.size w (w.alloc (.cells #[.int .u8 sg.toNat, .int .i64 ff, .bool op, .bool cl, lv] 94)) := (Below.refl _ w).alloc (Nat.le_refl _) _
  have HB := Lib.hid b0
  clear b0
  go_enter Tryz.func64, Tryz.ntmps64
  go_wp2
  all_goals refine bodyPost_ret (results_cell_row rfl _ _ _ 147 _ (0, 0) _ rfl (heap_alloc2_new _ _ _) Tryz.underlying147 rfl (by kernel_rfl)) rfl ?_
  all_goals exact ⟨by simp_all, ((Below.refl _ w).alloc (Nat.le_refl _) _).alloc (by simp) _⟩
def fitK (sg : UInt8) (b : Bool) (r : Int) (b2 : Bool) (r2 : Int) : Bool := !((b || b2) && (r + r2).tmod 3 == 0 && !(r == 0 && r2 == 0))
theorem fits_any (sg sg2 : UInt8) (b b2 : Bool) (r r2 : Int) (w : World) (h1 : -2 ≤ r ∧ r ≤ 2) (h2 : -2 ≤ r2 ∧ r2 ≤ 2) : Calls Tryz.prog 127 #[kindV sg b r, kindV sg2 b2 r2] w fun e w' => e = .returned (.bool (fitK sg b r b2 r2)) ∧ Below w.heap.size w w' := by
  unfold kindV
  have hw0 : wrap64 (r + r2) = r + r2 := by simp only [wrap64]; omega
  have hw1 : wrap64 r = r := by simp only [wrap64]; omega
  have hw2 : wrap64 r2 = r2 := by simp only [wrap64]; omega
  have HW := Lib.hid (And.intro hw0 (And.intro hw1 hw2))
  clear h1 h2
  go_enter Tryz.func127, Tryz.ntmps127
  go_wp2
  all_goals (go_ret; refine ⟨ret_bool (by simp_all [fitK]), ((Below.refl _ w).alloc (Nat.le_refl _) _).alloc (by simp) _⟩)
end Go.Proofs.YtfbaknkmpilllaaGreatDoor

namespace Go.Proofs.YtfbaknkmpilllaaGreatDoor
open Go.RowKit
set_option linter.unusedSimpArgs false
set_option linter.unusedVariables false
set_option maxRecDepth 100000
theorem em_width (s : ByteArray) (k : Nat) (h : k < s.size) : 1 ≤ (Utf8.decode s k).2 := by
  by_cases ha : s[k].toNat < 128
  · rw [decode_ascii s k h ha]; exact Nat.le_refl _
  · exact (decode_high s k h (by omega)).2
theorem em_strcells (l acc : List UInt8) (s : ByteArray) (h : s.data.toList = l) : Lib.byteCells acc ++ Lib.strCells s = Lib.byteCells (acc ++ l) := by
  rw [Lib.byteCells_append, ← h]; rfl
theorem em_extract (s : ByteArray) (t k : Nat) : (s.extract t k).data.toList = (s.data.toList.take k).drop t := by simp [List.drop_take]
theorem em_isB {T e : TypeId} {B b : Nat} {bs : List Value} {w w' : World} (h : Lib.IsBuilderF T e B b bs w) (hb : Below w.heap.size w w') : Lib.IsBuilderF T e B b bs w' := by
  have go : ∀ p, Lib.BuilderAtF T e B b p bs w → Lib.BuilderAtF T e B b p bs w' := by
    rintro p ⟨hB, v, hbk, hown, hne⟩
    refine ⟨hB, v, (hb.block b (Array.getElem?_eq_some_iff.1 hbk).1).trans hbk, ⟨hown.1, ?_⟩, hne⟩
    rcases hown.2 with hn | ⟨g, cap, cur, fz, hv, hbg, hg, rest⟩
    · exact .inl hn
    · exact .inr ⟨g, cap, cur, fz, hv, hbg, (hb.block g (Array.getElem?_eq_some_iff.1 hg).1).trans hg, rest⟩
  exact h.elim (fun x => .inl (go _ x)) (fun x => .inr (go _ x))
def AddRel (B b : Nat) (l : List UInt8) (s : ByteArray) (w : World) (z : Value) (wr : World) : Prop :=
  ∃ k t : Nat, z = .int .i64 t ∧ t ≤ k ∧ k ≤ s.size ∧ wr.heap[w.heap.size]? = some (.stringIter s k) ∧ Lib.IsBuilderF 69 5 B b (Lib.byteCells (l ++ s.data.toList.take t)) wr ∧ Below B w wr
set_option maxHeartbeats 4000000 in
theorem add_any (B b : Nat) (l : List UInt8) (s : ByteArray) (w : World) (hI0 : Lib.IsBuilderF 69 5 B b (Lib.byteCells l) w) (hBw : B ≤ w.heap.size) (hbw0 : b < w.heap.size) (hs : l.length + s.size ≤ 140737488355328) :
    Calls Tryz.prog 25 #[.pointer (some ⟨b, 0, none⟩), .string s] w fun e w' => e = .returned (.tuple #[]) ∧ Lib.IsBuilderF 69 5 B b (Lib.byteCells (l ++ s.data.toList)) w' ∧ Below B w w' := by
  have HI0 := Lib.hid hI0
  clear hI0
  go_enter Tryz.func25, Tryz.ntmps25
  go_wp2_with fail
  go_loopw [4] (fun z wr => AddRel B b l s w z wr) (fun _ wr => s.size - wr.iterPos w.heap.size)
  case atStart =>
    refine ⟨0, 0, rfl, Nat.le_refl _, Nat.zero_le _, World.iter_heap w s 0, ?_, (Below.refl _ w).alloc hBw _⟩
    rw [List.take_zero, List.append_nil]
    exact HI0.out.alloc _
  case round =>
    obtain ⟨k, t, rfl, ht, hk, hit, hI, hbw⟩ := hrel
    have hsz : w.heap.size < wr.heap.size := (Array.getElem?_eq_some_iff.1 hit).1
    have hlen : (s.data.toList.take t).length ≤ t := by rw [List.length_take]; omega
    by_cases hp : k < s.size
    · have hnx : ∀ ty, (Instr.next (.pointer (some ⟨w.heap.size, 0, none⟩)) true ty).run Tryz.prog wr = _ := fun ty => Lib.run_next_any_at wr w.heap.size s k ty hit hp
      have hwd := em_width s k hp
      have hd2 := (decode_tail s k hp).1
      have hI2 := hI.iterAt hit (k + (Utf8.decode s k).2)
      have hit2 := Lib.iterAt_heap wr w.heap.size s k (k + (Utf8.decode s k).2) hit
      have hbw2 := Lib.below_iterAt hbw (k := w.heap.size) (by omega) s (k + (Utf8.decode s k).2)
      have hsz2 : w.heap.size < (wr.iterAt w.heap.size s (k + (Utf8.decode s k).2)).heap.size := by rw [Lib.iterAt_size]; omega
      have Hit := Lib.hid hit
      clear hit hbw hI
      have hsl := slice_lohi s t k t k rfl rfl ht (by omega)
      have hws := Tryz.Builder_WriteString_k B b _ (s.extract t k) _ hI2 (by rw [Lib.byteCells_length, List.length_append, ByteArray.size_extract]; omega) (by omega)
      rw [em_strcells _ _ _ (em_extract s t k), List.append_assoc, show s.data.toList.take t ++ (s.data.toList.take k).drop t = s.data.toList.take k from by
        conv => rhs; rw [← List.take_append_drop t (s.data.toList.take k), List.take_take, Nat.min_eq_left ht]] at hws
      have HW := Lib.hid hws
      clear hws hI2
      generalize hdd : Utf8.decode s k = d at *
      obtain ⟨d1, d2⟩ := d
      simp only at *
      go_wp2_with fail
      refine HW.out.mono ?_
      rintro e w2 ⟨rfl, g2, b2, k2⟩
      have hit3 := Lib.hid (k2.iter hit2 (by omega))
      have hs4 := b2.size
      have hB2 := Lib.hid (hbw2.trans b2)
      have HG := Lib.hid g2
      clear g2 hbw2
      go_wp2
      go_roundw
      case rel => exact ⟨k + d2, k, rfl, by omega, hd2, hit3.out, Or.inr HG.out, hB2.out⟩
      case measure => simp only [World.iterPos, hit3.out, Hit.out]; omega
    · have hnx : ∀ ty, (Instr.next (.pointer (some ⟨w.heap.size, 0, none⟩)) true ty).run Tryz.prog wr = _ := fun ty => Lib.run_next_end_at wr w.heap.size s k ty hit hp
      obtain rfl : k = s.size := by omega
      have hsl := slice_lo s t t rfl ht
      have hws := Tryz.Builder_WriteString_k B b _ (s.extract t s.size) _ hI (by rw [Lib.byteCells_length, List.length_append, ByteArray.size_extract]; omega) (by omega)
      rw [em_strcells _ _ _ (em_extract s t s.size), List.append_assoc, show s.data.toList.take t ++ (s.data.toList.take s.size).drop t = s.data.toList from by
        rw [List.take_of_length_le (l := s.data.toList) (i := s.size) (by simp)]; exact List.take_append_drop t _] at hws
      have HW := Lib.hid hws
      clear hws hI
      go_wp2_with fail
      refine HW.out.mono ?_
      rintro e w2 ⟨rfl, g2, b2, k2⟩
      have HG := Lib.hid (show Lib.IsBuilderF 69 5 B b (Lib.byteCells (l ++ s.data.toList)) w2 from Or.inr g2)
      clear g2
      go_wp2
      go_end0
      exact ⟨rfl, HG.out, hbw.trans b2⟩
def TextRel (X : List Iln) (w : World) (i : Value) (wr : World) : Prop :=
  ∃ k : Nat, i = .int .i64 k ∧ k ≤ X.length ∧ Lib.IsBuilderF 69 5 w.heap.size w.heap.size (Lib.byteCells (textI (X.take k))) wr ∧ Below w.heap.size w wr ∧ w.heap.size < wr.heap.size
theorem textI_take (X : List Iln) (k : Nat) (h : k < X.length) : textI (X.take (k + 1)) = textI (X.take k) ++ ilText X[k] := by
  rw [List.take_succ_eq_append_getElem h, textI_append]; simp [textI]
theorem textI_le (X : List Iln) (k : Nat) : (textI (X.take k)).length ≤ (textI X).length := by
  have := congrArg List.length (show textI X = textI (X.take k) ++ textI (X.drop k) from by rw [← textI_append, List.take_append_drop])
  rw [List.length_append] at this
  omega
set_option maxHeartbeats 4000000 in
theorem text_inl (A : Option Addr) (cap : Nat) (X : List Iln) (w : World) (hrow : InlsAt w A cap X) (hlen : (textI X).length ≤ 140737488355328) :
    Calls Tryz.prog 18 #[.slice A X.length cap] w fun e w' => e = .returned (.string ⟨(textI X).toArray⟩) ∧ Below w.heap.size w w' := by
  have hl1 := hrow.le
  have hl2 := hrow.cap
  unfold maxLen at hl2
  go_enter Tryz.func18, Tryz.ntmps18
  go_wp2_with fail
  go_loopw [8] (fun i wr => TextRel X w i wr) (fun i wr => X.length - (intOf i).toNat)
  case atStart =>
    refine ⟨0, rfl, Nat.zero_le _, Lib.IsBuilderF.of (Lib.fresh_isBuilder 69 5 w), (Below.refl _ w).alloc (Nat.le_refl _) _, (by show _ < (w.heap.push _).size; simp)⟩
  case round =>
    obtain ⟨k, rfl, hk, hI, hbw, hsz⟩ := hrel
    by_cases hp : k < X.length
    · obtain ⟨b, off, rfl, hb, c0, c1, c2, c3, c4⟩ := InlsAt.cells5 (EltsAt.below hrow hbw) hp
      have HJ := Lib.hid (textI_take X k hp)
      have h1 := textI_le X (k + 1)
      rw [HJ.out, List.length_append] at h1
      have hsh := fun w1 => shown_any X[k] w1
      have h2 : (⟨(ilText X[k]).toArray⟩ : ByteArray).size = (ilText X[k]).length := rfl
      generalize hx : X[k] = x at *
      obtain ⟨kd, dp, txt, url, ttl⟩ := x
      have HS := Lib.hid hsh
      have HI := Lib.hid hI
      have HX := Lib.hid hx
      clear hsh hI hx
      unfold ilV at HS
      dsimp only at HS c0 c1 c2 c3 c4
      go_wp2_with fail
      refine (HS.out _).mono ?_
      rintro e w1 ⟨rfl, b1⟩
      have hs1 := b1.size
      have hsA := alloc_size wr (.cells #[.int .i64 kd, .int .i64 dp, .string ⟨txt.toArray⟩, .string ⟨url.toArray⟩, .string ⟨ttl.toArray⟩] 30)
      have hI1 := em_isB (em_isB HI.out ((Below.refl _ wr).alloc (Nat.le_refl _) _)) b1
      have hb1 : Below w.heap.size w w1 := (hbw.alloc (by omega) _).trans (b1.mono (by omega))
      have HA := Lib.hid (add_any w.heap.size w.heap.size _ ⟨(ilText ⟨kd, dp, txt, url, ttl⟩).toArray⟩ w1 hI1 (by omega) (by omega) (by rw [h2]; omega))
      rw [show (⟨(ilText ⟨kd, dp, txt, url, ttl⟩).toArray⟩ : ByteArray).data.toList = ilText ⟨kd, dp, txt, url, ttl⟩ from rfl, ← HJ.out] at HA
      clear hI1
      go_wp2_with fail
      refine HA.out.mono ?_
      rintro e w2 ⟨rfl, hI2, b2⟩
      have hs2 := b2.size
      have HI2 := Lib.hid hI2
      clear hI2
      go_wp2
      go_roundw
      case rel => exact ⟨k + 1, by go_num, by omega, HI2.out, hb1.trans b2, by omega⟩
      case measure => simp [intOf]; omega
    · obtain rfl : k = X.length := by omega
      rw [List.take_length] at hI
      go_wp2_with fail
      refine (Tryz.Builder_String_any_k w.heap.size w.heap.size _ _ hI (by omega)).mono ?_
      rintro e w1 ⟨rfl, _, b1, _⟩
      go_wp2
      go_ret
      exact ⟨rfl, hbw.trans b1⟩
end Go.Proofs.YtfbaknkmpilllaaGreatDoor

namespace Go.Proofs.YtfbaknkmpilllaaGreatDoor
open Go.RowKit
set_option linter.unusedSimpArgs false
set_option linter.unusedVariables false
set_option maxRecDepth 100000
def dropI (A : Option Addr) (cap k : Nat) : Option Addr := if cap = k then A else A.map (·.add (k * 5))
theorem InlsAt.dropL {w : World} {A : Option Addr} {cap : Nat} {X : List Iln} (h : InlsAt w A cap X) {k : Nat} (hk : k ≤ X.length) : InlsAt w (dropI A cap k) (cap - k) (X.drop k) := by
  have h1 := h.le
  have h2 := h.cap
  refine ⟨by rw [List.length_drop]; omega, by omega, ?_⟩
  by_cases h0 : X.drop k = []
  · exact Or.inl h0
  · have hlt : k < X.length := by
      rw [List.drop_eq_nil_iff] at h0
      omega
    rcases h.cells with e | ⟨b, off, e, hb, hc⟩
    · rw [e] at hlt; simp at hlt
    · refine Or.inr ⟨b, off + k * 5, ?_, hb, fun i hi j u hu => ?_⟩
      · unfold dropI
        rw [if_neg (by omega), e, Option.map_some, addr_add]
      · rw [List.length_drop] at hi
        rw [List.getElem_drop] at hu
        have := hc (k + i) (by omega) j u hu
        rw [← this]
        congr 2
        omega
theorem InlsAt.takeL {w : World} {A : Option Addr} {cap : Nat} {X : List Iln} (h : InlsAt w A cap X) (k : Nat) : InlsAt w A cap (X.take k) := by
  refine ⟨by rw [List.length_take]; have := h.le; omega, h.cap, ?_⟩
  rcases h.cells with e | ⟨b, off, e, hb, hc⟩
  · exact Or.inl (by rw [e]; simp)
  · refine Or.inr ⟨b, off, e, hb, fun i hi j u hu => ?_⟩
    rw [List.length_take] at hi
    rw [List.getElem_take] at hu
    exact hc i (by omega) j u hu
theorem elem_inls : Tryz.prog.elem 27 = 30 := by kernel_rfl
theorem islice_low (A : Option Addr) (len cap k : Nat) (h : k ≤ len) (W : World) : (Instr.slice 27 (.slice A len cap) (some (.int .i64 (k : Int))) none none).run Tryz.prog W = .ok (.slice (dropI A cap k) (len - k) (cap - k)) W := by
  rw [run_slice_l W 27 A len cap (by kernel_rfl) .i64 (k : Int) (by omega) (by omega)]
  rw [show Tryz.prog.elem 27 = 30 from elem_inls]
  go_simp
  simp [sliced, dropI]
theorem islice_high (A : Option Addr) (len cap k : Nat) (h : k ≤ cap) (W : World) : (Instr.slice 27 (.slice A len cap) none (some (.int .i64 (k : Int))) none).run Tryz.prog W = .ok (.slice A k cap) W := by
  rw [run_slice_h W 27 A len cap (by kernel_rfl) .i64 (k : Int) (by omega) (by omega)]
  rw [show Tryz.prog.elem 27 = 30 from elem_inls]
  go_simp
theorem ils_one' (X : List Iln) : ∀ u ∈ flt ilC X, u.oneCell' = true := by
  intro u hu
  obtain ⟨x, _, hx⟩ := List.mem_flatMap.1 hu
  exact ilC_one x u hx
/-- What a row owns at its beginning. -/
theorem own_cut {w : World} {B g n cap s m : Nat} {e : TypeId} {xs : List Value} (h : w.ownsRow B e s (.slice (some ⟨g, 0, none⟩) n cap) n xs) (hm : m ≤ n) : w.ownsRow B e s (.slice (some ⟨g, 0, none⟩) m cap) m (xs.take (m * s)) := by
  have hl := h.1
  have hms : m * s ≤ n * s := Nat.mul_le_mul_right s hm
  refine ⟨by rw [List.length_take]; omega, ?_⟩
  rcases h.2 with ⟨e1, _⟩ | ⟨g', cap', cur, e1, hb, hg, hnc, hcm, hcs, ht⟩
  · cases e1
  · cases e1
    refine Or.inr ⟨g, cap, cur, rfl, hb, hg, by omega, hcm, hcs, ?_⟩
    rw [← ht, List.take_take, Nat.min_eq_left hms]
/-- Cells behind some place are written over. -/
theorem own_setCells {B g n cap s : Nat} {e : TypeId} : ∀ (L : List Value) (o : Nat) (w : World) (xs : List Value), w.ownsRow B e s (.slice (some ⟨g, 0, none⟩) n cap) n xs →
    ∃ ys, ys.take o = xs.take o ∧ (w.setCells g o L).ownsRow B e s (.slice (some ⟨g, 0, none⟩) n cap) n ys ∧ w.grownBy (w.setCells g o L) (some g)
  | [], o, w, xs, h => ⟨xs, rfl, h, ⟨rfl, rfl, rfl, Nat.le_refl _, fun _ _ _ => rfl⟩⟩
  | v :: L, o, w, xs, h => by
    obtain ⟨s1, g1⟩ := h.stored o v
    obtain ⟨ys, h1, h2, h3⟩ := own_setCells L (o + 1) _ _ s1
    refine ⟨ys, ?_, h2, g1.trans h3⟩
    have := congrArg (List.take o) h1
    rw [List.take_take, List.take_take, Nat.min_eq_left (by omega)] at this
    rw [this, List.take_set_of_le (Nat.le_refl o)]
theorem clone_inls (A : Option Addr) (cap : Nat) (ls : List Iln) (w : World) (hrow : InlsAt w A cap ls) (hn : ls.length ≤ 100000000) :
    Calls Tryz.prog 66 #[.slice A ls.length cap] w fun e w' => ∃ v, e = .returned v ∧ w'.ownsRow w.heap.size 30 5 v ls.length (flt ilC ls) ∧ Below w.heap.size w w' := by
  obtain ⟨i0, hi, hz0, hz1, hz2⟩ := info_parts infoInl
  have hl := flt_length ilC_length ls
  have h1 := ils_one' ls
  have qe : ∀ (w : World) (a : Option Addr) (n c n' c' : Nat), (binOp .eql 27 (.slice a n c) (.slice none n' c')).run Tryz.prog w = .ok (.bool a.isNone) w := fun w a n c n' c' => Lib.run_eql_slice_nil w _ _ a n c n' c' Tryz.underlying27
  rcases A with _ | ad
  · have h0 : ls = [] := by
      rcases hrow.cells with h | ⟨b, off, e, _⟩
      · exact h
      · cases e
    subst h0
    go_enter Tryz.func66, Tryz.ntmps66
    go_wp2
    go_ret
    exact ⟨_, rfl, World.ownsRow_nil _ _ _ _, Below.refl _ _⟩
  · have hown0 : (w.alloc (.cells #[] 30)).ownsRow w.heap.size 30 5 (.slice (some ⟨w.heap.size, 0, none⟩) 0 0) 0 [] :=
      ⟨rfl, .inr ⟨w.heap.size, 0, #[], rfl, Nat.le_refl _, heap_alloc_new w _, Nat.le_refl _, Nat.zero_le _, rfl, rfl⟩⟩
    have b0 : Below w.heap.size w (w.alloc (.cells #[] 30)) := (Below.refl _ w).alloc (Nat.le_refl _) _
    have hc := (hrow.below b0).flat ilC_length (by decide)
    have hbs := b0.size
    have HL := Lib.hid hl
    have HB0 := Lib.hid b0
    clear hl b0
    go_enter Tryz.func66, Tryz.ntmps66
    go_wp2_with (at_builtin; refine wpList_append_own _ rfl _ _ 27 rfl w.heap.size 30 i0 (.agg #[.int .i64 0, .int .i64 0, .string ByteArray.empty, .string ByteArray.empty, .string ByteArray.empty]) 5 64 Tryz.underlying27 hi hz0 hz1 hz2 rfl (by decide) _ 0 [] rfl hown0 ad ls.length cap (flt ilC ls) rfl HL.out hc h1 (by unfold maxLen; omega) (by omega) hbs ?_)
    intro v' w2 hown' hgrow _
    have hb := HB0.out.grown hgrow hbs (fun k hk => (hown0.lt k hk).1)
    have HO := Lib.hid hown'
    clear hown' hgrow
    go_wp2
    go_ret
    exact ⟨_, rfl, by simpa using HO.out, hb⟩
/-- What the search answers. -/
def idxI (p : Iln → Bool) (X : List Iln) : Int := if X.findIdx p < X.length then (X.findIdx p : Int) else -1
theorem idx_step {p : Iln → Bool} {X : List Iln} {k : Nat} (hk : k < X.length) (h : k ≤ X.findIdx p) : (p X[k] = true → X.findIdx p = k) ∧ (p X[k] = false → k + 1 ≤ X.findIdx p) := by
  constructor
  · intro hp
    rcases Nat.lt_or_ge k (X.findIdx p) with h1 | h1
    · have := List.not_of_lt_findIdx h1
      simp [hp] at this
    · omega
  · intro hp
    rcases Nat.lt_or_ge k (X.findIdx p) with h1 | h1
    · exact h1
    · have e : X.findIdx p = k := by omega
      have := List.findIdx_getElem (w := show X.findIdx p < X.length by omega)
      simp only [e] at this
      rw [hp] at this
      cases this
def togI (y x : Iln) : Bool := !(x.kd == 1) || !(x.dp == y.dp)
theorem tog1_any (x y : Iln) (X : List Iln) (bx : Nat) (A : Option Addr) (cap n : Nat) (w : World) (hn : n = (y :: X).length) (hbx : w.cell? ⟨bx, 0, none⟩ = some (.slice A n cap)) (hlt : bx < w.heap.size) (hrow : InlsAt w A cap (y :: X)) :
    Calls Tryz.prog 101 #[ilV x, .pointer (some ⟨bx, 0, none⟩)] w fun e w' => e = .returned (.bool (togI y x)) ∧ Below w.heap.size w w' := by
  obtain ⟨k, d, s, u, t⟩ := x
  obtain ⟨b, off, rfl, hb, c0, c1, c2, c3, c4⟩ := InlsAt.cells5 hrow (k := 0) (by simp)
  simp only [List.getElem_cons_zero, Nat.zero_mul, Nat.add_zero] at c1
  have b0 : Below w.heap.size w (w.alloc (.cells #[.int .i64 k, .int .i64 d, .string ⟨s.toArray⟩, .string ⟨u.toArray⟩, .string ⟨t.toArray⟩] 30)) := (Below.refl _ w).alloc (Nat.le_refl _) _
  have hbx1 := (b0.cell (p := ⟨bx, 0, none⟩) hlt).trans hbx
  have c11 := (b0.cell (p := ⟨b, off + 1, none⟩) hb).trans c1
  have hn0 : 0 < n := by rw [hn]; simp
  unfold ilV togI
  dsimp only
  generalize y.dp = yd at *
  clear hrow c0 c2 c3 c4 c1 hbx hn
  have hbs : b < (w.alloc (.cells #[.int .i64 k, .int .i64 d, .string ⟨s.toArray⟩, .string ⟨u.toArray⟩, .string ⟨t.toArray⟩] 30)).heap.size := by simp; omega
  clear b0
  obtain ⟨x0, x1, x2, x3, x4⟩ := box5 w (.int .i64 k) (.int .i64 d) (.string ⟨s.toArray⟩) (.string ⟨u.toArray⟩) (.string ⟨t.toArray⟩) 30
  by_cases hk : k = 1
  · subst hk
    go_enter Tryz.func101, Tryz.ntmps101
    go_wp2_with fail
    go_quiet (fail)
    all_goals go_wp2
    all_goals go_ret
    all_goals exact ⟨ret_bool (by simp [bne]), below_drewN' ((Below.refl _ w).alloc (Nat.le_refl _) _) _⟩
  · have hk1 : (k != 1) = true := by simpa using hk
    have hk2 : (k == 1) = false := by simpa using hk
    go_enter Tryz.func101, Tryz.ntmps101
    go_wp2_with fail
    go_quiet (fail)
    all_goals go_wp2
    all_goals go_ret
    all_goals exact ⟨ret_bool (by simp [hk]), below_drewN' ((Below.refl _ w).alloc (Nat.le_refl _) _) _⟩
def emI (x : Iln) : Bool := x.kd == 1 && x.txt == []
theorem emI_any (x : Iln) (w : World) : Calls Tryz.prog 67 #[ilV x] w fun e w' => e = .returned (.bool (emI x)) ∧ Below w.heap.size w w' := empty_any x w
set_option maxHeartbeats 2000000 in
theorem idxE_any (A : Option Addr) (c : Nat) (X : List Iln) (w : World) (hrow : InlsAt w A c X) :
    Calls Tryz.prog 100 #[.slice A X.length c, .func (.func 67) #[] #[]] w fun e w' => e = .returned (.int .i64 (idxI emI X)) ∧ Below w.heap.size w w' := by
  have hcl := hrow.le
  have hcm := hrow.cap
  unfold maxLen at hcm
  go_enter Tryz.func100, Tryz.ntmps100
  go_wp2_with fail
  go_loopw [8] (fun i wr => ∃ k : Nat, i = .int .i64 k ∧ k ≤ X.length ∧ k ≤ X.findIdx emI ∧ Below w.heap.size w wr) (fun i _ => X.length - (intOf i).toNat)
  case atStart => exact ⟨0, rfl, Nat.zero_le _, Nat.zero_le _, Below.refl _ _⟩
  case round =>
    obtain ⟨k, rfl, hk, hf, hbw⟩ := hrel
    have HR := Lib.hid hrow
    by_cases hp : k < X.length
    · obtain ⟨b, off, rfl, hb, c0, c1, c2, c3, c4⟩ := InlsAt.cells5 (EltsAt.below hrow hbw) hp
      obtain ⟨st1, st2⟩ := idx_step (p := emI) hp hf
      have HS1 := Lib.hid st1
      have HS2 := Lib.hid st2
      have ce := Lib.hid (fun w1 => emI_any X[k] w1)
      have HF := Lib.hid hf
      clear hf st1 st2 hrow
      generalize hx : X[k] = x at *
      have HXX := Lib.hid hx
      clear hx
      cases hpx : emI x with
      | true =>
        rw [hpx] at ce HS1
        have HE := Lib.hid (HS1.out rfl)
        clear HS1 HS2 hpx
        obtain ⟨kd, dp, txt, url, ttl⟩ := x
        unfold ilV at ce
        dsimp only at ce c0 c1 c2 c3 c4
        go_wp2_with fail
        refine (ce.out _).mono ?_
        rintro e w1 ⟨rfl, b1⟩
        go_wp2
        go_ret
        exact ⟨by unfold idxI; rw [HE.out, if_pos hp]; rfl, hbw.then b1⟩
      | false =>
        rw [hpx] at ce HS2
        have HE := Lib.hid (HS2.out rfl)
        clear HS1 HS2 hpx
        obtain ⟨kd, dp, txt, url, ttl⟩ := x
        unfold ilV at ce
        dsimp only at ce c0 c1 c2 c3 c4
        go_wp2_with fail
        refine (ce.out _).mono ?_
        rintro e w1 ⟨rfl, b1⟩
        go_wp2
        go_roundw
        case rel => exact ⟨k + 1, by go_num, by omega, HE.out, hbw.then b1⟩
        case measure => simp [intOf]; omega
    · obtain rfl : k = X.length := by omega
      have HE := Lib.hid hf
      clear hf hrow HR
      go_wp2
      go_ret
      exact ⟨by unfold idxI; rw [if_neg (by have := HE.out; omega)]; rfl, hbw⟩
set_option maxHeartbeats 2000000 in
theorem idxT_any (A : Option Addr) (c : Nat) (X : List Iln) (y : Iln) (Y : List Iln) (bx : Nat) (w : World) (hrow : InlsAt w A c X) (hX : X = y :: Y) (hbx : w.cell? ⟨bx, 0, none⟩ = some (.slice A X.length c)) (hlt : bx < w.heap.size) :
    Calls Tryz.prog 100 #[.slice A X.length c, .func (.func 101) #[] #[.pointer (some ⟨bx, 0, none⟩)]] w fun e w' => e = .returned (.int .i64 (idxI (togI y) X)) ∧ Below w.heap.size w w' := by
  have hcl := hrow.le
  have hcm := hrow.cap
  unfold maxLen at hcm
  have ctog := Lib.hid (fun (x : Iln) (W : World) (hb : Below w.heap.size w W) => tog1_any x y Y bx A c X.length W (by rw [hX]) ((hb.cell (p := ⟨bx, 0, none⟩) hlt).trans hbx) (Nat.lt_of_lt_of_le hlt hb.size) (by rw [← hX]; exact EltsAt.below hrow hb))
  clear hbx hX
  go_enter Tryz.func100, Tryz.ntmps100
  go_wp2_with fail
  go_loopw [8] (fun i wr => ∃ k : Nat, i = .int .i64 k ∧ k ≤ X.length ∧ k ≤ X.findIdx (togI y) ∧ Below w.heap.size w wr) (fun i _ => X.length - (intOf i).toNat)
  case atStart => exact ⟨0, rfl, Nat.zero_le _, Nat.zero_le _, Below.refl _ _⟩
  case round =>
    obtain ⟨k, rfl, hk, hf, hbw⟩ := hrel
    have HR := Lib.hid hrow
    by_cases hp : k < X.length
    · obtain ⟨b, off, rfl, hb, c0, c1, c2, c3, c4⟩ := InlsAt.cells5 (EltsAt.below hrow hbw) hp
      obtain ⟨st1, st2⟩ := idx_step (p := (togI y)) hp hf
      have HS1 := Lib.hid st1
      have HS2 := Lib.hid st2
      have ce := Lib.hid (fun (W : World) (h : Below w.heap.size w W) => ctog.out X[k] W h)
      have HF := Lib.hid hf
      clear hf st1 st2 hrow
      generalize hx : X[k] = x at *
      have HXX := Lib.hid hx
      clear hx
      cases hpx : (togI y) x with
      | true =>
        rw [hpx] at ce HS1
        have HE := Lib.hid (HS1.out rfl)
        clear HS1 HS2 hpx
        obtain ⟨kd, dp, txt, url, ttl⟩ := x
        unfold ilV at ce
        dsimp only at ce c0 c1 c2 c3 c4
        go_wp2_with fail
        refine (ce.out _ hbw).mono ?_
        rintro e w1 ⟨rfl, b1⟩
        go_wp2
        go_ret
        exact ⟨by unfold idxI; rw [HE.out, if_pos hp]; rfl, hbw.then b1⟩
      | false =>
        rw [hpx] at ce HS2
        have HE := Lib.hid (HS2.out rfl)
        clear HS1 HS2 hpx
        obtain ⟨kd, dp, txt, url, ttl⟩ := x
        unfold ilV at ce
        dsimp only at ce c0 c1 c2 c3 c4
        go_wp2_with fail
        refine (ce.out _ hbw).mono ?_
        rintro e w1 ⟨rfl, b1⟩
        go_wp2
        go_roundw
        case rel => exact ⟨k + 1, by go_num, by omega, HE.out, hbw.then b1⟩
        case measure => simp [intOf]; omega
    · obtain rfl : k = X.length := by omega
      have HE := Lib.hid hf
      clear hf hrow HR
      go_wp2
      go_ret
      exact ⟨by unfold idxI; rw [if_neg (by have := HE.out; omega)]; rfl, hbw⟩
/-- How many words of one depth stand at the beginning. -/
theorem together_any (A : Option Addr) (c : Nat) (y : Iln) (Y : List Iln) (w : World) (hrow : InlsAt w A c (y :: Y)) :
    Calls Tryz.prog 68 #[.slice A (y :: Y).length c] w fun e w' => e = .returned (.int .i64 ((y :: Y).findIdx (togI y) : Nat)) ∧ Below w.heap.size w w' := by
  have hmf : ∀ (fn : Fn) (first cap : Array Value) (w : World), (Instr.makeFunc fn first cap).run Tryz.prog w = .ok (.func fn first cap) w := fun _ _ _ _ => rfl
  have b0 : Below w.heap.size w (w.alloc (.cells #[.slice A (y :: Y).length c] 27)) := (Below.refl _ w).alloc (Nat.le_refl _) _
  have hc0 : (w.alloc (.cells #[.slice A (y :: Y).length c] 27)).cell? ⟨w.heap.size, 0, none⟩ = some (.slice A (y :: Y).length c) := by simp
  have hs0 := alloc_size w (.cells #[.slice A (y :: Y).length c] 27)
  have ci := idxT_any A c (y :: Y) y Y w.heap.size _ (EltsAt.below hrow b0) rfl hc0 (by show w.heap.size < _; omega)
  have hcm := hrow.cap
  have hle := hrow.le
  unfold maxLen at hcm
  unfold idxI at ci
  have HL := Lib.hid (List.findIdx_le_length (p := togI y) (xs := y :: Y))
  have HB := Lib.hid b0
  clear hrow b0
  generalize (y :: Y).findIdx (togI y) = i at *
  generalize (y :: Y).length = n at *
  by_cases hi : i < n
  · rw [if_pos hi] at ci
    go_enter Tryz.func68, Tryz.ntmps68
    go_wp2_with fail
    refine ci.mono ?_
    rintro e w1 ⟨rfl, b1⟩
    go_wp2
    go_ret
    exact ⟨rfl, HB.out.then b1⟩
  · rw [if_neg hi] at ci
    have hin : i = n := by have := HL.out; omega
    subst hin
    go_enter Tryz.func68, Tryz.ntmps68
    go_wp2_with fail
    refine ci.mono ?_
    rintro e w1 ⟨rfl, b1⟩
    have hc1 := (b1.cell (p := ⟨w.heap.size, 0, none⟩) (by show w.heap.size < _; omega)).trans hc0
    go_wp2
    go_ret
    exact ⟨rfl, HB.out.then b1⟩
end Go.Proofs.YtfbaknkmpilllaaGreatDoor

namespace Go.Proofs.YtfbaknkmpilllaaGreatDoor
open Go.RowKit
set_option linter.unusedSimpArgs false
set_option linter.unusedVariables false
set_option maxRecDepth 100000
theorem run_clear_inls (w : World) (B g cap n k : Nat) (xs : List Value) (h : w.ownsRow B 30 5 (.slice (some ⟨g, 0, none⟩) n cap) n xs) (hk : k < n) (c : Nat) (ty : TypeId) :
    ∃ w', (Builtin.clear_ #[27] ty #[.slice (some ⟨g, k * 5, none⟩) (n - k) c]).run Tryz.prog w = .ok (.tuple #[]) w' ∧
      w'.ownsRow B 30 5 (.slice (some ⟨g, 0, none⟩) k cap) k (xs.take (k * 5)) ∧ w.grownBy w' (some g) := by
  have hz : ∀ W : World, (zeroValue 30).run Tryz.prog W = .ok (.agg #[.int .i64 0, .int .i64 0, .string ByteArray.empty, .string ByteArray.empty, .string ByteArray.empty]) W := fun W => by kernel_rfl
  obtain ⟨m, hm⟩ : ∃ m, n - k = m + 1 := ⟨n - k - 1, by omega⟩
  have hcs : (Value.agg #[.int .i64 0, .int .i64 0, .string ByteArray.empty, .string ByteArray.empty, .string ByteArray.empty]).cells = #[.int .i64 0, .int .i64 0, .string ByteArray.empty, .string ByteArray.empty, .string ByteArray.empty] := by kernel_rfl
  obtain ⟨L, hL, hl5, h1⟩ : ∃ L : List Value, (Builtin.zeroCells #[.int .i64 0, .int .i64 0, .string ByteArray.empty, .string ByteArray.empty, .string ByteArray.empty] (n - k)).toList = L ∧ L.length = (n - k) * 5 ∧ ∀ u ∈ L, u.oneCell' = true := by
    refine ⟨_, rfl, ?_, fun u hu => ?_⟩
    · simp [Builtin.zeroCells]
    · simp [Builtin.zeroCells] at hu
      obtain ⟨i, _, rfl⟩ := hu
      have : i % 5 < 5 := Nat.mod_lt _ (by decide)
      match h : i % 5, this with
      | 0, _ => simp [h]; rfl
      | 1, _ => simp [h]; rfl
      | 2, _ => simp [h]; rfl
      | 3, _ => simp [h]; rfl
      | 4, _ => simp [h]; rfl
  have hlen := h.1
  have hst := run_storeCells_cells (P := Tryz.prog) g (k * 5) L 0 w
    (fun j hj => by rw [Nat.add_zero, h.cellAt _ (by omega), List.getElem?_eq_getElem (by omega)]; rfl)
    (fun j hj => h.frozenAt _) h1
  simp only [Nat.add_zero] at hst
  obtain ⟨ys, e1, e2, e3⟩ := own_setCells L (k * 5) w xs h
  refine ⟨w.setCells g (k * 5) L, ?_, ?_, e3⟩
  · rw [hm] at hL ⊢
    simp [Builtin.clear_, run_underlying Tryz.underlying27, hz, hcs, hL, hst]
  · have := own_cut e2 (Nat.le_of_lt hk)
    rw [e1] at this
    exact this
theorem wpList_clear {P : Program} (w : World) {ops : Array Oper} {rest : List Oper} {o : Oper} {a : Act} {Q : Exit → Act → World → Prop}
    (hg : o.guard = none) (x : Operand) (t : TypeId) (hop : o.op = Op.call { callee := Callee.builtin Builtin.clear, args := #[x], argTypes := #[t] })
    (v : Value) (hx : a.eval x = v) (w' : World) (hrun : ∀ ty, (Builtin.clear_ #[t] ty #[v]).run P w = .ok (.tuple #[]) w') (hK : wpList P ops Q rest (a.put o.dst (.tuple #[])) w') :
    wpList P ops Q (o :: rest) a w := by
  refine wpList_plain hg fun K' hK' => ?_
  unfold Oper.wp
  simp [execOp, hop, resolve, invoke, builtin, hx, hrun, Result.andThen]
  exact hK' _ _ hK
theorem some_is (X : List Iln) : someI X = X.filter fun x => !emI x := rfl
theorem some_snoc (X : List Iln) (k : Nat) (h : k < X.length) : someI (X.take (k + 1)) = someI (X.take k) ++ (if emI X[k] = true then [] else [X[k]]) := by
  rw [List.take_succ_eq_append_getElem h, someI_append]
  congr 1
  rw [some_is, List.filter_cons, List.filter_nil]
  cases emI X[k] <;> rfl
theorem some_len (X : List Iln) : (someI X).length ≤ X.length := List.length_filter_le _ _
theorem del_store {B g cap n j : Nat} {w wr : World} {Y : List Iln} (x : Iln) (hown : wr.ownsRow B 30 5 (.slice (some ⟨g, 0, none⟩) n cap) n (flt ilC Y)) (hb : Below B w wr) (hj : j < Y.length) :
    ((((((wr.setCell ⟨g, j * 5, none⟩ (.int .i64 x.kd)).setCell ⟨g, j * 5 + 1, none⟩ (.int .i64 x.dp)).setCell ⟨g, j * 5 + 2, none⟩ (.string ⟨x.txt.toArray⟩)).setCell ⟨g, j * 5 + 3, none⟩ (.string ⟨x.url.toArray⟩)).setCell ⟨g, j * 5 + 4, none⟩ (.string ⟨x.ttl.toArray⟩)).ownsRow B 30 5 (.slice (some ⟨g, 0, none⟩) n cap) n (flt ilC (Y.set j x))) ∧
      Below B w (((((wr.setCell ⟨g, j * 5, none⟩ (.int .i64 x.kd)).setCell ⟨g, j * 5 + 1, none⟩ (.int .i64 x.dp)).setCell ⟨g, j * 5 + 2, none⟩ (.string ⟨x.txt.toArray⟩)).setCell ⟨g, j * 5 + 3, none⟩ (.string ⟨x.url.toArray⟩)).setCell ⟨g, j * 5 + 4, none⟩ (.string ⟨x.ttl.toArray⟩)) := by
  have hg := (hown.lt g rfl).1
  obtain ⟨s1, g1⟩ := hown.stored (j * 5) (.int .i64 x.kd)
  obtain ⟨s2, g2⟩ := s1.stored (j * 5 + 1) (.int .i64 x.dp)
  obtain ⟨s3, g3⟩ := s2.stored (j * 5 + 2) (.string ⟨x.txt.toArray⟩)
  obtain ⟨s4, g4⟩ := s3.stored (j * 5 + 3) (.string ⟨x.url.toArray⟩)
  obtain ⟨s5, g5⟩ := s4.stored (j * 5 + 4) (.string ⟨x.ttl.toArray⟩)
  rw [flt_set5 ilC_length _ _ _ _ _ x rfl _ j hj] at s5
  exact ⟨s5, ((((hb.setCell (p := ⟨g, j * 5, none⟩) hg _).setCell (p := ⟨g, j * 5 + 1, none⟩) hg _).setCell (p := ⟨g, j * 5 + 2, none⟩) hg _).setCell (p := ⟨g, j * 5 + 3, none⟩) hg _).setCell (p := ⟨g, j * 5 + 4, none⟩) hg _⟩
def DelRel (X : List Iln) (B g cap : Nat) (w : World) (s t : Value) (wr : World) : Prop :=
  ∃ (k j : Nat) (Y : List Iln), s = .int .i64 k ∧ t = .int .i64 j ∧ k < j ∧ j ≤ X.length ∧ Y.length = X.length ∧ wr.ownsRow B 30 5 (.slice (some ⟨g, 0, none⟩) X.length cap) X.length (flt ilC Y) ∧
    Y.take k = someI (X.take j) ∧ Y.drop j = X.drop j ∧ Below B w wr
set_option maxHeartbeats 4000000 in
theorem delete_any (B : Nat) (v : Value) (X : List Iln) (w : World) (hB : B ≤ w.heap.size) (hown : w.ownsRow B 30 5 v X.length (flt ilC X)) (hn : X.length ≤ 100000000) :
    Calls Tryz.prog 65 #[v, .func (.func 67) #[] #[]] w fun e w' => ∃ v', e = .returned v' ∧ w'.ownsRow B 30 5 v' (someI X).length (flt ilC (someI X)) ∧ Below B w w' := by
  obtain ⟨A, cap, rfl, hrow⟩ := EltsAt.own ilC_length hown
  have ci := idxE_any A cap X w hrow
  unfold idxI at ci
  by_cases hi : X.findIdx emI < X.length
  · rw [if_pos hi] at ci
    obtain ⟨b, off, e, hb, _⟩ := InlsAt.cells5 hrow hi
    obtain ⟨g, cap', hg, hBg, _⟩ := hown.form (by omega)
    cases hg
    clear e hb
    have hpi : emI X[X.findIdx emI] = true := List.findIdx_getElem (w := hi)
    have hbefore : someI (X.take (X.findIdx emI)) = X.take (X.findIdx emI) := by
      rw [some_is]
      refine List.filter_eq_self.2 fun x hx => ?_
      obtain ⟨i, hi2, rfl⟩ := List.getElem_of_mem hx
      rw [List.length_take] at hi2
      rw [List.getElem_take]
      have := List.not_of_lt_findIdx (p := emI) (xs := X) (i := i) (by omega)
      simpa using this
    have hst := some_snoc X (X.findIdx emI) hi
    rw [if_pos hpi, List.append_nil, hbefore] at hst
    have HH := Lib.hid hst
    have hcap := hrow.le
    have hcm := hrow.cap
    unfold maxLen at hcm
    clear hpi hbefore hst hrow
    generalize X.findIdx emI = i0 at *
    have HO := Lib.hid hown
    clear hown
    have hne : (((i0 : Nat) : Int) == -1) = false := by simp
    go_enter Tryz.func65, Tryz.ntmps65
    go_wp2_with fail
    refine ci.mono ?_
    rintro e w1 ⟨rfl, b1⟩
    have HB1 := Lib.hid b1
    have HO1 := Lib.hid (ownsRow_below HO.out b1)
    have hs1 := b1.size
    clear b1
    go_wp2_with fail
    go_loopw [5, 6] (fun s t wr => DelRel X B g cap w s t wr) (fun s t _ => X.length - (intOf t).toNat)
    case atStart => exact ⟨i0, i0 + 1, X, rfl, by go_num, by omega, by omega, rfl, HO1.out, by rw [HH.out], rfl, HB1.out.mono hB⟩
    case round =>
      obtain ⟨k, j, Y, rfl, rfl, hkj, hj, hY, hown, ht, hd, hbw⟩ := hrel
      have hBr : B ≤ wr.heap.size := Nat.le_trans hB hbw.size
      by_cases hp : j < X.length
      · have hyj : Y[j]'(by omega) = X[j] := by
          have h1 : (Y.drop j)[0]? = (X.drop j)[0]? := by rw [hd]
          rw [List.getElem?_drop, List.getElem?_drop, Nat.add_zero, List.getElem?_eq_getElem (by omega), List.getElem?_eq_getElem hp] at h1
          exact Option.some.inj h1
        have hst := some_snoc X j hp
        have c0 : wr.cell? ⟨g, j * 5, none⟩ = some (.int .i64 (Y[j]'(by omega)).kd) := own_elt ilC_length hown (k := j) (by omega) 0 _ rfl
        have c1 := own_elt ilC_length hown (k := j) (by omega) 1 _ rfl
        have c2 := own_elt ilC_length hown (k := j) (by omega) 2 _ rfl
        have c3 := own_elt ilC_length hown (k := j) (by omega) 3 _ rfl
        have c4 := own_elt ilC_length hown (k := j) (by omega) 4 _ rfl
        rw [hyj] at c0 c1 c2 c3 c4
        have hgl := (hown.lt g rfl).2
        have hlast := hown.1
        rw [flt_length ilC_length] at hlast
        have hud : Y.drop (j + 1) = X.drop (j + 1) := by rw [← List.drop_drop, ← List.drop_drop, hd]
        have ce := fun w1 => emI_any X[j] w1
        have HD := Lib.hid hud
        have HT := Lib.hid ht
        have HOR := Lib.hid hown
        have HBW := Lib.hid hbw
        have HYJ := Lib.hid hyj
        clear hud ht hown hbw hd hyj
        generalize hx : X[j] = x at *
        have HX := Lib.hid hx
        clear hx
        obtain ⟨x0, x1, x2, x3, x4⟩ := box5 wr (.int .i64 x.kd) (.int .i64 x.dp) (.string ⟨x.txt.toArray⟩) (.string ⟨x.url.toArray⟩) (.string ⟨x.ttl.toArray⟩) 30
        have bA := (Below.refl _ wr).alloc (Nat.le_refl _) (.cells #[.int .i64 x.kd, .int .i64 x.dp, .string ⟨x.txt.toArray⟩, .string ⟨x.url.toArray⟩, .string ⟨x.ttl.toArray⟩] 30)
        have HBA := Lib.hid bA
        have hsA := alloc_size wr (.cells #[.int .i64 x.kd, .int .i64 x.dp, .string ⟨x.txt.toArray⟩, .string ⟨x.url.toArray⟩, .string ⟨x.ttl.toArray⟩] 30)
        clear bA
        cases hex : emI x with
        | true =>
          rw [hex] at ce hst
          rw [if_pos rfl, List.append_nil] at hst
          have HST := Lib.hid hst
          clear hst hex
          obtain ⟨kd, dp, txt, url, ttl⟩ := x
          have CE := Lib.hid ce
          clear ce
          unfold ilV at CE
          dsimp only at CE c0 c1 c2 c3 c4 x0 x1 x2 x3 x4 HBA hsA
          go_wp2_with fail
          refine (CE.out _).mono ?_
          rintro e w2 ⟨rfl, b2⟩
          have HB2 := Lib.hid b2
          clear b2
          go_wp2
          go_roundw
          case rel => exact ⟨k, j + 1, Y, rfl, by go_num, by omega, by omega, hY, ownsRow_below (ownsRow_below HOR.out HBA.out) HB2.out, by rw [HT.out, HST.out], HD.out, (HBW.out.trans (HBA.out.mono hBr)).trans (HB2.out.mono (by rw [hsA]; omega))⟩
          case measure => simp [intOf]; omega
        | false =>
          rw [hex] at ce hst
          rw [if_neg (by simp)] at hst
          have HST := Lib.hid hst
          clear hst hex
          obtain ⟨kd, dp, txt, url, ttl⟩ := x
          have CE := Lib.hid ce
          clear ce
          unfold ilV at CE
          dsimp only at CE c0 c1 c2 c3 c4 x0 x1 x2 x3 x4 HBA hsA
          go_wp2_with fail
          refine (CE.out _).mono ?_
          rintro e w2 ⟨rfl, b2⟩
          have hw2 := b2.size
          have y0 := (b2.cell (p := ⟨wr.heap.size, 0, none⟩) (by show wr.heap.size < _; omega)).trans x0
          have y1 := (b2.cell (p := ⟨wr.heap.size, 1, none⟩) (by show wr.heap.size < _; omega)).trans x1
          have y2 := (b2.cell (p := ⟨wr.heap.size, 2, none⟩) (by show wr.heap.size < _; omega)).trans x2
          have y3 := (b2.cell (p := ⟨wr.heap.size, 3, none⟩) (by show wr.heap.size < _; omega)).trans x3
          have y4 := (b2.cell (p := ⟨wr.heap.size, 4, none⟩) (by show wr.heap.size < _; omega)).trans x4
          have hO2 := ownsRow_below (ownsRow_below HOR.out HBA.out) b2
          have hb2 : Below B w w2 := (HBW.out.trans (HBA.out.mono hBr)).trans (b2.mono (by rw [hsA]; omega))
          obtain ⟨hs1, hs2⟩ := del_store ⟨kd, dp, txt, url, ttl⟩ hO2 hb2 (j := k) (by omega)
          have hcell : ∀ i, i < 5 → ∃ u, w2.cell? ⟨g, k * 5 + i, none⟩ = some u := fun i hi => by
            have hc := hO2.cellAt (k * 5 + i) (by omega)
            rw [List.getElem?_eq_getElem (by rw [flt_length ilC_length]; omega)] at hc
            exact ⟨_, hc⟩
          obtain ⟨u0, d0⟩ : ∃ u, w2.cell? ⟨g, k * 5, none⟩ = some u := hcell 0 (by omega)
          obtain ⟨u1, d1⟩ := hcell 1 (by omega)
          obtain ⟨u2, d2⟩ := hcell 2 (by omega)
          obtain ⟨u3, d3⟩ := hcell 3 (by omega)
          obtain ⟨u4, d4⟩ := hcell 4 (by omega)
          have f0 := hO2.frozenAt (k * 5)
          have f1 := hO2.frozenAt (k * 5 + 1)
          have f2 := hO2.frozenAt (k * 5 + 2)
          have f3 := hO2.frozenAt (k * 5 + 3)
          have f4 := hO2.frozenAt (k * 5 + 4)
          have HS1 := Lib.hid hs1
          have HS2 := Lib.hid hs2
          have hgw : g < wr.heap.size := hgl
          clear hs1 hs2 hO2 hb2 b2 hcell x0 x1 x2 x3 x4 c0 c1 c2 c3 c4
          go_wp2
          go_roundw
          case rel =>
            refine ⟨k + 1, j + 1, Y.set k ⟨kd, dp, txt, url, ttl⟩, by go_num, by go_num, by omega, by omega, by rw [List.length_set]; exact hY, HS1.out, ?_, ?_, HS2.out⟩
            · rw [HST.out, ← HT.out, List.take_succ_eq_append_getElem (by rw [List.length_set]; omega), List.getElem_set_self, List.take_set_of_le (Nat.le_refl k)]
            · rw [List.drop_set_of_lt (by omega)]
              exact HD.out
          case measure => simp [intOf]; omega
      · obtain rfl : j = X.length := by omega
        have hk2 : k = (someI X).length := by
          have := congrArg List.length ht
          rw [List.length_take, List.take_length] at this
          omega
        rw [List.take_length] at ht
        have hcut : (flt ilC Y).take (k * 5) = flt ilC (someI X) := by
          rw [← ht]
          have h1 : flt ilC Y = flt ilC (Y.take k) ++ flt ilC (Y.drop k) := by rw [← flt_append, List.take_append_drop]
          rw [h1, List.take_left']
          rw [flt_length ilC_length, List.length_take]
          omega
        obtain ⟨w2, hcl, ho2, hg2⟩ := run_clear_inls wr B g cap X.length k (flt ilC Y) hown (by omega) (cap - k) 0
        have hcl2 : ∀ ty, (Builtin.clear_ #[27] ty #[.slice (some ⟨g, k * 5, none⟩) (X.length - k) (cap - k)]).run Tryz.prog wr = .ok (.tuple #[]) w2 := fun ty => hcl
        rw [hcut] at ho2
        have hb2 : Below B w w2 := hbw.grown hg2 (by omega) (fun r e => by cases e; exact hBg)
        have hl1 := islice_low (some ⟨g, 0, none⟩) X.length cap k (by omega)
        have hl2 := islice_high (some ⟨g, 0, none⟩) X.length cap k (by omega)
        rw [show dropI (some ⟨g, 0, none⟩) cap k = some ⟨g, k * 5, none⟩ from by unfold dropI; rw [if_neg (by omega)]; simp [addr_add]] at hl1
        have HO2 := Lib.hid ho2
        have HB2 := Lib.hid hb2
        have HK := Lib.hid hk2
        clear hcl hown ht hd hcut ho2 hb2 hg2 hk2
        go_wp2_with (at_builtin; refine wpList_clear _ rfl _ _ rfl _ rfl w2 hcl2 ?_)
        go_ret
        exact ⟨_, rfl, by rw [← HK.out]; exact HO2.out, HB2.out⟩
  · rw [if_neg hi] at ci
    have hall : someI X = X := by
      rw [some_is]
      refine List.filter_eq_self.2 fun x hx => ?_
      obtain ⟨i, hi2, rfl⟩ := List.getElem_of_mem hx
      have := List.not_of_lt_findIdx (p := emI) (xs := X) (i := i) (by omega)
      simpa using this
    have HA := Lib.hid hall
    have HO := Lib.hid hown
    clear hall hown hrow
    go_enter Tryz.func65, Tryz.ntmps65
    go_wp2_with fail
    refine ci.mono ?_
    rintro e w1 ⟨rfl, b1⟩
    go_wp2
    go_ret
    exact ⟨_, rfl, by rw [HA.out]; exact ownsRow_below HO.out b1, b1.mono hB⟩
end Go.Proofs.YtfbaknkmpilllaaGreatDoor

namespace Go.Proofs.YtfbaknkmpilllaaGreatDoor
open Go.RowKit
set_option linter.unusedSimpArgs false
set_option linter.unusedVariables false
set_option maxRecDepth 100000
theorem words_run (out : List Iln) (d : Int) : ∀ (Z : List Iln) (s : List UInt8), (∀ x ∈ Z, x.kd = 1 ∧ x.dp = d ∧ x.txt ≠ []) → Z.foldl mergeOne (out ++ [wordsI d s]) = out ++ [wordsI d (s ++ textI Z)]
  | [], s, _ => by simp [textI]
  | x :: Z, s, h => by
    obtain ⟨h1, h2, h3⟩ := h x (by simp)
    have e : mergeOne (out ++ [wordsI d s]) x = out ++ [wordsI d (s ++ x.txt)] := by
      rw [mergeOne_snoc, if_pos h1, if_neg h3, if_pos ⟨rfl, h2.symm⟩]
      rfl
    rw [List.foldl_cons, e, words_run out d Z _ (fun z hz => h z (by simp [hz])), textI_cons]
    have : ilText x = x.txt := by unfold ilText; rw [if_pos (Or.inl h1)]
    rw [this, List.append_assoc]
theorem words_first (out : List Iln) (y : Iln) (h1 : y.kd = 1) (h3 : y.txt ≠ []) (he : endsAt out y.dp = false) : mergeOne out y = out ++ [wordsI y.dp y.txt] := by
  rcases List.eq_nil_or_concat out with rfl | ⟨p, z, rfl⟩
  · rw [mergeOne_nil, if_pos h1, if_neg h3]; rfl
  · rw [List.concat_eq_append] at he ⊢
    rw [endsAt_snoc] at he
    rw [mergeOne_snoc, if_pos h1, if_neg h3, if_neg (fun h => by simp [h.1, h.2] at he)]
theorem emI_no {x : Iln} (h : emI x = false) (h1 : x.kd = 1) : x.txt ≠ [] := by
  unfold emI at h
  simp [h1] at h
  exact h
theorem merge_chunk {y : Iln} {Y out : List Iln} (hk : y.kd = 1) (hne : ∀ x ∈ y :: Y, emI x = false) (he : endsAt out y.dp = false) :
    1 ≤ (y :: Y).findIdx (togI y) ∧ ((y :: Y).take ((y :: Y).findIdx (togI y))).foldl mergeOne out = out ++ [wordsI y.dp (textI ((y :: Y).take ((y :: Y).findIdx (togI y))))] := by
  have h0 : togI y y = false := by simp [togI, hk]
  have e1 : (y :: Y).findIdx (togI y) = Y.findIdx (togI y) + 1 := by rw [List.findIdx_cons, h0]; rfl
  rw [e1]
  refine ⟨by omega, ?_⟩
  rw [List.take_succ_cons, List.foldl_cons, words_first out y hk (emI_no (hne y (by simp)) hk) he, words_run out y.dp _ y.txt, textI_cons]
  · have : ilText y = y.txt := by unfold ilText; rw [if_pos (Or.inl hk)]
    rw [this]
  · intro x hx
    obtain ⟨i, hi, rfl⟩ := List.getElem_of_mem hx
    rw [List.length_take] at hi
    rw [List.getElem_take]
    have := List.not_of_lt_findIdx (p := togI y) (xs := Y) (i := i) (by omega)
    simp [togI] at this
    exact ⟨this.1, this.2, emI_no (hne _ (by simp)) this.1⟩
theorem merge_next {y : Iln} {Y out : List Iln} {s : List UInt8} (z : Iln) (hz : ((y :: Y).drop ((y :: Y).findIdx (togI y))).head? = some z) (h1 : z.kd = 1) : endsAt (out ++ [wordsI y.dp s]) z.dp = false := by
  rw [endsAt_snoc]
  rw [List.head?_drop] at hz
  obtain ⟨hlt, hz⟩ := List.getElem?_eq_some_iff.1 hz
  have := List.findIdx_getElem (p := togI y) (w := hlt)
  rw [hz] at this
  simp [togI, h1] at this
  simp [wordsI]
  exact fun e => this e.symm
theorem merge_other {y : Iln} {out : List Iln} (h : y.kd ≠ 1) (d : Int) : mergeOne out y = out ++ [y] ∧ endsAt (out ++ [y]) d = false := by
  refine ⟨by unfold mergeOne; rw [if_neg h], ?_⟩
  rw [endsAt_snoc]
  simp [h]
theorem inl_box {W : World} {g : Nat} {c0 c1 c2 c3 c4 : Value} {t : TypeId} (h : W.heap[g]? = some (.cells #[c0, c1, c2, c3, c4] t (0, 0))) :
    (W.cell? ⟨g, 0, none⟩ = some c0 ∧ W.cell? ⟨g, 1, none⟩ = some c1 ∧ W.cell? ⟨g, 2, none⟩ = some c2 ∧ W.cell? ⟨g, 3, none⟩ = some c3 ∧ W.cell? ⟨g, 4, none⟩ = some c4) ∧
    (W.frozen? ⟨g, 0, none⟩ = false ∧ W.frozen? ⟨g, 1, none⟩ = false ∧ W.frozen? ⟨g, 2, none⟩ = false ∧ W.frozen? ⟨g, 3, none⟩ = false ∧ W.frozen? ⟨g, 4, none⟩ = false) :=
  ⟨⟨(cell_of_row W g 0 _ _ (0, 0) h).trans rfl, (cell_of_row W g 1 _ _ (0, 0) h).trans rfl, (cell_of_row W g 2 _ _ (0, 0) h).trans rfl, (cell_of_row W g 3 _ _ (0, 0) h).trans rfl, (cell_of_row W g 4 _ _ (0, 0) h).trans rfl⟩,
    by simp [World.frozen?, h], by simp [World.frozen?, h], by simp [World.frozen?, h], by simp [World.frozen?, h], by simp [World.frozen?, h]⟩
theorem setc_grown (w : World) (g j : Nat) (u : Value) : w.grownBy (w.setCell ⟨g, j, none⟩ u) (some g) :=
  ⟨rfl, rfl, rfl, by simp, fun k _ hk => heap_setCell_other w ⟨g, j, none⟩ k u (fun e => hk (by simp [e]))⟩
theorem box5_set {W : World} {g : Nat} {a0 a1 a2 a3 a4 : Value} {t : TypeId} (h : W.heap[g]? = some (.cells #[a0, a1, a2, a3, a4] t (0, 0))) (c0 c1 c2 c3 c4 : Value) (W' : World)
    (hW : W' = ((((W.setCell ⟨g, 0, none⟩ c0).setCell ⟨g, 1, none⟩ c1).setCell ⟨g, 2, none⟩ c2).setCell ⟨g, 3, none⟩ c3).setCell ⟨g, 4, none⟩ c4) :
    W'.heap[g]? = some (.cells #[c0, c1, c2, c3, c4] t (0, 0)) ∧ W.grownBy W' (some g) := by
  subst hW
  refine ⟨by simp [World.setCell, Array.getElem?_modify, h], ((((setc_grown _ _ _ _).trans (setc_grown _ _ _ _)).trans (setc_grown _ _ _ _)).trans (setc_grown _ _ _ _)).trans (setc_grown _ _ _ _)⟩
theorem words_agg (d : Int) (s : List UInt8) (w : World) : Calls Tryz.prog 69 #[.int .i64 d, .string ⟨s.toArray⟩] w fun e w' => e = .returned (.agg #[.int .i64 1, .int .i64 d, .string ⟨s.toArray⟩, .string ⟨#[]⟩, .string ⟨#[]⟩]) ∧ Below w.heap.size w w' := words_any d s w
def slLen : Value → Nat
  | .slice _ n _ => n
  | _ => 0
def MgRel (X : List Iln) (w2 : World) (mv lv : Value) (wr : World) : Prop :=
  ∃ (L out : List Iln) (A : Option Addr) (c : Nat), lv = .slice A L.length c ∧ InlsAt w2 A c L ∧ wr.ownsRow w2.heap.size 30 5 mv out.length (flt ilC out) ∧ Below w2.heap.size w2 wr ∧ L.foldl mergeOne out = mergeI X ∧
    (∀ z, L.head? = some z → z.kd = 1 → endsAt out z.dp = false) ∧ (∀ x ∈ L, emI x = false) ∧ (textI L).length ≤ 140737488355328 ∧ out.length + L.length ≤ 100000000
theorem some_text (X : List Iln) : textI (someI X) = textI X := by rw [← mergeI_text, mergeI_some, mergeI_text]
set_option maxHeartbeats 4000000 in
theorem merge_any (A : Option Addr) (cap : Nat) (X : List Iln) (w : World) (hrow : InlsAt w A cap X) (hn : X.length ≤ 100000000) (ht : (textI X).length ≤ 140737488355328) :
    Calls Tryz.prog 40 #[.slice A X.length cap] w fun e w' => ∃ v, e = .returned v ∧ w'.ownsRow w.heap.size 30 5 v (mergeI X).length (flt ilC (mergeI X)) ∧ Below w.heap.size w w' := by
  have cc := clone_inls A cap X w hrow hn
  have hlX := some_len X
  have htX := some_text X
  have hsn : ∀ x ∈ someI X, emI x = false := fun x hx => by
    rw [some_is] at hx
    simpa using (List.mem_filter.1 hx).2
  obtain ⟨i0, hi, hz0, hz1, hz2⟩ := info_parts infoInl
  have HSN := Lib.hid hsn
  have HTX := Lib.hid htX
  have HLX := Lib.hid hlX
  clear hsn htX hrow hlX
  go_enter Tryz.func40, Tryz.ntmps40
  go_wp2_with fail
  refine cc.mono ?_
  rintro e w1 ⟨v1, rfl, ho1, b1⟩
  have hs1 := b1.size
  have cd := delete_any w.heap.size v1 X w1 b1.size ho1 hn
  clear ho1
  go_wp2_with fail
  refine cd.mono ?_
  rintro e w2 ⟨v2, rfl, ho2, b2⟩
  have hs2 := b2.size
  obtain ⟨A2, c2, rfl, hr2⟩ := EltsAt.own ilC_length ho2
  have HR2 := Lib.hid hr2
  have HB2 := Lib.hid (b1.trans b2)
  clear ho2 hr2 b2
  go_wp2_with fail
  go_loopw [3, 4] (fun mv lv wr => MgRel X w2 mv lv wr) (fun _ lv _ => slLen lv)
  case atStart =>
    exact ⟨someI X, [], A2, c2, rfl, HR2.out, World.ownsRow_nil _ _ _ _, Below.refl _ _, foldl_some X [], fun z _ _ => rfl, HSN.out, by rw [HTX.out]; exact ht, by have := HLX.out; simp; omega⟩
  case round =>
    obtain ⟨L, out, AL, cL, rfl, hrL, hown, hbw, hfo, hhd, hne, htl, hle⟩ := hrel
    have hcl := hrL.le
    have hcm := hrL.cap
    unfold maxLen at hcm
    have hsw := hbw.size
    cases L with
    | nil =>
      have HO := Lib.hid hown
      have HF := Lib.hid (show out = mergeI X from hfo)
      clear hown hfo hhd hrL hne
      go_wp2
      go_ret
      exact ⟨_, rfl, by rw [← HF.out]; exact own_low HO.out (by omega), HB2.out.trans (hbw.mono (by omega))⟩
    | cons y Y =>
      obtain ⟨b, off, rfl, hb, c0, c1, c2, c3, c4⟩ := InlsAt.cells5 (EltsAt.below hrL hbw) (k := 0) (by simp)
      simp only [List.getElem_cons_zero, Nat.zero_mul, Nat.add_zero] at c0 c1 c2 c3 c4
      have HRL := Lib.hid hrL
      have HO := Lib.hid hown
      have HF := Lib.hid hfo
      have HH := Lib.hid hhd
      have HN := Lib.hid hne
      have HBW := Lib.hid hbw
      have hY : (y :: Y).length = Y.length + 1 := rfl
      clear hrL hown hfo hhd hne hbw
      obtain ⟨x0, x1, x2, x3, x4⟩ := box5 wr (.int .i64 y.kd) (.int .i64 y.dp) (.string ⟨y.txt.toArray⟩) (.string ⟨y.url.toArray⟩) (.string ⟨y.ttl.toArray⟩) 30
      have bA := (Below.refl _ wr).alloc (Nat.le_refl _) (.cells #[.int .i64 y.kd, .int .i64 y.dp, .string ⟨y.txt.toArray⟩, .string ⟨y.url.toArray⟩, .string ⟨y.ttl.toArray⟩] 30)
      have hsA := alloc_size wr (.cells #[.int .i64 y.kd, .int .i64 y.dp, .string ⟨y.txt.toArray⟩, .string ⟨y.url.toArray⟩, .string ⟨y.ttl.toArray⟩] 30)
      by_cases hk : y.kd = 1
      · have hk2 : (y.kd == 1) = true := by simpa using hk
        obtain ⟨m1, m2⟩ := merge_chunk hk HN.out (HH.out y rfl hk)
        have HM := Lib.hid m2
        have HX := Lib.hid (fun s z => merge_next (y := y) (Y := Y) (out := out) (s := s) z)
        have ctg := together_any (some ⟨b, off, none⟩) cL y Y _ (EltsAt.below HRL.out (HBW.out.alloc (by omega) (.cells #[.int .i64 y.kd, .int .i64 y.dp, .string ⟨y.txt.toArray⟩, .string ⟨y.url.toArray⟩, .string ⟨y.ttl.toArray⟩] 30)))
        have hnl := List.findIdx_le_length (p := togI y) (xs := y :: Y)
        generalize (y :: Y).findIdx (togI y) = n at *
        have HBA := Lib.hid bA
        clear bA m2 hk
        go_wp2_with fail
        refine ctg.mono ?_
        rintro e w3 ⟨rfl, b3⟩
        have hs3 := b3.size
        have y0 := (b3.cell (p := ⟨wr.heap.size, 0, none⟩) (by show wr.heap.size < _; omega)).trans x0
        have y1 := (b3.cell (p := ⟨wr.heap.size, 1, none⟩) (by show wr.heap.size < _; omega)).trans x1
        have y2 := (b3.cell (p := ⟨wr.heap.size, 2, none⟩) (by show wr.heap.size < _; omega)).trans x2
        have y3 := (b3.cell (p := ⟨wr.heap.size, 3, none⟩) (by show wr.heap.size < _; omega)).trans x3
        have y4 := (b3.cell (p := ⟨wr.heap.size, 4, none⟩) (by show wr.heap.size < _; omega)).trans x4
        have hbx : w3.heap[wr.heap.size]? = some (.cells #[.int .i64 y.kd, .int .i64 y.dp, .string ⟨y.txt.toArray⟩, .string ⟨y.url.toArray⟩, .string ⟨y.ttl.toArray⟩] 30 (0, 0)) := (b3.block _ (by omega)).trans (heap_alloc_new _ _)
        have hb3 : Below w2.heap.size w2 w3 := (HBW.out.alloc (by omega) _).trans (b3.mono (by omega))
        have HB3 := Lib.hid hb3
        have hown3 := ownsRow_below (HO.out.alloc (.cells #[.int .i64 y.kd, .int .i64 y.dp, .string ⟨y.txt.toArray⟩, .string ⟨y.url.toArray⟩, .string ⟨y.ttl.toArray⟩] 30)) b3
        have HO3 := Lib.hid hown3
        have hncL : n ≤ cL := by omega
        have htk : ((y :: Y).take n).length = n := by rw [List.length_take]; omega
        have hte := textI_le (y :: Y) n
        have ctx := fun (W : World) (hb : Below w3.heap.size w3 W) => text_inl (some ⟨b, off, none⟩) cL ((y :: Y).take n) W (InlsAt.takeL (EltsAt.below HRL.out (hb3.trans (hb.mono (by omega)))) n) (by omega)
        rw [htk] at ctx
        have CT := Lib.hid ctx
        have HBX := Lib.hid hbx
        clear ctx hb3 b3 hown3 x0 x1 x2 x3 x4 ctg c0 c1 c2 c3 c4 hbx
        generalize textI ((y :: Y).take n) = tx at *
        go_wp2_with fail
        go_region_law (first | (go_simp; go_at_call 18; refine (CT.out _ (Below.refl _ w3).drew).mono ?_; rintro e w4 ⟨rfl, b4⟩; have hs4 : w3.heap.size ≤ w4.heap.size := b4.size; have hbx4 := (b4.block wr.heap.size (by show _ < w3.heap.size; omega)).trans HBX.out; obtain ⟨⟨z0, z1, z2, z3, z4⟩, f0, f1, f2, f3, f4⟩ := inl_box hbx4) | (go_simp; go_at_call 69; refine (words_agg y.dp tx _).mono ?_; rintro e w5 ⟨rfl, b5⟩; have hs5 := b5.size; have hbx5 := (b5.block wr.heap.size (by omega)).trans hbx4; obtain ⟨⟨v0, v1, v2, v3, v4⟩, e0, e1, e2, e3, e4⟩ := inl_box hbx5))
        all_goals
          obtain ⟨w6, hw6⟩ : ∃ w6, w6 = (((((w5.setCell ⟨wr.heap.size, 0, none⟩ (.int .i64 1)).setCell ⟨wr.heap.size, 1, none⟩ (.int .i64 y.dp)).setCell ⟨wr.heap.size, 2, none⟩ (.string ⟨tx.toArray⟩)).setCell ⟨wr.heap.size, 3, none⟩ (.string ⟨#[]⟩)).setCell ⟨wr.heap.size, 4, none⟩ (.string ⟨#[]⟩)) := ⟨_, rfl⟩
          rw [← hw6]
          obtain ⟨hbx6, hg6⟩ := box5_set hbx5 _ _ _ _ _ w6 hw6
          have hb5 : Below w3.heap.size w3 w5 := (Below.refl _ w3).drew.trans ((b4.mono (by show _ ≤ w3.heap.size; omega)).trans (b5.mono (by omega)))
          have hb6 : Below w2.heap.size w2 w6 := (HB3.out.trans (hb5.mono (by omega))).grown hg6 (by omega) (fun k hk => by cases hk; omega)
          have hb36 : w6.heap.size = w5.heap.size := by rw [hw6]; simp [World.setCell]
          have hO6 := (ownsRow_below HO3.out hb5).kept hg6 (Or.inr (fun e => by have := (HO.out.lt _ e).2; omega))
          obtain ⟨⟨q0, q1, q2, q3, q4⟩, _⟩ := inl_box hbx6
          have HO6 := Lib.hid hO6
          have HB6 := Lib.hid hb6
          have hnc := elt_cells w6 (ilC (wordsI y.dp tx)) 30
          have hs6 : wr.heap.size < w6.heap.size := by omega
          clear hO6 hb6 hbx6 hg6 hb36 hw6 hb5 b4 b5 z0 z1 z2 z3 z4 f0 f1 f2 f3 f4 v0 v1 v2 v3 v4 e0 e1 e2 e3 e4 hbx4 hbx5 y0 y1 y2 y3 y4
          have hl1 := islice_low (some ⟨b, off, none⟩) (Y.length + 1) cL n (by omega)
          go_wp2_with (at_builtin; refine wpList_append_own _ rfl _ _ 27 rfl w2.heap.size 30 i0 (.agg #[.int .i64 0, .int .i64 0, .string ByteArray.empty, .string ByteArray.empty, .string ByteArray.empty]) 5 64 Tryz.underlying27 hi hz0 hz1 hz2 rfl (by decide) _ out.length (flt ilC out) rfl (HO6.out.alloc _) ⟨w6.heap.size, 0, none⟩ 1 1 (ilC (wordsI y.dp tx)) rfl rfl hnc (ilC_one _) (by unfold maxLen; omega) (by omega) (by simp; omega) ?_)
          intro v' w7 hown' hgrow _
          have HO7 := Lib.hid hown'
          have HB7 := Lib.hid ((HB6.out.alloc (by omega) _).grown hgrow (by simp; omega) (fun k hk => (HO.out.lt k hk).1))
          clear hown' hgrow
          go_wp2
          go_roundw
          case rel =>
            refine ⟨(y :: Y).drop n, out ++ [wordsI y.dp tx], _, cL - n, by rw [List.length_drop]; rfl, InlsAt.dropL HRL.out (by omega), ?_, HB7.out, ?_, fun z hz h1 => HX.out _ z hz h1, fun x hx => HN.out x (List.mem_of_mem_drop hx), ?_, ?_⟩
            · rw [flt_append, flt_one, List.length_append]; exact HO7.out
            · rw [← HM.out, ← List.foldl_append, List.take_append_drop]; exact HF.out
            · have := congrArg List.length (show textI (y :: Y) = textI ((y :: Y).take n) ++ textI ((y :: Y).drop n) from by rw [← textI_append, List.take_append_drop])
              rw [List.length_append] at this
              omega
            · rw [List.length_append, List.length_drop]; simp; simp at hle; omega
          case measure => simp [slLen]; omega
      · have hk2 : (y.kd == 1) = false := by simpa using hk
        have hnc := elt_cells wr (ilC y) 30
        have hnc2 : ∀ j u, (ilC y)[j]? = some u → ((wr.alloc (.cells (ilC y).toArray 30)).alloc (.cells (ilC y).toArray 30)).cell? ((⟨wr.heap.size + 1, 0, none⟩ : Addr).add j) = some u := fun j u hu => by
          have := elt_cells (wr.alloc (.cells (ilC y).toArray 30)) (ilC y) 30 j u hu
          rwa [alloc_size] at this
        have hl1 := islice_low (some ⟨b, off, none⟩) (Y.length + 1) cL 1 (by omega)
        have HA := Lib.hid (HO.out.alloc (.cells (ilC y).toArray 30))
        obtain ⟨m1, m2⟩ := merge_other (out := out) hk 0
        have HM := Lib.hid (fun d => merge_other (out := out) hk d)
        have HK := Lib.hid hk
        clear hk m1 m2 hnc
        go_wp2_with (at_builtin; refine wpList_append_own _ rfl _ _ 27 rfl w2.heap.size 30 i0 (.agg #[.int .i64 0, .int .i64 0, .string ByteArray.empty, .string ByteArray.empty, .string ByteArray.empty]) 5 64 Tryz.underlying27 hi hz0 hz1 hz2 rfl (by decide) _ out.length (flt ilC out) rfl (HA.out.alloc _) ⟨wr.heap.size + 1, 0, none⟩ 1 1 (ilC y) rfl rfl hnc2 (ilC_one y) (by unfold maxLen; omega) (by omega) (by simp; omega) ?_)
        intro v' w3 hown' hgrow _
        have hb3 : Below w2.heap.size w2 w3 := ((HBW.out.alloc (by omega) _).alloc (by simp; omega) _).grown hgrow (by simp; omega) (fun k hk => (HO.out.lt k hk).1)
        have HB3 := Lib.hid hb3
        have HO3 := Lib.hid hown'
        clear hown' hgrow hb3
        go_wp2
        go_roundw
        case rel =>
          refine ⟨Y, out ++ [y], _, cL - 1, rfl, InlsAt.dropL HRL.out (k := 1) (by simp), ?_, HB3.out, ?_, fun z _ _ => (HM.out z.dp).2, fun x hx => HN.out x (by simp [hx]), ?_, by simp; simp at hle; omega⟩
          · rw [flt_append, flt_one, List.length_append]; exact HO3.out
          · rw [← (HM.out 0).1]; exact HF.out
          · rw [textI_cons, List.length_append] at htl; omega
        case measure => simp [slLen]
end Go.Proofs.YtfbaknkmpilllaaGreatDoor
