/- Texts joined: InV InZ InM InN EmU EmAa InA. -/
import Derived.Test.YtfbaknkmpilllaaGreatDoorQAG
import Derived.Test.YtfbaknkmpilllaaGreatDoorQAB
import Derived.Test.YtfbaknkmpilllaaGreatDoorQAE
import Derived.Test.YtfbaknkmpilllaaGreatDoorQAF
import Derived.Test.YtfbaknkmpilllaaGreatDoorQAA
import Derived.Test.YtfbaknkmpilllaaGreatDoorQAD
import Derived.Deep.Slices
import Derived.OpenShut
import Derived.Lib.Strings
namespace Go.Proofs.YtfbaknkmpilllaaGreatDoor
open Go.RowKit
set_option linter.unusedSimpArgs false
set_option linter.unusedVariables false
def contK (k : Int) : Bool := k == 3 || k == 4 || k == 5 || k == 12
def nxtI (x : Iln) : Int := if contK x.kd then x.dp + 1 else x.dp
theorem nxtI_words {x : Iln} (h : x.kd = 1) : nxtI x = x.dp := by unfold nxtI; rw [h]; rfl
theorem nxtI_ge (x : Iln) : x.dp ≤ nxtI x := by unfold nxtI; split <;> omega
def nestAt : Int → List Iln → Int
  | d, [] => d
  | _, x :: l => nestAt (nxtI x) l
def nestOk : Int → List Iln → Bool
  | _, [] => true
  | d, x :: l => decide (x.dp ≤ d) && nestOk (nxtI x) l
theorem nestOk_append (a b : List Iln) : ∀ d, nestOk d (a ++ b) = (nestOk d a && nestOk (nestAt d a) b) := by
  induction a with
  | nil => intro d; rfl
  | cons x a ih => intro d; simp only [List.cons_append, nestOk, nestAt, ih, Bool.and_assoc]
theorem nestOk_mono (l : List Iln) {d e : Int} (h : d ≤ e) (k : nestOk d l = true) : nestOk e l = true := by
  cases l with
  | nil => rfl
  | cons x l =>
    simp only [nestOk, Bool.and_eq_true, decide_eq_true_eq] at k ⊢
    exact ⟨by omega, k.2⟩
theorem nestAt_lo (a : List Iln) (h : ∀ x ∈ a, 0 ≤ x.dp) : ∀ d, 0 ≤ d → 0 ≤ nestAt d a := by
  induction a with
  | nil => intro d hd; exact hd
  | cons x a ih =>
    intro d hd
    have hx := h x (by simp)
    exact ih (fun y hy => h y (by simp [hy])) _ (by have := nxtI_ge x; omega)
theorem nestOk_both {a b : List Iln} (h : ∀ x ∈ a, 0 ≤ x.dp) {d : Int} (hd : 0 ≤ d) (ha : nestOk d a = true) (hb : nestOk 0 b = true) : nestOk d (a ++ b) = true := by
  rw [nestOk_append, ha, nestOk_mono b (nestAt_lo a h d hd) hb]; rfl
theorem nestOk_deep (l : List Iln) (h : SmallD l) : ∀ d, nestOk (d + 1) (deepI l) = nestOk d l := by
  induction l with
  | nil => intro d; rfl
  | cons x l ih =>
    intro d
    have hx := h x (by simp)
    rw [show deepI (x :: l) = deepOne x :: deepI l from rfl]
    have e : nxtI (deepOne x) = nxtI x + 1 := by
      unfold nxtI deepOne
      simp only [wrap_small hx.1 hx.2]
      split <;> rfl
    simp only [nestOk, e, ih (fun y hy => h y (by simp [hy]))]
    congr 1
    simp only [deepOne, wrap_small hx.1 hx.2]
    exact decide_eq_decide.2 (by omega)
theorem nestOk_mergeOne (out : List Iln) (x : Iln) (r : List Iln) (d : Int) (h : nestOk d (out ++ x :: r) = true) : nestOk d (mergeOne out x ++ r) = true := by
  rcases List.eq_nil_or_concat out with rfl | ⟨l', y, rfl⟩
  · rw [mergeOne_nil]
    simp only [List.nil_append, nestOk, Bool.and_eq_true, decide_eq_true_eq] at h
    split
    · next hk =>
      rw [nxtI_words hk] at h
      split
      · exact nestOk_mono r h.1 h.2
      · simp only [List.cons_append, List.nil_append, nestOk, Bool.and_eq_true, decide_eq_true_eq]
        rw [nxtI_words rfl]
        exact ⟨h.1, h.2⟩
    · simp only [List.cons_append, List.nil_append, nestOk, Bool.and_eq_true, decide_eq_true_eq]
      exact h
  · rw [List.concat_eq_append] at h ⊢
    rw [mergeOne_snoc]
    rw [List.append_assoc, nestOk_append] at h
    simp only [List.cons_append, List.nil_append, nestOk, Bool.and_eq_true, decide_eq_true_eq] at h
    obtain ⟨h1, h2, h3, h4⟩ := h
    split
    · next hk =>
      rw [nxtI_words hk] at h4
      split
      · rw [List.append_assoc, nestOk_append, h1]
        simp only [List.cons_append, List.nil_append, nestOk, Bool.and_eq_true, decide_eq_true_eq, Bool.true_and]
        exact ⟨h2, nestOk_mono r h3 h4⟩
      · split
        · next hy =>
          rw [List.append_assoc, nestOk_append, h1]
          simp only [List.cons_append, List.nil_append, nestOk, Bool.and_eq_true, decide_eq_true_eq, Bool.true_and]
          rw [nxtI_words (x := { y with txt := y.txt ++ x.txt }) hy.1]
          exact ⟨h2, by show nestOk y.dp r = true; rw [hy.2]; exact h4⟩
        · rw [List.append_assoc, List.append_assoc, nestOk_append, h1]
          simp only [List.cons_append, List.nil_append, nestOk, Bool.and_eq_true, decide_eq_true_eq, Bool.true_and]
          rw [nxtI_words (x := wordsI x.dp x.txt) rfl]
          exact ⟨h2, h3, h4⟩
    · rw [List.append_assoc, List.append_assoc, nestOk_append, h1]
      simp only [List.cons_append, List.nil_append, nestOk, Bool.and_eq_true, decide_eq_true_eq, Bool.true_and]
      exact ⟨h2, h3, h4⟩
theorem nestOk_foldl (l : List Iln) : ∀ (p : List Iln) (d : Int), nestOk d (p ++ l) = true → nestOk d (l.foldl mergeOne p) = true := by
  induction l with
  | nil => intro p d h; simpa using h
  | cons x l ih => intro p d h; exact ih _ d (nestOk_mergeOne p x l d h)
theorem nestOk_merge {l : List Iln} {d : Int} (h : nestOk d l = true) : nestOk d (mergeI l) = true := nestOk_foldl l [] d h
/-- Kinds are kept when nodes are put together. -/
def KindsP (K : Int → Prop) (l : List Iln) : Prop := ∀ x ∈ l, K x.kd
theorem kindsP_mergeOne {K : Int → Prop} {out : List Iln} (h : KindsP K out) {x : Iln} (hx : K x.kd) : KindsP K (mergeOne out x) := by
  rcases List.eq_nil_or_concat out with rfl | ⟨l', y, rfl⟩
  · rw [mergeOne_nil]
    split
    · next hk =>
      split
      · exact h
      · intro z hz; simp at hz; subst hz; rw [hk] at hx; exact hx
    · intro z hz; simp at hz; subst hz; exact hx
  · rw [List.concat_eq_append] at h ⊢
    rw [mergeOne_snoc]
    have hl : ∀ z ∈ l', K z.kd := fun z hz => h z (List.mem_append_left _ hz)
    have hy : K y.kd := h y (by simp)
    split
    · next hk =>
      split
      · exact h
      · split
        · intro z hz
          rcases List.mem_append.1 hz with hz | hz
          · exact hl z hz
          · simp at hz; subst hz; exact hy
        · intro z hz
          rcases List.mem_append.1 hz with hz | hz
          · exact h z hz
          · simp at hz; subst hz; rw [hk] at hx; exact hx
    · intro z hz
      rcases List.mem_append.1 hz with hz | hz
      · exact h z hz
      · simp at hz; subst hz; exact hx
theorem kindsP_foldl {K : Int → Prop} (l : List Iln) : ∀ {p : List Iln}, KindsP K p → KindsP K l → KindsP K (l.foldl mergeOne p) := by
  induction l with
  | nil => intro p hp _; exact hp
  | cons x l ih => intro p hp hl; exact ih (kindsP_mergeOne hp (hl x (by simp))) (fun y hy => hl y (by simp [hy]))
theorem kindsP_merge {K : Int → Prop} {l : List Iln} (h : KindsP K l) : KindsP K (mergeI l) := kindsP_foldl l (by intro x hx; cases hx) h
/-- What is so of rows and nodes, and of what they become. -/
structure NKeep (K : Int → Prop) (T : Nat) (S : List Itm) : Prop where
  kinds : KindsP K (allI S)
  lo : ∀ x ∈ allI S, 0 ≤ x.dp
  hi : ∀ x ∈ allI S, x.dp + signsI S ≤ T
  nn : ∀ x ∈ S, 0 ≤ x.n
  shape : ∀ x ∈ S, nestOk 0 (leftI x) = true
theorem nshape_all (S : List Itm) (lo : ∀ x ∈ allI S, 0 ≤ x.dp) (h : ∀ x ∈ S, nestOk 0 (leftI x) = true) : nestOk 0 (allI S) = true := by
  induction S with
  | nil => rfl
  | cons x S ih =>
    rw [allI_cons] at lo ⊢
    exact nestOk_both (fun y hy => lo y (List.mem_append_left _ hy)) (Int.le_refl _) (h x (by simp)) (ih (fun y hy => lo y (List.mem_append_right _ hy)) (fun y hy => h y (by simp [hy])))
def hdN (k : Int) : Iln := ⟨if k = 2 then 4 else 3, 0, [], [], []⟩
theorem leftI_node (k : Int) (l : List Iln) : leftI (nodeI k l) = hdN k :: deepI l := by simp [nodeI, leftI, hdN]
theorem hdN_kd (k : Int) : (hdN k).kd = 3 ∨ (hdN k).kd = 4 := by
  unfold hdN
  by_cases h : k = 2
  · exact Or.inr (by simp [h])
  · exact Or.inl (by simp [h])
theorem hdN_nxt (k : Int) : nxtI (hdN k) = 1 := by
  unfold nxtI
  rw [if_pos]
  · rfl
  · rcases hdN_kd k with e | e <;> rw [e] <;> rfl
theorem pair_lists {A M R : List Itm} {o c : Itm} (ho : canOpen o c = true) (hc : canClose c = true) :
    allI (A ++ o :: M ++ c :: R) = allI A ++ (leftI o ++ (allI M ++ (leftI c ++ allI R))) ∧
    allI (A ++ lessI o (kOf o c) :: nodeI (kOf o c) (allI M) :: lessI c (kOf o c) :: R) = allI A ++ ([wordsI 0 (List.replicate (o.n - kOf o c).toNat o.sg)] ++ ((hdN (kOf o c) :: deepI (allI M)) ++ ([wordsI 0 (List.replicate (c.n - kOf o c).toNat c.sg)] ++ allI R))) ∧
    signsI (A ++ lessI o (kOf o c) :: nodeI (kOf o c) (allI M) :: lessI c (kOf o c) :: R) + 2 * (kOf o c).toNat + signsI M = signsI (A ++ o :: M ++ c :: R) ∧ 1 ≤ (kOf o c).toNat := by
  have hc0 := canClose_pos hc
  have ho0 := canOpen_pos ho
  have hk := kOf_is o c ho0.1 hc0.1
  have hos : o.sg ≠ 0 := by rw [ho0.2.1]; exact hc0.2.1
  refine ⟨by simp [allI_append, allI_cons], ?_, ?_, by omega⟩
  · rw [allI_append, allI_cons, allI_cons, allI_cons, leftI_less hos, leftI_less hc0.2.1, leftI_node]
  · simp only [signsI_append, signsI_cons, lessI, nodeI, List.append_assoc, List.cons_append]
    have e0 : ((0 : Int)).toNat = 0 := rfl
    omega
theorem NKeep.pair {K : Int → Prop} (k1 : K 1) (k3 : K 3) (k4 : K 4) {T : Nat} (hT : T ≤ 1000000) {A M R : List Itm} {o c : Itm} (h : NKeep K T (A ++ o :: M ++ c :: R)) (ho : canOpen o c = true) (hc : canClose c = true) :
    NKeep K T (A ++ lessI o (kOf o c) :: nodeI (kOf o c) (allI M) :: lessI c (kOf o c) :: R) := by
  have hc0 := canClose_pos hc
  have ho0 := canOpen_pos ho
  have hk := kOf_is o c ho0.1 hc0.1
  have hos : o.sg ≠ 0 := by rw [ho0.2.1]; exact hc0.2.1
  obtain ⟨eS, eN, sN, hk1⟩ := pair_lists (A := A) (M := M) (R := R) ho hc
  have hkin := h.kinds
  have hlo := h.lo
  have hhi := h.hi
  rw [eS] at hkin hlo hhi
  have smallM : SmallD (allI M) := fun x hx => by
    have h1 := hlo x (by simp [hx])
    have h2 := hhi x (by simp [hx])
    omega
  have memM : ∀ z ∈ deepI (allI M), ∃ y ∈ allI M, z = deepOne y ∧ z.dp = y.dp + 1 := fun z hz => by
    obtain ⟨y, hy, rfl⟩ := List.mem_map.1 hz
    have := smallM y hy
    exact ⟨y, hy, rfl, wrap_small this.1 this.2⟩
  have cases' : ∀ (P : Iln → Prop), (∀ x ∈ allI A, P x) → (∀ s, P (wordsI 0 s)) → P (hdN (kOf o c)) → (∀ x ∈ deepI (allI M), P x) → (∀ x ∈ allI R, P x) → ∀ x ∈ allI (A ++ lessI o (kOf o c) :: nodeI (kOf o c) (allI M) :: lessI c (kOf o c) :: R), P x := by
    intro P p1 p2 p3 p4 p5 x hx
    rw [eN] at hx
    simp only [List.mem_append, List.mem_cons, List.not_mem_nil, or_false] at hx
    rcases hx with hx | rfl | (rfl | hx) | rfl | hx
    · exact p1 x hx
    · exact p2 _
    · exact p3
    · exact p4 x hx
    · exact p2 _
    · exact p5 x hx
  refine ⟨?_, ?_, ?_, ?_, ?_⟩
  · refine cases' _ (fun x hx => hkin x (by simp [hx])) (fun s => k1) ?_ (fun x hx => ?_) (fun x hx => hkin x (by simp [hx]))
    · rcases hdN_kd (kOf o c) with e | e <;> rw [e]
      · exact k3
      · exact k4
    · obtain ⟨y, hy, rfl, _⟩ := memM x hx
      exact hkin y (by simp [hy])
  · refine cases' (fun x => 0 ≤ x.dp) (fun x hx => hlo x (by simp [hx])) (fun s => Int.le_refl _) (Int.le_refl _) (fun x hx => ?_) (fun x hx => hlo x (by simp [hx]))
    obtain ⟨y, hy, _, e⟩ := memM x hx
    have := hlo y (by simp [hy])
    omega
  · have hw := hhi (wordsI 0 (List.replicate o.n.toNat o.sg)) (by rw [leftI_row hos]; simp)
    simp only [wordsI] at hw
    refine cases' (fun x => x.dp + _ ≤ _) (fun x hx => ?_) (fun s => ?_) ?_ (fun x hx => ?_) (fun x hx => ?_)
    · have := hhi x (by simp [hx]); omega
    · simp only [wordsI]; omega
    · show (0 : Int) + _ ≤ _; omega
    · obtain ⟨y, hy, _, e⟩ := memM x hx
      have := hhi y (by simp [hy])
      omega
    · have := hhi x (by simp [hx]); omega
  · intro x hx
    simp only [List.mem_append, List.mem_cons] at hx
    rcases hx with hx | rfl | rfl | rfl | hx
    · exact h.nn x (by simp [hx])
    · simp only [lessI]; omega
    · simp [nodeI]
    · simp only [lessI]; omega
    · exact h.nn x (by simp [hx])
  · intro x hx
    simp only [List.mem_append, List.mem_cons] at hx
    rcases hx with hx | rfl | rfl | rfl | hx
    · exact h.shape x (by simp [hx])
    · rw [leftI_less hos]; rfl
    · have hM : nestOk 0 (allI M) = true := nshape_all M (fun y hy => hlo y (by simp [hy])) (fun y hy => h.shape y (by simp [hy]))
      rw [leftI_node]
      have e0 : (hdN (kOf o c)).dp = 0 := rfl
      simp only [nestOk, e0, Int.le_refl, decide_true, Bool.true_and, hdN_nxt]
      have := nestOk_deep (allI M) smallM 0
      rw [show ((0 : Int) + 1) = 1 from rfl] at this
      rw [this]; exact hM
    · rw [leftI_less hc0.2.1]; rfl
    · exact h.shape x (by simp [hx])
theorem nkeep_go {K : Int → Prop} (k1 : K 1) (k3 : K 3) (k4 : K 4) {T : Nat} (hT : T ≤ 1000000) : ∀ (f : Nat) (l r : List Itm), NKeep K T (l.reverse ++ r) → NKeep K T (groupGo f l r)
  | 0, l, r, h => by simpa [groupGo] using h
  | f + 1, l, [], h => by simpa [groupGo] using h
  | f + 1, l, c :: r, h => by
    simp only [groupGo]
    split
    · next hc =>
      split
      · exact nkeep_go k1 k3 k4 hT f _ _ (by simpa using h)
      · next m o l' he =>
        obtain ⟨rfl, ho, _⟩ := openerI_some he
        refine nkeep_go k1 k3 k4 hT f _ _ ?_
        have h' : NKeep K T (l'.reverse ++ o :: m.reverse ++ c :: r) := by simpa using h
        have := h'.pair k1 k3 k4 hT ho hc
        simpa using this
    · exact nkeep_go k1 k3 k4 hT f _ _ (by simpa using h)
theorem nkeep_group {K : Int → Prop} (k1 : K 1) (k3 : K 3) (k4 : K 4) {T : Nat} (hT : T ≤ 1000000) {S : List Itm} (h : NKeep K T S) : KindsP K (groupI S) ∧ nestOk 0 (groupI S) = true ∧ (∀ x ∈ groupI S, 0 ≤ x.dp ∧ x.dp ≤ T) ∧ Merged (groupI S) := by
  have hG := nkeep_go k1 k3 k4 hT (fuelI S) [] S (by simpa using h)
  refine ⟨kindsP_merge hG.kinds, nestOk_merge (nshape_all _ hG.lo hG.shape), ?_, mergeI_merged _⟩
  have hb : ∀ (l p : List Iln), (∀ x ∈ p, 0 ≤ x.dp ∧ x.dp ≤ (T : Int)) → (∀ x ∈ l, 0 ≤ x.dp ∧ x.dp ≤ (T : Int)) → ∀ x ∈ l.foldl mergeOne p, 0 ≤ x.dp ∧ x.dp ≤ (T : Int) := by
    intro l
    induction l with
    | nil => intro p hp _; exact hp
    | cons x l ih =>
      intro p hp hl
      refine ih _ ?_ (fun y hy => hl y (by simp [hy]))
      have hx := hl x (by simp)
      rcases List.eq_nil_or_concat p with rfl | ⟨l', y, rfl⟩
      · rw [mergeOne_nil]
        split
        · split
          · exact hp
          · intro z hz; simp at hz; subst hz; exact hx
        · intro z hz; simp at hz; subst hz; exact hx
      · rw [List.concat_eq_append] at hp ⊢
        rw [mergeOne_snoc]
        have hy := hp y (by simp)
        split
        · split
          · exact hp
          · split
            · intro z hz
              rcases List.mem_append.1 hz with hz | hz
              · exact hp z (List.mem_append_left _ hz)
              · simp at hz; subst hz; exact hy
            · intro z hz
              rcases List.mem_append.1 hz with hz | hz
              · exact hp z hz
              · simp at hz; subst hz; exact hx
        · intro z hz
          rcases List.mem_append.1 hz with hz | hz
          · exact hp z hz
          · simp at hz; subst hz; exact hx
  exact hb _ [] (by intro x hx; cases hx) (fun x hx => ⟨hG.lo x hx, by have := hG.hi x hx; omega⟩)
structure TxtSt (K : Int → Prop) (T rest : Nat) (l : List Ent) : Prop where
  kinds : KindsP K (allI (l.map entI))
  lo : ∀ x ∈ allI (l.map entI), 0 ≤ x.dp
  hi : ∀ x ∈ allI (l.map entI), x.dp + signsI (l.map entI) + rest ≤ T
  room : signsI (l.map entI) + rest ≤ T
  nn : ∀ x ∈ l.map entI, 0 ≤ x.n
  shape : ∀ x ∈ l.map entI, nestOk 0 (leftI x) = true
theorem TxtSt.less {K : Int → Prop} {T a b : Nat} {l : List Ent} (h : TxtSt K T a l) (hb : b ≤ a) : TxtSt K T b l :=
  ⟨h.kinds, h.lo, fun x hx => by have := h.hi x hx; omega, by have := h.room; omega, h.nn, h.shape⟩
/-- Nodes more. -/
theorem TxtSt.nodes {K : Int → Prop} {T a b : Nat} {l : List Ent} (h : TxtSt K T a l) (hb : b < a) (e : Ent) (x : List Iln) (he : entI e = ndI x) (hk : KindsP K x) (hlo : ∀ y ∈ x, 0 ≤ y.dp ∧ y.dp ≤ 1) (hs : nestOk 0 x = true) : TxtSt K T b (e :: l) := by
  have hr := h.room
  have e1 : allI ((e :: l).map entI) = x ++ allI (l.map entI) := by rw [List.map_cons, allI_cons, he]; rfl
  have e2 : signsI ((e :: l).map entI) = signsI (l.map entI) := by rw [List.map_cons, signsI_cons, he]; simp [ndI]
  refine ⟨?_, ?_, ?_, ?_, ?_, ?_⟩
  · rw [e1]; intro y hy
    rcases List.mem_append.1 hy with hy | hy
    · exact hk y hy
    · exact h.kinds y hy
  · rw [e1]; intro y hy
    rcases List.mem_append.1 hy with hy | hy
    · exact (hlo y hy).1
    · exact h.lo y hy
  · rw [e1, e2]; intro y hy
    rcases List.mem_append.1 hy with hy | hy
    · have := (hlo y hy).2; omega
    · have := h.hi y hy; omega
  · rw [e2]; omega
  · intro y hy
    rw [List.map_cons, he] at hy
    rcases List.mem_cons.1 hy with rfl | hy
    · exact Int.le_refl _
    · exact h.nn y hy
  · intro y hy
    rw [List.map_cons, he] at hy
    rcases List.mem_cons.1 hy with rfl | hy
    · exact hs
    · exact h.shape y hy
/-- A row more. -/
theorem TxtSt.row {K : Int → Prop} (k1 : K 1) {T a b n : Nat} {l : List Ent} (h : TxtSt K T a l) (hb : b + n ≤ a) (x : Itm) (hx : x.n = n) (hsg : x.sg ≠ 0) : TxtSt K T b (.it x :: l) := by
  have hr := h.room
  have e1 : allI ((Ent.it x :: l).map entI) = wordsI 0 (List.replicate x.n.toNat x.sg) :: allI (l.map entI) := by rw [List.map_cons, allI_cons]; rw [show entI (.it x) = x from rfl, leftI_row hsg]; rfl
  have e2 : signsI ((Ent.it x :: l).map entI) = n + signsI (l.map entI) := by rw [List.map_cons, signsI_cons, show entI (.it x) = x from rfl, hx]; simp
  refine ⟨?_, ?_, ?_, ?_, ?_, ?_⟩
  · rw [e1]; intro y hy
    rcases List.mem_cons.1 hy with rfl | hy
    · exact k1
    · exact h.kinds y hy
  · rw [e1]; intro y hy
    rcases List.mem_cons.1 hy with rfl | hy
    · exact Int.le_refl _
    · exact h.lo y hy
  · rw [e1, e2]; intro y hy
    rcases List.mem_cons.1 hy with rfl | hy
    · simp only [wordsI]; omega
    · have := h.hi y hy; omega
  · rw [e2]; omega
  · intro y hy
    rcases List.mem_cons.1 hy with e | hy
    · rw [e]; show 0 ≤ x.n; omega
    · exact h.nn y hy
  · intro y hy
    rcases List.mem_cons.1 hy with e | hy
    · rw [e]; show nestOk 0 (leftI x) = true; rw [leftI_row hsg]; rfl
    · exact h.shape y hy
theorem shutE_entI (l : List Ent) : (l.map shutE).map entI = l.map entI := by
  rw [List.map_map]
  refine List.map_congr_left fun e _ => ?_
  cases e with
  | it x => rfl
  | mk img pos sh => cases img <;> rfl
theorem asked_kd {D : List Dfn} {img : Bool} {x r : List UInt8} {y : Iln} {n : Nat} (h : askedL D img x r = some (y, n)) : (y.kd = 5 ∨ y.kd = 6 ∨ y.kd = 10 ∨ y.kd = 11) ∧ y.dp = 0 := by
  have hl : ∀ u v, ((linkN img u v).kd = 5 ∨ (linkN img u v).kd = 6 ∨ (linkN img u v).kd = 10 ∨ (linkN img u v).kd = 11) ∧ (linkN img u v).dp = 0 := fun u v => by
    cases img
    · exact ⟨Or.inl rfl, rfl⟩
    · exact ⟨Or.inr (Or.inl rfl), rfl⟩
  have hf : ∀ (q : Dfn × Bool) k, foundN img q k = some (y, n) → (y.kd = 5 ∨ y.kd = 6 ∨ y.kd = 10 ∨ y.kd = 11) ∧ y.dp = 0 := by
    intro q k hq
    unfold foundN at hq
    split at hq
    · cases hq; exact hl _ _
    · cases hq
  unfold askedL at h
  split at h
  · cases h; exact ⟨Or.inr (Or.inr (Or.inl rfl)), rfl⟩
  · split at h
    · cases h; exact ⟨Or.inr (Or.inr (Or.inr rfl)), rfl⟩
    · split at h
      · cases h; exact hl _ _
      · split at h
        · split at h
          · exact hf _ _ h
          · split at h
            · exact hf _ _ h
            · cases h
        · exact hf _ _ h
/-- A text's tokens, one by one. -/
theorem txt_step {K : Int → Prop} (hK : ∀ k : Int, 1 ≤ k → k ≤ 11 → K k) (E : Env) (hE : ∀ k, E.atom k = none) (D : List Dfn) (s : List UInt8) (T : Nat) (hT : T ≤ 1000000) (i n : Nat) (t : Tk) (l : List Ent) (hn : 1 ≤ n) (hi : i < s.length) (hin : i + n ≤ s.length)
    (hrun : ∀ b k, t = .run b k → n = k ∧ b ≠ 0) (h : TxtSt K T (s.length - i) l) : TxtSt K T (s.length - (i + n + (stepI E D s i (i + n) t l).2)) (stepI E D s i (i + n) t l).1 := by
  have k1 := hK 1 (by decide) (by decide)
  have hle : ∀ m, s.length - (i + n + m) < s.length - i := fun m => by omega
  have one : ∀ (y : Iln) (m : Nat), K y.kd → y.dp = 0 → TxtSt K T (s.length - (i + n + m)) (.it (ndI [y]) :: l) := fun y m hk hd =>
    h.nodes (hle m) _ [y] rfl (by intro z hz; simp at hz; subst hz; exact hk) (by intro z hz; simp at hz; subst hz; omega) (by simp [nestOk, hd])
  unfold stepI
  cases t with
  | no => exact h.less (by omega)
  | word w => exact one (wordsI 0 w) 0 k1 rfl
  | code c => exact one _ 0 (hK 2 (by decide) (by decide)) rfl
  | tag x => exact one _ 0 (hK 9 (by decide) (by decide)) rfl
  | brk b => exact one _ 0 (by cases b <;> exact hK _ (by decide) (by decide)) rfl
  | atom k => simp only [hE, Option.getD_none]; exact h.nodes (hle 0) (.it (ndI [])) [] rfl (by intro z hz; cases hz) (by intro z hz; cases hz) rfl
  | auto u x =>
    refine h.nodes (hle 0) _ [⟨5, 0, [], u, []⟩, wordsI 1 x] rfl ?_ ?_ ?_
    · intro z hz
      simp at hz
      rcases hz with rfl | rfl
      · exact hK 5 (by decide) (by decide)
      · exact k1
    · intro z hz
      simp at hz
      rcases hz with rfl | rfl <;> simp [wordsI]
    · rfl
  | run b k =>
    obtain ⟨rfl, hb⟩ := hrun b k rfl
    exact TxtSt.row k1 h (n := n) (by omega) _ rfl hb
  | mark m =>
    simp only
    split
    · exact h.nodes (hle 0) (.mk false (i + n) false) [wordsI 0 [91]] rfl (by intro z hz; simp at hz; subst hz; exact k1) (by intro z hz; simp at hz; subst hz; simp [wordsI]) rfl
    · split
      · exact h.nodes (hle 0) (.mk true (i + n) false) [wordsI 0 [33, 91]] rfl (by intro z hz; simp at hz; subst hz; exact k1) (by intro z hz; simp at hz; subst hz; simp [wordsI]) rfl
      · unfold closeI
        split
        · exact one (wordsI 0 [93]) 0 k1 rfl
        · next m img pos sh l' hm =>
          have em := lastMk_some hm
          simp only at em
          have eA : allI (l.map entI) = allI m ++ ([wordsI 0 (markOf img)] ++ allI (l'.map entI)) := by
            rw [em, List.map_append, List.map_cons, List.map_map, allI_append, allI_cons]
            have : m.map (entI ∘ Ent.it) = m := by
              refine (List.map_congr_left fun x _ => ?_).trans (List.map_id _)
              rfl
            rw [this]
            rfl
          have eG : signsI (l.map entI) = signsI m + signsI (l'.map entI) := by
            rw [em, List.map_append, List.map_cons, List.map_map, signsI_append, signsI_cons]
            have : m.map (entI ∘ Ent.it) = m := by
              refine (List.map_congr_left fun x _ => ?_).trans (List.map_id _)
              rfl
            rw [this]
            simp [entI, ndI]
          have memS : ∀ x, x ∈ m ∨ x ∈ l'.map entI → x ∈ l.map entI := fun x hx => by
            rw [em]
            rcases hx with hx | hx
            · simp only [List.map_append, List.mem_append, List.map_map]
              exact Or.inl (List.mem_map.2 ⟨x, hx, rfl⟩)
            · simp only [List.map_append, List.mem_append, List.map_cons, List.mem_cons]
              exact Or.inr (Or.inr hx)
          have hl' : ∀ b, b ≤ s.length - i → TxtSt K T b l' := fun b hb => by
            refine ⟨fun x hx => h.kinds x (by rw [eA]; simp [hx]), fun x hx => h.lo x (by rw [eA]; simp [hx]), fun x hx => ?_, ?_, fun x hx => h.nn x (memS x (Or.inr hx)), fun x hx => h.shape x (memS x (Or.inr hx))⟩
            · have := h.hi x (by rw [eA]; simp [hx])
              omega
            · have := h.room
              omega
          split
          · next _ hask =>
            -- no pair: words
            refine ⟨?_, ?_, ?_, ?_, ?_, ?_⟩
            all_goals
              have eA2 : allI ((Ent.it (ndI [wordsI 0 [93]]) :: m.map Ent.it ++ Ent.it (ndI [wordsI 0 (markOf img)]) :: l').map entI) = [wordsI 0 [93]] ++ allI (l.map entI) := by
                rw [eA]
                simp only [List.cons_append, List.map_cons, List.map_append, List.map_map, allI_cons, allI_append]
                have : m.map (entI ∘ Ent.it) = m := by
                  refine (List.map_congr_left fun x _ => ?_).trans (List.map_id _)
                  rfl
                rw [this]
                rfl
              have eG2 : signsI ((Ent.it (ndI [wordsI 0 [93]]) :: m.map Ent.it ++ Ent.it (ndI [wordsI 0 (markOf img)]) :: l').map entI) = signsI (l.map entI) := by
                rw [eG]
                simp only [List.cons_append, List.map_cons, List.map_append, List.map_map, signsI_cons, signsI_append]
                have : m.map (entI ∘ Ent.it) = m := by
                  refine (List.map_congr_left fun x _ => ?_).trans (List.map_id _)
                  rfl
                rw [this]
                simp [entI, ndI]
            · simp only; rw [eA2]; intro y hy
              rcases List.mem_append.1 hy with hy | hy
              · simp at hy; subst hy; exact k1
              · exact h.kinds y hy
            · simp only; rw [eA2]; intro y hy
              rcases List.mem_append.1 hy with hy | hy
              · simp at hy; subst hy; exact Int.le_refl _
              · exact h.lo y hy
            · simp only; rw [eA2, eG2]; intro y hy
              have hr := h.room
              rcases List.mem_append.1 hy with hy | hy
              · simp at hy; subst hy; simp only [wordsI]; omega
              · have := h.hi y hy; omega
            · simp only; rw [eG2]; have := h.room; omega
            · intro y hy
              simp only [List.cons_append, List.map_cons, List.map_append, List.map_map, List.mem_cons, List.mem_append, List.mem_map, Function.comp] at hy
              rcases hy with rfl | ⟨z, hz, rfl⟩ | rfl | ⟨z, hz, rfl⟩
              · exact Int.le_refl _
              · exact h.nn z (memS z (Or.inl hz))
              · exact Int.le_refl _
              · exact h.nn _ (memS _ (Or.inr (List.mem_map.2 ⟨z, hz, rfl⟩)))
            · intro y hy
              simp only [List.cons_append, List.map_cons, List.map_append, List.map_map, List.mem_cons, List.mem_append, List.mem_map, Function.comp] at hy
              rcases hy with rfl | ⟨z, hz, rfl⟩ | rfl | ⟨z, hz, rfl⟩
              · rfl
              · exact h.shape z (memS z (Or.inl hz))
              · rfl
              · exact h.shape _ (memS _ (Or.inr (List.mem_map.2 ⟨z, hz, rfl⟩)))
          · next x q hask =>
            have hsh : sh = false := by
              cases sh
              · rfl
              · simp at hask
            subst hsh
            simp only [Bool.false_eq_true, if_false] at hask
            obtain ⟨hkd, hdp⟩ := asked_kd hask
            have hTm : NKeep K (T - signsI (l'.map entI) - (s.length - i)) m.reverse := by
              have hr := h.room
              refine ⟨fun y hy => h.kinds y ?_, fun y hy => h.lo y ?_, fun y hy => ?_, fun y hy => h.nn y (memS y (Or.inl (List.mem_reverse.1 hy))), fun y hy => h.shape y (memS y (Or.inl (List.mem_reverse.1 hy)))⟩
              · rw [eA]
                obtain ⟨z, hz, hyz⟩ := List.mem_flatMap.1 hy
                exact List.mem_append_left _ (List.mem_flatMap.2 ⟨z, List.mem_reverse.1 hz, hyz⟩)
              · rw [eA]
                obtain ⟨z, hz, hyz⟩ := List.mem_flatMap.1 hy
                exact List.mem_append_left _ (List.mem_flatMap.2 ⟨z, List.mem_reverse.1 hz, hyz⟩)
              · have := h.hi y (by
                  rw [eA]
                  obtain ⟨z, hz, hyz⟩ := List.mem_flatMap.1 hy
                  exact List.mem_append_left _ (List.mem_flatMap.2 ⟨z, List.mem_reverse.1 hz, hyz⟩))
                rw [signsI_reverse]
                omega
            have hg := nkeep_group k1 (hK 3 (by decide) (by decide)) (hK 4 (by decide) (by decide)) (by omega) hTm
            have single : ∀ (y : Iln), K y.kd → y.dp = 0 → TxtSt K T (s.length - (i + n + q)) (.it (ndI [y]) :: l') := fun y hk hd =>
              (hl' (s.length - i) (Nat.le_refl _)).nodes (hle q) _ [y] rfl (by intro z hz; simp at hz; subst hz; exact hk) (by intro z hz; simp at hz; subst hz; omega) (by simp [nestOk, hd])
            by_cases h6 : x.kd = 6
            · simp only [if_pos h6]
              exact single _ (by show K x.kd; rw [h6]; exact hK 6 (by decide) (by decide)) hdp
            · by_cases h5 : x.kd = 5
              · simp only [if_neg h6, if_pos h5]
                have hr := h.room
                have hsmall : SmallD (groupI m.reverse) := fun y hy => by have := hg.2.2.1 y hy; omega
                have hdeep : ∀ y ∈ deepI (groupI m.reverse), ∃ z ∈ groupI m.reverse, y = deepOne z ∧ y.dp = z.dp + 1 := fun y hy => by
                  obtain ⟨z, hz, rfl⟩ := List.mem_map.1 hy
                  have := hsmall z hz
                  exact ⟨z, hz, rfl, wrap_small this.1 this.2⟩
                have eA3 : allI ((Ent.it (ndI (x :: deepI (groupI m.reverse))) :: l'.map shutE).map entI) = (x :: deepI (groupI m.reverse)) ++ allI (l'.map entI) := by
                  rw [List.map_cons, allI_cons, shutE_entI]; rfl
                have eG3 : signsI ((Ent.it (ndI (x :: deepI (groupI m.reverse))) :: l'.map shutE).map entI) = signsI (l'.map entI) := by
                  rw [List.map_cons, signsI_cons, shutE_entI]; simp [entI, ndI]
                have hl0 := hl' (s.length - i) (Nat.le_refl _)
                refine ⟨?_, ?_, ?_, ?_, ?_, ?_⟩
                · rw [eA3]; intro y hy
                  simp only [List.cons_append, List.mem_cons, List.mem_append] at hy
                  rcases hy with rfl | hy | hy
                  · rw [h5]; exact hK 5 (by decide) (by decide)
                  · obtain ⟨z, hz, rfl, _⟩ := hdeep y hy
                    exact hg.1 z hz
                  · exact hl0.kinds y hy
                · rw [eA3]; intro y hy
                  simp only [List.cons_append, List.mem_cons, List.mem_append] at hy
                  rcases hy with rfl | hy | hy
                  · omega
                  · obtain ⟨z, hz, _, e⟩ := hdeep y hy
                    have := (hg.2.2.1 z hz).1
                    omega
                  · exact hl0.lo y hy
                · rw [eA3, eG3]; intro y hy
                  simp only [List.cons_append, List.mem_cons, List.mem_append] at hy
                  rcases hy with rfl | hy | hy
                  · omega
                  · obtain ⟨z, hz, _, e⟩ := hdeep y hy
                    have := (hg.2.2.1 z hz).2
                    omega
                  · have := hl0.hi y hy; omega
                · rw [eG3]; omega
                · intro y hy
                  rw [List.map_cons, shutE_entI] at hy
                  rcases List.mem_cons.1 hy with rfl | hy
                  · exact Int.le_refl _
                  · exact hl0.nn y hy
                · intro y hy
                  rw [List.map_cons, shutE_entI] at hy
                  rcases List.mem_cons.1 hy with rfl | hy
                  · show nestOk 0 (x :: deepI (groupI m.reverse)) = true
                    simp only [nestOk, hdp, Int.le_refl, decide_true, Bool.true_and]
                    rw [show nxtI x = 0 + 1 from by unfold nxtI; rw [h5, hdp]; rfl, nestOk_deep _ hsmall]
                    exact hg.2.1
                  · exact hl0.shape y hy
              · simp only [if_neg h6, if_neg h5]
                refine single x ?_ hdp
                rcases hkd with e | e | e | e <;> rw [e]
                · exact hK 5 (by decide) (by decide)
                · exact hK 6 (by decide) (by decide)
                · exact hK 10 (by decide) (by decide)
                · exact hK 11 (by decide) (by decide)
theorem next_run_len (l : List UInt8) (b : UInt8) (k n : Nat) (h : nextL l = (.run b k, n)) : n = k ∧ b ≠ 0 := by
  unfold nextL at h
  split at h
  · unfold wordTk at h; simp at h
  · have : ∀ (t : Tk × Nat), t = (.run b k, n) → t.1 = .run b k ∧ t.2 = n := fun t e => by rw [e]; exact ⟨rfl, rfl⟩
    unfold firstTk at h
    simp only at h
    split at h
    · unfold atomL at h; simp only at h; split at h <;> cases h
    · split at h
      · unfold escapedL at h
        split at h
        · cases h
        · split at h
          · split at h <;> cases h
          · cases h
      · split at h
        · cases h
        · split at h
          · exfalso
            have : ∀ (f : Nat) (l : List UInt8) (n k : Nat) (b : UInt8) (m q : Nat), codeGo l n f k ≠ (.run b m, q) := by
              intro f
              induction f with
              | zero => intro l n k b m q e; cases e
              | succ f ih =>
                intro l n k b m q e
                unfold codeGo at e
                split at e
                · cases e
                · simp only at e
                  split at e
                  · cases e
                  · exact ih _ _ _ _ _ _ e
            exact this _ _ _ _ _ _ _ h
          · split at h
            · unfold pointedL at h
              simp only at h
              split at h
              · cases h
              · split at h <;> cases h
            · split at h
              · next hc =>
                cases h
                refine ⟨rfl, ?_⟩
                rcases hc with e | e <;> rw [e] <;> decide
              · split at h
                · unfold markTk at h
                  split at h
                  · cases h
                  · split at h
                    · cases h
                    · split at h <;> cases h
                · split at h
                  · unfold lineTk at h
                    simp only at h
                    split at h <;> cases h
                  · cases h
theorem txt_all {K : Int → Prop} (hK : ∀ k : Int, 1 ≤ k → k ≤ 11 → K k) (E : Env) (hE : ∀ k, E.atom k = none) (D : List Dfn) (s : List UInt8) (T : Nat) (hT : T ≤ 1000000) : ∀ (f i : Nat) (l : List Ent), TxtSt K T (s.length - i) l → s.length ≤ i + f → TxtSt K T 0 (inlGo E D s f i l)
  | 0, i, l, h, hf => h.less (by omega)
  | f + 1, i, l, h, hf => by
    simp only [inlGo]
    split
    · next hi =>
      have hne : s.drop i ≠ [] := by intro e; have := congrArg List.length e; simp at this; omega
      have h1 := (next_len (s.drop i) hne).1
      have h2 := (next_len (s.drop i) hne).2
      rw [List.length_drop] at h2
      exact txt_all hK E hE D s T hT f _ _ (txt_step hK E hE D s T hT i _ _ l h1 hi (by omega) (fun b k e => next_run_len (s.drop i) b k _ (by rw [← e])) h) (by omega)
    · exact h.less (by omega)
/-- A text without atoms: its nodes lie in one another as they may. -/
theorem shapes_plain (D : List Dfn) (s : List UInt8) (hs : s.length ≤ 1000000) : (∀ x ∈ rawI D s, 1 ≤ x.kd ∧ x.kd ≤ 11 ∧ 0 ≤ x.dp ∧ x.dp ≤ s.length) ∧ nestOk 0 (rawI D s) = true ∧ Merged (rawI D s) := by
  have h0 : TxtSt (fun k => 1 ≤ k ∧ k ≤ 11) s.length (s.length - 0) [] := ⟨fun x hx => (by cases hx), fun x hx => (by cases hx), fun x hx => (by cases hx), (by simp [signsI]), fun x hx => (by cases hx), fun x hx => (by cases hx)⟩
  have h1 := txt_all (K := fun k => 1 ≤ k ∧ k ≤ 11) (fun k a b => ⟨a, b⟩) rawE (fun _ => rfl) D s s.length hs s.length 0 [] h0 (by omega)
  have hN : NKeep (fun k => 1 ≤ k ∧ k ≤ 11) s.length ((inlGo rawE D s s.length 0 []).reverse.map entI) := by
    rw [List.map_reverse]
    have hm : ∀ y, y ∈ allI ((inlGo rawE D s s.length 0 []).map entI).reverse → y ∈ allI ((inlGo rawE D s s.length 0 []).map entI) := fun y hy => by
      obtain ⟨z, hz, hyz⟩ := List.mem_flatMap.1 hy
      exact List.mem_flatMap.2 ⟨z, List.mem_reverse.1 hz, hyz⟩
    refine ⟨fun y hy => h1.kinds y (hm y hy), fun y hy => h1.lo y (hm y hy), fun y hy => ?_, fun y hy => h1.nn y (List.mem_reverse.1 hy), fun y hy => h1.shape y (List.mem_reverse.1 hy)⟩
    have := h1.hi y (hm y hy)
    rw [signsI_reverse]
    omega
  have hg := nkeep_group ⟨by decide, by decide⟩ ⟨by decide, by decide⟩ ⟨by decide, by decide⟩ hs hN
  exact ⟨fun x hx => ⟨(hg.1 x hx).1, (hg.1 x hx).2, (hg.2.2.1 x hx).1, (hg.2.2.1 x hx).2⟩, hg.2.1, hg.2.2.2⟩
end Go.Proofs.YtfbaknkmpilllaaGreatDoor

namespace Go.Proofs.YtfbaknkmpilllaaGreatDoor
open Go.RowKit
set_option linter.unusedSimpArgs false
set_option linter.unusedVariables false
/-- How many nodes, and how many bytes of text, there are. -/
def sizI (l : List Iln) : Nat := l.length + (textI l).length
theorem sizI_nil : sizI [] = 0 := rfl
theorem sizI_append (a b : List Iln) : sizI (a ++ b) = sizI a + sizI b := by simp [sizI, textI_append]; omega
theorem sizI_cons (x : Iln) (b : List Iln) : sizI (x :: b) = 1 + (ilText x).length + sizI b := by simp [sizI, textI_cons]; omega
theorem textI_deepZ (l : List Iln) : textI (deepI l) = textI l := by
  induction l with
  | nil => rfl
  | cons x l ih => rw [show deepI (x :: l) = deepOne x :: deepI l from rfl, textI_cons, textI_cons, ih]; rfl
theorem sizI_deep (l : List Iln) : sizI (deepI l) = sizI l := by simp [sizI, textI_deepZ]; simp [deepI]
theorem mergeOne_len (out : List Iln) (x : Iln) : (mergeOne out x).length ≤ out.length + 1 := by
  rcases List.eq_nil_or_concat out with rfl | ⟨l', y, rfl⟩
  · rw [mergeOne_nil]
    split
    · split <;> simp
    · simp
  · rw [List.concat_eq_append, mergeOne_snoc]
    split
    · split
      · simp
      · split <;> simp
    · simp
theorem foldl_len (l : List Iln) : ∀ p : List Iln, (l.foldl mergeOne p).length ≤ p.length + l.length := by
  induction l with
  | nil => intro p; simp
  | cons x l ih => intro p; have h1 := ih (mergeOne p x); have h2 := mergeOne_len p x; rw [List.foldl_cons, List.length_cons]; omega
theorem sizI_merge (l : List Iln) : sizI (mergeI l) ≤ sizI l := by
  unfold sizI
  rw [mergeI_text]
  have := foldl_len l []
  simp at this
  unfold mergeI
  omega
theorem leftI_siz (x : Itm) : sizI (leftI x) = itN x := by
  unfold leftI itN sizI
  split
  · rfl
  · simp [textI, wordsI, ilText]
theorem all_pot (S : List Itm) : sizI (allI S) = potI S := by
  induction S with
  | nil => rfl
  | cons x S ih => rw [allI_cons, sizI_append, leftI_siz, potI_cons, ih]
theorem potI_append (a b : List Itm) : potI (a ++ b) = potI a + potI b := by simp [potI]
theorem potI_reverse (a : List Itm) : potI a.reverse = potI a := by
  induction a with
  | nil => rfl
  | cons x a ih => rw [List.reverse_cons, potI_append, ih, potI_cons, potI_cons]; simp [potI]; omega
theorem potI_nil : potI [] = 0 := rfl
theorem itN_node (k : Int) (l : List Iln) : itN (nodeI k l) = 1 + sizI l := by
  unfold itN nodeI
  rw [if_pos rfl]
  show sizI (_ :: deepI l) = _
  rw [sizI_cons, sizI_deep]
  split <;> simp [ilText]
theorem go_pot : ∀ (f : Nat) (l r : List Itm), potI (groupGo f l r) ≤ potI l + potI r
  | 0, l, r => by rw [groupGo, potI_append, potI_reverse]; omega
  | f + 1, l, [] => by rw [groupGo, potI_reverse]; omega
  | f + 1, l, c :: r => by
    simp only [groupGo]
    have h0 := go_pot f (c :: l) r
    rw [potI_cons] at h0
    rw [potI_cons]
    split
    · next hc =>
      have hc0 := canClose_pos hc
      split
      · omega
      · next m o l' he =>
        obtain ⟨rfl, ho, _⟩ := openerI_some he
        have ho0 := canOpen_pos ho
        have hk := kOf_is o c ho0.1 hc0.1
        have h1 := go_pot f (nodeI (kOf o c) (allI m.reverse) :: lessI o (kOf o c) :: l') (lessI c (kOf o c) :: r)
        have so : o.sg ≠ 0 := by rw [ho0.2.1]; exact hc0.2.1
        have i1 : itN (lessI o (kOf o c)) + 1 ≤ itN o := by
          unfold itN lessI
          dsimp only
          rw [if_neg so, if_neg so]
          omega
        have i2 : itN (lessI c (kOf o c)) + 1 ≤ itN c := by
          unfold itN lessI
          dsimp only
          rw [if_neg hc0.2.1, if_neg hc0.2.1]
          omega
        rw [potI_cons, potI_cons, potI_cons, itN_node, all_pot, potI_reverse] at h1
        rw [potI_append, potI_cons]
        omega
    · omega
theorem group_pot (S : List Itm) : sizI (groupI S) ≤ potI S := by
  unfold groupI
  have h1 := sizI_merge (allI (groupGo (fuelI S) [] S))
  have h2 := go_pot (fuelI S) [] S
  rw [all_pot] at h1
  rw [potI_nil] at h2
  omega
theorem wrapD_mergeOne {out : List Iln} (h : WrapD out) {x : Iln} (hx : IntKind.i64.wrap x.dp = x.dp) : WrapD (mergeOne out x) := by
  rcases List.eq_nil_or_concat out with rfl | ⟨l', y, rfl⟩
  · rw [mergeOne_nil]
    split
    · split
      · exact h
      · intro z hz; simp at hz; subst hz; exact hx
    · intro z hz; simp at hz; subst hz; exact hx
  · rw [List.concat_eq_append] at h ⊢
    have hy := h y (by simp)
    rw [mergeOne_snoc]
    have hl : WrapD l' := fun z hz => h z (by simp [hz])
    split
    · split
      · exact h
      · split
        · exact wrapD_append.2 ⟨hl, by intro z hz; simp at hz; subst hz; exact hy⟩
        · exact wrapD_append.2 ⟨h, by intro z hz; simp at hz; subst hz; exact hx⟩
    · exact wrapD_append.2 ⟨h, by intro z hz; simp at hz; subst hz; exact hx⟩
theorem wrapD_foldl (l : List Iln) : ∀ {p : List Iln}, WrapD p → WrapD l → WrapD (l.foldl mergeOne p) := by
  induction l with
  | nil => intro p h _; exact h
  | cons x l ih => intro p h k; exact ih (wrapD_mergeOne h (k x (by simp))) (fun y hy => k y (by simp [hy]))
theorem wrapD_nil : WrapD [] := by intro x hx; cases hx
theorem wrapD_group {S : List Itm} (h : WrapD (allI S)) : WrapD (groupI S) := wrapD_foldl _ wrapD_nil (wrapD_go _ _ _ wrapD_nil h)
/-- How much a token makes, if it is no bracket. -/
def tokN (E : Env) : Tk → Nat
  | .word w => 1 + w.length
  | .code c => 1 + (E.code c).length
  | .auto _ x => 2 + x.length
  | .run _ n => 1 + n
  | .atom k => match E.atom k with | some x => sizI x | none => 0
  | .brk _ => 2
  | .tag _ => 1
  | _ => 0
structure PotSt (C i : Nat) (l : List Ent) : Prop where
  len : l.length ≤ i
  pot : potI (l.map entI) ≤ C * i
  sg : ∀ x ∈ l.map entI, x.n = x.ff ∧ 0 ≤ x.n ∧ x.n ≤ i
  wd : WrapD (allI (l.map entI))
  pos : ∀ img p sh, Ent.mk img p sh ∈ l → p ≤ i
theorem PotSt.less {C a b : Nat} {l : List Ent} (h : PotSt C a l) (hb : a ≤ b) : PotSt C b l :=
  ⟨by have := h.len; omega, Nat.le_trans h.pot (Nat.mul_le_mul_left C hb), fun x hx => by have := h.sg x hx; omega, h.wd, fun img p sh hm => by have := h.pos img p sh hm; omega⟩
theorem itN_nd (x : List Iln) : itN (ndI x) = sizI x := by unfold itN ndI; rw [if_pos rfl]; rfl
/-- One entry more. -/
theorem PotSt.one {C a b : Nat} {l : List Ent} (h : PotSt C a l) (hb : a + 1 ≤ b) (e : Ent) (he : itN (entI e) ≤ C * (b - a)) (hs : (entI e).n = (entI e).ff ∧ 0 ≤ (entI e).n ∧ (entI e).n ≤ b) (hw : WrapD (leftI (entI e))) (hp : ∀ img p sh, Ent.mk img p sh = e → p ≤ b) : PotSt C b (e :: l) := by
  have hk : C * a + C * (b - a) = C * b := by rw [← Nat.mul_add]; congr 1; omega
  have h' := h.less (b := b) (by omega)
  refine ⟨by have := h.len; rw [List.length_cons]; omega, by have := h.pot; rw [List.map_cons, potI_cons]; omega, ?_, ?_, ?_⟩
  · intro x hx
    rw [List.map_cons] at hx
    rcases List.mem_cons.1 hx with rfl | hx
    · exact hs
    · exact h'.sg x hx
  · rw [List.map_cons, allI_cons]
    exact wrapD_append.2 ⟨hw, h.wd⟩
  · intro img p sh hm
    rcases List.mem_cons.1 hm with e1 | hm
    · exact hp img p sh e1
    · exact h'.pos img p sh hm
theorem lastMk_pot {l : List Ent} {m : List Itm} {o : Bool × Nat × Bool} {l' : List Ent} (h : lastMk l = some (m, o, l')) : l = m.map Ent.it ++ Ent.mk o.1 o.2.1 o.2.2 :: l' := by
  induction l generalizing m with
  | nil => cases h
  | cons e l ih =>
    cases e with
    | mk img pos sh => cases h; rfl
    | it x =>
      unfold lastMk at h
      split at h
      · next m2 o2 l2 he => cases h; rw [ih he]; rfl
      · cases h
theorem map_ent (m : List Itm) : (m.map Ent.it).map entI = m := by
  rw [List.map_map]
  conv => rhs; rw [← List.map_id m]
  rfl
theorem wrapD_words (t : List UInt8) : WrapD (leftI (ndI [wordsI 0 t])) := by
  intro x hx
  simp [leftI, ndI] at hx
  subst hx
  rfl
theorem asked_dp {D : List Dfn} {img : Bool} {x r : List UInt8} {y : Iln} {n : Nat} (h : askedL D img x r = some (y, n)) : y.dp = 0 := (asked_kd h).2
theorem asked_txt {D : List Dfn} {img : Bool} {x r : List UInt8} {y : Iln} {n : Nat} (h : askedL D img x r = some (y, n)) : ilText y = [] := by
  have hl : ∀ u v, ilText (linkN img u v) = [] := fun u v => by cases img <;> rfl
  have hf : ∀ (q : Dfn × Bool) k, foundN img q k = some (y, n) → ilText y = [] := by
    intro q k hq
    unfold foundN at hq
    split at hq
    · cases hq; exact hl _ _
    · cases hq
  unfold askedL at h
  split at h
  · cases h; rfl
  · split at h
    · cases h; rfl
    · split at h
      · cases h; exact hl _ _
      · split at h
        · split at h
          · exact hf _ _ h
          · split at h
            · exact hf _ _ h
            · cases h
        · exact hf _ _ h
theorem allI_rev {S : List Itm} (h : WrapD (allI S)) : WrapD (allI S.reverse) := by
  intro x hx
  obtain ⟨y, hy, hx⟩ := List.mem_flatMap.1 hx
  exact h x (List.mem_flatMap.2 ⟨y, List.mem_reverse.1 hy, hx⟩)
theorem shut_pos {l : List Ent} {img : Bool} {p : Nat} {sh : Bool} (h : Ent.mk img p sh ∈ l.map shutE) : ∃ sh', Ent.mk img p sh' ∈ l := by
  obtain ⟨e, he, h2⟩ := List.mem_map.1 h
  cases e with
  | it x => cases h2
  | mk img' p' sh' =>
    cases img' with
    | true => cases h2; exact ⟨_, he⟩
    | false => cases h2; exact ⟨_, he⟩
theorem pot_close {C : Nat} (hC : 3 ≤ C) (D : List Dfn) (s : List UInt8) (i t : Nat) (hit : i + 1 ≤ t) (l : List Ent) (h : PotSt C i l) : PotSt C t (closeI D s i t l).1 := by
  have hone : ∀ l, PotSt C i l → PotSt C t (.it (ndI [wordsI 0 [93]]) :: l) := fun l h => by
    refine h.one hit _ ?_ ⟨rfl, Int.le_refl _, by show (0 : Int) ≤ t; omega⟩ (wrapD_words _) (fun _ _ _ e => by cases e)
    rw [show entI (.it (ndI [wordsI 0 [93]])) = ndI [wordsI 0 [93]] from rfl, itN_nd, sizI_cons, sizI_nil]
    have : C * 1 ≤ C * (t - i) := Nat.mul_le_mul_left C (by omega)
    simp [ilText, wordsI]
    omega
  unfold closeI
  split
  · exact hone l h
  · next m img pos sh l' hm =>
    have em := lastMk_pot hm
    simp only at em
    have h' := h.less (b := t) (by omega)
    have eA : allI (l.map entI) = allI m ++ ([wordsI 0 (markOf img)] ++ allI (l'.map entI)) := by
      rw [em, List.map_append, map_ent, allI_append, List.map_cons, allI_cons]; rfl
    have hwd := h.wd
    rw [eA] at hwd
    have hwm := (wrapD_append.1 hwd).1
    have hwl := (wrapD_append.1 (wrapD_append.1 hwd).2).2
    have eP : potI (l.map entI) = potI m + (itN (ndI [wordsI 0 (markOf img)]) + potI (l'.map entI)) := by
      rw [em, List.map_append, map_ent, potI_append, List.map_cons, potI_cons]; rfl
    have eN : 2 ≤ itN (ndI [wordsI 0 (markOf img)]) := by
      rw [itN_nd, sizI_cons, sizI_nil]
      cases img <;> simp [markOf, ilText, wordsI]
    have eL : l.length = m.length + (1 + l'.length) := by rw [em]; simp; omega
    have hsm : ∀ x ∈ m, x ∈ l.map entI := fun x hx => by rw [em, List.map_append, map_ent]; exact List.mem_append_left _ hx
    have hsl : ∀ x ∈ l'.map entI, x ∈ l.map entI := fun x hx => by rw [em, List.map_append, List.map_cons]; exact List.mem_append_right _ (List.mem_cons_of_mem _ hx)
    have hml : ∀ e ∈ l', e ∈ l := fun e he => by rw [em]; exact List.mem_append_right _ (List.mem_cons_of_mem _ he)
    split
    · refine hone (m.map Ent.it ++ .it (ndI [wordsI 0 (markOf img)]) :: l') ⟨?_, ?_, ?_, ?_, ?_⟩
      · have := h.len; simp; omega
      · rw [List.map_append, map_ent, List.map_cons, potI_append, potI_cons]
        have := h.pot
        rw [eP] at this
        exact this
      · intro x hx
        rw [List.map_append, map_ent] at hx
        rcases List.mem_append.1 hx with hx | hx
        · exact h.sg x (hsm x hx)
        · rw [List.map_cons] at hx
          rcases List.mem_cons.1 hx with rfl | hx
          · exact ⟨rfl, Int.le_refl _, by show (0 : Int) ≤ i; omega⟩
          · exact h.sg x (hsl x hx)
      · rw [List.map_append, map_ent, List.map_cons, allI_append, allI_cons]
        exact hwd
      · intro im p s2 hh
        rcases List.mem_append.1 hh with hh | hh
        · obtain ⟨_, _, e2⟩ := List.mem_map.1 hh; cases e2
        · rcases List.mem_cons.1 hh with e2 | hh
          · cases e2
          · exact h.pos im p s2 (hml _ hh)
    · next x n hq =>
      have hq2 : askedL D img (List.drop pos (List.take i s)) (List.drop t s) = some (x, n) := by
        revert hq
        cases sh with
        | true => intro e; cases e
        | false => exact fun e => e
      have hx0 := asked_dp hq2
      have hxt := asked_txt hq2
      have hpot := h'.pot
      rw [eP] at hpot
      have hgp := group_pot m.reverse
      rw [potI_reverse] at hgp
      have fin : ∀ (Y : List Iln) (l2 : List Ent), l2.map entI = l'.map entI → (∀ im p s2, Ent.mk im p s2 ∈ l2 → ∃ s3, Ent.mk im p s3 ∈ l') → sizI Y ≤ 1 + potI m → WrapD Y → PotSt C t (.it (ndI Y) :: l2) := by
        intro Y l2 e2 p2 hY hw
        have e3 : l2.length = l'.length := by have := congrArg List.length e2; simpa using this
        refine ⟨?_, ?_, ?_, ?_, ?_⟩
        · have := h'.len; rw [List.length_cons]; omega
        · rw [List.map_cons, potI_cons, e2, show entI (.it (ndI Y)) = ndI Y from rfl, itN_nd]
          omega
        · intro y hy
          rw [List.map_cons, e2] at hy
          rcases List.mem_cons.1 hy with rfl | hy
          · exact ⟨rfl, Int.le_refl _, by show (0 : Int) ≤ t; omega⟩
          · exact h'.sg y (hsl y hy)
        · rw [List.map_cons, e2, allI_cons]
          refine wrapD_append.2 ⟨?_, hwl⟩
          rw [show leftI (entI (.it (ndI Y))) = Y from by simp [entI, leftI, ndI]]
          exact hw
        · intro im p s2 hh
          rcases List.mem_cons.1 hh with e2 | hh
          · cases e2
          · obtain ⟨s3, h3⟩ := p2 im p s2 hh
            exact h'.pos im p s3 (hml _ h3)
      split
      · refine fin _ l' rfl (fun im p s2 hh => ⟨s2, hh⟩) ?_ ?_
        · next h6 =>
          rw [sizI_cons, sizI_nil]
          have e6 : ilText { x with txt := textI (groupI m.reverse) } = textI (groupI m.reverse) := by unfold ilText; simp [h6]
          rw [e6]
          unfold sizI at hgp
          omega
        · intro z hz
          simp at hz
          subst hz
          show IntKind.i64.wrap x.dp = x.dp
          rw [hx0]; rfl
      · split
        · refine fin _ (l'.map shutE) (shutE_entI l') (fun im p s2 hh => shut_pos hh) ?_ ?_
          · rw [sizI_cons, sizI_deep, hxt, List.length_nil]
            omega
          · intro z hz
            rcases List.mem_cons.1 hz with rfl | hz
            · rw [hx0]; rfl
            · exact wrapD_deep _ z hz
        · refine fin _ l' rfl (fun im p s2 hh => ⟨s2, hh⟩) ?_ ?_
          · rw [sizI_cons, sizI_nil, hxt, List.length_nil]
            omega
          · intro z hz
            simp at hz
            subst hz
            rw [hx0]; rfl
/-- A text's tokens, one by one. -/
theorem pot_step {C : Nat} (hC : 3 ≤ C) (E : Env) (D : List Dfn) (s : List UInt8) (i n : Nat) (t : Tk) (l : List Ent) (hn : 1 ≤ n) (ht : tokN E t ≤ C * n) (hrun : ∀ b k, t = .run b k → n = k ∧ b ≠ 0)
    (hat : ∀ k x, E.atom k = some x → WrapD x) (h : PotSt C i l) : PotSt C (i + n) (stepI E D s i (i + n) t l).1 := by
  have hd : i + n - i = n := by omega
  have hcn : C * 1 ≤ C * n := Nat.mul_le_mul_left C hn
  have one : ∀ (e : Ent) (Y : List Iln), entI e = ndI Y → sizI Y ≤ C * n → WrapD Y → (∀ img p sh, Ent.mk img p sh = e → p ≤ i + n) → PotSt C (i + n) (e :: l) := fun e Y he hs hw hp =>
    h.one (by omega) e (by rw [he, itN_nd, hd]; exact hs) (by rw [he]; exact ⟨rfl, Int.le_refl _, by show (0 : Int) ≤ (i + n : Nat); omega⟩) (by rw [he, show leftI (ndI Y) = Y from by simp [leftI, ndI]]; exact hw) hp
  have w1 : ∀ x : Iln, x.dp = 0 → WrapD [x] := fun x hx z hz => by simp at hz; subst hz; rw [hx]; rfl
  unfold stepI
  cases t with
  | no => exact h.less (by omega)
  | word w => exact one _ [wordsI 0 w] rfl (by rw [sizI_cons, sizI_nil]; simpa [tokN, ilText, wordsI] using ht) (w1 _ rfl) (fun _ _ _ e => by cases e)
  | code c => exact one _ _ rfl (by rw [sizI_cons, sizI_nil]; simpa [tokN, ilText] using ht) (w1 _ rfl) (fun _ _ _ e => by cases e)
  | tag x => exact one _ _ rfl (by rw [sizI_cons, sizI_nil]; simpa [tokN, ilText] using ht) (w1 _ rfl) (fun _ _ _ e => by cases e)
  | brk b => exact one _ _ rfl (by rw [sizI_cons, sizI_nil]; cases b <;> simpa [tokN, ilText] using ht) (w1 _ rfl) (fun _ _ _ e => by cases e)
  | auto u x =>
    refine one _ _ rfl ?_ ?_ (fun _ _ _ e => by cases e)
    · rw [sizI_cons, sizI_cons, sizI_nil]
      simp [tokN] at ht
      simp [ilText, wordsI]
      omega
    · intro z hz
      simp at hz
      rcases hz with rfl | rfl <;> rfl
  | atom k =>
    have ht : (match E.atom k with | some x => sizI x | none => 0) ≤ C * n := ht
    show PotSt C (i + n) (.it (ndI ((E.atom k).getD [])) :: l)
    cases hk : E.atom k with
    | none => exact one _ [] rfl (by rw [sizI_nil]; omega) wrapD_nil (fun _ _ _ e => by cases e)
    | some x =>
      rw [hk] at ht
      exact one _ x rfl ht (hat k x hk) (fun _ _ _ e => by cases e)
  | run b k =>
    obtain ⟨rfl, hb⟩ := hrun b k rfl
    refine h.one (by omega) _ ?_ ⟨rfl, by show (0 : Int) ≤ n; omega, by show (n : Int) ≤ (i + n : Nat); omega⟩ (wrapD_row (x := entI (.it _)) hb) (fun _ _ _ e => by cases e)
    show itN (Itm.mk b n n _ _ []) ≤ _
    unfold itN
    rw [if_neg hb, hd]
    simpa [tokN] using ht
  | mark m =>
    simp only
    split
    · exact one (.mk false (i + n) false) [wordsI 0 [91]] rfl (by rw [sizI_cons, sizI_nil]; simp [ilText, wordsI]; omega) (w1 _ rfl) (fun _ _ _ e => by cases e; exact Nat.le_refl _)
    · split
      · exact one (.mk true (i + n) false) [wordsI 0 [33, 91]] rfl (by rw [sizI_cons, sizI_nil]; simp [ilText, wordsI]; omega) (w1 _ rfl) (fun _ _ _ e => by cases e; exact Nat.le_refl _)
      · exact pot_close hC D s i (i + n) (by omega) l h
theorem restF_len {tx : Int → List UInt8} {M : Nat} (h : ∀ k, (tx k).length ≤ M) : ∀ (f : Nat) (l : List UInt8), (restF tx f l).length ≤ (1 + M) * l.length
  | 0, l => by simp [restF]
  | f + 1, [] => by simp [restF]
  | f + 1, b :: l => by
    unfold restF
    split
    · next hb =>
      have ih := restF_len h f ((b :: l).drop (atomL (b :: l)).2)
      have h1 : 1 ≤ (atomL (b :: l)).2 := by have := hb.2; omega
      rw [List.length_drop] at ih
      rw [List.length_append]
      have h2 : (1 + M) * ((b :: l).length - (atomL (b :: l)).2) ≤ (1 + M) * ((b :: l).length - 1) := Nat.mul_le_mul_left _ (by omega)
      have h3 : (1 + M) * ((b :: l).length - 1) + (1 + M) = (1 + M) * (b :: l).length := by
        rw [show (b :: l).length = ((b :: l).length - 1) + 1 from by simp, Nat.mul_add, Nat.mul_one]
        simp
      refine Nat.le_trans (Nat.add_le_add (b := M) ?_ ih) (by omega)
      split
      · exact h _
      · simp
    · have ih := restF_len h f l
      rw [List.length_cons, List.length_cons, Nat.mul_add]
      omega
theorem restL_len {tx : Int → List UInt8} {M : Nat} (h : ∀ k, (tx k).length ≤ M) (l : List UInt8) : (restL tx l).length ≤ (1 + M) * l.length := restF_len h _ l
theorem shown_le (l : List UInt8) : (shownL l).length ≤ l.length := by
  unfold shownL
  simp only
  split
  · simp; omega
  · simp
theorem between_txt (l : List UInt8) (k : Nat) : (betweenL l k).1.length + 1 ≤ (betweenL l k).2 + 1 := by
  unfold betweenL
  split
  · simp
  · simp; omega
theorem code_tokN {E : Env} {M C : Nat} (hc : ∀ c, (E.code c).length ≤ (1 + M) * c.length) (hC : 8 + M ≤ C) (l : List UInt8) (n : Nat) (hn : 1 ≤ n) : ∀ f k, tokN E (codeGo l n f k).1 ≤ C * (codeGo l n f k).2
  | 0, k => by
    rw [codeGo]
    show 1 + (l.take n).length ≤ C * n
    have h1 : 8 * n ≤ C * n := Nat.mul_le_mul_right n (by omega)
    rw [List.length_take]
    omega
  | f + 1, k => by
    rw [codeGo]
    split
    · show 1 + (l.take n).length ≤ C * n
      have h1 : 8 * n ≤ C * n := Nat.mul_le_mul_right n (by omega)
      rw [List.length_take]
      omega
    · simp only
      split
      · next hz =>
        generalize k + (Lib.index (l.drop k) (l.take n)).toNat = e at *
        show 1 + (E.code (shownL ((l.take e).drop n))).length ≤ C * (e + rowL (l.drop e))
        generalize e + rowL (l.drop e) = z at *
        have h1 := hc (shownL ((l.take e).drop n))
        have h2 := shown_le ((l.take e).drop n)
        rw [List.length_drop, List.length_take] at h2
        have h3 : (1 + M) * (shownL ((l.take e).drop n)).length ≤ (1 + M) * (z - 1) := Nat.mul_le_mul_left _ (by omega)
        have h4 : (1 + M) * (z - 1) + (1 + M) = (1 + M) * z := by
          obtain ⟨y, rfl⟩ : ∃ y, z = y + 1 := ⟨z - 1, by omega⟩
          rw [Nat.mul_add, Nat.mul_one, Nat.add_sub_cancel]
        have h5 : (1 + M) * z ≤ C * z := Nat.mul_le_mul_right z (by omega)
        omega
      · exact code_tokN hc hC l n hn f _
theorem next_tokN {E : Env} {M C : Nat} (hc : ∀ c, (E.code c).length ≤ (1 + M) * c.length) (ha : ∀ k x, E.atom k = some x → sizI x ≤ C) (hC : 8 + M ≤ C) (l : List UInt8) (hl : l ≠ []) : tokN E (nextL l).1 ≤ C * (nextL l).2 := by
  have hmul : ∀ a n : Nat, a ≤ 8 * n → a ≤ C * n := fun a n h => Nat.le_trans h (Nat.mul_le_mul_right n (by omega))
  have hword : tokN E (wordTk l).1 ≤ C * (wordTk l).2 := by
    have h1 := (word_len l hl).1
    have e : (wordTk l).1 = .word (l.take (wordTk l).2) := rfl
    rw [e]
    refine hmul _ _ ?_
    show 1 + (l.take (wordTk l).2).length ≤ _
    rw [List.length_take]
    omega
  unfold nextL
  split
  · exact hword
  · next h0 =>
    generalize hr : firstTk l = r at *
    unfold firstTk at hr
    simp only at hr
    split at hr
    · subst hr
      obtain ⟨t, ht⟩ : ∃ t, (atomL l).1 = .atom t := by unfold atomL; simp only; split <;> exact ⟨_, rfl⟩
      rw [ht]
      have h1 : C * 1 ≤ C * (atomL l).2 := Nat.mul_le_mul_left C (by omega)
      show (match E.atom t with | some x => sizI x | none => 0) ≤ C * (atomL l).2
      cases hk : E.atom t with
      | none => simp
      | some x => have := ha t x hk; simp only; omega
    · split at hr
      · subst hr
        unfold escapedL at h0 ⊢
        split
        · next h2 =>
          refine hmul _ _ ?_
          show 2 ≤ 8 * pastL tkBlank l 2
          have := pastL_ge tkBlank l 2
          omega
        · split
          · next c _ =>
            split
            · exact hmul _ _ (by show 1 + 1 ≤ 16; omega)
            · exact Nat.zero_le _
          · exact Nat.zero_le _
      · split at hr
        · subst hr
          refine hmul _ _ ?_
          show 1 + (atL l).1.data.toList.length ≤ 8 * (atL l).2
          have h1 := (atL_ok l).1
          have h2 : (atL l).2 ≠ 0 := h0
          omega
        · split at hr
          · subst hr
            exact code_tokN hc hC l _ (rowL_pos l) _ _
          · split at hr
            · subst hr
              have b1 := between_txt l (addressL l)
              have b2 := between_txt l (mailboxL l)
              unfold pointedL at h0 ⊢
              simp only at h0 ⊢
              split
              · next h1 => exact hmul _ _ (by show 2 + (betweenL l (addressL l)).1.length ≤ 8 * (betweenL l (addressL l)).2; omega)
              · split
                · next h2 => exact hmul _ _ (by show 2 + (betweenL l (mailboxL l)).1.length ≤ 8 * (betweenL l (mailboxL l)).2; omega)
                · next h1 h2 =>
                  rw [if_neg h1, if_neg h2] at h0
                  exact hmul _ _ (by show 1 ≤ 8 * (betweenL l (tagL l)).2; have : (betweenL l (tagL l)).2 ≠ 0 := h0; omega)
            · split at hr
              · subst hr
                exact hmul _ _ (by show 1 + rowL l ≤ 8 * rowL l; have := rowL_pos l; omega)
              · split at hr
                · subst hr
                  unfold markTk
                  split
                  · exact Nat.zero_le _
                  · split
                    · exact Nat.zero_le _
                    · split <;> exact Nat.zero_le _
                · split at hr
                  · subst hr
                    unfold lineTk at h0 ⊢
                    simp only at h0 ⊢
                    split
                    · next h1 => rw [if_pos h1] at h0; exact absurd rfl h0
                    · refine hmul _ _ ?_
                      have := pastL_ge tkBlank l (pastL (fun b => b == 32) l 0 + 1)
                      show 2 ≤ 8 * pastL tkBlank l (pastL (fun b => b == 32) l 0 + 1)
                      omega
                  · subst hr
                    exact Nat.zero_le _
end Go.Proofs.YtfbaknkmpilllaaGreatDoor

namespace Go.Proofs.YtfbaknkmpilllaaGreatDoor
open Go.RowKit
set_option linter.unusedSimpArgs false
set_option linter.unusedVariables false
set_option maxRecDepth 100000
/-- Blocks that are written while a text is read. -/
def Nd3 (t : TypeId) : Prop := t = 94 ∨ t = 126 ∨ t = 62
/-- What lay below B lies as it lay; and so does every block but the parser's, items' and openers'. -/
structure KI (B : Nat) (w w' : World) : Prop where
  below : Below B w w'
  rest : ∀ (g : Nat) (cs : Array Value) (t : TypeId) (fz : Nat × Nat), ¬ Nd3 t → w.heap[g]? = some (Obj.cells cs t fz) → w'.heap[g]? = some (Obj.cells cs t fz)
theorem KI.refl (B : Nat) (w : World) : KI B w w := ⟨Below.refl _ _, fun _ _ _ _ _ h => h⟩
theorem KI.trans {B : Nat} {a b c : World} (h : KI B a b) (k : KI B b c) : KI B a c := ⟨h.below.trans k.below, fun g cs t fz ht hg => k.rest g cs t fz ht (h.rest g cs t fz ht hg)⟩
theorem KI.size {B : Nat} {a b : World} (h : KI B a b) : a.heap.size ≤ b.heap.size := h.below.size
theorem KI.of {B : Nat} {w w' : World} (h : Below w.heap.size w w') (hB : B ≤ w.heap.size) : KI B w w' := ⟨h.mono hB, fun g cs t fz _ hg => (h.block g (Array.getElem?_eq_some_iff.1 hg).1).trans hg⟩
theorem KI.thenB {B : Nat} {a b c : World} (h : KI B a b) (k : Below b.heap.size b c) (hB : B ≤ b.heap.size) : KI B a c := h.trans (KI.of k hB)
theorem KI.grown {B : Nat} {a b : World} {row : Option Nat} (hg : a.grownBy b row) (hB : B ≤ a.heap.size) (hr : ∀ g : Nat, row = some g → B ≤ g ∧ ∀ (cs : Array Value) (t : TypeId) (fz : Nat × Nat), a.heap[g]? = some (Obj.cells cs t fz) → Nd3 t) : KI B a b :=
  ⟨(Below.refl _ a).grown hg hB (fun g e => (hr g e).1), fun g cs t fz ht hi => (hg.block g (Array.getElem?_eq_some_iff.1 hi).1 (fun e => ht ((hr g e.symm).2 cs t fz hi))).trans hi⟩
/-- Nodes that may be read, in a block of nodes. -/
def NdAt (w : World) (v : Value) (nd : List Iln) : Prop := ∃ Av cv, v = Value.slice Av nd.length cv ∧ InlsAt w Av cv nd ∧ (nd = [] ∨ ∃ b off cs fz, Av = some ⟨b, off, none⟩ ∧ w.heap[b]? = some (Obj.cells cs 30 fz))
theorem not_nd3 : ¬ Nd3 30 := by unfold Nd3; decide
theorem NdAt.nil (w : World) : NdAt w (.slice none 0 0) [] := ⟨none, 0, rfl, EltsAt.nil _ _ _ _, Or.inl rfl⟩
theorem NdAt.keep {B : Nat} {w w' : World} {v : Value} {nd : List Iln} (h : NdAt w v nd) (k : KI B w w') : NdAt w' v nd := by
  obtain ⟨Av, cv, e, hi, hb⟩ := h
  refine ⟨Av, cv, e, ?_, ?_⟩
  · refine ⟨hi.le, hi.cap, ?_⟩
    rcases hi.cells with h1 | ⟨b, off, e1, hlt, hc⟩
    · exact Or.inl h1
    · rcases hb with h1 | ⟨b', off', cs, fz, e2, hg⟩
      · exact Or.inl h1
      · rw [e1] at e2
        cases e2
        have hg' := k.rest b cs _ fz not_nd3 hg
        refine Or.inr ⟨b, off, e1, (Array.getElem?_eq_some_iff.1 hg').1, fun q hq j u hu => ?_⟩
        rw [← hc q hq j u hu]
        simp [World.cell?, hg, hg']
  · rcases hb with h1 | ⟨b', off', cs, fz, e2, hg⟩
    · exact Or.inl h1
    · exact Or.inr ⟨b', off', cs, fz, e2, k.rest b' cs _ fz not_nd3 hg⟩
theorem NdAt.own {w : World} {B : Nat} {v : Value} {nd : List Iln} (h : w.ownsRow B 30 5 v nd.length (flt ilC nd)) : NdAt w v nd := by
  obtain ⟨A, cap, e, ha⟩ := EltsAt.own ilC_length h
  refine ⟨A, cap, e, ha, ?_⟩
  rcases h.2 with ⟨_, h0⟩ | ⟨g, cap', cur, e', _, hg, _⟩
  · exact Or.inl (List.eq_nil_of_length_eq_zero h0)
  · rw [e] at e'
    cases e'
    exact Or.inr ⟨g, 0, cur, (0, 0), rfl, hg⟩
theorem NdAt.box {w : World} {g : Nat} {x : Iln} (hg : w.heap[g]? = some (.cells #[.int .i64 x.kd, .int .i64 x.dp, .string ⟨x.txt.toArray⟩, .string ⟨x.url.toArray⟩, .string ⟨x.ttl.toArray⟩] 30 (0, 0))) : NdAt w (.slice (some ⟨g, 0, none⟩) 1 1) [x] := by
  refine ⟨some ⟨g, 0, none⟩, 1, rfl, ⟨Nat.le_refl _, by decide, Or.inr ⟨g, 0, rfl, (Array.getElem?_eq_some_iff.1 hg).1, fun k hk j u hu => ?_⟩⟩, Or.inr ⟨g, 0, _, _, rfl, hg⟩⟩
  simp at hk
  subst hk
  rw [cell_of_row w g _ _ _ (0, 0) hg]
  simpa [ilC] using hu
/-- An opener: is it of an image, the place of its sign among the items, the place behind it. -/
structure Opn where
  img : Bool
  item : Nat
  pos : Nat
def opC (o : Opn) : List Value := [.string ⟨(markOf o.img).toArray⟩, .int .i64 o.item, .int .i64 o.pos]
theorem opC_length (o : Opn) : (opC o).length = 3 := rfl
theorem opC_one (x : Opn) : ∀ u ∈ opC x, u.oneCell' = true := by
  intro u hu
  simp [opC] at hu
  rcases hu with rfl | rfl | rfl <;> rfl
structure RawSt (w : World) (B pb : Nat) (s : ByteArray) (atv tbv hv iv ov : Value) (nsh : Nat) (Z : List (Itm × Value)) (O : List Opn) : Prop where
  blk : w.heap[pb]? = some (.cells #[.string s, atv, tbv, hv, iv, ov, .int .i64 nsh] 62 (0, 0))
  base : B ≤ pb
  row : w.ownsRow B 94 5 iv Z.length (flt itC Z)
  nds : ∀ x ∈ Z, NdAt w x.2 x.1.nd
  ops : w.ownsRow B 126 3 ov O.length (flt opC O)
section
variable {w : World} {B pb : Nat} {s : ByteArray} {atv tbv hv iv ov : Value} {nsh : Nat} {Z : List (Itm × Value)} {O : List Opn}
theorem RawSt.bcells (h : RawSt w B pb s atv tbv hv iv ov nsh Z O) : w.cell? ⟨pb, 0, none⟩ = some (.string s) ∧ w.cell? ⟨pb, 1, none⟩ = some atv ∧ w.cell? ⟨pb, 2, none⟩ = some tbv ∧ w.cell? ⟨pb, 3, none⟩ = some hv ∧ w.cell? ⟨pb, 4, none⟩ = some iv ∧ w.cell? ⟨pb, 5, none⟩ = some ov ∧ w.cell? ⟨pb, 6, none⟩ = some (.int .i64 nsh) ∧ (∀ i, w.frozen? ⟨pb, i, none⟩ = false) ∧ pb < w.heap.size :=
  ⟨(cell_of_row w pb 0 _ _ (0, 0) h.blk).trans rfl, (cell_of_row w pb 1 _ _ (0, 0) h.blk).trans rfl, (cell_of_row w pb 2 _ _ (0, 0) h.blk).trans rfl, (cell_of_row w pb 3 _ _ (0, 0) h.blk).trans rfl, (cell_of_row w pb 4 _ _ (0, 0) h.blk).trans rfl, (cell_of_row w pb 5 _ _ (0, 0) h.blk).trans rfl, (cell_of_row w pb 6 _ _ (0, 0) h.blk).trans rfl, fun i => by simp [World.frozen?, h.blk], (Array.getElem?_eq_some_iff.1 h.blk).1⟩
theorem RawSt.baseLe (h : RawSt w B pb s atv tbv hv iv ov nsh Z O) : B ≤ w.heap.size := by have := h.bcells.2.2.2.2.2.2.2.2; have := h.base; omega
theorem RawSt.below {w' : World} (h : RawSt w B pb s atv tbv hv iv ov nsh Z O) (hb : Below w.heap.size w w') : RawSt w' B pb s atv tbv hv iv ov nsh Z O :=
  ⟨(hb.block pb (Array.getElem?_eq_some_iff.1 h.blk).1).trans h.blk, h.base, ownsRow_below h.row hb, fun x hx => (h.nds x hx).keep (KI.of hb (Nat.le_refl _)), ownsRow_below h.ops hb⟩
theorem RawSt.drew (h : RawSt w B pb s atv tbv hv iv ov nsh Z O) (n : Nat) : RawSt (w.drewN n) B pb s atv tbv hv iv ov nsh Z O := h.below (below_drewN' (Below.refl _ w) n)
theorem row_nd3 {n : Nat} {xs : List Value} {z : Nat} {v : Value} {t : TypeId} (h : w.ownsRow B t z v n xs) (ht : Nd3 t) : ∀ g : Nat, v.ownBlock = some g → B ≤ g ∧ ∀ (cs : Array Value) (t : TypeId) (fz : Nat × Nat), w.heap[g]? = some (Obj.cells cs t fz) → Nd3 t := by
  intro g hg
  refine ⟨(h.lt g hg).1, fun cs t' fz hc => ?_⟩
  by_cases e : t = t'
  · rw [← e]; exact ht
  · exact absurd hg (own_ne h hc e)
theorem blk_nd3 (h : RawSt w B pb s atv tbv hv iv ov nsh Z O) : ∀ g : Nat, some pb = some g → B ≤ g ∧ ∀ (cs : Array Value) (t : TypeId) (fz : Nat × Nat), w.heap[g]? = some (Obj.cells cs t fz) → Nd3 t := by
  intro g hg
  cases hg
  refine ⟨h.base, fun cs t fz hc => ?_⟩
  rw [h.blk] at hc
  cases hc
  exact Or.inr (Or.inr rfl)
/-- The items are others. -/
theorem RawSt.setItems (h : RawSt w B pb s atv tbv hv iv ov nsh Z O) {w1 : World} {iv' : Value} {Z' : List (Itm × Value)} (hg : w.grownBy w1 iv.ownBlock) (hr : w1.ownsRow B 94 5 iv' Z'.length (flt itC Z')) (hn : ∀ x ∈ Z', NdAt w x.2 x.1.nd) :
    RawSt (w1.setCell ⟨pb, 4, none⟩ iv') B pb s atv tbv hv iv' ov nsh Z' O ∧ KI B w (w1.setCell ⟨pb, 4, none⟩ iv') := by
  have k1 : KI B w w1 := KI.grown hg h.baseLe (row_nd3 h.row (Or.inl rfl))
  have hb1 := (hg.block pb (Array.getElem?_eq_some_iff.1 h.blk).1 (fun e => own_ne h.row h.blk (by decide) e.symm)).trans h.blk
  have hg2 := setc_grown w1 pb 4 iv'
  have k2 : KI B w1 (w1.setCell ⟨pb, 4, none⟩ iv') := KI.grown hg2 (Nat.le_trans h.baseLe k1.size) (fun g e => by
    cases e
    refine ⟨h.base, fun cs t fz hc => ?_⟩
    rw [hb1] at hc
    cases hc
    exact Or.inr (Or.inr rfl))
  have k := k1.trans k2
  refine ⟨⟨?_, h.base, own_set hr hb1 (by decide) 4 _, fun x hx => (hn x hx).keep k, ?_⟩, k⟩
  · simp [World.setCell, Array.getElem?_modify, hb1]
  · exact own_set (h.ops.kept hg (own_apart h.ops h.row (by decide)).ne) hb1 (by decide) 4 _
/-- The openers are others. -/
theorem RawSt.setOps (h : RawSt w B pb s atv tbv hv iv ov nsh Z O) {w1 : World} {ov' : Value} {O' : List Opn} (hg : w.grownBy w1 ov.ownBlock) (hr : w1.ownsRow B 126 3 ov' O'.length (flt opC O')) :
    RawSt (w1.setCell ⟨pb, 5, none⟩ ov') B pb s atv tbv hv iv ov' nsh Z O' ∧ KI B w (w1.setCell ⟨pb, 5, none⟩ ov') := by
  have k1 : KI B w w1 := KI.grown hg h.baseLe (row_nd3 h.ops (Or.inr (Or.inl rfl)))
  have hb1 := (hg.block pb (Array.getElem?_eq_some_iff.1 h.blk).1 (fun e => own_ne h.ops h.blk (by decide) e.symm)).trans h.blk
  have hg2 := setc_grown w1 pb 5 ov'
  have k2 : KI B w1 (w1.setCell ⟨pb, 5, none⟩ ov') := KI.grown hg2 (Nat.le_trans h.baseLe k1.size) (fun g e => by
    cases e
    refine ⟨h.base, fun cs t fz hc => ?_⟩
    rw [hb1] at hc
    cases hc
    exact Or.inr (Or.inr rfl))
  have k := k1.trans k2
  refine ⟨⟨?_, h.base, ?_, fun x hx => (h.nds x hx).keep k, own_set hr hb1 (by decide) 5 _⟩, k⟩
  · simp [World.setCell, Array.getElem?_modify, hb1]
  · exact own_set (h.row.kept hg (own_apart h.row h.ops (by decide)).ne) hb1 (by decide) 5 _
/-- How many openers are shut. -/
theorem RawSt.setShut (h : RawSt w B pb s atv tbv hv iv ov nsh Z O) (n : Nat) :
    RawSt (w.setCell ⟨pb, 6, none⟩ (.int .i64 n)) B pb s atv tbv hv iv ov n Z O ∧ KI B w (w.setCell ⟨pb, 6, none⟩ (.int .i64 n)) := by
  have hg2 := setc_grown w pb 6 (.int .i64 n)
  have k : KI B w (w.setCell ⟨pb, 6, none⟩ (.int .i64 n)) := KI.grown hg2 h.baseLe (blk_nd3 h)
  refine ⟨⟨?_, h.base, own_set h.row h.blk (by decide) 6 _, fun x hx => (h.nds x hx).keep k, own_set h.ops h.blk (by decide) 6 _⟩, k⟩
  simp [World.setCell, Array.getElem?_modify, h.blk]
/-- A row that is cut short. -/
theorem own_short {α : Type} {c : α → List Value} {z : Nat} {t : TypeId} {A : Option Addr} {n cap : Nat} {X : List α} (hs : ∀ x, (c x).length = z) (h : w.ownsRow B t z (.slice A n cap) X.length (flt c X)) {k : Nat} (hk : k ≤ X.length) : w.ownsRow B t z (.slice A k cap) k (flt c (X.take k)) := by
  have hfl : ∀ (X : List α) (k : Nat), k ≤ X.length → (flt c X).take (k * z) = flt c (X.take k) := by
    intro X
    induction X with
    | nil => intro k hk; simp at hk; subst hk; simp [flt]
    | cons x X ih =>
      intro k hk
      cases k with
      | zero => simp [flt]
      | succ k =>
        rw [List.take_succ_cons, flt_cons, flt_cons, ← ih k (by simpa using hk), Nat.succ_mul]
        have e : k * z + z = (c x).length + k * z := by rw [hs]; omega
        rw [e, List.take_length_add_append]
  refine ⟨by rw [flt_length hs, List.length_take, Nat.min_eq_left hk], ?_⟩
  rcases h.2 with ⟨e1, h0⟩ | ⟨g, cap', cur, e1, hb, hg, hnc, hcm, hcs, ht⟩
  · cases e1
    have : k = 0 := by omega
    subst this
    exact Or.inl ⟨rfl, rfl⟩
  · cases e1
    refine Or.inr ⟨g, cap, cur, rfl, hb, hg, by omega, hcm, hcs, ?_⟩
    rw [← hfl X k hk, ← ht, List.take_take, Nat.min_eq_left (Nat.mul_le_mul_right z hk)]
end
/-- The openers of entries (the first first), from place k on. -/
def opnL : Nat → List Ent → List Opn
  | _, [] => []
  | k, .it _ :: l => opnL (k + 1) l
  | k, .mk img pos _ :: l => ⟨img, k, pos⟩ :: opnL (k + 1) l
theorem opnL_append (a b : List Ent) : ∀ k, opnL k (a ++ b) = opnL k a ++ opnL (k + a.length) b := by
  induction a with
  | nil => intro k; simp [opnL]
  | cons e a ih =>
    intro k
    cases e with
    | it x => simp only [List.cons_append, opnL, ih, List.length_cons]; congr 2; omega
    | mk img pos sh => simp only [List.cons_append, opnL, ih, List.length_cons]; congr 3; omega
theorem opnL_its (m : List Itm) : ∀ k, opnL k (m.map Ent.it) = [] := by
  induction m with
  | nil => intro k; rfl
  | cons x m ih => intro k; exact ih (k + 1)
theorem opnL_shut (l : List Ent) : ∀ k, opnL k (l.map shutE) = opnL k l := by
  induction l with
  | nil => intro k; rfl
  | cons e l ih =>
    intro k
    cases e with
    | it x => exact ih (k + 1)
    | mk img pos sh => cases img <;> (simp only [List.map_cons, shutE, opnL]; rw [ih])
/-- Which of them are shut (the first first): links among the first n. -/
def shOk : Nat → List Ent → Prop
  | _, [] => True
  | n, .it _ :: l => shOk n l
  | n, .mk img _ sh :: l => sh = (!img && decide (0 < n)) ∧ shOk (n - 1) l
theorem shOk_append (a b : List Ent) : ∀ n, shOk n (a ++ b) ↔ shOk n a ∧ shOk (n - (opnL 0 a).length) b := by
  suffices ∀ (a : List Ent) (n k : Nat), shOk n (a ++ b) ↔ shOk n a ∧ shOk (n - (opnL k a).length) b from fun n => this a n 0
  intro a
  induction a with
  | nil => intro n k; simp [shOk, opnL]
  | cons e a ih =>
    intro n k
    cases e with
    | it x => exact ih n (k + 1)
    | mk img pos sh =>
      simp only [List.cons_append, shOk, opnL, List.length_cons]
      rw [ih (n - 1) (k + 1), and_assoc, show n - 1 - (opnL (k + 1) a).length = n - ((opnL (k + 1) a).length + 1) from by omega]
theorem shOk_its (m : List Itm) : ∀ n, shOk n (m.map Ent.it) := by
  induction m with
  | nil => intro n; trivial
  | cons x m ih => intro n; exact ih n
theorem shOk_less (l : List Ent) : ∀ n k, shOk n l → shOk (min n ((opnL k l).length)) l := by
  induction l with
  | nil => intro n k _; trivial
  | cons e l ih =>
    intro n k h
    cases e with
    | it x => exact ih n (k + 1) h
    | mk img pos sh =>
      simp only [shOk, opnL, List.length_cons] at h ⊢
      obtain ⟨h1, h2⟩ := h
      refine ⟨?_, ?_⟩
      · rw [h1]
        congr 1
        exact decide_eq_decide.2 (by omega)
      · have := ih (n - 1) (k + 1) h2
        rw [show min n ((opnL (k + 1) l).length + 1) - 1 = min (n - 1) (opnL (k + 1) l).length from by omega]
        exact this
theorem shOk_all (l : List Ent) : ∀ n k, shOk n l → shOk (opnL k l).length (l.map shutE) := by
  induction l with
  | nil => intro n k _; trivial
  | cons e l ih =>
    intro n k h
    cases e with
    | it x => exact ih n (k + 1) h
    | mk img pos sh =>
      simp only [shOk] at h
      obtain ⟨h1, h2⟩ := h
      have h3 := ih (n - 1) (k + 1) h2
      cases img with
      | false =>
        simp only [List.map_cons, shutE, shOk, opnL, List.length_cons]
        exact ⟨by simp, by simpa using h3⟩
      | true =>
        simp only [List.map_cons, shutE, shOk, opnL, List.length_cons]
        refine ⟨by simpa using h1, by simpa using h3⟩
/-- The parser holds these entries (E: the last first). -/
structure Rep (E : List Ent) (Z : List (Itm × Value)) (O : List Opn) (nsh : Nat) : Prop where
  its : Z.map Prod.fst = E.reverse.map entI
  ops : O = opnL 0 E.reverse
  sh : shOk nsh E.reverse
  le : nsh ≤ O.length
end Go.Proofs.YtfbaknkmpilllaaGreatDoor

namespace Go.Proofs.YtfbaknkmpilllaaGreatDoor
open Go.RowKit
set_option linter.unusedSimpArgs false
set_option linter.unusedVariables false
theorem Rep.len {E : List Ent} {Z : List (Itm × Value)} {O : List Opn} {nsh : Nat} (h : Rep E Z O nsh) : Z.length = E.length := by
  have := congrArg List.length h.its
  simpa using this
theorem Rep.it {E : List Ent} {Z : List (Itm × Value)} {O : List Opn} {nsh : Nat} (h : Rep E Z O nsh) (x : Itm) (v : Value) : Rep (.it x :: E) (Z ++ [(x, v)]) O nsh := by
  refine ⟨?_, ?_, ?_, h.le⟩
  · rw [List.map_append, h.its, List.reverse_cons, List.map_append]; rfl
  · rw [List.reverse_cons, opnL_append, h.ops]; simp [opnL]
  · rw [List.reverse_cons, shOk_append]
    exact ⟨h.sh, trivial⟩
theorem Rep.mk' {E : List Ent} {Z : List (Itm × Value)} {O : List Opn} {nsh : Nat} (h : Rep E Z O nsh) (img : Bool) (pos : Nat) (v : Value) : Rep (.mk img pos false :: E) (Z ++ [(ndI [wordsI 0 (markOf img)], v)]) (O ++ [⟨img, Z.length, pos⟩]) nsh := by
  have hl := h.le
  refine ⟨?_, ?_, ?_, ?_⟩
  · rw [List.map_append, h.its, List.reverse_cons, List.map_append]; rfl
  · rw [List.reverse_cons, opnL_append, ← h.ops, h.len]; simp [opnL]
  · rw [List.reverse_cons, shOk_append]
    refine ⟨h.sh, ?_, trivial⟩
    rw [← h.ops]
    have : ¬ 0 < nsh - O.length := by omega
    simp [this]
  · rw [List.length_append]; omega
theorem lastMk_its {l : List Ent} (h : lastMk l = none) : ∃ m : List Itm, l = m.map Ent.it := by
  induction l with
  | nil => exact ⟨[], rfl⟩
  | cons e l ih =>
    cases e with
    | mk img pos sh => cases h
    | it x =>
      unfold lastMk at h
      split at h
      · cases h
      · next he => obtain ⟨m, rfl⟩ := ih he; exact ⟨x :: m, rfl⟩
theorem Rep.none {E : List Ent} {Z : List (Itm × Value)} {O : List Opn} {nsh : Nat} (h : Rep E Z O nsh) (hn : lastMk E = none) : O = [] := by
  obtain ⟨m, rfl⟩ := lastMk_its hn
  rw [h.ops, ← List.map_reverse, opnL_its]
section
variable {E : List Ent} {Z : List (Itm × Value)} {O : List Opn} {nsh : Nat} {m : List Itm} {img sh : Bool} {pos : Nat} {l' : List Ent}
theorem Rep.last (h : Rep E Z O nsh) (hm : lastMk E = some (m, (img, pos, sh), l')) :
    O = opnL 0 l'.reverse ++ [⟨img, l'.length, pos⟩] ∧ sh = (!img && decide ((opnL 0 l'.reverse).length < nsh)) ∧ l'.length < Z.length ∧
    (Z.take l'.length).map Prod.fst = l'.reverse.map entI ∧ (Z.drop (l'.length + 1)).map Prod.fst = m.reverse ∧ shOk nsh l'.reverse := by
  have em := lastMk_pot hm
  simp only at em
  have er : E.reverse = l'.reverse ++ (.mk img pos sh :: (m.reverse).map Ent.it) := by
    rw [em, List.reverse_append, List.reverse_cons, List.map_reverse, List.append_assoc]; rfl
  have hits := h.its
  rw [er, List.map_append, List.map_cons, map_ent] at hits
  have hsh := h.sh
  rw [er, shOk_append] at hsh
  obtain ⟨s1, s2, _⟩ := hsh
  have hlen := h.len
  have hel : E.length = m.length + (1 + l'.length) := by rw [em]; simp; omega
  refine ⟨?_, ?_, by omega, ?_, ?_, s1⟩
  · rw [h.ops, er, opnL_append]
    simp only [opnL, opnL_its, List.length_reverse, Nat.zero_add]
  · rw [s2]
    congr 1
    exact decide_eq_decide.2 (by omega)
  · rw [List.map_take, hits, List.take_left' (by simp)]
  · rw [List.map_drop, hits, List.drop_append, List.drop_eq_nil_of_le (by simp)]
    simp
theorem Rep.fail (h : Rep E Z O nsh) (hm : lastMk E = some (m, (img, pos, sh), l')) :
    Rep (m.map Ent.it ++ .it (ndI [wordsI 0 (markOf img)]) :: l') Z (opnL 0 l'.reverse) (min nsh (opnL 0 l'.reverse).length) := by
  have em := lastMk_pot hm
  simp only at em
  obtain ⟨h1, h2, h3, h4, h5, h6⟩ := h.last hm
  have er : (m.map Ent.it ++ .it (ndI [wordsI 0 (markOf img)]) :: l').reverse = l'.reverse ++ (ndI [wordsI 0 (markOf img)] :: m.reverse).map Ent.it := by
    rw [List.reverse_append, List.reverse_cons, List.map_cons, List.map_reverse, List.append_assoc]; rfl
  refine ⟨?_, ?_, ?_, Nat.min_le_right _ _⟩
  · rw [h.its, er, em, List.reverse_append, List.reverse_cons, List.map_append, List.map_append, List.map_append, map_ent, List.map_cons, ← List.map_reverse, map_ent, List.append_assoc]
    rfl
  · rw [er, opnL_append, opnL_its, List.append_nil]
  · rw [er, shOk_append]
    exact ⟨shOk_less _ _ 0 h6, shOk_its _ _⟩
theorem Rep.swap (h : Rep E Z O nsh) (hm : lastMk E = some (m, (img, pos, sh), l')) (x : Itm) (v : Value) :
    Rep (.it x :: l') (Z.take l'.length ++ [(x, v)]) (opnL 0 l'.reverse) (min nsh (opnL 0 l'.reverse).length) := by
  obtain ⟨h1, h2, h3, h4, h5, h6⟩ := h.last hm
  exact Rep.it (E := l') (O := opnL 0 l'.reverse) ⟨h4, rfl, shOk_less _ _ 0 h6, Nat.min_le_right _ _⟩ x v
theorem Rep.link (h : Rep E Z O nsh) (hm : lastMk E = some (m, (img, pos, sh), l')) (x : Itm) (v : Value) :
    Rep (.it x :: l'.map shutE) (Z.take l'.length ++ [(x, v)]) (opnL 0 l'.reverse) (opnL 0 l'.reverse).length := by
  obtain ⟨h1, h2, h3, h4, h5, h6⟩ := h.last hm
  have e1 : (l'.map shutE).reverse = l'.reverse.map shutE := by rw [List.map_reverse]
  refine Rep.it (E := l'.map shutE) (O := opnL 0 l'.reverse) ⟨?_, ?_, ?_, Nat.le_refl _⟩ x v
  · rw [e1, shutE_entI]; exact h4
  · rw [e1, opnL_shut]
  · rw [e1]; exact shOk_all _ _ 0 h6
end
end Go.Proofs.YtfbaknkmpilllaaGreatDoor

namespace Go.Proofs.YtfbaknkmpilllaaGreatDoor
open Go.RowKit Go.Maps Go.ChangeShapes
set_option linter.unusedSimpArgs false
set_option linter.unusedVariables false
set_option maxRecDepth 100000
theorem elts_block {w : World} {α : Type} {c : α → List Value} {s g : Nat} {t : TypeId} {X : List α} (hs : ∀ x, (c x).length = s) (hg : w.heap[g]? = some (.cells (flt c X).toArray t (0, 0))) (hX : X.length ≤ maxLen) : EltsAt w c s (some ⟨g, 0, none⟩) X.length X := by
  refine ⟨Nat.le_refl _, hX, Or.inr ⟨g, 0, rfl, (Array.getElem?_eq_some_iff.1 hg).1, fun k hk j u hu => ?_⟩⟩
  rw [cell_of_row w g _ _ t (0, 0) hg, Nat.zero_add]
  simpa using flt_get hs X k hk j u hu
end Go.Proofs.YtfbaknkmpilllaaGreatDoor

namespace Go.Proofs.YtfbaknkmpilllaaGreatDoor
open Go.RowKit Go.Maps Go.ChangeShapes
set_option linter.unusedSimpArgs false
set_option linter.unusedVariables false
set_option maxRecDepth 100000
theorem infoItem : (Tryz.prog.info? 94).map (fun i => (i.zero, i.size, i.bytes)) = some (some (.agg #[.int .u8 0, .int .i64 0, .bool false, .bool false, .slice none 0 0]), 5, 48) := by kernel_rfl
theorem itC_one (x : Itm × Value) (h : ∃ A n c, x.2 = Value.slice A n c) : ∀ u ∈ itC x, u.oneCell' = true := by
  intro u hu
  obtain ⟨A, n, c, e⟩ := h
  simp [itC, e] at hu
  rcases hu with rfl | rfl | rfl | rfl | rfl <;> rfl
theorem its_one (X : List (Itm × Value)) (h : ∀ x ∈ X, ∃ A n c, x.2 = Value.slice A n c) : ∀ u ∈ flt itC X, u.oneCell' = true := by
  intro u hu
  obtain ⟨x, hx, hu⟩ := List.mem_flatMap.1 hu
  exact itC_one x (h x hx) u hu
theorem run_append_none_i {w : World} (base : Nat) (t ty e : TypeId) (i : TypeInfo) (size c : Nat) (ht : Tryz.prog.underlying t = some (.slice e)) (hi : Tryz.prog.info? e = some i)
    (v : Value) (n : Nat) (xs : List Value) (hown : w.ownsRow base e size v n xs) :
    (Builtin.append_ #[t, t] ty #[v, .slice none 0 c]).run Tryz.prog w = .ok v w := by
  rcases hown.2 with ⟨rfl, rfl⟩ | ⟨g, cap, cur, rfl, _, _, hnc, _⟩
  · simp [Builtin.append_, run_underlying ht, sizeOf, typeInfo, hi, Builtin.lenOf, Builtin.firstCells]
  · simp [Builtin.append_, run_underlying ht, sizeOf, typeInfo, hi, Builtin.lenOf, Builtin.firstCells, hnc, storeCells]
/-- Items that may be read behind a list of the call's own. -/
theorem append_itms {w : World} {ops : Array Oper} {rest : List Oper} {o : Oper} {a : Act} {Q : Exit → Act → World → Prop} (hgd : o.guard = none) (s x : Operand)
    (ho : o.op = .call { callee := .builtin .append, args := #[s, x], argTypes := #[59, 59] }) (base : Nat) (v : Value) (X : List (Itm × Value)) (hs : a.eval s = v)
    (hown : w.ownsRow base 94 5 v X.length (flt itC X)) (A : Option Addr) (c : Nat) (more : List (Itm × Value)) (hx : a.eval x = .slice A more.length c) (hrow : EltsAt w itC 5 A c more) (hsl : ∀ x ∈ more, ∃ A n c, x.2 = Value.slice A n c)
    (h63 : X.length + more.length ≤ 1000000) (hbase : base ≤ w.heap.size)
    (h : ∀ v' w', w'.ownsRow base 94 5 v' (X ++ more).length (flt itC (X ++ more)) → w.grownBy w' v.ownBlock → wpList Tryz.prog ops Q rest (a.put o.dst v') w') : wpList Tryz.prog ops Q (o :: rest) a w := by
  obtain ⟨i0, hi, hz0, hz1, hz2⟩ := info_parts infoItem
  cases A with
  | none =>
    obtain rfl : more = [] := by
      rcases hrow.cells with h | ⟨b, off, e, _⟩
      · exact h
      · cases e
    refine wpList_plain hgd fun K hK => ?_
    have hrun := run_append_none_i (w := w) base 59 o.type 94 i0 5 c Tryz.underlying59 hi v X.length (flt itC X) hown
    unfold Oper.wp
    rw [List.length_nil] at hx
    simp [execOp, ho, resolve, invoke, builtin, hs, hx, hrun, Result.andThen]
    exact hK _ _ (h v w (by simpa using hown) ⟨rfl, rfl, rfl, Nat.le_refl _, fun _ _ _ => rfl⟩)
  | some ad =>
    refine wpList_append_own w hgd s x 59 ho base 94 i0 (.agg #[.int .u8 0, .int .i64 0, .bool false, .bool false, .slice none 0 0]) 5 48 Tryz.underlying59 hi hz0 hz1 hz2 rfl (by decide) v X.length (flt itC X) hs hown ad more.length c (flt itC more) hx (flt_length itC_length more) (hrow.flat itC_length (by decide)) (its_one more hsl) (by unfold maxLen; omega) (by omega) hbase ?_
    intro v' w' h2 h3 _
    exact h v' w' (by rw [List.length_append, flt_append]; exact h2) h3
end Go.Proofs.YtfbaknkmpilllaaGreatDoor

namespace Go.Proofs.YtfbaknkmpilllaaGreatDoor
open Go.RowKit
set_option linter.unusedSimpArgs false
set_option linter.unusedVariables false
set_option maxRecDepth 100000
/-- Nodes that may be read behind a list of the call's own. -/
theorem append_inls {w : World} {ops : Array Oper} {rest : List Oper} {o : Oper} {a : Act} {Q : Exit → Act → World → Prop} (hgd : o.guard = none) (s x : Operand)
    (ho : o.op = .call { callee := .builtin .append, args := #[s, x], argTypes := #[27, 27] }) (base : Nat) (v : Value) (X : List Iln) (hs : a.eval s = v)
    (hown : w.ownsRow base 30 5 v X.length (flt ilC X)) (A : Option Addr) (c : Nat) (more : List Iln) (hx : a.eval x = .slice A more.length c) (hrow : InlsAt w A c more)
    (h63 : X.length + more.length ≤ 1000000000) (hbase : base ≤ w.heap.size)
    (h : ∀ v' w', w'.ownsRow base 30 5 v' (X ++ more).length (flt ilC (X ++ more)) → w.grownBy w' v.ownBlock → wpList Tryz.prog ops Q rest (a.put o.dst v') w') : wpList Tryz.prog ops Q (o :: rest) a w := by
  obtain ⟨i0, hi, hz0, hz1, hz2⟩ := info_parts infoInl
  cases A with
  | none =>
    obtain rfl : more = [] := by
      rcases hrow.cells with h | ⟨b, off, e, _⟩
      · exact h
      · cases e
    refine wpList_plain hgd fun K hK => ?_
    have hrun := run_append_none_i (w := w) base 27 o.type 30 i0 5 c Tryz.underlying27 hi v X.length (flt ilC X) hown
    unfold Oper.wp
    rw [List.length_nil] at hx
    simp [execOp, ho, resolve, invoke, builtin, hs, hx, hrun, Result.andThen]
    exact hK _ _ (h v w (by simpa using hown) ⟨rfl, rfl, rfl, Nat.le_refl _, fun _ _ _ => rfl⟩)
  | some ad =>
    refine wpList_append_own w hgd s x 27 ho base 30 i0 (.agg #[.int .i64 0, .int .i64 0, .string ByteArray.empty, .string ByteArray.empty, .string ByteArray.empty]) 5 64 Tryz.underlying27 hi hz0 hz1 hz2 rfl (by decide) v X.length (flt ilC X) hs hown ad more.length c (flt ilC more) hx (flt_length ilC_length more) (hrow.flat ilC_length (by decide)) (ils_one' more) (by unfold maxLen; omega) (by omega) hbase ?_
    intro v' w' h2 h3 _
    exact h v' w' (by rw [List.length_append, flt_append]; exact h2) h3
theorem inWords_any (s : ByteArray) (w : World) : Calls Tryz.prog 56 #[.string s] w fun e w' => (∃ v, e = .returned v ∧ NdAt w' v [wordsI 0 s.data.toList]) ∧ Below w.heap.size w w' := by
  go_enter Tryz.func56, Tryz.ntmps56
  go_wp2
  go_ret
  exact ⟨⟨_, rfl, NdAt.box (x := wordsI 0 s.data.toList) (heap_alloc_new _ _)⟩, (Below.refl _ _).alloc (Nat.le_refl _) _⟩
theorem own_lit {w : World} {B g : Nat} {x : Iln} (hg : w.heap[g]? = some (.cells (ilC x).toArray 30 (0, 0))) (hB : B ≤ g) : w.ownsRow B 30 5 (.slice (some ⟨g, 0, none⟩) 1 1) 1 (flt ilC [x]) :=
  ⟨by simp [flt, ilC], Or.inr ⟨g, 1, _, rfl, hB, hg, Nat.le_refl _, by decide, rfl, by simp [flt, ilC]⟩⟩
theorem lit_inls {w : World} {g : Nat} {x : Iln} (hg : w.heap[g]? = some (.cells (ilC x).toArray 30 (0, 0))) : InlsAt w (some ⟨g, 0, none⟩) 1 [x] := elts_block (t := 30) (X := [x]) ilC_length (by rw [hg]; simp [flt]) (by show (1 : Nat) ≤ maxLen; decide)
set_option maxHeartbeats 2000000 in
theorem holding_any (x : Iln) (v : Value) (nd : List Iln) (w : World) (h : NdAt w v nd) (hn : nd.length ≤ 1000000) :
    Calls Tryz.prog 62 #[ilV x, v] w fun e w' => (∃ v', e = .returned v' ∧ NdAt w' v' (x :: deepI nd)) ∧ Below w.heap.size w w' := by
  obtain ⟨Av, cv, rfl, hi, _⟩ := h
  obtain ⟨kd, dp, tx, ur, ti⟩ := x
  have HI := Lib.hid hi
  unfold ilV
  dsimp only
  clear hi
  go_enter Tryz.func62, Tryz.ntmps62
  go_wp2_with fail
  have hown0 : ((w.alloc (.cells #[.int .i64 kd, .int .i64 dp, .string ⟨tx.toArray⟩, .string ⟨ur.toArray⟩, .string ⟨ti.toArray⟩] 30)).alloc (.cells #[.int .i64 kd, .int .i64 dp, .string ⟨tx.toArray⟩, .string ⟨ur.toArray⟩, .string ⟨ti.toArray⟩] 30)).ownsRow w.heap.size 30 5 (.slice (some ⟨w.heap.size + 1, 0, none⟩) 1 1) 1 (flt ilC [⟨kd, dp, tx, ur, ti⟩]) := own_lit (heap_alloc2_new _ _ _) (by omega)
  have hB0 : Below w.heap.size w ((w.alloc (.cells #[.int .i64 kd, .int .i64 dp, .string ⟨tx.toArray⟩, .string ⟨ur.toArray⟩, .string ⟨ti.toArray⟩] 30)).alloc (.cells #[.int .i64 kd, .int .i64 dp, .string ⟨tx.toArray⟩, .string ⟨ur.toArray⟩, .string ⟨ti.toArray⟩] 30)) := ((Below.refl _ w).alloc (Nat.le_refl _) _).alloc (by simp) _
  have HO0 := Lib.hid hown0
  have HB0 := Lib.hid hB0
  clear hown0 hB0
  go_loopw [5, 7, 12] (fun av yv i wr => ∃ (k : Nat), i = .int .i64 k ∧ k ≤ nd.length ∧ wr.ownsRow w.heap.size 30 5 av (k + 1) (flt ilC (⟨kd, dp, tx, ur, ti⟩ :: deepI (nd.take k))) ∧ Below w.heap.size w wr) (fun _ _ i _ => nd.length - (intOf i).toNat)
  case atStart => exact ⟨0, rfl, Nat.zero_le _, HO0.out, HB0.out⟩
  case round =>
    obtain ⟨k, rfl, hk, hrow, hbw⟩ := hrel
    obtain ⟨A5, c5, rfl, _⟩ := own_form hrow
    by_cases hp : k < nd.length
    · obtain ⟨b, off, rfl, hb, c0, c1, c2, c3, c4⟩ := InlsAt.cells5 (EltsAt.below HI.out hbw) hp
      have hrow' : wr.ownsRow w.heap.size 30 5 (.slice A5 (k + 1) c5) ((⟨kd, dp, tx, ur, ti⟩ : Iln) :: deepI (nd.take k)).length (flt ilC (⟨kd, dp, tx, ur, ti⟩ :: deepI (nd.take k))) := by
        have e : ((⟨kd, dp, tx, ur, ti⟩ : Iln) :: deepI (nd.take k)).length = k + 1 := by simp [deepI]; omega
        rw [e]; exact hrow
      have htk : (⟨kd, dp, tx, ur, ti⟩ : Iln) :: deepI (nd.take k) ++ [deepOne nd[k]] = ⟨kd, dp, tx, ur, ti⟩ :: deepI (nd.take (k + 1)) := by
        rw [List.take_succ_eq_append_getElem hp, deepI_append]; rfl
      have hlen : ((⟨kd, dp, tx, ur, ti⟩ : Iln) :: deepI (nd.take k)).length = k + 1 := by simp [deepI]; omega
      have HROW := Lib.hid hrow'
      have HTK := Lib.hid htk
      have HLEN := Lib.hid hlen
      have HBW := Lib.hid hbw
      have hbs := hbw.size
      have HP := Lib.hid hp
      clear hrow hrow' htk hlen hbw
      generalize (⟨kd, dp, tx, ur, ti⟩ : Iln) :: deepI (nd.take k) = X at *
      generalize nd[k] = y at *
      obtain ⟨yk, yd, yt, yu, yi⟩ := y
      dsimp only at c0 c1 c2 c3 c4
      unfold deepOne at HTK
      dsimp only at HTK
      rw [show IntKind.i64.wrap (yd + 1) = wrap64 (yd + 1) from by first | rfl | simp only [wrap64, IntKind.wrap_i64]] at HTK
      have hr2 := (HROW.out.alloc (.cells #[.int .i64 yk, .int .i64 (wrap64 (yd + 1)), .string ⟨yt.toArray⟩, .string ⟨yu.toArray⟩, .string ⟨yi.toArray⟩] 30)).alloc (.cells #[.int .i64 yk, .int .i64 (wrap64 (yd + 1)), .string ⟨yt.toArray⟩, .string ⟨yu.toArray⟩, .string ⟨yi.toArray⟩] 30)
      have HR2 := Lib.hid hr2
      have hb2 : Below w.heap.size w ((wr.alloc (.cells #[.int .i64 yk, .int .i64 (wrap64 (yd + 1)), .string ⟨yt.toArray⟩, .string ⟨yu.toArray⟩, .string ⟨yi.toArray⟩] 30)).alloc (.cells #[.int .i64 yk, .int .i64 (wrap64 (yd + 1)), .string ⟨yt.toArray⟩, .string ⟨yu.toArray⟩, .string ⟨yi.toArray⟩] 30)) := (HBW.out.alloc hbs _).alloc (by simp; omega) _
      have HB2 := Lib.hid hb2
      clear hr2 hb2
      go_wp2_with (at_builtin; refine append_inls rfl _ _ rfl w.heap.size _ X rfl HR2.out (some ⟨wr.heap.size + 1, 0, none⟩) 1 [⟨yk, wrap64 (yd + 1), yt, yu, yi⟩] rfl (lit_inls (heap_alloc2_new _ _ _)) (by rw [HLEN.out]; simp; omega) (by simp; omega) ?_)
      intro v6 w6 ho6 hg6
      rw [HTK.out] at ho6
      have HO6 := Lib.hid ho6
      have HB6 := Lib.hid (HB2.out.grown hg6 HB2.out.size (fun r e => (HR2.out.lt r e).1))
      clear ho6 hg6
      go_wp2
      go_roundw
      case rel => exact ⟨k + 1, by go_num, HP.out, by have := HO6.out; rwa [HLEN.out] at this, HB6.out⟩
      case measure => have := HP.out; simp [intOf]; omega
    · obtain rfl : k = nd.length := by omega
      rw [List.take_length] at hrow
      have hnd := NdAt.own (nd := (⟨kd, dp, tx, ur, ti⟩ : Iln) :: deepI nd) (by rw [show ((⟨kd, dp, tx, ur, ti⟩ : Iln) :: deepI nd).length = nd.length + 1 from by simp [deepI]]; exact hrow)
      have HN := Lib.hid hnd
      clear hnd hrow
      go_wp2
      go_ret
      exact ⟨⟨_, rfl, HN.out⟩, hbw⟩
end Go.Proofs.YtfbaknkmpilllaaGreatDoor
