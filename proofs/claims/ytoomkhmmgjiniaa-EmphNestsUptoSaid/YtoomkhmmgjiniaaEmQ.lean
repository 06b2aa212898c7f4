/-
  Plain facts for the laws of chapter 14: no sign is lost; rows that may not be paired stay; rows around a word; nodes in a pair.
-/
import Derived.Test.YtoomkhmmgjiniaaEmP
namespace Go.Proofs.Ytoomkhmmgjiniaa
open Go.RowKit
set_option linter.unusedSimpArgs false
set_option linter.unusedVariables false

/-! ### EmphKeeps -/
def weight (x : Iln) : Nat := if x.kd = 3 then 2 else if x.kd = 4 then 4 else if x.kd = 1 then x.txt.length else 0
def sumW (l : List Iln) : Nat := (l.map weight).sum
theorem sumW_append (a b : List Iln) : sumW (a ++ b) = sumW a + sumW b := by simp [sumW]
theorem sumW_cons (a : Iln) (b : List Iln) : sumW (a :: b) = weight a + sumW b := by simp [sumW]
theorem sumW_deep (l : List Iln) : sumW (deepI l) = sumW l := by
  induction l with
  | nil => rfl
  | cons x l ih => rw [show deepI (x :: l) = deepOne x :: deepI l from rfl, sumW_cons, sumW_cons, ih]; rfl
/-- Where the next node may lie, behind nodes one of which may lie d deep. -/
def deepAt : Int → List Iln → Int
  | d, [] => d
  | _, x :: l => deepAt (if x.kd = 1 then x.dp else x.dp + 1) l
def deepOk : Int → List Iln → Bool
  | _, [] => true
  | d, x :: l => decide (x.dp ≤ d) && deepOk (if x.kd = 1 then x.dp else x.dp + 1) l
theorem deepOk_append (a b : List Iln) : ∀ d, deepOk d (a ++ b) = (deepOk d a && deepOk (deepAt d a) b) := by
  induction a with
  | nil => intro d; rfl
  | cons x a ih => intro d; simp only [List.cons_append, deepOk, deepAt, ih, Bool.and_assoc]
theorem deepAt_append (a b : List Iln) : ∀ d, deepAt d (a ++ b) = deepAt (deepAt d a) b := by
  induction a with
  | nil => intro d; rfl
  | cons x a ih => intro d; simp only [List.cons_append, deepAt, ih]
theorem deepOk_mono (l : List Iln) {d e : Int} (h : d ≤ e) (k : deepOk d l = true) : deepOk e l = true := by
  cases l with
  | nil => rfl
  | cons x l =>
    simp only [deepOk, Bool.and_eq_true, decide_eq_true_eq] at k ⊢
    exact ⟨by omega, k.2⟩
theorem deepAt_lo (a : List Iln) (h : ∀ x ∈ a, 0 ≤ x.dp) : ∀ d, 0 ≤ d → 0 ≤ deepAt d a := by
  induction a with
  | nil => intro d hd; exact hd
  | cons x a ih =>
    intro d hd
    have hx := h x (by simp)
    exact ih (fun y hy => h y (by simp [hy])) _ (by split <;> omega)
theorem deepOk_both {a b : List Iln} (h : ∀ x ∈ a, 0 ≤ x.dp) {d : Int} (hd : 0 ≤ d) (ha : deepOk d a = true) (hb : deepOk 0 b = true) : deepOk d (a ++ b) = true := by
  rw [deepOk_append, ha, deepOk_mono b (deepAt_lo a h d hd) hb]; rfl
theorem deepOk_deep (l : List Iln) (h : SmallD l) : ∀ d, deepOk (d + 1) (deepI l) = deepOk d l := by
  induction l with
  | nil => intro d; rfl
  | cons x l ih =>
    intro d
    have hx := h x (by simp)
    rw [show deepI (x :: l) = deepOne x :: deepI l from rfl]
    simp only [deepOk, deepOne, wrap_small hx.1 hx.2]
    have e : (if x.kd = 1 then x.dp + 1 else x.dp + 1 + 1) = (if x.kd = 1 then x.dp else x.dp + 1) + 1 := by split <;> rfl
    rw [e, ih (fun y hy => h y (by simp [hy]))]
    congr 1
    exact decide_eq_decide.2 (by omega)
theorem deepOk_mergeOne (out : List Iln) (x : Iln) (r : List Iln) (d : Int) (h : deepOk d (out ++ x :: r) = true) : deepOk d (mergeOne out x ++ r) = true := by
  rcases List.eq_nil_or_concat out with rfl | ⟨l', y, rfl⟩
  · rw [mergeOne_nil]
    simp only [List.nil_append, deepOk, Bool.and_eq_true, decide_eq_true_eq] at h
    split
    · next hk =>
      split
      · rw [if_pos hk] at h; exact deepOk_mono r h.1 h.2
      · simp only [List.cons_append, List.nil_append, deepOk, wordsI, Bool.and_eq_true, decide_eq_true_eq]
        rw [if_pos hk] at h
        exact ⟨h.1, by simpa using h.2⟩
    · simp only [List.cons_append, List.nil_append, deepOk, Bool.and_eq_true, decide_eq_true_eq]
      exact h
  · rw [List.concat_eq_append] at h ⊢
    rw [mergeOne_snoc]
    rw [List.append_assoc, deepOk_append] at h
    simp only [List.cons_append, List.nil_append, deepOk, Bool.and_eq_true, decide_eq_true_eq] at h
    obtain ⟨h1, h2, h3, h4⟩ := h
    split
    · next hk =>
      rw [if_pos hk] at h4
      split
      · rw [List.append_assoc, deepOk_append, h1]
        simp only [List.cons_append, List.nil_append, deepOk, Bool.and_eq_true, decide_eq_true_eq, Bool.true_and]
        exact ⟨h2, deepOk_mono r h3 h4⟩
      · split
        · next hy =>
          rw [List.append_assoc, deepOk_append, h1]
          simp only [List.cons_append, List.nil_append, deepOk, Bool.and_eq_true, decide_eq_true_eq, Bool.true_and]
          rw [if_pos hy.1, hy.2]
          exact ⟨by rw [← hy.2]; exact h2, h4⟩
        · rw [List.append_assoc, List.append_assoc, deepOk_append, h1]
          simp only [List.cons_append, List.nil_append, deepOk, Bool.and_eq_true, decide_eq_true_eq, Bool.true_and, wordsI]
          exact ⟨h2, h3, by simpa using h4⟩
    · rw [List.append_assoc, List.append_assoc, deepOk_append, h1]
      simp only [List.cons_append, List.nil_append, deepOk, Bool.and_eq_true, decide_eq_true_eq, Bool.true_and]
      exact ⟨h2, h3, h4⟩
theorem deepOk_foldl (l : List Iln) : ∀ (p : List Iln) (d : Int), deepOk d (p ++ l) = true → deepOk d (l.foldl mergeOne p) = true := by
  induction l with
  | nil => intro p d h; simpa using h
  | cons x l ih => intro p d h; exact ih _ d (deepOk_mergeOne p x l d h)
theorem deepOk_merge {l : List Iln} {d : Int} (h : deepOk d l = true) : deepOk d (mergeI l) = true := deepOk_foldl l [] d h
theorem sumW_mergeOne (out : List Iln) (x : Iln) : sumW (mergeOne out x) = sumW out + weight x := by
  rcases List.eq_nil_or_concat out with rfl | ⟨l', y, rfl⟩
  · rw [mergeOne_nil]
    split
    · next hk =>
      split
      · next ht => simp [sumW, weight, hk, ht]
      · simp [sumW, weight, hk, wordsI]
    · simp [sumW]
  · rw [List.concat_eq_append, mergeOne_snoc]
    split
    · next hk =>
      split
      · next ht => simp [weight, hk, ht]
      · split
        · next hy => simp [sumW_append, sumW, weight, hk, hy.1]; omega
        · simp [sumW_append, sumW, weight, hk, wordsI, Nat.add_assoc]
    · simp [sumW_append, sumW, Nat.add_assoc]
theorem sumW_merge (l : List Iln) : sumW (mergeI l) = sumW l := by
  suffices ∀ (l p : List Iln), sumW (l.foldl mergeOne p) = sumW p + sumW l from by have := this l []; simpa [sumW, mergeI] using this
  intro l
  induction l with
  | nil => intro p; simp [sumW]
  | cons x l ih => intro p; rw [List.foldl_cons, ih, sumW_mergeOne, sumW_cons]; omega
def Kinds (l : List Iln) : Prop := ∀ x ∈ l, x.kd = 1 ∨ x.kd = 3 ∨ x.kd = 4
theorem kinds_mergeOne {out : List Iln} (h : Kinds out) {x : Iln} (hx : x.kd = 1 ∨ x.kd = 3 ∨ x.kd = 4) : Kinds (mergeOne out x) := by
  rcases List.eq_nil_or_concat out with rfl | ⟨l', y, rfl⟩
  · rw [mergeOne_nil]
    split
    · split
      · exact h
      · intro z hz; simp at hz; subst hz; exact Or.inl rfl
    · intro z hz; simp at hz; subst hz; exact hx
  · rw [List.concat_eq_append] at h ⊢
    rw [mergeOne_snoc]
    have hl : ∀ z ∈ l', z.kd = 1 ∨ z.kd = 3 ∨ z.kd = 4 := fun z hz => h z (List.mem_append_left _ hz)
    split
    · split
      · exact h
      · split
        · next hy =>
          intro z hz
          rcases List.mem_append.1 hz with hz | hz
          · exact hl z hz
          · simp at hz; subst hz; exact Or.inl hy.1
        · intro z hz
          rcases List.mem_append.1 hz with hz | hz
          · exact h z hz
          · simp at hz; subst hz; exact Or.inl rfl
    · intro z hz
      rcases List.mem_append.1 hz with hz | hz
      · exact h z hz
      · simp at hz; subst hz; exact hx
theorem kinds_merge {l : List Iln} (h : Kinds l) : Kinds (mergeI l) := by
  suffices ∀ (l p : List Iln), Kinds p → Kinds l → Kinds (l.foldl mergeOne p) from this l [] (by intro x hx; cases hx) h
  intro l
  induction l with
  | nil => intro p hp _; exact hp
  | cons x l ih => intro p hp hl; exact ih _ (kinds_mergeOne hp (hl x (by simp))) (fun y hy => hl y (by simp [hy]))

/-- What is so of rows, and of what they become. -/
structure Keep (T W : Nat) (S : List Itm) : Prop where
  kinds : Kinds (allI S)
  lo : ∀ x ∈ allI S, 0 ≤ x.dp
  hi : ∀ x ∈ allI S, x.dp + signsI S ≤ T
  nn : ∀ x ∈ S, 0 ≤ x.n
  sum : sumW (allI S) = W
  shape : ∀ x ∈ S, deepOk 0 (leftI x) = true
theorem shape_all (S : List Itm) (lo : ∀ x ∈ allI S, 0 ≤ x.dp) (h : ∀ x ∈ S, deepOk 0 (leftI x) = true) : deepOk 0 (allI S) = true := by
  induction S with
  | nil => rfl
  | cons x S ih =>
    rw [allI_cons] at lo ⊢
    exact deepOk_both (fun y hy => lo y (List.mem_append_left _ hy)) (Int.le_refl _) (h x (by simp)) (ih (fun y hy => lo y (List.mem_append_right _ hy)) (fun y hy => h y (by simp [hy])))
theorem leftI_row {x : Itm} (h : x.sg ≠ 0) : leftI x = [wordsI 0 (List.replicate x.n.toNat x.sg)] := by unfold leftI; rw [if_neg h]
theorem leftI_less {o : Itm} (h : o.sg ≠ 0) (k : Int) : leftI (lessI o k) = [wordsI 0 (List.replicate (o.n - k).toNat o.sg)] := leftI_row (x := lessI o k) h
theorem Keep.pair {T W : Nat} (hT : T ≤ 1000000) {A M R : List Itm} {o c : Itm} (h : Keep T W (A ++ o :: M ++ c :: R)) (ho : canOpen o c = true) (hc : canClose c = true) :
    Keep T W (A ++ lessI o (kOf o c) :: nodeI (kOf o c) (allI M) :: lessI c (kOf o c) :: R) := by
  have hc0 := canClose_pos hc
  have ho0 := canOpen_pos ho
  have hk := kOf_is o c ho0.1 hc0.1
  have hos : o.sg ≠ 0 := by rw [ho0.2.1]; exact hc0.2.1
  have eS : allI (A ++ o :: M ++ c :: R) = allI A ++ (leftI o ++ (allI M ++ (leftI c ++ allI R))) := by simp [allI_append, allI_cons]
  have eN : allI (A ++ lessI o (kOf o c) :: nodeI (kOf o c) (allI M) :: lessI c (kOf o c) :: R) = allI A ++ (leftI (lessI o (kOf o c)) ++ ((⟨if kOf o c = 2 then 4 else 3, 0, [], [], []⟩ :: deepI (allI M)) ++ (leftI (lessI c (kOf o c)) ++ allI R))) := by
    simp [allI_append, allI_cons, nodeI, leftI]
  have sS : signsI (A ++ o :: M ++ c :: R) = signsI A + o.n.toNat + signsI M + c.n.toNat + signsI R := by simp only [signsI_append, signsI_cons]; omega
  have sN : signsI (A ++ lessI o (kOf o c) :: nodeI (kOf o c) (allI M) :: lessI c (kOf o c) :: R) + 2 * (kOf o c).toNat + signsI M = signsI (A ++ o :: M ++ c :: R) := by
    rw [sS]
    simp only [signsI_append, signsI_cons, lessI, nodeI]
    have e0 : ((0 : Int)).toNat = 0 := rfl
    omega
  have hkin := h.kinds
  have hlo := h.lo
  have hhi := h.hi
  have hsum := h.sum
  rw [eS] at hkin hlo hhi hsum
  have smallM : SmallD (allI M) := fun x hx => by
    have h1 := hlo x (by simp [hx])
    have h2 := hhi x (by simp [hx])
    omega
  have memM : ∀ z ∈ deepI (allI M), ∃ y ∈ allI M, z = deepOne y ∧ z.dp = y.dp + 1 := fun z hz => by
    obtain ⟨y, hy, rfl⟩ := List.mem_map.1 hz
    have := smallM y hy
    exact ⟨y, hy, rfl, wrap_small this.1 this.2⟩
  have cases' : ∀ (P : Iln → Prop), (∀ x ∈ allI A, P x) → (∀ s, P (wordsI 0 s)) → P ⟨if kOf o c = 2 then 4 else 3, 0, [], [], []⟩ → (∀ x ∈ deepI (allI M), P x) → (∀ x ∈ allI R, P x) → ∀ x ∈ allI (A ++ lessI o (kOf o c) :: nodeI (kOf o c) (allI M) :: lessI c (kOf o c) :: R), P x := by
    intro P p1 p2 p3 p4 p5 x hx
    rw [eN, leftI_less hos, leftI_less hc0.2.1] at hx
    simp only [List.mem_append, List.mem_cons, List.not_mem_nil, or_false] at hx
    rcases hx with hx | rfl | (rfl | hx) | rfl | hx
    · exact p1 x hx
    · exact p2 _
    · exact p3
    · exact p4 x hx
    · exact p2 _
    · exact p5 x hx
  refine ⟨?_, ?_, ?_, ?_, ?_, ?_⟩
  · refine cases' _ (fun x hx => hkin x (by simp [hx])) (fun s => Or.inl rfl) ?_ (fun x hx => ?_) (fun x hx => hkin x (by simp [hx]))
    · show (if kOf o c = 2 then (4 : Int) else 3) = 1 ∨ _ = 3 ∨ _ = 4
      split <;> simp
    · obtain ⟨y, hy, rfl, _⟩ := memM x hx
      exact hkin y (by simp [hy])
  · refine cases' (fun x => 0 ≤ x.dp) (fun x hx => hlo x (by simp [hx])) (fun s => Int.le_refl _) (Int.le_refl _) (fun x hx => ?_) (fun x hx => hlo x (by simp [hx]))
    obtain ⟨y, hy, _, e⟩ := memM x hx
    have := hlo y (by simp [hy])
    omega
  · have hw := hhi (wordsI 0 (List.replicate o.n.toNat o.sg)) (by rw [leftI_row hos]; simp)
    simp only [wordsI] at hw
    refine cases' (fun x => x.dp + _ ≤ _) (fun x hx => ?_) (fun s => ?_) ?_ (fun x hx => ?_) (fun x hx => ?_)
    · have := hhi x (by simp [hx]); omega
    · simp only [wordsI]; omega
    · show (0 : Int) + _ ≤ _; omega
    · obtain ⟨y, hy, _, e⟩ := memM x hx
      have := hhi y (by simp [hy])
      omega
    · have := hhi x (by simp [hx]); omega
  · intro x hx
    simp only [List.mem_append, List.mem_cons] at hx
    rcases hx with hx | rfl | rfl | rfl | hx
    · exact h.nn x (by simp [hx])
    · simp only [lessI]; omega
    · simp [nodeI]
    · simp only [lessI]; omega
    · exact h.nn x (by simp [hx])
  · rw [eN, leftI_less hos, leftI_less hc0.2.1]
    rw [leftI_row hos, leftI_row hc0.2.1] at hsum
    simp only [sumW_append, sumW_cons, sumW_deep] at hsum ⊢
    have w1 : ∀ (m : Nat) (b : UInt8), weight (wordsI 0 (List.replicate m b)) = m := fun m b => by simp [weight, wordsI]
    simp only [w1] at hsum ⊢
    have w2 : weight ⟨if kOf o c = 2 then 4 else 3, 0, [], [], []⟩ = 2 * (kOf o c).toNat := by
      rcases hk.1 with e | e <;> rw [e] <;> decide
    rw [w2]
    have e0 : sumW [] = 0 := rfl
    omega
  · intro x hx
    simp only [List.mem_append, List.mem_cons] at hx
    rcases hx with hx | rfl | rfl | rfl | hx
    · exact h.shape x (by simp [hx])
    · rw [leftI_less hos]; rfl
    · have hM : deepOk 0 (allI M) = true := shape_all M (fun y hy => hlo y (by simp [hy])) (fun y hy => h.shape y (by simp [hy]))
      have e1 : leftI (nodeI (kOf o c) (allI M)) = ⟨if kOf o c = 2 then 4 else 3, 0, [], [], []⟩ :: deepI (allI M) := by simp [nodeI, leftI]
      rw [e1]
      simp only [deepOk, Int.le_refl, decide_true, Bool.true_and]
      rw [if_neg (by split <;> decide)]
      rw [deepOk_deep _ smallM]; exact hM
    · rw [leftI_less hc0.2.1]; rfl
    · exact h.shape x (by simp [hx])
theorem keep_go {T W : Nat} (hT : T ≤ 1000000) : ∀ (f : Nat) (l r : List Itm), Keep T W (l.reverse ++ r) → Keep T W (groupGo f l r)
  | 0, l, r, h => by simpa [groupGo] using h
  | f + 1, l, [], h => by simpa [groupGo] using h
  | f + 1, l, c :: r, h => by
    simp only [groupGo]
    split
    · next hc =>
      split
      · exact keep_go hT f _ _ (by simpa using h)
      · next m o l' he =>
        obtain ⟨rfl, ho, _⟩ := openerI_some he
        refine keep_go hT f _ _ ?_
        have h' : Keep T W (l'.reverse ++ o :: m.reverse ++ c :: r) := by simpa using h
        have := h'.pair hT ho hc
        simpa using this
    · exact keep_go hT f _ _ (by simpa using h)
/-- Rows: no sign is lost. -/
theorem keeps_plain (S : List Itm) (h : ∀ x ∈ S, x.sg ≠ 0 ∧ 0 ≤ x.n) (hT : signsI S ≤ 1000000) : Kinds (groupI S) ∧ sumW (groupI S) = signsI S ∧ deepOk 0 (groupI S) = true ∧ ∀ x ∈ groupI S, 0 ≤ x.dp ∧ x.dp ≤ 1000000 := by
  have hall : ∀ x ∈ allI S, ∃ i ∈ S, x = wordsI 0 (List.replicate i.n.toNat i.sg) := fun x hx => by
    obtain ⟨i, hi, hxi⟩ := List.mem_flatMap.1 hx
    rw [leftI_row (h i hi).1] at hxi
    simp at hxi
    exact ⟨i, hi, hxi⟩
  have hsum : ∀ S : List Itm, (∀ x ∈ S, x.sg ≠ 0 ∧ 0 ≤ x.n) → sumW (allI S) = signsI S := by
    intro S
    induction S with
    | nil => intro _; rfl
    | cons x S ih =>
      intro h
      rw [allI_cons, sumW_append, signsI_cons, ih (fun y hy => h y (by simp [hy])), leftI_row (h x (by simp)).1]
      simp [sumW, weight, wordsI]
  have hK : Keep (signsI S) (signsI S) ([].reverse ++ S) := by
    refine ⟨fun x hx => ?_, fun x hx => ?_, fun x hx => ?_, fun x hx => (h x hx).2, hsum S h, fun x hx => ?_⟩
    · obtain ⟨i, hi, rfl⟩ := hall x hx; exact Or.inl rfl
    · obtain ⟨i, hi, rfl⟩ := hall x hx; exact Int.le_refl _
    · obtain ⟨i, hi, rfl⟩ := hall x hx; simp [wordsI]
    · rw [leftI_row (h x hx).1]; rfl
  have hG := keep_go hT (fuelI S) [] S hK
  have hS : SmallD (allI (groupGo (fuelI S) [] S)) := fun x hx => ⟨hG.lo x hx, by have := hG.hi x hx; omega⟩
  exact ⟨kinds_merge hG.kinds, (sumW_merge _).trans hG.sum, deepOk_merge (shape_all _ hG.lo hG.shape), mergeI_small hS⟩

/-! ### EmphNone -/
def signsOf (l : List Itm) : List UInt8 := l.flatMap fun x => List.replicate x.n.toNat x.sg
theorem rows_merge : ∀ (S : List Itm) (a : List UInt8), (∀ x ∈ S, x.sg ≠ 0) → (allI S).foldl mergeOne (if a = [] then [] else [wordsI 0 a]) = if a ++ signsOf S = [] then [] else [wordsI 0 (a ++ signsOf S)]
  | [], a, _ => by simp [allI, signsOf]
  | x :: S, a, h => by
    have ih := rows_merge S (a ++ List.replicate x.n.toNat x.sg) (fun y hy => h y (by simp [hy]))
    have e : signsOf (x :: S) = List.replicate x.n.toNat x.sg ++ signsOf S := by simp [signsOf]
    rw [allI_cons, leftI_row (h x (by simp)), e, ← List.append_assoc, ← ih]
    simp only [List.singleton_append, List.foldl_cons]
    congr 1
    generalize List.replicate x.n.toNat x.sg = t
    by_cases ht : t = []
    · subst ht
      unfold mergeOne
      simp [wordsI]
    · by_cases ha : a = []
      · subst ha
        simp [mergeOne, wordsI, ht]
      · simp [mergeOne, wordsI, ht, ha]
theorem none_merge (S : List Itm) (h : ∀ x ∈ S, x.sg ≠ 0) : mergeI (allI S) = if signsOf S = [] then [] else [wordsI 0 (signsOf S)] := by
  have := rows_merge S [] h
  simpa [mergeI] using this
theorem emNone_close (S : List Itm) (h : ∀ x ∈ S, x.sg ≠ 0 ∧ x.cl = false) : groupI S = if signsOf S = [] then [] else [wordsI 0 (signsOf S)] := by
  unfold groupI
  rw [groupGo_stay S [] _ (fun c hc => by simp [canClose, (h c hc).2]) (by unfold fuelI; omega)]
  exact none_merge S (fun x hx => (h x hx).1)
theorem emNone_open (S : List Itm) (h : ∀ x ∈ S, x.sg ≠ 0 ∧ x.op = false) : groupI S = if signsOf S = [] then [] else [wordsI 0 (signsOf S)] := by
  unfold groupI
  rw [groupGo_none S [] _ (fun c hc => (h c (by simpa using hc)).2) (by unfold fuelI; omega)]
  exact none_merge S (fun x hx => (h x hx).1)

/-! ### EmphPairs -/
def chainI (ks : List Int) (s : List UInt8) : List Iln := (ks.zipIdx.map fun p => ⟨p.1, (p.2 : Int), [], [], []⟩) ++ [wordsI ks.length s]
theorem chain_deep (ks : List Int) (s : List UInt8) (k : Int) (h : ks.length ≤ 1000) : ⟨k, 0, [], [], []⟩ :: deepI (chainI ks s) = chainI (k :: ks) s := by
  have hw : ∀ m : Nat, m ≤ 1000 → IntKind.i64.wrap ((m : Int) + 1) = ((m + 1 : Nat) : Int) := fun m hm => by rw [wrap_small (by omega) (by omega)]; omega
  unfold chainI
  rw [deepI_append, List.zipIdx_cons, List.map_cons, List.cons_append]
  congr 1
  · congr 1
    · rw [show (0 + 1) = 0 + 1 from rfl, List.zipIdx_succ]
      unfold deepI
      rw [List.map_map, List.map_map]
      refine List.map_congr_left fun p hp => ?_
      have hp' := List.snd_lt_of_mem_zipIdx hp
      simp only [Function.comp, deepOne]
      rw [hw p.2 (by simp at hp'; omega)]
    · simp only [deepI, deepOne, wordsI, List.map_cons, List.map_nil, List.length_cons]
      rw [hw ks.length h]
/-- Rows of one sign around nodes: a signs open, b close. -/
def kindsP : Nat → Nat → Nat → List Int → List Int
  | 0, _, _, ks => ks
  | f + 1, a, b, ks => if 2 ≤ a ∧ 2 ≤ b then kindsP f (a - 2) (b - 2) (4 :: ks) else if 1 ≤ a ∧ 1 ≤ b then kindsP f (a - 1) (b - 1) (3 :: ks) else ks
def opn (c : UInt8) (n a : Nat) : Itm := ⟨c, a, n, true, false, []⟩
def cls (c : UInt8) (m b : Nat) : Itm := ⟨c, b, m, false, true, []⟩
def nds (l : List Iln) : Itm := ⟨0, 0, 0, false, false, l⟩
theorem pairs_go (c : UInt8) (hc : c ≠ 0) (n m : Nat) (s : List UInt8) : ∀ (g a b : Nat) (ks : List Int) (f : Nat), a ≤ g → a + b + 1 ≤ f → ks.length + a ≤ 1000 →
    groupGo f [nds (chainI ks s), opn c n a] [cls c m b] = [opn c n (a - min a b), nds (chainI (kindsP g a b ks) s), cls c m (b - min a b)]
  | g, a, b, ks, 0, _, h, _ => by omega
  | g, a, b, ks, f + 1, hg, h, hk => by
    by_cases hb : 1 ≤ b
    · have h1 : canClose (cls c m b) = true := by simp [canClose, cls, hc]; omega
      simp only [groupGo]
      rw [if_pos h1]
      by_cases ha : 1 ≤ a
      · obtain ⟨g, rfl⟩ : ∃ g', g = g' + 1 := ⟨g - 1, by omega⟩
        have h2 : canOpen (nds (chainI ks s)) (cls c m b) = false := by simp [canOpen, nds, cls]
        have h3 : canOpen (opn c n a) (cls c m b) = true := by simp [canOpen, opn, cls]; omega
        have h4 : openerI (cls c m b) [nds (chainI ks s), opn c n a] = some ([nds (chainI ks s)], opn c n a, []) := openerI_is (m := [nds (chainI ks s)]) (l' := []) h3 (by simp [h2])
        rw [h4]
        simp only
        have e1 : allI [nds (chainI ks s)].reverse = chainI ks s := by simp [allI, leftI, nds]
        rw [e1]
        by_cases h22 : 2 ≤ a ∧ 2 ≤ b
        · have ek : kOf (opn c n a) (cls c m b) = 2 := by unfold kOf; rw [if_pos (by simp only [opn, cls]; omega)]
          have en : nodeI 2 (chainI ks s) = nds (chainI (4 :: ks) s) := by unfold nodeI nds; rw [if_pos rfl, chain_deep _ _ _ (by omega)]
          have eo : lessI (opn c n a) 2 = opn c n (a - 2) := by simp only [lessI, opn]; congr 1; omega
          have ec : lessI (cls c m b) 2 = cls c m (b - 2) := by simp only [lessI, cls]; congr 1; omega
          rw [ek, en, eo, ec, pairs_go c hc n m s g (a - 2) (b - 2) (4 :: ks) f (by omega) (by omega) (by simp only [List.length_cons]; omega)]
          simp only [kindsP]
          rw [if_pos h22, show a - 2 - min (a - 2) (b - 2) = a - min a b from by omega, show b - 2 - min (a - 2) (b - 2) = b - min a b from by omega]
        · have ek : kOf (opn c n a) (cls c m b) = 1 := by unfold kOf; rw [if_neg (by simp only [opn, cls]; omega)]
          have en : nodeI 1 (chainI ks s) = nds (chainI (3 :: ks) s) := by unfold nodeI nds; rw [if_neg (by decide), chain_deep _ _ _ (by omega)]
          have eo : lessI (opn c n a) 1 = opn c n (a - 1) := by simp only [lessI, opn]; congr 1; omega
          have ec : lessI (cls c m b) 1 = cls c m (b - 1) := by simp only [lessI, cls]; congr 1; omega
          rw [ek, en, eo, ec, pairs_go c hc n m s g (a - 1) (b - 1) (3 :: ks) f (by omega) (by omega) (by simp only [List.length_cons]; omega)]
          simp only [kindsP]
          rw [if_neg h22, if_pos ⟨ha, hb⟩, show a - 1 - min (a - 1) (b - 1) = a - min a b from by omega, show b - 1 - min (a - 1) (b - 1) = b - min a b from by omega]
      · have ha0 : a = 0 := by omega
        subst ha0
        rw [openerI_no (by simp [canOpen, nds, opn, cls])]
        simp only
        rw [groupGo_stay _ _ _ (by simp) (by simp)]
        have ek : kindsP g 0 b ks = ks := by cases g <;> simp [kindsP]
        rw [ek]
        simp
    · have hb0 : b = 0 := by omega
      subst hb0
      simp only [groupGo]
      rw [if_neg (by simp [canClose, cls]), groupGo_stay _ _ _ (by simp) (by simp)]
      have ek : kindsP g a 0 ks = ks := by cases g <;> simp [kindsP]
      rw [ek]
      simp
theorem kindsP_is : ∀ (g a b : Nat) (ks : List Int), a ≤ g → kindsP g a b ks = (if min a b % 2 = 1 then [3] else []) ++ List.replicate (min a b / 2) 4 ++ ks
  | 0, a, b, ks, h => by
    have : a = 0 := by omega
    subst this
    simp [kindsP]
  | g + 1, a, b, ks, h => by
    simp only [kindsP]
    split
    · next h2 =>
      rw [kindsP_is g (a - 2) (b - 2) (4 :: ks) (by omega), show min (a - 2) (b - 2) % 2 = min a b % 2 from by omega, show min a b / 2 = min (a - 2) (b - 2) / 2 + 1 from by omega]
      rw [List.replicate_succ']
      simp
    · next h2 =>
      split
      · next h1 =>
        rw [kindsP_is g (a - 1) (b - 1) (3 :: ks) (by omega), show min (a - 1) (b - 1) = 0 from by omega, show min a b = 1 from by omega]
        simp
      · next h1 =>
        rw [show min a b = 0 from by omega]
        simp
def pairK (k : Nat) : List Int := (if k % 2 = 1 then [3] else []) ++ List.replicate (k / 2) 4
theorem pairK_length (k : Nat) : (pairK k).length = k / 2 + k % 2 := by
  unfold pairK
  split <;> simp <;> omega
theorem pairK_kinds (k : Nat) : ∀ x ∈ pairK k, x = 3 ∨ x = 4 := by
  unfold pairK
  intro x hx
  simp only [List.mem_append, List.mem_replicate] at hx
  rcases hx with hx | hx
  · split at hx
    · simp at hx; exact Or.inl hx
    · simp at hx
  · exact Or.inr hx.2
theorem mergeI_chain (ks : List Int) (s : List UInt8) (hs : s ≠ []) (hk : ∀ x ∈ ks, x = 3 ∨ x = 4) : mergeI (chainI ks s) = chainI ks s := by
  refine mergeI_same ⟨fun x hx h1 => ?_, fun p a b q e => ?_⟩
  · unfold chainI at hx
    rcases List.mem_append.1 hx with hx | hx
    · obtain ⟨y, hy, rfl⟩ := List.mem_map.1 hx
      have := hk y.1 (List.fst_mem_of_mem_zipIdx hy)
      simp at h1
      omega
    · simp at hx; subst hx; exact ⟨hs, rfl, rfl⟩
  · rintro ⟨h1, h2, h3⟩
    unfold chainI at e
    rcases List.eq_nil_or_concat q with rfl | ⟨q', z, rfl⟩
    · have e' : (ks.zipIdx.map fun p => (⟨p.1, (p.2 : Int), [], [], []⟩ : Iln)) ++ [wordsI ks.length s] = (p ++ [a]) ++ [b] := by rw [e]; simp
      obtain ⟨e1, _⟩ := List.append_inj' e' rfl
      have ha : a ∈ ks.zipIdx.map fun p => (⟨p.1, (p.2 : Int), [], [], []⟩ : Iln) := by rw [e1]; simp
      obtain ⟨y, hy, rfl⟩ := List.mem_map.1 ha
      have := hk y.1 (List.fst_mem_of_mem_zipIdx hy)
      simp at h1
      omega
    · rw [List.concat_eq_append] at e
      have e' : (ks.zipIdx.map fun p => (⟨p.1, (p.2 : Int), [], [], []⟩ : Iln)) ++ [wordsI ks.length s] = (p ++ a :: b :: q') ++ [z] := by rw [e]; simp
      obtain ⟨e1, _⟩ := List.append_inj' e' rfl
      have ha : a ∈ ks.zipIdx.map fun p => (⟨p.1, (p.2 : Int), [], [], []⟩ : Iln) := by rw [e1]; simp
      obtain ⟨y, hy, rfl⟩ := List.mem_map.1 ha
      have := hk y.1 (List.fst_mem_of_mem_zipIdx hy)
      simp at h1
      omega
def rowI (c : UInt8) (k : Nat) : List Iln := if k = 0 then [] else [wordsI 0 (List.replicate k c)]
theorem pairs_plain (c : UInt8) (hc : c ≠ 0) (n m : Nat) (hn : 1 ≤ n) (hm : 1 ≤ m) (hn2 : n ≤ 900) (s : List UInt8) (hs : s ≠ []) :
    groupI [opn c n n, nds [wordsI 0 s], cls c m m] = rowI c (n - min n m) ++ chainI (pairK (min n m)) s ++ rowI c (m - min n m) := by
  have e0 : [wordsI 0 s] = chainI [] s := rfl
  have hg : groupGo (fuelI [opn c n n, nds [wordsI 0 s], cls c m m]) [] [opn c n n, nds [wordsI 0 s], cls c m m] = [opn c n (n - min n m), nds (chainI (pairK (min n m)) s), cls c m (m - min n m)] := by
    have hf : fuelI [opn c n n, nds [wordsI 0 s], cls c m m] = (n + m + 1) + 2 := by simp [fuelI, signsI, opn, nds, cls]; omega
    rw [hf]
    have s1 : groupGo (n + m + 1 + 2) [] [opn c n n, nds [wordsI 0 s], cls c m m] = groupGo (n + m + 1) [nds [wordsI 0 s], opn c n n] [cls c m m] := by
      simp only [groupGo]
      rw [if_neg (by simp [canClose, opn]), if_neg (by simp [canClose, nds])]
    rw [s1, e0, pairs_go c hc n m s n n m [] _ (Nat.le_refl _) (by omega) (by simp; omega), kindsP_is n n m [] (Nat.le_refl _)]
    simp [pairK]
  unfold groupI
  rw [hg]
  have hk := pairK_kinds (min n m)
  have hl := pairK_length (min n m)
  have hl1 : 1 ≤ (pairK (min n m)).length := by omega
  generalize pairK (min n m) = ks at hk hl hl1
  have e1 : allI [opn c n (n - min n m), nds (chainI ks s), cls c m (m - min n m)] = [wordsI 0 (List.replicate (n - min n m) c)] ++ (chainI ks s ++ [wordsI 0 (List.replicate (m - min n m) c)]) := by
    simp only [allI_cons]
    rw [leftI_row (x := opn c n (n - min n m)) hc, leftI_row (x := cls c m (m - min n m)) hc]
    simp [leftI, nds, allI, opn, cls]
  have r1 : ∀ k : Nat, mergeI [wordsI 0 (List.replicate k c)] = rowI c k := fun k => by
    unfold rowI mergeI
    simp only [List.foldl_cons, List.foldl_nil, mergeOne_nil]
    by_cases hk0 : k = 0
    · subst hk0; simp [wordsI]
    · rw [if_pos (show (wordsI 0 (List.replicate k c)).kd = 1 from rfl), if_neg (by simp [wordsI, hk0]), if_neg hk0]; rfl
  have hce : chainI ks s = (ks.zipIdx.map fun p => (⟨p.1, (p.2 : Int), [], [], []⟩ : Iln)) ++ [wordsI ks.length s] := rfl
  have hm1 := mergeI_chain ks s hs hk
  rw [e1, mergeI_append, r1, List.foldl_append]
  rw [foldl_apart (chainI ks s) (rowI c (n - min n m)) (fun d hd => by
    unfold beginsAt
    rw [hm1]
    cases ks with
    | nil => simp at hl1
    | cons k0 ks =>
      have := hk k0 (by simp)
      simp [chainI]
      intro e; omega), hm1]
  rw [foldl_apart, r1]
  intro d hd
  rw [hce, ← List.append_assoc, endsAt_snoc] at hd
  simp [wordsI] at hd
  unfold beginsAt
  rw [r1]
  unfold rowI
  by_cases h0 : m - min n m = 0
  · rw [if_pos h0]; rfl
  · rw [if_neg h0]; simp [wordsI]; omega

/-! ### EmphNests -/
theorem go_on (f : Nat) (l : List Itm) (c : Itm) (r : List Itm) (h : canClose c = false) : groupGo (f + 1) l (c :: r) = groupGo f (c :: l) r := by
  simp only [groupGo]; rw [if_neg (by rw [h]; simp)]
theorem go_pair (f : Nat) (l : List Itm) (c : Itm) (r m : List Itm) (o : Itm) (l' : List Itm) (h : canClose c = true) (he : openerI c l = some (m, o, l')) :
    groupGo (f + 1) l (c :: r) = groupGo f (nodeI (kOf o c) (allI m.reverse) :: lessI o (kOf o c) :: l') (lessI c (kOf o c) :: r) := by
  simp only [groupGo]; rw [if_pos h, he]
theorem go_none (f : Nat) (l : List Itm) (c : Itm) (r : List Itm) (h : canClose c = true) (he : openerI c l = none) : groupGo (f + 1) l (c :: r) = groupGo f (c :: l) r := by
  simp only [groupGo]; rw [if_pos h, he]
theorem nests_go (c : UInt8) (hc : c ≠ 0) (k : Nat) (hk : k = 1 ∨ k = 2) (l : List Iln) :
    groupGo (fuelI [nds l, opn c k k, nds l, cls c k k, nds l]) [] [nds l, opn c k k, nds l, cls c k k, nds l] = [nds l, opn c k 0, nodeI k l, cls c k 0, nds l] := by
  have hf : fuelI [nds l, opn c k k, nds l, cls c k k, nds l] = (k + k) + 5 := by simp [fuelI, signsI, opn, nds, cls]; omega
  obtain ⟨g, hg⟩ : ∃ g, k + k + 5 = g + 2 + 4 := ⟨k + k - 1, by omega⟩
  rw [hf, hg]
  have h1 : canClose (cls c k k) = true := by rcases hk with rfl | rfl <;> simp [canClose, cls, hc]
  have h2 : canOpen (nds l) (cls c k k) = false := by simp [canOpen, nds, cls]
  have h3 : canOpen (opn c k k) (cls c k k) = true := by rcases hk with rfl | rfl <;> simp [canOpen, opn, cls]
  have ek : kOf (opn c k k) (cls c k k) = k := by rcases hk with rfl | rfl <;> rfl
  have h4 : openerI (cls c k k) [nds l, opn c k k, nds l] = some ([nds l], opn c k k, [nds l]) := openerI_is (m := [nds l]) (l' := [nds l]) h3 (by simp [h2])
  rw [go_on _ _ _ _ (show canClose (nds l) = false from by simp [canClose, nds]), go_on _ _ _ _ (show canClose (opn c k k) = false from by simp [canClose, opn]), go_on _ _ _ _ (show canClose (nds l) = false from by simp [canClose, nds]),
    go_pair _ _ _ _ [nds l] (opn c k k) [nds l] h1 h4]
  have e1 : allI [nds l].reverse = l := by simp [allI, leftI, nds]
  have eo : lessI (opn c k k) k = opn c k 0 := by simp only [lessI, opn]; congr 1; omega
  have ec : lessI (cls c k k) k = cls c k 0 := by simp only [lessI, cls]; congr 1; omega
  rw [ek, e1, eo, ec, groupGo_stay]
  · rfl
  · intro x hx
    simp at hx
    rcases hx with rfl | rfl <;> simp [canClose, cls, nds]
  · simp
theorem nests_plain (c : UInt8) (hc : c ≠ 0) (k : Nat) (hk : k = 1 ∨ k = 2) (l : List Iln) (hl : SmallD l)
    (hn : ∀ d, endsAt (mergeI l ++ ⟨if (k : Int) = 2 then 4 else 3, 0, [], [], []⟩ :: deepI (mergeI l)) d = true → beginsAt l d = false) :
    groupI [nds l, opn c k k, nds l, cls c k k, nds l] = mergeI l ++ ⟨if (k : Int) = 2 then 4 else 3, 0, [], [], []⟩ :: deepI (mergeI l) ++ mergeI l := by
  unfold groupI
  rw [nests_go c hc k hk l]
  have e1 : allI [nds l, opn c k 0, nodeI k l, cls c k 0, nds l] = l ++ ([wordsI 0 []] ++ ([⟨if (k : Int) = 2 then 4 else 3, 0, [], [], []⟩] ++ (deepI l ++ ([wordsI 0 []] ++ l)))) := by
    simp only [allI_cons]
    rw [leftI_row (x := opn c k 0) hc, leftI_row (x := cls c k 0) hc]
    simp [leftI, nds, allI, opn, cls, nodeI]
  have e2 : ∀ p, [wordsI 0 []].foldl mergeOne p = p := fun p => by simp [mergeOne, wordsI]
  have hkd : ¬ (if (k : Int) = 2 then (4 : Int) else 3) = 1 := by split <;> decide
  have e3 : ∀ p, [(⟨if (k : Int) = 2 then 4 else 3, 0, [], [], []⟩ : Iln)].foldl mergeOne p = p ++ [⟨if (k : Int) = 2 then 4 else 3, 0, [], [], []⟩] := fun p => by
    simp only [List.foldl_cons, List.foldl_nil]
    unfold mergeOne
    rw [if_neg hkd]
  rw [e1, mergeI_append, List.foldl_append, e2, List.foldl_append, e3, List.foldl_append, List.foldl_append, e2]
  rw [foldl_apart (deepI l) _ (fun d hd => by
    rw [endsAt_snoc] at hd
    simp only [Bool.and_eq_true, beq_iff_eq] at hd
    exact absurd hd.1 hkd), mergeI_deep hl]
  rw [foldl_apart l]
  · simp
  · intro d hd
    exact hn d (by simpa using hd)

/-! ### EmphThrees, EmphSigns -/
def wItm : Itm := nds [wordsI 0 [119]]
def both (c : UInt8) (m : Nat) : Itm := ⟨c, m, m, true, true, []⟩
theorem threes_plain : ∀ n ∈ List.range 10, ∀ m ∈ List.range 10, 1 ≤ n → 1 ≤ m → (groupI [opn 42 n n, wItm, both 42 m]).any (fun x => x.kd != 1) = !((n + m) % 3 == 0 && (n % 3 != 0 || m % 3 != 0)) := by decide +kernel
theorem signs_plain : ∀ n ∈ List.range 10, ∀ m ∈ List.range 10, 1 ≤ n → 1 ≤ m → groupI [both 42 n, wItm, both 95 m] = [wordsI 0 (List.replicate n 42 ++ [119] ++ List.replicate m 95)] := by decide +kernel

end Go.Proofs.Ytoomkhmmgjiniaa
