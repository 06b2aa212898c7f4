/-
  A region that draws its order, in which a later call writes what earlier loads read: the loads are taken first; what must stay is asked only behind what may come ahead of them.
  A region that draws its order and only reads: taken in the order in which it stands; what lets each be taken first is asked once for all.
-/
import Derived.OrdersHeld
import Derived.Deep.RegionHeld3
import Derived.Tactics
import Derived.WalkKit
namespace Go.Proofs.YtpifhjdbcdcelaaDoor
set_option linter.unusedVariables false

section
variable {P : Program} {ops : Array Oper} {Q : Exit → Act → World → Prop} {md : Region.Mode} {S : World → Prop} {pre : Nat → Bool}

theorem listed_both {listed : Array Bool} {i : Nat} (h : listed.getD i true = false) : listed.getD i false = false := by
  rcases Nat.lt_or_ge i listed.size with h' | h'
  · simp [h'] at h ⊢; exact h
  · simp [Array.getElem?_eq_none h'] at h
/-- May the last ones come up in this order alone? -/
def seqN (md : Region.Mode) (ops : Array Oper) : Nat → Nat → Array Bool → Bool
  | 0, _, listed => (Region.ready md ops listed).isEmpty
  | g + 1, k, listed => decide (Region.ready md ops listed = [k]) && seqN md ops g (k + 1) (listed.setIfInBounds k true)

/-- Whatever order is picked from here on; behind what is 'pre' S holds. -/
def wpAnyN (P : Program) (md : Region.Mode) (ops : Array Oper) (Q : Exit → Act → World → Prop) (S : World → Prop) (pre : Nat → Bool) : Nat → Array Bool → Act → World → Prop
  | 0, listed, a, w => Region.ready md ops listed = [] ∧ Q .normal a w
  | fuel + 1, listed, a, w =>
    (Region.ready md ops listed = [] → Q .normal a w) ∧
    ∀ i ∈ Region.ready md ops listed, wpOp P ops Q i (fun a' w' => (pre i = true → S w') ∧ wpAnyN P md ops Q S pre fuel (listed.setIfInBounds i true) a' w') a w

theorem wpAny_of_N : ∀ (fuel : Nat) (listed : Array Bool) (a : Act) (w : World), wpAnyN P md ops Q S pre fuel listed a w → wpAny P md ops Q fuel listed a w
  | 0, _, _, _, h => h
  | fuel + 1, _, _, _, h => ⟨h.1, fun i hi => wpOp_mono (fun a' w' h' => wpAny_of_N fuel _ a' w' h'.2) (h.2 i hi)⟩

theorem wp_region_N {id : Nat} {a : Act} {w : World} (S : World → Prop) (pre : Nat → Bool) (hm : P.follows .mixedOrders = true)
    (h : wpAnyN P .any ops Q S pre ops.size (Array.replicate ops.size false) a w.drew) : (Code.region id ops true).wp P Q a w :=
  wp_region_any hm (wpAny_of_N _ _ _ _ h)

/-- What is in E waits for number i, by way of others in E. -/
def waitsB (md : Region.Mode) (ops : Array Oper) (listed : Array Bool) (i : Nat) (E : Nat → Bool) (pre : Nat → Bool) : Bool :=
  (List.range ops.size).all fun j => (E j || pre j) && (!E j || (!listed.getD j false && ((ops[j]?).map fun o => o.after.any fun e => Region.binds md e && (e.on == i || E e.on)).getD false))

theorem waitsB_spec {listed : Array Bool} {i : Nat} {E : Nat → Bool} (h : waitsB md ops listed i E pre = true) :
    (∀ j, j < ops.size → pre j = false → E j = true) ∧ (∀ j, j < ops.size → E j = true → listed.getD j false = false) ∧
      (∀ j oj, ops[j]? = some oj → E j = true → ∃ e ∈ oj.after, Region.binds md e = true ∧ (e.on = i ∨ E e.on = true)) := by
  have hall : ∀ j, j < ops.size → (E j = true ∨ pre j = true) ∧ (E j = false ∨ (listed.getD j false = false ∧ ((ops[j]?).map fun o => o.after.any fun e => Region.binds md e && (e.on == i || E e.on)).getD false = true)) := by
    intro j hj
    have := List.all_eq_true.1 h j (List.mem_range.2 hj)
    simp only [Bool.and_eq_true, Bool.or_eq_true, Bool.not_eq_true'] at this
    exact this
  refine ⟨fun j hj hp => ?_, fun j hj he => ?_, fun j oj hoj he => ?_⟩
  · rcases (hall j hj).1 with h1 | h1
    · exact h1
    · rw [hp] at h1; cases h1
  · rcases (hall j hj).2 with h1 | h1
    · rw [he] at h1; cases h1
    · exact h1.1
  · have hj : j < ops.size := (Array.getElem?_eq_some_iff.1 hoj).1
    rcases (hall j hj).2 with h1 | h1
    · rw [he] at h1; cases h1
    · have h2 := h1.2
      rw [hoj] at h2
      simp only [Option.map_some, Option.getD_some] at h2
      obtain ⟨e, hem, hb⟩ := Array.any_eq_true'.1 h2
      simp only [Bool.and_eq_true, Bool.or_eq_true, beq_iff_eq] at hb
      exact ⟨e, hem, hb.1, hb.2⟩

/-- A load that may come up now may be taken first. -/
theorem wpAnyN_first {i : Nat} {oi : Oper} {v : Value} {E : Nat → Bool} (hi : ops[i]? = some oi) (hsel : ∀ (j : Nat) (o : Oper) cs b, ops[j]? = some o → o.op ≠ .select cs b)
    (hQ : ∀ c a w, Q (.panic c) (a.put oi.dst v) w → Q (.panic c) a w)
    (hE1 : ∀ j, j < ops.size → pre j = false → E j = true) (hE3 : ∀ j oj, ops[j]? = some oj → E j = true → ∃ e ∈ oj.after, Region.binds md e = true ∧ (e.on = i ∨ E e.on = true)) :
    ∀ (fuel : Nat) (listed : Array Bool) (a : Act) (w : World),
      (∀ j oj, ops[j]? = some oj → j ≠ i → listed.getD j true = false → (∀ e ∈ oj.after, Region.binds md e = true → e.on ≠ i) → oi.apart ops oj = true) →
      i ∈ Region.ready md ops listed → YieldsIf P ops S oi v a → S w → (∀ j, j < ops.size → E j = true → listed.getD j false = false) → listed.size = ops.size →
      wpAnyN P md ops Q S pre fuel (listed.setIfInBounds i true) (a.put oi.dst v) w → wpAnyN P md ops Q S pre (fuel + 1) listed a w := by
  intro fuel
  induction fuel with
  | zero =>
    intro listed a w _ hr hy hS _ _ H
    refine ⟨fun h => (by rw [h] at hr; cases hr), fun j hj => ?_⟩
    by_cases hji : j = i
    · subst hji; exact hy.wpOp hi hS ⟨fun _ => hS, H⟩
    · have := ready_mono hj hji
      rw [H.1] at this
      cases this
  | succ fuel ih =>
    intro listed a w hfree hr hy hS hE2 hsz H
    refine ⟨fun h => (by rw [h] at hr; cases hr), fun j hj => ?_⟩
    by_cases hji : j = i
    · subst hji; exact hy.wpOp hi hS ⟨fun _ => hS, H⟩
    · have h1 := H.2 j (ready_mono hj hji)
      obtain ⟨hjun, oj, hoj, hall⟩ := mem_ready.1 hj
      have hjs : j < ops.size := (Array.getElem?_eq_some_iff.1 hoj).1
      have hiun : listed.getD i false = false := listed_both (mem_ready.1 hr).1
      have hnot : ∀ e ∈ oj.after, Region.binds md e = true → e.on ≠ i := fun e he hb heq => by
        have h1 := hall e he hb
        rw [heq, hiun] at h1
        cases h1
      have hEj : E j = false := by
        cases hx : E j with
        | false => rfl
        | true =>
          obtain ⟨e, he, hb, h2⟩ := hE3 j oj hoj hx
          have h3 := hall e he hb
          rcases h2 with h2 | h2
          · exact absurd h2 (hnot e he hb)
          · have hes : e.on < ops.size := by
              rcases Nat.lt_or_ge e.on listed.size with h' | h'
              · omega
              · simp [Array.getElem?_eq_none h'] at h3
            rw [hE2 e.on hes h2] at h3
            cases h3
      have hpj : pre j = true := by
        cases hx : pre j with
        | true => rfl
        | false => rw [hE1 j hjs hx] at hEj; cases hEj
      have h2 := wpOp_putIf hoj (hfree j oj hoj hji hjun hnot) (fun cs b => hsel i oi cs b hi) (fun cs b => hsel j oj cs b hoj) hQ hy h1
      have hfree' : ∀ k ok, ops[k]? = some ok → k ≠ i → (listed.setIfInBounds j true).getD k true = false →
          (∀ e ∈ ok.after, Region.binds md e = true → e.on ≠ i) → oi.apart ops ok = true := fun k ok hk hki hun hno => by
        refine hfree k ok hk hki ?_ hno
        by_cases hjk : j = k
        · subst hjk; exact hjun
        · rw [getD_set_ne true hjk] at hun; exact hun
      have hE2' : ∀ k, k < ops.size → E k = true → (listed.setIfInBounds j true).getD k false = false := fun k hk he => by
        have hjk : j ≠ k := fun e => by subst e; rw [he] at hEj; cases hEj
        rw [getD_set_ne false hjk]
        exact hE2 k hk he
      refine wpOp_mono (fun a' w' h3 => ⟨h3.2.1, ih (listed.setIfInBounds j true) a' w' hfree' (ready_mono hr (Ne.symm hji)) h3.1 (h3.2.1 hpj) hE2' (by simp [hsz]) ?_⟩) h2
      rw [Array.setIfInBounds_comm _ _ hji]
      exact h3.2.2

/-- What waits for number i, by way of others. -/
def descA (md : Region.Mode) (ops : Array Oper) (i : Nat) : Array Bool :=
  (List.range ops.size).foldl (fun arr j => arr.push (((ops[j]?).map fun o => o.after.any fun e => Region.binds md e && (e.on == i || arr.getD e.on false)).getD false)) #[]

/-- The same, its conditions as Bools. -/
theorem wpAnyN_take {i : Nat} {oi : Oper} {v : Value} {fuel : Nat} {listed : Array Bool} {a : Act} {w : World} (hi : ops[i]? = some oi)
    (hs : Region.noSelect ops = true) (hf : Region.free md ops listed i = true) (hr : (Region.ready md ops listed).contains i = true) (hw : waitsB md ops listed i (fun j => (descA md ops i).getD j false) pre = true) (hz : (listed.size == ops.size) = true)
    (hQ : ∀ c a w, Q (.panic c) (a.put oi.dst v) w → Q (.panic c) a w) (hy : YieldsIf P ops S oi v a) (hS : S w)
    (h : wpAnyN P md ops Q S pre fuel (listed.setIfInBounds i true) (a.put oi.dst v) w) : wpAnyN P md ops Q S pre (fuel + 1) listed a w := by
  obtain ⟨e1, e2, e3⟩ := waitsB_spec hw
  exact wpAnyN_first hi (Region.noSelect_spec hs) hQ e1 e3 fuel listed a w (Region.free_spec hi hf) (by simpa using hr) hy hS e2 (by simpa using hz) h

/-- The same, its slot told. -/
theorem wpAnyN_take_at (i : Nat) (d : Tmp) {oi : Oper} {v : Value} {fuel : Nat} {listed : Array Bool} {a : Act} {w : World} (hi : ops[i]? = some oi) (hd : oi.dst = some d)
    (hs : Region.noSelect ops = true) (hf : Region.free md ops listed i = true) (hr : (Region.ready md ops listed).contains i = true) (hw : waitsB md ops listed i (fun j => (descA md ops i).getD j false) pre = true) (hz : (listed.size == ops.size) = true)
    (hQ : ∀ c a w, Q (.panic c) (a.put (some d) v) w → Q (.panic c) a w) (hg : Region.wanted oi (yielded ops a.tmps) = true) (hv : ∀ w, S w → (execOp a.eval oi).run P w = .ok (.value v) w) (hS : S w)
    (h : wpAnyN P md ops Q S pre fuel (listed.setIfInBounds i true) (a.put (some d) v) w) : wpAnyN P md ops Q S pre (fuel + 1) listed a w := by
  refine wpAnyN_take (v := v) hi hs hf hr hw hz ?_ (Or.inl ⟨hg, hv⟩) hS ?_
  · rw [hd]; exact hQ
  · rw [hd]; exact h

/-- One whose guard says no may be taken first: it leaves nothing. -/
theorem wpAnyN_take_no (i : Nat) (d : Tmp) {oi : Oper} {fuel : Nat} {listed : Array Bool} {a : Act} {w : World} (hi : ops[i]? = some oi) (hd : oi.dst = some d)
    (hs : Region.noSelect ops = true) (hf : Region.free md ops listed i = true) (hr : (Region.ready md ops listed).contains i = true) (hw : waitsB md ops listed i (fun j => (descA md ops i).getD j false) pre = true) (hz : (listed.size == ops.size) = true)
    (hQ : ∀ c a w, Q (.panic c) (a.put (some d) undef) w → Q (.panic c) a w) (hg : Region.wanted oi (yielded ops a.tmps) = false) (hS : S w)
    (h : wpAnyN P md ops Q S pre fuel (listed.setIfInBounds i true) (a.put (some d) undef) w) : wpAnyN P md ops Q S pre (fuel + 1) listed a w := by
  refine wpAnyN_take (v := undef) hi hs hf hr hw hz ?_ (Or.inr ⟨hg, rfl⟩) hS ?_
  · rw [hd]; exact hQ
  · rw [hd]; exact h

/-- One alone may come up. -/
theorem wpAnyN_one {i : Nat} {o : Oper} {fuel : Nat} {listed : Array Bool} {a : Act} {w : World} (hi : ops[i]? = some o) (hr : Region.ready md ops listed = [i])
    (h : ∀ K : Act → World → Prop, (∀ a' w', (pre i = true → S w') → wpAnyN P md ops Q S pre fuel (listed.setIfInBounds i true) a' w' → K a' w') →
      if Region.wanted o (yielded ops a.tmps) = true then Oper.wp P o a w K Q else K (a.put o.dst undef) w) : wpAnyN P md ops Q S pre (fuel + 1) listed a w := by
  refine ⟨fun h0 => (by rw [hr] at h0; cases h0), fun j hj => ?_⟩
  rw [hr] at hj
  obtain rfl : j = i := by simpa using hj
  have hk := h (fun a' w' => (pre j = true → S w') ∧ wpAnyN P md ops Q S pre fuel (listed.setIfInBounds j true) a' w') (fun a' w' h1 h2 => ⟨h1, h2⟩)
  unfold wpOp
  simp only [hi]
  split
  · rename_i hw
    rw [if_pos hw] at hk
    exact .inl hk
  · rename_i hw
    rw [if_neg hw] at hk
    exact hk

/-- Two may come up. -/
theorem wpAnyN_two {i j : Nat} {o o' : Oper} {fuel : Nat} {listed : Array Bool} {a : Act} {w : World} (hi : ops[i]? = some o) (hj : ops[j]? = some o') (hr : Region.ready md ops listed = [i, j])
    (h : ∀ K : Act → World → Prop, (∀ a' w', (pre i = true → S w') → wpAnyN P md ops Q S pre fuel (listed.setIfInBounds i true) a' w' → K a' w') →
      if Region.wanted o (yielded ops a.tmps) = true then Oper.wp P o a w K Q else K (a.put o.dst undef) w)
    (h' : ∀ K : Act → World → Prop, (∀ a' w', (pre j = true → S w') → wpAnyN P md ops Q S pre fuel (listed.setIfInBounds j true) a' w' → K a' w') →
      if Region.wanted o' (yielded ops a.tmps) = true then Oper.wp P o' a w K Q else K (a.put o'.dst undef) w) : wpAnyN P md ops Q S pre (fuel + 1) listed a w := by
  refine ⟨fun h0 => (by rw [hr] at h0; cases h0), fun m hm => ?_⟩
  rw [hr] at hm
  have hm' : m = i ∨ m = j := by simpa using hm
  rcases hm' with rfl | rfl
  · have hk := h (fun a' w' => (pre m = true → S w') ∧ wpAnyN P md ops Q S pre fuel (listed.setIfInBounds m true) a' w') (fun a' w' h1 h2 => ⟨h1, h2⟩)
    unfold wpOp
    simp only [hi]
    split
    · rename_i hw
      rw [if_pos hw] at hk
      exact .inl hk
    · rename_i hw
      rw [if_neg hw] at hk
      exact hk
  · have hk := h' (fun a' w' => (pre m = true → S w') ∧ wpAnyN P md ops Q S pre fuel (listed.setIfInBounds m true) a' w') (fun a' w' h1 h2 => ⟨h1, h2⟩)
    unfold wpOp
    simp only [hj]
    split
    · rename_i hw
      rw [if_pos hw] at hk
      exact .inl hk
    · rename_i hw
      rw [if_neg hw] at hk
      exact hk

/-- The rest comes up one behind the other. -/
theorem wpAnyN_seq : ∀ (l : List Oper) (k : Nat) (listed : Array Bool) (a : Act) (w : World), (∀ j, l[j]? = ops[k + j]?) → seqN md ops l.length k listed = true →
    (∀ j, k ≤ j → j < k + l.length → pre j = false) → wpList P ops Q l a w → wpAnyN P md ops Q S pre l.length listed a w
  | [], _, _, _, _, _, hB, _, h => ⟨by simpa [seqN] using hB, h⟩
  | o :: l, k, listed, a, w, hl, hB, hp, h => by
    have h0 : ops[k]? = some o := by simpa using (hl 0).symm
    simp only [List.length_cons, seqN, Bool.and_eq_true, decide_eq_true_eq] at hB
    refine ⟨fun h1 => (by rw [hB.1] at h1; cases h1), fun i hi => ?_⟩
    rw [hB.1] at hi
    have hik : i = k := by simpa using hi
    subst hik
    have hw : wpOp P ops Q i (wpList P ops Q l) a w := by unfold wpOp; simp only [h0]; exact h
    exact wpOp_mono (fun a' w' h' => ⟨fun hx => (by rw [hp i (Nat.le_refl _) (by simp)] at hx; cases hx),
      wpAnyN_seq l (i + 1) _ a' w' (fun j => by have := hl (j + 1); simpa [Nat.add_assoc, Nat.add_comm 1 j] using this) hB.2 (fun j h1 h2 => hp j (by omega) (by simp; omega)) h'⟩) hw
theorem wpAnyN_seqT (hS : ∀ w, S w) : ∀ (l : List Oper) (k : Nat) (listed : Array Bool) (a : Act) (w : World), (∀ j, l[j]? = ops[k + j]?) → seqN md ops l.length k listed = true →
    wpList P ops Q l a w → wpAnyN P md ops Q S pre l.length listed a w
  | [], _, _, _, _, _, hB, h => ⟨by simpa [seqN] using hB, h⟩
  | o :: l, k, listed, a, w, hl, hB, h => by
    have h0 : ops[k]? = some o := by simpa using (hl 0).symm
    simp only [List.length_cons, seqN, Bool.and_eq_true, decide_eq_true_eq] at hB
    refine ⟨fun h1 => (by rw [hB.1] at h1; cases h1), fun i hi => ?_⟩
    rw [hB.1] at hi
    have hik : i = k := by simpa using hi
    subst hik
    have hw : wpOp P ops Q i (wpList P ops Q l) a w := by unfold wpOp; simp only [h0]; exact h
    exact wpOp_mono (fun a' w' h' => ⟨fun _ => hS w',
      wpAnyN_seqT hS l (i + 1) _ a' w' (fun j => by have := hl (j + 1); simpa [Nat.add_assoc, Nat.add_comm 1 j] using this) hB.2 h'⟩) hw
/-- The rest, where S asks nothing. -/
theorem wpAnyN_restT (k : Nat) (l : List Oper) {listed : Array Bool} {a : Act} {w : World} (hS : ∀ w, S w) (hl : ops.toList.drop k = l) (hB : seqN md ops l.length k listed = true)
    (h : wpList P ops Q l a w) : wpAnyN P md ops Q S pre l.length listed a w := by
  refine wpAnyN_seqT hS l k listed a w (fun j => ?_) hB h
  rw [← hl, List.getElem?_drop, Array.getElem?_toList]
theorem wpAnyN_rest (k : Nat) (l : List Oper) {listed : Array Bool} {a : Act} {w : World} (hl : ops.toList.drop k = l) (hB : seqN md ops l.length k listed = true)
    (hp : ((List.range l.length).all fun j => !pre (k + j)) = true) (h : wpList P ops Q l a w) : wpAnyN P md ops Q S pre l.length listed a w := by
  refine wpAnyN_seq l k listed a w (fun j => ?_) hB (fun j h1 h2 => ?_) h
  · rw [← hl, List.getElem?_drop, Array.getElem?_toList]
  · have := List.all_eq_true.1 hp (j - k) (List.mem_range.2 (by omega))
    rw [show k + (j - k) = j from by omega] at this
    simpa using this
end

end Go.Proofs.YtpifhjdbcdcelaaDoor

namespace Go.Proofs.YtpifhjdbcdcelaaDoor
set_option linter.unusedVariables false

section
variable {P : Program} {ops : Array Oper} {Q : Exit → Act → World → Prop} {md : Region.Mode} {S : World → Prop}

/-- The first i of n stand. -/
def upTo (n i : Nat) : Array Bool := ((List.range n).map fun j => decide (j < i)).toArray

theorem upTo_zero (n : Nat) : upTo n 0 = Array.replicate n false := by
  apply Array.ext
  · simp [upTo]
  · intro j h1 h2
    simp [upTo]

theorem upTo_set (n i : Nat) : (upTo n i).setIfInBounds i true = upTo n (i + 1) := by
  apply Array.ext
  · simp [upTo]
  · intro j h1 h2
    simp only [upTo, List.setIfInBounds_toArray, List.getElem_toArray, List.getElem_set, List.getElem_map, List.getElem_range]
    split
    · simp; omega
    · have : (j < i) = (j < i + 1) := by apply propext; omega
      rw [decide_eq_decide]; omega

/-- Each may be taken when those ahead of it stand. -/
def takesB (md : Region.Mode) (ops : Array Oper) (n : Nat) : Bool :=
  Region.noSelect ops && (ops.size == n) && (List.range n).all fun i => Region.free md ops (upTo n i) i && (Region.ready md ops (upTo n i)).contains i

theorem wp_region_T {id n : Nat} {a : Act} {w : World} (S : World → Prop) (hm : P.follows .mixedOrders = true) (hT : takesB .any ops n = true)
    (h : takesB .any ops n = true → wpAnyN P .any ops Q S (fun _ => true) n (upTo n 0) a w.drew) : (Code.region id ops true).wp P Q a w := by
  have hn : ops.size = n := by
    unfold takesB at hT
    simp only [Bool.and_eq_true, beq_iff_eq] at hT
    exact hT.1.2
  refine wp_region_N S (fun _ => true) hm ?_
  rw [hn, ← upTo_zero]
  exact h hT

theorem wpAnyN_takeT {n i : Nat} {oi : Oper} {v : Value} {fuel : Nat} {a : Act} {w : World} (hT : takesB md ops n = true) (hlt : i < n) (hi : ops[i]? = some oi)
    (hQ : ∀ c a w, Q (.panic c) (a.put oi.dst v) w → Q (.panic c) a w) (hy : YieldsIf P ops S oi v a) (hS : S w)
    (h : wpAnyN P md ops Q S (fun _ => true) fuel (upTo n (i + 1)) (a.put oi.dst v) w) : wpAnyN P md ops Q S (fun _ => true) (fuel + 1) (upTo n i) a w := by
  unfold takesB at hT
  simp only [Bool.and_eq_true, beq_iff_eq] at hT
  obtain ⟨⟨hs, hn⟩, hall⟩ := hT
  have h1 := List.all_eq_true.1 hall i (List.mem_range.2 hlt)
  simp only [Bool.and_eq_true] at h1
  refine wpAnyN_first (E := fun _ => false) hi (Region.noSelect_spec hs) hQ (fun j _ hp => by cases hp) (fun j oj _ hp => by cases hp) fuel (upTo n i) a w (Region.free_spec hi h1.1) (by simpa using h1.2) hy hS (fun j _ hp => by cases hp) (by simp [upTo, hn]) ?_
  rw [upTo_set]
  exact h

/-- Its slot told, and the number behind it. -/
theorem wpAnyN_take_in (n i k : Nat) (d : Tmp) {oi : Oper} {v : Value} {fuel : Nat} {a : Act} {w : World} (hT : takesB md ops n = true) (hk : k = i + 1) (hlt : i < n) (hi : ops[i]? = some oi) (hd : oi.dst = some d)
    (hQ : ∀ c a w, Q (.panic c) (a.put (some d) v) w → Q (.panic c) a w) (hg : Region.wanted oi (yielded ops a.tmps) = true) (hv : ∀ w, S w → (execOp a.eval oi).run P w = .ok (.value v) w) (hS : S w)
    (h : wpAnyN P md ops Q S (fun _ => true) fuel (upTo n k) (a.put (some d) v) w) : wpAnyN P md ops Q S (fun _ => true) (fuel + 1) (upTo n i) a w := by
  subst hk
  refine wpAnyN_takeT (v := v) hT hlt hi ?_ (Or.inl ⟨hg, hv⟩) hS ?_
  · rw [hd]; exact hQ
  · rw [hd]; exact h

theorem wpAnyN_take_inno (n i k : Nat) (d : Tmp) {oi : Oper} {fuel : Nat} {a : Act} {w : World} (hT : takesB md ops n = true) (hk : k = i + 1) (hlt : i < n) (hi : ops[i]? = some oi) (hd : oi.dst = some d)
    (hQ : ∀ c a w, Q (.panic c) (a.put (some d) undef) w → Q (.panic c) a w) (hg : Region.wanted oi (yielded ops a.tmps) = false) (hS : S w)
    (h : wpAnyN P md ops Q S (fun _ => true) fuel (upTo n k) (a.put (some d) undef) w) : wpAnyN P md ops Q S (fun _ => true) (fuel + 1) (upTo n i) a w := by
  subst hk
  refine wpAnyN_takeT (v := undef) hT hlt hi ?_ (Or.inr ⟨hg, rfl⟩) hS ?_
  · rw [hd]; exact hQ
  · rw [hd]; exact h
end
end Go.Proofs.YtpifhjdbcdcelaaDoor
