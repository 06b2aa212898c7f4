/-
  A region that draws its order and only reads: taken in the order in which it stands; what lets each be taken first is asked once for all.
-/
import Derived.Test.YtodnioihadpncaaDoorReg
namespace Go.Proofs.YtodnioihadpncaaDoor
set_option linter.unusedVariables false

section
variable {P : Program} {ops : Array Oper} {Q : Exit → Act → World → Prop} {md : Region.Mode} {S : World → Prop}

/-- The first i of n stand. -/
def upTo (n i : Nat) : Array Bool := ((List.range n).map fun j => decide (j < i)).toArray

theorem upTo_zero (n : Nat) : upTo n 0 = Array.replicate n false := by
  apply Array.ext
  · simp [upTo]
  · intro j h1 h2
    simp [upTo]

theorem upTo_set (n i : Nat) : (upTo n i).setIfInBounds i true = upTo n (i + 1) := by
  apply Array.ext
  · simp [upTo]
  · intro j h1 h2
    simp only [upTo, List.setIfInBounds_toArray, List.getElem_toArray, List.getElem_set, List.getElem_map, List.getElem_range]
    split
    · simp; omega
    · have : (j < i) = (j < i + 1) := by apply propext; omega
      rw [decide_eq_decide]; omega

/-- Each may be taken when those ahead of it stand. -/
def takesB (md : Region.Mode) (ops : Array Oper) (n : Nat) : Bool :=
  Region.noSelect ops && (ops.size == n) && (List.range n).all fun i => Region.free md ops (upTo n i) i && (Region.ready md ops (upTo n i)).contains i

theorem wp_region_T {id n : Nat} {a : Act} {w : World} (S : World → Prop) (hm : P.follows .mixedOrders = true) (hT : takesB .any ops n = true)
    (h : takesB .any ops n = true → wpAnyN P .any ops Q S (fun _ => true) n (upTo n 0) a w.drew) : (Code.region id ops true).wp P Q a w := by
  have hn : ops.size = n := by
    unfold takesB at hT
    simp only [Bool.and_eq_true, beq_iff_eq] at hT
    exact hT.1.2
  refine wp_region_N S (fun _ => true) hm ?_
  rw [hn, ← upTo_zero]
  exact h hT

theorem wpAnyN_takeT {n i : Nat} {oi : Oper} {v : Value} {fuel : Nat} {a : Act} {w : World} (hT : takesB md ops n = true) (hlt : i < n) (hi : ops[i]? = some oi)
    (hQ : ∀ c a w, Q (.panic c) (a.put oi.dst v) w → Q (.panic c) a w) (hy : YieldsIf P ops S oi v a) (hS : S w)
    (h : wpAnyN P md ops Q S (fun _ => true) fuel (upTo n (i + 1)) (a.put oi.dst v) w) : wpAnyN P md ops Q S (fun _ => true) (fuel + 1) (upTo n i) a w := by
  unfold takesB at hT
  simp only [Bool.and_eq_true, beq_iff_eq] at hT
  obtain ⟨⟨hs, hn⟩, hall⟩ := hT
  have h1 := List.all_eq_true.1 hall i (List.mem_range.2 hlt)
  simp only [Bool.and_eq_true] at h1
  refine wpAnyN_first (E := fun _ => false) hi (Region.noSelect_spec hs) hQ (fun j _ hp => by cases hp) (fun j oj _ hp => by cases hp) fuel (upTo n i) a w (Region.free_spec hi h1.1) (by simpa using h1.2) hy hS (fun j _ hp => by cases hp) (by simp [upTo, hn]) ?_
  rw [upTo_set]
  exact h

/-- Its slot told, and the number behind it. -/
theorem wpAnyN_take_in (n i k : Nat) (d : Tmp) {oi : Oper} {v : Value} {fuel : Nat} {a : Act} {w : World} (hT : takesB md ops n = true) (hk : k = i + 1) (hlt : i < n) (hi : ops[i]? = some oi) (hd : oi.dst = some d)
    (hQ : ∀ c a w, Q (.panic c) (a.put (some d) v) w → Q (.panic c) a w) (hg : Region.wanted oi (yielded ops a.tmps) = true) (hv : ∀ w, S w → (execOp a.eval oi).run P w = .ok (.value v) w) (hS : S w)
    (h : wpAnyN P md ops Q S (fun _ => true) fuel (upTo n k) (a.put (some d) v) w) : wpAnyN P md ops Q S (fun _ => true) (fuel + 1) (upTo n i) a w := by
  subst hk
  refine wpAnyN_takeT (v := v) hT hlt hi ?_ (Or.inl ⟨hg, hv⟩) hS ?_
  · rw [hd]; exact hQ
  · rw [hd]; exact h

theorem wpAnyN_take_inno (n i k : Nat) (d : Tmp) {oi : Oper} {fuel : Nat} {a : Act} {w : World} (hT : takesB md ops n = true) (hk : k = i + 1) (hlt : i < n) (hi : ops[i]? = some oi) (hd : oi.dst = some d)
    (hQ : ∀ c a w, Q (.panic c) (a.put (some d) undef) w → Q (.panic c) a w) (hg : Region.wanted oi (yielded ops a.tmps) = false) (hS : S w)
    (h : wpAnyN P md ops Q S (fun _ => true) fuel (upTo n k) (a.put (some d) undef) w) : wpAnyN P md ops Q S (fun _ => true) (fuel + 1) (upTo n i) a w := by
  subst hk
  refine wpAnyN_takeT (v := undef) hT hlt hi ?_ (Or.inr ⟨hg, rfl⟩) hS ?_
  · rw [hd]; exact hQ
  · rw [hd]; exact h
end
end Go.Proofs.YtodnioihadpncaaDoor
