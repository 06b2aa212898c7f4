/-
  Package lattice, plain: who is not above whom, by pairs; the least one above two; what New answers.
-/
import Derived.Test.YtmmdjbbbjlkmoaaDoorBits
namespace Go.Proofs.YtmmdjbbbjlkmoaaDoor
set_option linter.unusedVariables false
set_option linter.unusedSimpArgs false

abbrev Rel := Nat → Nat → Bool
def warStep (k : Nat) (R : Rel) : Rel := fun a b => R a b || (R a k && R k b)
def warN (R : Rel) : Nat → Rel
  | 0 => R
  | k + 1 => warStep k (warN R k)
def baseR (ps : List (Int × Int)) : Rel := fun a b => decide (a = b) || ps.contains ((a : Int), (b : Int))
/-- a is b, or comes to b by pairs. -/
def leqS (n : Nat) (ps : List (Int × Int)) : Rel := warN (baseR ps) n
def flipR (R : Rel) : Rel := fun a b => R b a

theorem warN_trans (R : Rel) : ∀ k a b m, m < k → warN R k a m = true → warN R k m b = true → warN R k a b = true
  | 0, a, b, m, h, _, _ => absurd h (Nat.not_lt_zero _)
  | k + 1, a, b, m, h, h1, h2 => by
    have ih := warN_trans R k
    simp only [warN, warStep, Bool.or_eq_true, Bool.and_eq_true] at h1 h2 ⊢
    by_cases hm : m = k
    · subst hm
      refine Or.inr ⟨?_, ?_⟩
      · rcases h1 with h1 | h1
        · exact h1
        · exact h1.1
      · rcases h2 with h2 | h2
        · exact h2
        · exact h2.2
    · have hmk : m < k := by omega
      rcases h1 with h1 | h1 <;> rcases h2 with h2 | h2
      · exact Or.inl (ih a b m hmk h1 h2)
      · exact Or.inr ⟨ih a k m hmk h1 h2.1, h2.2⟩
      · exact Or.inr ⟨h1.1, ih k b m hmk h1.2 h2⟩
      · exact Or.inr ⟨h1.1, h2.2⟩
theorem warN_base (R : Rel) : ∀ k a b, R a b = true → warN R k a b = true
  | 0, a, b, h => h
  | k + 1, a, b, h => by
    simp only [warN, warStep, Bool.or_eq_true]
    exact Or.inl (warN_base R k a b h)
theorem warN_least (R T : Rel) (n : Nat) (hT : ∀ a b m, a < n → b < n → m < n → T a m = true → T m b = true → T a b = true) (hb : ∀ a b, a < n → b < n → R a b = true → T a b = true) :
    ∀ k, k ≤ n → ∀ a b, a < n → b < n → warN R k a b = true → T a b = true
  | 0, _, a, b, ha, hb', h => hb a b ha hb' h
  | k + 1, hk, a, b, ha, hb', h => by
    have ih := warN_least R T n hT hb k (by omega)
    simp only [warN, warStep, Bool.or_eq_true, Bool.and_eq_true] at h
    rcases h with h | h
    · exact ih a b ha hb' h
    · exact hT a b k ha hb' (by omega) (ih a k ha (by omega) h.1) (ih k b (by omega) hb' h.2)
theorem leqS_refl (n : Nat) (ps : List (Int × Int)) (a : Nat) : leqS n ps a a = true := warN_base _ _ _ _ (by simp [baseR])
theorem leqS_trans {n : Nat} {ps : List (Int × Int)} {a b m : Nat} (hm : m < n) (h1 : leqS n ps a m = true) (h2 : leqS n ps m b = true) : leqS n ps a b = true := warN_trans _ _ _ _ _ hm h1 h2

/-- The least one above both; -1. -/
def joinR (n : Nat) (R : Rel) (a b : Nat) : Int :=
  atI ((List.range n).find? fun x => R a x && R b x && (List.range n).all fun y => !(R a y && R b y) || R x y)
def meetR (n : Nat) (R : Rel) (a b : Nat) : Int := joinR n (flipR R) a b
def topR (n : Nat) (R : Rel) : Int :=
  atI ((List.range n).find? fun x => (List.range n).all fun y => R y x)
def botR (n : Nat) (R : Rel) : Int := topR n (flipR R)
def Sound (n : Nat) (R : Rel) : Prop := (∀ a, a < n → ∀ b, b < n → R a b = true → R b a = true → a = b) ∧ (∀ a, a < n → ∀ b, b < n → 0 ≤ joinR n R a b) ∧ (∀ a, a < n → ∀ b, b < n → 0 ≤ meetR n R a b)
instance (n : Nat) (R : Rel) : Decidable (Sound n R) := by unfold Sound; infer_instance

/-- Are two answers the same where it counts? -/
theorem find_congr {α : Type} {p q : α → Bool} : ∀ {l : List α}, (∀ x ∈ l, p x = q x) → l.find? p = l.find? q
  | [], _ => rfl
  | x :: l, h => by
    rw [List.find?_cons, List.find?_cons, h x (by simp), find_congr fun y hy => h y (by simp [hy])]
theorem all_congr {α : Type} {p q : α → Bool} : ∀ {l : List α}, (∀ x ∈ l, p x = q x) → l.all p = l.all q
  | [], _ => rfl
  | x :: l, h => by
    rw [List.all_cons, List.all_cons, h x (by simp), all_congr fun y hy => h y (by simp [hy])]
def SameR (n : Nat) (R T : Rel) : Prop := ∀ a b, a < n → b < n → R a b = T a b
theorem SameR.flip {n : Nat} {R T : Rel} (h : SameR n R T) : SameR n (flipR R) (flipR T) := fun a b ha hb => h b a hb ha
theorem SameR.join {n : Nat} {R T : Rel} (h : SameR n R T) {a b : Nat} (ha : a < n) (hb : b < n) : joinR n R a b = joinR n T a b := by
  unfold joinR
  refine congrArg atI (find_congr ?_)
  intro x hx
  have hx' := List.mem_range.1 hx
  rw [h a x ha hx', h b x hb hx', all_congr (q := fun y => !(T a y && T b y) || T x y)]
  intro y hy
  have hy' := List.mem_range.1 hy
  rw [h a y ha hy', h b y hb hy', h x y hx' hy']
theorem SameR.meet {n : Nat} {R T : Rel} (h : SameR n R T) {a b : Nat} (ha : a < n) (hb : b < n) : meetR n R a b = meetR n T a b := h.flip.join ha hb
theorem SameR.top {n : Nat} {R T : Rel} (h : SameR n R T) : topR n R = topR n T := by
  unfold topR
  refine congrArg atI (find_congr ?_)
  intro x hx
  rw [all_congr]
  intro y hy
  exact h y x (List.mem_range.1 hy) (List.mem_range.1 hx)
theorem SameR.bot {n : Nat} {R T : Rel} (h : SameR n R T) : botR n R = botR n T := h.flip.top
theorem SameR.sound {n : Nat} {R T : Rel} (h : SameR n R T) (hs : Sound n R) : Sound n T := by
  refine ⟨fun a ha b hb h1 h2 => hs.1 a ha b hb ?_ ?_, fun a ha b hb => ?_, fun a ha b hb => ?_⟩
  · rw [h a b ha hb]; exact h1
  · rw [h b a hb ha]; exact h2
  · rw [← h.join ha hb]; exact hs.2.1 a ha b hb
  · rw [← h.meet ha hb]; exact hs.2.2 a ha b hb
theorem SameR.symm {n : Nat} {R T : Rel} (h : SameR n R T) : SameR n T R := fun a b ha hb => (h a b ha hb).symm
theorem sameR_of {n : Nat} {ps : List (Int × Int)} {T : Rel} (hT : ∀ a b m, a < n → b < n → m < n → T a m = true → T m b = true → T a b = true) (hb : ∀ a b, a < n → b < n → baseR ps a b = true → T a b = true)
    (hc : ∀ a b, a < n → b < n → T a b = true → leqS n ps a b = true) : SameR n (leqS n ps) T := by
  intro a b ha hb'
  apply Bool.eq_iff_iff.2
  exact ⟨fun h => warN_least _ T n hT hb n (Nat.le_refl _) a b ha hb' h, hc a b ha hb'⟩

/-- What find? finds. -/
theorem find_range {n : Nat} {p : Nat → Bool} : (∃ x, (List.range n).find? p = some x ∧ x < n ∧ p x = true) ∨ ((List.range n).find? p = none ∧ ∀ x, x < n → p x = false) := by
  cases h : (List.range n).find? p with
  | none =>
    refine Or.inr ⟨rfl, fun x hx => ?_⟩
    have := List.find?_eq_none.1 h x (List.mem_range.2 hx)
    simpa using this
  | some x =>
    exact Or.inl ⟨x, rfl, List.mem_range.1 (List.mem_of_find?_eq_some h), List.find?_some h⟩

def IsJoin (n : Nat) (R : Rel) (a b x : Nat) : Prop := x < n ∧ R a x = true ∧ R b x = true ∧ ∀ y, y < n → R a y = true → R b y = true → R x y = true
theorem joinR_some {n : Nat} {R : Rel} {a b : Nat} (h : 0 ≤ joinR n R a b) : ∃ x : Nat, joinR n R a b = (x : Int) ∧ IsJoin n R a b x := by
  unfold joinR at h ⊢
  rcases find_range (n := n) (p := fun x => R a x && R b x && (List.range n).all fun y => !(R a y && R b y) || R x y) with ⟨x, hx, hn, hp⟩ | ⟨hx, _⟩
  · rw [hx]
    refine ⟨x, rfl, hn, ?_⟩
    simp only [Bool.and_eq_true, List.all_eq_true, List.mem_range, Bool.or_eq_true, Bool.not_eq_true'] at hp
    refine ⟨hp.1.1, hp.1.2, fun y hy h1 h2 => ?_⟩
    rcases hp.2 y hy with h3 | h3
    · rw [h1, h2] at h3; cases h3
    · exact h3
  · rw [hx] at h
    exact absurd h (by decide)
theorem joinR_range (n : Nat) (R : Rel) (a b : Nat) : -1 ≤ joinR n R a b ∧ joinR n R a b < n ∨ joinR n R a b = -1 := by
  unfold joinR
  rcases find_range (n := n) (p := fun x => R a x && R b x && (List.range n).all fun y => !(R a y && R b y) || R x y) with ⟨x, hx, hn, hp⟩ | ⟨hx, _⟩
  · rw [hx]; left; simp only [atI]; omega
  · rw [hx]; right; rfl
theorem joinR_none {n : Nat} {R : Rel} {a b : Nat} (h : ∀ x, ¬ IsJoin n R a b x) : joinR n R a b = -1 := by
  by_cases h0 : 0 ≤ joinR n R a b
  · obtain ⟨x, _, hx⟩ := joinR_some h0
    exact absurd hx (h x)
  · rcases joinR_range n R a b with h1 | h1
    · omega
    · exact h1
theorem joinR_nonneg {n : Nat} {R : Rel} {a b x : Nat} (hx : IsJoin n R a b x) : 0 ≤ joinR n R a b := by
  apply Int.not_lt.1
  intro hlt
  unfold joinR at hlt
  rcases find_range (n := n) (p := fun x => R a x && R b x && (List.range n).all fun y => !(R a y && R b y) || R x y) with ⟨z, hz, _, _⟩ | ⟨hz, hall⟩
  · rw [hz] at hlt; simp only [atI] at hlt; omega
  · have h1 := hall x hx.1
    simp only [hx.2.1, hx.2.2.1, Bool.true_and, List.all_eq_false, List.mem_range, Bool.not_eq_true, Bool.or_eq_false_iff, Bool.not_eq_false', Bool.and_eq_true] at h1
    obtain ⟨y, hy, h2, h3⟩ := h1
    rw [hx.2.2.2 y hy h2.1 h2.2] at h3
    cases h3
theorem joinR_is {n : Nat} {R : Rel} {a b x : Nat} (hx : IsJoin n R a b x) (ha : ∀ y, y < n → R x y = true → R y x = true → x = y) : joinR n R a b = x := by
  obtain ⟨y, e, hy⟩ := joinR_some (joinR_nonneg hx)
  rw [e, ha y hy.1 (hx.2.2.2 y hy.1 hy.2.1 hy.2.2.1) (hy.2.2.2 x hx.1 hx.2.1 hx.2.2.1)]
theorem joinR_comm (n : Nat) (R : Rel) (a b : Nat) : joinR n R a b = joinR n R b a := by
  unfold joinR
  refine congrArg atI (find_congr fun x _ => ?_)
  rw [Bool.and_comm (R a x), all_congr]
  intro y _
  rw [Bool.and_comm (R a y)]
theorem meetR_comm (n : Nat) (R : Rel) (a b : Nat) : meetR n R a b = meetR n R b a := joinR_comm _ _ _ _
theorem joinR_self {n : Nat} {R : Rel} (hr : ∀ a, a < n → R a a = true) {a : Nat} (ha : a < n) : 0 ≤ joinR n R a a := joinR_nonneg ⟨ha, hr a ha, hr a ha, fun _ _ h _ => h⟩
/-- Sound, as it is looked through: each against those below its number. -/
def SoundTo (n : Nat) (R : Rel) (k : Nat) : Prop := ∀ a, a < k → (∀ y, y < n → R a y = true → R y a = true → y = a) ∧ ∀ b, b < a → 0 ≤ joinR n R a b ∧ 0 ≤ meetR n R a b
theorem sound_of_to {n : Nat} {R : Rel} (hr : ∀ a, a < n → R a a = true) (h : SoundTo n R n) : Sound n R := by
  refine ⟨fun a ha b hb h1 h2 => ((h a ha).1 b hb h1 h2).symm, fun a ha b hb => ?_, fun a ha b hb => ?_⟩
  · rcases Nat.lt_trichotomy a b with h1 | h1 | h1
    · rw [joinR_comm]; exact ((h b hb).2 a h1).1
    · subst h1; exact joinR_self hr ha
    · exact ((h a ha).2 b h1).1
  · rcases Nat.lt_trichotomy a b with h1 | h1 | h1
    · rw [meetR_comm]; exact ((h b hb).2 a h1).2
    · subst h1; exact joinR_self (R := flipR R) hr ha
    · exact ((h a ha).2 b h1).2

/-! What New answers. -/
def okPair (n : Int) (p : Int × Int) : Bool := decide (0 ≤ p.1 ∧ p.1 < n ∧ 0 ≤ p.2 ∧ p.2 < n)
def errS (n : Int) (ps : List (Int × Int)) : Int :=
  if n < 1 ∨ 64 < n then 6 else if ps.all (okPair n) = false then 6 else if Sound n.toNat (leqS n.toNat ps) then 0 else 1
theorem errS_zero {n : Int} {ps : List (Int × Int)} (h : errS n ps = 0) : 1 ≤ n ∧ n ≤ 64 ∧ ps.all (okPair n) = true ∧ Sound n.toNat (leqS n.toNat ps) := by
  unfold errS at h
  split at h
  · cases h
  · rename_i h1
    split at h
    · cases h
    · rename_i h2
      split at h
      · rename_i h3
        exact ⟨by omega, by omega, by simpa using h2, h3⟩
      · cases h

end Go.Proofs.YtmmdjbbbjlkmoaaDoor
