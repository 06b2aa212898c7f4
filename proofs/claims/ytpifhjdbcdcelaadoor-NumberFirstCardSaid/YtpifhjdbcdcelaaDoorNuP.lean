/-
  Package number: plain facts: digits, counts, numbers; what the laws say of them.
-/
import Derived.Test.YtpifhjdbcdcelaaDoorBase
import Derived.Lib.ItoaNum
namespace Go.Proofs.YtpifhjdbcdcelaaDoor
set_option linter.unusedSimpArgs false
set_option maxRecDepth 100000
/-- A count's digits; a count of 0 has none. -/
def dg (n : Nat) : List UInt8 := if n = 0 then [] else if n < 10 then [UInt8.ofNat (48 + n)] else [UInt8.ofNat (48 + n / 10), UInt8.ofNat (48 + n % 10)]
theorem dg_nil (n : Nat) : dg n = [] ↔ n = 0 := by
  unfold dg
  split
  · simp [*]
  · split <;> simp [*]
theorem dg_len (n : Nat) : (dg n).length ≤ 2 := by
  unfold dg
  split
  · simp
  · split <;> simp
theorem dg_digit (n : Nat) (h : n < 100) : ∀ d ∈ dg n, 48 ≤ d.toNat ∧ d.toNat ≤ 57 := by
  have := (by decide +kernel : ∀ n < 100, ∀ d ∈ dg n, 48 ≤ d.toNat ∧ d.toNat ≤ 57)
  exact this n h
/-- How many nines stand at the end. -/
def ninesStep (a : Nat) (d : UInt8) : Nat := if d = 57 then a + 1 else 0
def nines (l : List UInt8) : Nat := l.foldl ninesStep 0
theorem nines_snoc (l : List UInt8) (d : UInt8) : nines (l ++ [d]) = if d = 57 then nines l + 1 else 0 := by simp [nines, ninesStep]
theorem snocRec {α : Type} {P : List α → Prop} (h0 : P []) (h1 : ∀ l d, P l → P (l ++ [d])) (l : List α) : P l := by
  have : ∀ r : List α, P r.reverse := by
    intro r
    induction r with
    | nil => exact h0
    | cons d r ih => rw [List.reverse_cons]; exact h1 _ _ ih
  have := this l.reverse
  rwa [List.reverse_reverse] at this
theorem nines_le (l : List UInt8) : nines l ≤ l.length := by
  refine snocRec (P := fun l => nines l ≤ l.length) (by simp [nines]) (fun l d ih => ?_) l
  simp only [nines_snoc, List.length_append, List.length_singleton]
  split <;> omega
theorem nines_at (l : List UInt8) : nines l < l.length → l.getD (l.length - 1 - nines l) 0 ≠ 57 := by
  refine snocRec (P := fun l => nines l < l.length → l.getD (l.length - 1 - nines l) 0 ≠ 57) (fun h => by simp [nines] at h) (fun l d ih => ?_) l
  intro h
  rw [nines_snoc] at h ⊢
  simp only [List.length_append, List.length_singleton] at h ⊢
  by_cases h9 : d = 57
  · rw [if_pos h9] at h ⊢
    have := ih (by omega)
    rw [show l.length + 1 - 1 - (nines l + 1) = l.length - 1 - nines l from by omega, List.getD_eq_getElem?_getD, List.getElem?_append_left (by omega), ← List.getD_eq_getElem?_getD]
    exact this
  · rw [if_neg h9]
    simpa using h9
/-- The digits of the next count. -/
def oneMoreL (l : List UInt8) : List UInt8 :=
  if nines l = l.length then 49 :: List.replicate (nines l) 48
  else l.take (l.length - 1 - nines l) ++ [l.getD (l.length - 1 - nines l) 0 + 1] ++ List.replicate (nines l) 48
theorem oneMore_dg (n : Nat) (h : n < 99) : oneMoreL (dg n) = dg (n + 1) := by
  have := (by decide +kernel : ∀ n < 99, oneMoreL (dg n) = dg (n + 1))
  exact this n h

/-! ### numbers -/
/-- One count behind others. -/
def numStep (acc d : List UInt8) : List UInt8 := if d = [] then acc else if acc = [] then d else acc ++ 46 :: d
def numL (ds : List (List UInt8)) : List UInt8 := ds.foldl numStep []
theorem numL_snoc (ds : List (List UInt8)) (d : List UInt8) : numL (ds ++ [d]) = numStep (numL ds) d := by simp [numL]
theorem numStep_len (a d : List UInt8) : (numStep a d).length ≤ a.length + d.length + 1 := by
  unfold numStep
  split
  · simp [*] <;> omega
  · split <;> simp [*] <;> omega
/-- The counts behind one more of level k (1 to 6). -/
def cntStep (n : List Nat) (k : Nat) : List Nat := n.take (k - 1) ++ (n.getD (k - 1) 0 + 1) :: List.replicate (6 - k) 0
theorem cntStep_len (n : List Nat) (k : Nat) (hn : n.length = 6) (h1 : 1 ≤ k) (h2 : k ≤ 6) : (cntStep n k).length = 6 := by
  unfold cntStep
  simp [List.length_take]
  omega
theorem cntStep_mem (n : List Nat) (k m : Nat) (h : ∀ x ∈ n, x ≤ m) : ∀ x ∈ cntStep n k, x ≤ m + 1 := by
  intro x hx
  unfold cntStep at hx
  rcases List.mem_append.1 hx with hx | hx
  · have := h x (List.mem_of_mem_take hx); omega
  · rcases List.mem_cons.1 hx with rfl | hx
    · rw [List.getD_eq_getElem?_getD]
      cases hg : n[k - 1]? with
      | none => simp
      | some y => have := h y (List.mem_of_getElem? hg); simp; omega
    · have := (List.mem_replicate.1 hx).2; omega
def okLevel (k : Int) : Bool := decide (1 ≤ k) && decide (k ≤ 6)
/-- The counts behind levels. -/
def cntOne (n : List Nat) (k : Int) : List Nat := if okLevel k then cntStep n k.toNat else n
def cntAll (n : List Nat) (l : List Int) : List Nat := l.foldl cntOne n
/-- One number. -/
def numOne (n : List Nat) (k : Int) : List UInt8 := if okLevel k then numL ((cntStep n k.toNat).map dg) else []
def allGo (n : List Nat) : List Int → List (List UInt8)
  | [] => []
  | k :: r => numOne n k :: allGo (cntOne n k) r
def zero6 : List Nat := [0, 0, 0, 0, 0, 0]
def allN (l : List Int) : List (List UInt8) := allGo zero6 l
theorem allGo_len (l : List Int) : ∀ n, (allGo n l).length = l.length := by
  induction l with
  | nil => intro n; rfl
  | cons k r ih => intro n; simp [allGo, ih]
theorem allN_len (l : List Int) : (allN l).length = l.length := allGo_len l _
theorem allGo_append (a b : List Int) : ∀ n, allGo n (a ++ b) = allGo n a ++ allGo (cntAll n a) b := by
  induction a with
  | nil => intro n; rfl
  | cons k r ih => intro n; simp [allGo, ih, cntAll]
theorem cntAll_snoc (n : List Nat) (l : List Int) (k : Int) : cntAll n (l ++ [k]) = cntOne (cntAll n l) k := by simp [cntAll]
theorem allN_snoc (l : List Int) (k : Int) : allN (l ++ [k]) = allN l ++ [numOne (cntAll zero6 l) k] := by
  unfold allN
  rw [allGo_append]
  rfl
theorem cntOne_len (n : List Nat) (k : Int) (hn : n.length = 6) : (cntOne n k).length = 6 := by
  unfold cntOne
  split
  · rename_i h; simp [okLevel] at h; exact cntStep_len n _ hn (by omega) (by omega)
  · exact hn
theorem cntAll_len (l : List Int) (n : List Nat) (hn : n.length = 6) : (cntAll n l).length = 6 := by
  refine snocRec (P := fun l => (cntAll n l).length = 6) hn (fun l d ih => ?_) l
  show (cntAll n (l ++ [d])).length = 6
  rw [cntAll_snoc]
  exact cntOne_len _ _ ih
theorem cntAll_mem (l : List Int) : ∀ x ∈ cntAll zero6 l, x ≤ l.length := by
  refine snocRec (P := fun l => ∀ x ∈ cntAll zero6 l, x ≤ l.length) (by decide) (fun l d ih => ?_) l
  show ∀ x ∈ cntAll zero6 (l ++ [d]), x ≤ (l ++ [d]).length
  rw [cntAll_snoc]
  intro x hx
  unfold cntOne at hx
  split at hx
  · have := cntStep_mem _ _ _ ih x hx; simp; omega
  · have := ih x hx; simp; omega
/-- NumberFirst: what stands ahead; a level that there is not. -/
theorem allN_take (l : List Int) (k : Nat) : (allN l).take k = allN (l.take k) := by
  have e : allN l = allN (l.take k ++ l.drop k) := by rw [List.take_append_drop]
  rw [e]
  unfold allN
  rw [allGo_append, List.take_append, allGo_len, List.length_take]
  by_cases h : k ≤ l.length
  · rw [Nat.min_eq_left h, Nat.sub_self, List.take_zero, List.append_nil, List.take_of_length_le (by rw [allGo_len, List.length_take]; omega)]
  · rw [List.take_of_length_le (by rw [allGo_len, List.length_take]; omega), List.drop_of_length_le (by omega)]
    simp [allGo]
theorem allN_bad (a b : List Int) (k : Int) (h : okLevel k = false) : allN (a ++ k :: b) = allN a ++ [] :: allGo (cntAll zero6 a) b := by
  unfold allN
  rw [allGo_append]
  simp [allGo, numOne, cntOne, h]
theorem allN_both (a b : List Int) : allN (a ++ b) = allN a ++ allGo (cntAll zero6 a) b := allGo_append a b _
/-- NumberParts: dots and parts. -/
def dotsOf (l : List UInt8) : Nat := l.countP (· == 46)
def partsOf (n : List Nat) : Nat := n.countP (fun x => decide (0 < x))
theorem dots_digits (l : List UInt8) (h : ∀ d ∈ l, 48 ≤ d.toNat ∧ d.toNat ≤ 57) : dotsOf l = 0 := by
  unfold dotsOf
  rw [List.countP_eq_zero]
  intro d hd
  have := h d hd
  simp
  rintro rfl
  simp at this
theorem dots_num (n : List Nat) (h : ∀ x ∈ n, x < 100) : (numL (n.map dg) = [] ↔ partsOf n = 0) ∧ dotsOf (numL (n.map dg)) = partsOf n - 1 := by
  refine snocRec (P := fun n => (∀ x ∈ n, x < 100) → (numL (n.map dg) = [] ↔ partsOf n = 0) ∧ dotsOf (numL (n.map dg)) = partsOf n - 1) (fun _ => by simp [numL, partsOf, dotsOf]) (fun n x ih => ?_) n h
  intro h
  obtain ⟨i1, i2⟩ := ih fun y hy => h y (by simp [hy])
  have hx := h x (by simp)
  have hd := dots_digits (dg x) (dg_digit x hx)
  rw [List.map_append, List.map_cons, List.map_nil, numL_snoc]
  unfold numStep
  have hp : partsOf (n ++ [x]) = partsOf n + if 0 < x then 1 else 0 := by
    unfold partsOf; rw [List.countP_append]; simp [List.countP_cons, List.countP_nil]
  by_cases h0 : x = 0
  · rw [if_pos ((dg_nil x).2 h0), hp, if_neg (show ¬ 0 < x from by omega)]
    exact ⟨i1, i2⟩
  · rw [if_neg (fun e => h0 ((dg_nil x).1 e)), hp, if_pos (show 0 < x from by omega)]
    by_cases he : numL (n.map dg) = []
    · rw [if_pos he]
      have := i1.1 he
      exact ⟨by rw [dg_nil]; omega, by rw [hd]; omega⟩
    · rw [if_neg he]
      have hn : 0 < partsOf n := Nat.pos_of_ne_zero fun e => he (i1.2 e)
      refine ⟨by simp, ?_⟩
      unfold dotsOf at *
      rw [List.countP_append, List.countP_cons, hd, i2]
      simp
      omega
theorem numL_dots (l : List Int) (k : Int) (h : okLevel k = true) (hl : l.length < 99) : dotsOf (numOne (cntAll zero6 l) k) = partsOf (cntOne (cntAll zero6 l) k) - 1 := by
  unfold numOne cntOne
  rw [if_pos h, if_pos h]
  refine (dots_num _ fun x hx => ?_).2
  have := cntStep_mem _ _ _ (cntAll_mem l) x hx
  omega
theorem numL_len (n : List Nat) : (numL (n.map dg)).length ≤ 3 * n.length := by
  refine snocRec (P := fun n => (numL (n.map dg)).length ≤ 3 * n.length) (by simp [numL]) (fun n x ih => ?_) n
  show (numL ((n ++ [x]).map dg)).length ≤ 3 * (n ++ [x]).length
  rw [List.map_append, List.map_cons, List.map_nil, numL_snoc]
  have h1 := numStep_len (numL (n.map dg)) (dg x)
  have h2 := dg_len x
  simp at *
  omega
theorem numL_bytes (n : List Nat) (h : ∀ x ∈ n, x < 100) : ∀ d ∈ numL (n.map dg), d.toNat < 128 := by
  refine snocRec (P := fun n => (∀ x ∈ n, x < 100) → ∀ d ∈ numL (n.map dg), d.toNat < 128) (fun _ d hd => by simp [numL] at hd) (fun n x ih => ?_) n h
  intro h
  have i1 := ih fun y hy => h y (by simp [hy])
  have hx := dg_digit x (h x (by simp))
  rw [List.map_append, List.map_cons, List.map_nil, numL_snoc]
  intro d hd
  unfold numStep at hd
  split at hd
  · exact i1 d hd
  · split at hd
    · have := hx d hd; omega
    · rcases List.mem_append.1 hd with hd | hd
      · exact i1 d hd
      · rcases List.mem_cons.1 hd with rfl | hd
        · decide
        · have := hx d hd; omega
theorem numOne_bytes (l : List Int) (k : Int) (hl : l.length < 99) : ∀ d ∈ numOne (cntAll zero6 l) k, d.toNat < 128 := by
  unfold numOne
  split
  · refine numL_bytes _ fun x hx => ?_
    have := cntStep_mem _ _ _ (cntAll_mem l) x hx
    omega
  · intro d hd; cases hd
/-- The law's own counts while greater levels are put back. -/
def cJ (c : List Nat) (k : Nat) : Nat → List Nat
  | 0 => c
  | j + 1 => if j > k then (cJ c k j).set j 0 else cJ c k j
theorem cJ_len (c : List Nat) (k : Nat) : ∀ j, (cJ c k j).length = c.length
  | 0 => rfl
  | j + 1 => by unfold cJ; split <;> simp [cJ_len c k j]
theorem cJ_take (c : List Nat) (k j : Nat) : (cJ c k (j + 1)).take j = (cJ c k j).take j := by
  rw [cJ]
  split
  · rw [List.take_set_of_le (Nat.le_refl _)]
  · rfl
theorem cJ_mem (c : List Nat) (k m : Nat) (h : ∀ x ∈ c, x ≤ m) : ∀ j, ∀ x ∈ cJ c k j, x ≤ m
  | 0 => h
  | j + 1 => by
    intro x hx
    unfold cJ at hx
    split at hx
    · rcases List.mem_or_eq_of_mem_set hx with hx | rfl
      · exact cJ_mem c k m h j x hx
      · omega
    · exact cJ_mem c k m h j x hx
theorem cJ_all (n : List Nat) (k : Nat) (hn : n.length = 6) (h1 : 1 ≤ k) (h6 : k ≤ 6) : cJ ((0 :: n).set k ((0 :: n).getD k 0 + 1)) k 7 = 0 :: cntStep n k := by
  match n, hn with
  | [a, b, c, d, e, f], _ =>
    have hk : k = 1 ∨ k = 2 ∨ k = 3 ∨ k = 4 ∨ k = 5 ∨ k = 6 := by omega
    rcases hk with rfl | rfl | rfl | rfl | rfl | rfl <;> rfl
theorem cJ_one (c : List Nat) (k : Nat) : cJ c k 1 = c := by
  unfold cJ cJ
  rw [if_neg (by omega)]
theorem parts_step (c : List Nat) (k j : Nat) (h : j < c.length) : partsOf ((cJ c k (j + 1)).take (j + 1)) = partsOf ((cJ c k j).take j) + if 0 < (cJ c k (j + 1))[j]'(by rw [cJ_len]; exact h) then 1 else 0 := by
  rw [List.take_succ_eq_append_getElem (by rw [cJ_len]; exact h), cJ_take]
  unfold partsOf
  rw [List.countP_append]
  simp [List.countP_cons, List.countP_nil]
theorem parts_pos (n : List Nat) (k : Nat) : 1 ≤ partsOf (cntStep n k) := by
  unfold cntStep partsOf
  rw [List.countP_append, List.countP_cons]
  simp
  omega
theorem parts_zero (l : List Nat) : partsOf (0 :: l) = partsOf l := by simp [partsOf]
theorem dots_take (l : List UInt8) (k : Nat) (h : k < l.length) : dotsOf (l.take (k + 1)) = dotsOf (l.take k) + if l[k] = 46 then 1 else 0 := by
  rw [List.take_succ_eq_append_getElem h]
  unfold dotsOf
  rw [List.countP_append]
  simp [List.countP_cons, List.countP_nil]
theorem dots_le (l : List UInt8) (k : Nat) : dotsOf (l.take k) ≤ k := by
  unfold dotsOf
  have := List.countP_le_length (p := fun x => x == 46) (l := l.take k)
  rw [List.length_take] at this
  omega
theorem parts_le (l : List Nat) (k : Nat) : partsOf (l.take k) ≤ k := by
  unfold partsOf
  have := List.countP_le_length (p := fun x => decide (0 < x)) (l := l.take k)
  rw [List.length_take] at this
  omega
theorem dg_dec (n : Nat) (h1 : 1 ≤ n) (h2 : n < 100) : dg n = Lib.decDigits n := by
  unfold dg
  rw [if_neg (by omega)]
  by_cases h : n < 10
  · rw [if_pos h, Lib.decDigits_one h]
  · rw [if_neg h, Lib.decDigits_two h h2]

end Go.Proofs.YtpifhjdbcdcelaaDoor
