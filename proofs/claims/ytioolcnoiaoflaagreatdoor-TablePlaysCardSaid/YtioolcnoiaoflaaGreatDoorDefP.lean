/-
  Plain words of the layer define: a name as it is kept, what a line defines, what is taken off a text.
  Plain facts of the layer target: steps of what is read between signs, and of what stands bare.
  Plain facts for the document's own way in chapter 11: how it trims, where a destination and a title end.
  Plain facts of the layer define: the way that the program goes through a line is the one of the plain words.
-/
import Derived.Test.YtioolcnoiaoflaaGreatDoorRepairF
import Derived.Test.YtioolcnoiaoflaaGreatDoorTgtP
import Derived.Test.YtioolcnoiaoflaaGreatDoorMrkP
import Derived.Test.YtioolcnoiaoflaaGreatDoorDfn
namespace Go.Proofs.YtioolcnoiaoflaaGreatDoor
open Go.RowKit
set_option linter.unusedSimpArgs false
set_option linter.unusedVariables false

/-- The bytes that no name has. -/
def badN (l : List UInt8) : Bool := l.any fun b => b == 91 || b == 93 || b == 10 || b == 0
def dnL (l : List UInt8) : List UInt8 × Bool := if (foldL l).isEmpty || decide (60 < (foldL l).length) || badN l then ([], false) else (foldL l, true)
def noDfn : Dfn := ⟨[], [], [], [], false⟩
/-- A note: its name (without the sign), and what stands behind. -/
def dlNote (name t : List UInt8) : Dfn × Bool := if (dnL name).2 && !(trimG t).isEmpty then (⟨(dnL name).1, [], [], trimG t, true⟩, true) else (noDfn, false)
/-- What stands behind a url: nothing, or a title. -/
def dlTitle (n url u : List UInt8) : Dfn × Bool :=
  if u.all isGap then (⟨n, url, [], [], false⟩, true)
  else if isGap (u.headD 0) && (titleL (u.dropWhile isGap)).2.2 && ((u.dropWhile isGap).drop (titleL (u.dropWhile isGap)).2.1).all isGap then (⟨n, url, (titleL (u.dropWhile isGap)).1, [], false⟩, true)
  else (noDfn, false)
def dlUrl (name t : List UInt8) : Dfn × Bool := if (dnL name).2 && (destL t).2.2 then dlTitle (dnL name).1 (destL t).1 (t.drop (destL t).2.1) else (noDfn, false)
def dlBehind (name t : List UInt8) : Dfn × Bool := if Lib.hasPrefix name [94] then dlNote (name.drop 1) t else dlUrl name t
def dlL (l : List UInt8) : Dfn × Bool :=
  if Lib.hasPrefix l [91] && Lib.hasPrefix ((l.drop 1).dropWhile (· != 93)) [93, 58] then dlBehind ((l.drop 1).takeWhile (· != 93)) ((((l.drop 1).dropWhile (· != 93)).drop 2).dropWhile isGap)
  else (noDfn, false)
def dtF : Nat → List UInt8 → List Dfn × List UInt8
  | 0, l => ([], l)
  | f + 1, l => if (dlL (l.takeWhile (· != 10))).2 then ((dlL (l.takeWhile (· != 10))).1 :: (dtF f ((l.dropWhile (· != 10)).drop 1)).1, (dtF f ((l.dropWhile (· != 10)).drop 1)).2) else ([], l)
def dtL (l : List UInt8) : List Dfn × List UInt8 := dtF l.length l

theorem dlL_nil : dlL [] = (noDfn, false) := rfl
/-- A line that defines nothing is nobody's. -/
theorem dlL_no {l : List UInt8} (h : (dlL l).2 = false) : (dlL l).1 = noDfn := by
  unfold dlL at *
  split at h
  · rename_i h1
    rw [if_pos h1]
    unfold dlBehind at *
    split at h
    · rename_i h2
      rw [if_pos h2]
      unfold dlNote at *
      split at h
      · exact absurd h (by simp)
      · rename_i h3; rw [if_neg h3]
    · rename_i h2
      rw [if_neg h2]
      unfold dlUrl at *
      split at h
      · rename_i h3
        rw [if_pos h3]
        unfold dlTitle at *
        split at h
        · exact absurd h (by simp)
        · rename_i h4
          rw [if_neg h4]
          split at h
          · exact absurd h (by simp)
          · rename_i h5; rw [if_neg h5]
      · rename_i h3; rw [if_neg h3]
  · rename_i h1; rw [if_neg h1]

/-! ### What is folded -/
theorem dec_low {x : UInt8} {m : List UInt8} (h : (dec (x :: m)).1 < 128) : x.toNat = (dec (x :: m)).1 ∧ (dec (x :: m)).2 = 1 := by
  unfold dec at h ⊢
  dsimp only [List.getD_cons_zero] at h ⊢
  split at h
  · rename_i h1; rw [if_pos h1]; exact ⟨rfl, rfl⟩
  · rename_i h1
    split at h
    · split at h
      · rename_i h2; dsimp only at h; omega
      · dsimp only at h; omega
    · split at h
      · split at h
        · rename_i h2; simp only [Bool.and_eq_true, decide_eq_true_eq] at h2; dsimp only at h; omega
        · dsimp only at h; omega
      · split at h
        · split at h
          · rename_i h2; simp only [Bool.and_eq_true, decide_eq_true_eq] at h2; dsimp only at h; omega
          · dsimp only at h; omega
        · dsimp only at h; omega
theorem enc_low {n : Nat} (hv : Utf8.valid n = true) {b : UInt8} (hb : b ∈ Lib.encodeRune n) (h : b.toNat < 128) : n = b.toNat := by
  have hv2 := of_valid n hv
  by_cases h1 : n < 128
  · rw [enc1 n h1] at hb
    simp at hb
    subst hb
    rw [u8 _ (by omega)]
  · exfalso
    by_cases h2 : n < 2048
    · rw [enc2 n (by omega) h2] at hb
      simp only [List.mem_cons, List.not_mem_nil, or_false] at hb
      rcases hb with rfl | rfl <;> rw [u8 _ (by omega)] at h <;> omega
    · by_cases h3 : n < 65536
      · rw [enc3 n (by omega)] at hb
        simp only [List.mem_cons, List.not_mem_nil, or_false] at hb
        rcases hb with rfl | rfl | rfl <;> rw [u8 _ (by omega)] at h <;> omega
      · rw [enc4 n (by omega) (by omega)] at hb
        simp only [List.mem_cons, List.not_mem_nil, or_false] at hb
        rcases hb with rfl | rfl | rfl | rfl <;> rw [u8 _ (by omega)] at h <;> omega
theorem segs_mem : ∀ (k : Nat) (l : List UInt8), l.length ≤ k → ∀ c ∈ segs l, ∃ (x : UInt8) (m pre : List UInt8), l = pre ++ x :: m ∧ c = ((dec (x :: m)).1, (x :: m).take (dec (x :: m)).2)
  | _, [], _, c, hc => by rw [segs_nil] at hc; cases hc
  | 0, _ :: _, h, _, _ => by simp at h
  | k + 1, x :: m, h, c, hc => by
    rw [segs_cons, List.mem_cons] at hc
    rcases hc with rfl | hc
    · exact ⟨x, m, [], rfl, rfl⟩
    · have hw := dec_width x m
      obtain ⟨y, m2, pre, e, rfl⟩ := segs_mem k _ (by rw [List.length_drop]; simp at h ⊢; omega) c hc
      exact ⟨y, m2, (x :: m).take (dec (x :: m)).2 ++ pre, by rw [List.append_assoc, ← e, List.take_append_drop], rfl⟩
theorem foldS_mem : ∀ (cs : List (Nat × List UInt8)) (g a : Bool) (b : UInt8), b ∈ foldS cs g a → b = 32 ∨ ∃ c ∈ cs, b ∈ chunkOut c
  | [], _, _, _, h => by cases h
  | c :: cs, g, a, b, h => by
    simp only [foldS] at h
    split at h
    · rcases foldS_mem cs true a b h with h | ⟨d, hd, h⟩
      · exact Or.inl h
      · exact Or.inr ⟨d, by simp [hd], h⟩
    · rw [List.mem_append, List.mem_append] at h
      rcases h with (h | h) | h
      · split at h
        · exact Or.inl (by simpa using h)
        · cases h
      · exact Or.inr ⟨c, by simp, h⟩
      · rcases foldS_mem cs false true b h with h | ⟨d, hd, h⟩
        · exact Or.inl h
        · exact Or.inr ⟨d, by simp [hd], h⟩
/-- A byte of ASCII that folding leaves, and that is no small letter, stood there before, or is a blank. -/
theorem fold_low {l : List UInt8} {b : UInt8} (hb : b ∈ foldL l) (h : b.toNat < 128) (h2 : b.toNat < 97) : b = 32 ∨ b ∈ l := by
  rcases foldS_mem _ _ _ b hb with h1 | ⟨c, hc, h1⟩
  · exact Or.inl h1
  · right
    obtain ⟨x, m, pre, e, rfl⟩ := segs_mem l.length l (Nat.le_refl _) c hc
    have hd := dec_valid (x :: m)
    have hdv := of_valid _ hd
    unfold chunkOut at h1
    split at h1
    · have h3 : b ∈ x :: m := List.mem_of_mem_take h1
      rw [e]
      simp at h3 ⊢
      exact Or.inr h3
    · rcases smallI_eq ((dec (x :: m)).1 : Int) with ⟨a1, a2, e2⟩ | ⟨a1, a2, a3, e2⟩ | ⟨a1, a2, e2⟩
      · have e3 : smallI ((dec (x :: m)).1 : Int) = (((dec (x :: m)).1 + 32 : Nat) : Int) := by rw [e2]; omega
        rw [e3] at h1
        have := enc_low (n := (dec (x :: m)).1 + 32) (valid_of _ (by omega)) h1 h
        omega
      · have e3 : smallI ((dec (x :: m)).1 : Int) = (((dec (x :: m)).1 + 32 : Nat) : Int) := by rw [e2]; omega
        rw [e3] at h1
        have := enc_low (n := (dec (x :: m)).1 + 32) (valid_of _ (by omega)) h1 h
        omega
      · rw [e2] at h1
        have h3 := enc_low hd h1 h
        have h4 := (dec_low (x := x) (m := m) (by omega)).1
        have h5 : x = b := by
          apply UInt8.toNat_inj.1
          omega
        rw [e, h5]
        simp
theorem badN_fold {l : List UInt8} (h : badN l = false) : badN (foldL l) = false := by
  rw [← Bool.not_eq_true] at h ⊢
  intro h2
  apply h
  unfold badN at h2 ⊢
  rw [List.any_eq_true] at h2 ⊢
  obtain ⟨b, hb, hx⟩ := h2
  refine ⟨b, ?_, hx⟩
  simp only [Bool.or_eq_true, beq_iff_eq] at hx
  have hlt : b.toNat < 97 := by rcases hx with ((rfl | rfl) | rfl) | rfl <;> decide
  rcases fold_low hb (by omega) hlt with rfl | h3
  · exact absurd hx (by decide)
  · exact h3
theorem foldL_about (s : List UInt8) : foldL (32 :: (s ++ [9, 32])) = foldL s := by
  unfold foldL
  have hf : fresh ([9, 32] : List UInt8) := fresh_cons _ _ (by decide)
  have h1 : spaceB (((32 : UInt8).toNat : Nat) : Int) = true := by decide +kernel
  rw [segs_ascii 32 _ (by decide), segs_app _ hf]
  simp only [foldS, h1, if_true]
  rw [foldS_end _ _ _ _ (by decide +kernel)]
  exact foldS_begin _ _ _
theorem badN_about (s : List UInt8) : badN (32 :: (s ++ [9, 32])) = badN s := by
  unfold badN
  rw [List.any_cons, List.any_append]
  simp
/-- Names that fold alike are one name. -/
theorem dnL_about (s : List UInt8) : dnL (32 :: (s ++ [9, 32])) = dnL s := by unfold dnL; rw [foldL_about, badN_about]
theorem dnL_yes {s : List UInt8} (h : (dnL s).2 = true) : (dnL s).1 = foldL s ∧ dnL (foldL s) = (foldL s, true) := by
  unfold dnL at h ⊢
  split at h
  · exact absurd h (by simp)
  · rename_i h1
    rw [if_neg h1, foldL_twice]
    refine ⟨rfl, if_neg ?_⟩
    simp only [Bool.or_eq_true, not_or, Bool.not_eq_true] at h1 ⊢
    exact ⟨h1.1, badN_fold h1.2⟩
theorem dnL_no {s : List UInt8} (h : (dnL s).2 = false) : (dnL s).1 = [] := by
  unfold dnL at h ⊢
  split at h
  · rename_i h1; rw [if_pos h1]
  · exact absurd h (by simp)

end Go.Proofs.YtioolcnoiaoflaaGreatDoor

namespace Go.Proofs.YtioolcnoiaoflaaGreatDoor
open Go.RowKit
set_option linter.unusedSimpArgs false
set_option linter.unusedVariables false

/-- The last blank goes. -/
theorem trimGR_last {l : List UInt8} {b : UInt8} {m : List UInt8} (h : l = m ++ [b]) : trimGR l = if isGap b then trimGR m else l := by
  subst h
  cases hb : isGap b
  · rw [trimGR_snoc m b hb]; simp
  · rw [trimGR_blank m b hb]; simp
/-- A backslash and what stands behind it, between signs. -/
theorem btw_pair {c b : UInt8} {nv l : List UInt8} {i : Nat} (hb : b.toNat ≠ 0) : btwGo c nv (92 :: b :: l) false i = btwGo c nv l false (i + 2) := by
  rw [btwGo_slash (by decide), btwGo_bh hb]
theorem btw_pair0 {c b : UInt8} {nv l : List UInt8} {i : Nat} (hb : b.toNat = 0) : btwGo c nv (92 :: b :: l) false i = none := by
  rw [btwGo_slash (by decide), btwGo_zero hb]
theorem btw_last {c : UInt8} {nv : List UInt8} {i : Nat} : btwGo c nv [92] false i = none := by
  rw [btwGo_slash (by decide)]
  rfl
/-- The same where a destination stands bare. -/
theorem bare_pair {b : UInt8} {l : List UInt8} {o i : Nat} (hb : tgHid b.toNat = false) : bareGo (92 :: b :: l) o false i = bareGo l o false (i + 2) := by
  rw [bareGo_on (by decide) (by intro h; exact absurd h.1 (by decide)), if_neg (by simp), if_pos (by decide), bareGo_on hb (by intro h; exact absurd h.2.2 (by simp)), if_pos rfl]
theorem bare_pair0 {b : UInt8} {l : List UInt8} {o i : Nat} (hb : tgHid b.toNat = true) : bareGo (92 :: b :: l) o false i = bareGo (b :: l) o false (i + 1) := by
  rw [bareGo_on (by decide) (by intro h; exact absurd h.1 (by decide)), if_neg (by simp), if_pos (by decide), bareGo_stop (Or.inl hb), bareGo_stop (Or.inl hb)]
theorem bare_last {o i : Nat} : bareGo [92] o false i = bareGo [] o false (i + 1) := by
  rw [bareGo_on (by decide) (by intro h; exact absurd h.1 (by decide)), if_neg (by simp), if_pos (by decide)]
  rfl

end Go.Proofs.YtioolcnoiaoflaaGreatDoor

namespace Go.Proofs.YtioolcnoiaoflaaGreatDoor
open Go.RowKit
set_option linter.unusedSimpArgs false
set_option linter.unusedVariables false

/-! ### Where a name ends -/
def sepD : List UInt8 := [93, 58]
def cutD : List UInt8 → Option (List UInt8 × List UInt8)
  | [] => none
  | b :: t => if b = 93 ∧ t.head? = some 58 then some ([], t.tail) else (cutD t).map fun c => (b :: c.1, c.2)
theorem cutD_some : ∀ {l x y : List UInt8}, cutD l = some (x, y) → l = x ++ (sepD ++ y)
  | [], _, _, h => by simp [cutD] at h
  | b :: t, x, y, h => by
    unfold cutD at h
    split at h
    · rename_i hc
      obtain ⟨rfl, h2⟩ := hc
      cases t with
      | nil => simp at h2
      | cons c t =>
        simp at h2 h
        obtain ⟨rfl, rfl⟩ := h
        rw [h2]; rfl
    · cases hq : cutD t with
      | none => rw [hq] at h; simp at h
      | some c =>
        obtain ⟨u, v⟩ := c
        rw [hq] at h
        simp at h
        obtain ⟨rfl, rfl⟩ := h
        rw [cutD_some hq]; rfl
theorem sepD_pre (b : UInt8) (t : List UInt8) : sepD.isPrefixOf (b :: t) = decide (b = 93 ∧ t.head? = some 58) := by
  cases t with
  | nil => simp [sepD, List.isPrefixOf]
  | cons c t =>
    simp [sepD, List.isPrefixOf]
    by_cases h1 : (93 : UInt8) = b
    · subst h1
      by_cases h2 : (58 : UInt8) = c
      · subst h2; simp
      · have h3 : ¬ c = 58 := fun e => h2 e.symm
        simp [h2, h3]
    · have h3 : ¬ b = 93 := fun e => h1 e.symm
      simp [h1, h3]
theorem index_cutD : ∀ l : List UInt8, Lib.index l sepD = match cutD l with | none => -1 | some c => (c.1.length : Int)
  | [] => rfl
  | b :: t => by
    unfold Lib.index cutD
    rw [sepD_pre]
    by_cases h : b = 93 ∧ t.head? = some 58
    · rw [if_pos (by simpa using h), if_pos h]; rfl
    · rw [if_neg (by simpa using h), if_neg h, index_cutD t]
      cases cutD t with
      | none => rfl
      | some c =>
        have : (((c.1.length : Nat) : Int) == -1) = false := by rw [beq_eq_false_iff_ne]; omega
        simp [this]
theorem cut_cutD (l : List UInt8) : Lib.cut l sepD = match cutD l with | none => (l, [], false) | some c => (c.1, c.2, true) := by
  unfold Lib.cut
  rw [index_cutD]
  cases h : cutD l with
  | none => rfl
  | some c =>
    obtain ⟨x, y⟩ := c
    dsimp only
    have e := cutD_some h
    rw [if_pos (Int.natCast_nonneg _), Int.toNat_natCast, e, List.take_left, show x.length + sepD.length = (x ++ sepD).length from by simp, ← List.append_assoc, List.drop_left]
/-- The first sign that ends a name has a colon behind it: there it is cut. -/
theorem cutD_yes : ∀ (l : List UInt8), Lib.hasPrefix (l.dropWhile (· != 93)) [93, 58] = true → cutD l = some (l.takeWhile (· != 93), (l.dropWhile (· != 93)).drop 2)
  | [], h => by simp [Lib.hasPrefix] at h
  | b :: t, h => by
    by_cases hb : b = 93
    · subst hb
      have e1 : ((93 : UInt8) :: t).dropWhile (· != 93) = 93 :: t := by simp
      have e2 : ((93 : UInt8) :: t).takeWhile (· != 93) = [] := by simp
      rw [e1] at h ⊢
      rw [e2]
      cases t with
      | nil => simp [Lib.hasPrefix] at h
      | cons c t =>
        have hc : c = 58 := by
          simp [Lib.hasPrefix] at h
          exact h.symm
        subst hc
        rfl
    · have e1 : (b :: t).dropWhile (· != 93) = t.dropWhile (· != 93) := by simp [hb]
      have e2 : (b :: t).takeWhile (· != 93) = b :: t.takeWhile (· != 93) := by simp [hb]
      rw [e1] at h ⊢
      rw [e2]
      unfold cutD
      rw [if_neg (fun h2 => hb h2.1), cutD_yes t h]
      rfl
/-- It has none: what is cut off holds it. -/
theorem cutD_no : ∀ (l : List UInt8), Lib.hasPrefix (l.dropWhile (· != 93)) [93, 58] = false → ∀ x y, cutD l = some (x, y) → (93 : UInt8) ∈ x
  | [], _, x, y, h => by simp [cutD] at h
  | b :: t, hn, x, y, h => by
    unfold cutD at h
    by_cases hb : b = 93
    · subst hb
      split at h
      · rename_i hc
        exfalso
        cases t with
        | nil => simp at hc
        | cons c t =>
          have hc2 : c = 58 := by simpa using hc.2
          subst hc2
          simp [Lib.hasPrefix] at hn
      · cases hq : cutD t with
        | none => rw [hq] at h; simp at h
        | some c =>
          rw [hq] at h
          simp at h
          rw [← h.1]
          simp
    · have e1 : (b :: t).dropWhile (· != 93) = t.dropWhile (· != 93) := by simp [hb]
      rw [e1] at hn
      rw [if_neg (fun h2 => hb h2.1)] at h
      cases hq : cutD t with
      | none => rw [hq] at h; simp at h
      | some c =>
        rw [hq] at h
        simp at h
        rw [← h.1]
        exact List.mem_cons_of_mem _ (cutD_no t hn c.1 c.2 hq)
theorem badN_mem {l : List UInt8} (h : (93 : UInt8) ∈ l) : badN l = true := List.any_eq_true.2 ⟨93, h, rfl⟩
theorem dnL_end {l : List UInt8} (h : (93 : UInt8) ∈ l) : dnL l = ([], false) := by
  unfold dnL
  rw [badN_mem h]
  simp

/-! ### Blanks behind -/
theorem btwGo_gaps (c : UInt8) (nv : List UInt8) (hc : isGap c = false) (hn : ∀ b ∈ nv, isGap b = false) : ∀ (g : List UInt8) (bh : Bool) (i : Nat), g.all isGap = true → btwGo c nv g bh i = none
  | [], _, _, _ => rfl
  | b :: g, bh, i, h => by
    simp only [List.all_cons, Bool.and_eq_true] at h
    have hor : b = 32 ∨ b = 9 := by simpa [isGap] using h.1
    have h0 : ¬ b.toNat = 0 := by rcases hor with rfl | rfl <;> decide
    have h1 : ¬ b.toNat = 92 := by rcases hor with rfl | rfl <;> decide
    have h2 : ¬ b = c := by rintro rfl; rw [h.1] at hc; cases hc
    have h3 : ¬ b ∈ nv := fun e => by have := hn b e; rw [h.1] at this; cases this
    rw [btwGo, if_neg h0, if_neg h1, if_neg h2, if_neg h3, btwGo_gaps c nv hc hn g false _ h.2]
    simp
theorem btwGo_more (c : UInt8) (nv : List UInt8) (hc : isGap c = false) (hn : ∀ b ∈ nv, isGap b = false) (g : List UInt8) (hg : g.all isGap = true) : ∀ (l : List UInt8) (bh : Bool) (i : Nat), btwGo c nv (l ++ g) bh i = btwGo c nv l bh i
  | [], bh, i => by rw [List.nil_append, btwGo_gaps c nv hc hn g bh i hg]; rfl
  | b :: l, bh, i => by
    rw [List.cons_append, btwGo, btwGo, btwGo_more c nv hc hn g hg l, btwGo_more c nv hc hn g hg l]
theorem bareGo_more (g : List UInt8) (hg : g.all isGap = true) : ∀ (l : List UInt8) (o : Nat) (bh : Bool) (i : Nat), bareGo (l ++ g) o bh i = bareGo l o bh i
  | [], o, bh, i => by
    cases g with
    | nil => rfl
    | cons b g =>
      simp only [List.all_cons, Bool.and_eq_true] at hg
      have hor : b = 32 ∨ b = 9 := by simpa [isGap] using hg.1
      rw [List.nil_append, bareGo_stop (Or.inl (by rcases hor with rfl | rfl <;> decide))]
      rfl
  | b :: l, o, bh, i => by
    rw [List.cons_append, bareGo, bareGo]
    simp only [bareGo_more g hg l]
theorem prefix_more {x : UInt8} (hx : isGap x = false) {g : List UInt8} (hg : g.all isGap = true) (l : List UInt8) : Lib.hasPrefix (l ++ g) [x] = Lib.hasPrefix l [x] := by
  cases l with
  | cons b l => simp [Lib.hasPrefix, List.isPrefixOf]
  | nil =>
    cases g with
    | nil => rfl
    | cons b g =>
      simp only [List.all_cons, Bool.and_eq_true] at hg
      have h2 : ¬ x = b := by rintro rfl; rw [hg.1] at hx; cases hx
      simp [Lib.hasPrefix, List.isPrefixOf, h2]
theorem bareL_more {g : List UInt8} (hg : g.all isGap = true) (l : List UInt8) : bareL (l ++ g) = bareL l := by unfold bareL; rw [bareGo_more g hg]
theorem btwL_more (c : UInt8) (nv : List UInt8) (hc : isGap c = false) (hn : ∀ b ∈ nv, isGap b = false) {g : List UInt8} (hg : g.all isGap = true) {l : List UInt8} (hl : 1 ≤ l.length) : btwL c nv (l ++ g) = btwL c nv l := by
  have e1 : (l ++ g).drop 1 = l.drop 1 ++ g := by rw [List.drop_append_of_le_length hl]
  unfold btwL
  rw [e1, btwGo_more c nv hc hn g hg]
  cases h : btwGo c nv (l.drop 1) false 1 with
  | none => rfl
  | some i =>
    have h2 := (btwGo_some _ _ _ _ _ _ h).2.1
    rw [List.length_drop] at h2
    dsimp only
    rw [List.take_append_of_le_length (by omega)]
theorem destL_more {g : List UInt8} (hg : g.all isGap = true) (l : List UInt8) : destL (l ++ g) = destL l := by
  unfold destL
  rw [prefix_more (by decide) hg, bareL_more hg]
  split
  · rename_i h
    exact btwL_more _ _ (by decide) (by decide) hg (hasPrefix_len h)
  · rw [List.take_append_of_le_length (bareL_le l)]
theorem titleL_more {g : List UInt8} (hg : g.all isGap = true) (l : List UInt8) : titleL (l ++ g) = titleL l := by
  unfold titleL
  rw [prefix_more (by decide) hg, prefix_more (by decide) hg, prefix_more (by decide) hg]
  split
  · rename_i h
    exact btwL_more _ _ (by decide) (by decide) hg (hasPrefix_len h)
  · split
    · rename_i h
      exact btwL_more _ _ (by decide) (by decide) hg (hasPrefix_len h)
    · split
      · rename_i h
        exact btwL_more _ _ (by decide) (by decide) hg (hasPrefix_len h)
      · rfl

/-! ### What is trimmed -/
theorem trimGR_split (l : List UInt8) : ∃ g, g.all isGap = true ∧ l = trimGR l ++ g := by
  rw [trimGR_def]
  refine ⟨(l.reverse.takeWhile isGap).reverse, ?_, ?_⟩
  · rw [List.all_reverse]
    exact List.all_takeWhile
  · rw [← List.reverse_append, List.takeWhile_append_dropWhile, List.reverse_reverse]
theorem trimGR_end (l : List UInt8) : trimGR l = [] ∨ ∃ m b, trimGR l = m ++ [b] ∧ isGap b = false := by
  rw [trimGR_def]
  cases h : l.reverse.dropWhile isGap with
  | nil => left; rfl
  | cons b r =>
    right
    refine ⟨r.reverse, b, by simp, ?_⟩
    have h2 : (l.reverse.dropWhile isGap).head? = some b := by rw [h]; rfl
    have h3 := List.head?_dropWhile_not isGap l.reverse
    rw [h2] at h3
    simpa using h3
/-- No blank at the end. -/
def NoGap (l : List UInt8) : Prop := l = [] ∨ ∃ m b, l = m ++ [b] ∧ isGap b = false
theorem NoGap.drop {l : List UInt8} (h : NoGap l) (n : Nat) : NoGap (l.drop n) := by
  rcases h with rfl | ⟨m, b, rfl, hb⟩
  · left; simp
  · by_cases hn : n ≤ m.length
    · right
      exact ⟨m.drop n, b, by rw [List.drop_append_of_le_length hn], hb⟩
    · left
      rw [List.drop_eq_nil_of_le (by simp; omega)]
theorem NoGap.dropW {l : List UInt8} (h : NoGap l) : NoGap (l.dropWhile isGap) := by
  obtain ⟨n, hn⟩ : ∃ n, l.dropWhile isGap = l.drop n := ⟨_, List.dropWhile_eq_drop_findIdx_not ..⟩
  rw [hn]
  exact h.drop n
theorem NoGap.trimGR {l : List UInt8} (h : NoGap l) : trimGR l = l := by
  rcases h with rfl | ⟨m, b, rfl, hb⟩
  · exact trimGR_nil
  · exact trimGR_snoc m b hb
theorem NoGap.all {l : List UInt8} (h : NoGap l) (ha : l.all isGap = true) : l = [] := by
  rcases h with h | ⟨m, b, rfl, hb⟩
  · exact h
  · rw [List.all_append, Bool.and_eq_true] at ha
    simp [hb] at ha
theorem trim_first2 (r : List UInt8) : trimG (r.dropWhile isGap) = trimG r := by
  rw [trimG_def (r.dropWhile isGap), trim_first, trimG_def]
  cases h : (trimGR r).dropWhile isGap with
  | nil => rfl
  | cons b l =>
    have h3 := List.head?_dropWhile_not isGap (trimGR r)
    rw [h] at h3
    rw [List.dropWhile_cons, if_neg (by simpa using h3)]
theorem trimG_noGap (r : List UInt8) : NoGap (trimG r) := by
  rw [trimG_def]
  exact NoGap.dropW (trimGR_end r)
/-- What stands behind the first blanks is what is trimmed, and blanks. -/
theorem dropW_split (r : List UInt8) : ∃ g, g.all isGap = true ∧ r.dropWhile isGap = trimG r ++ g := by
  obtain ⟨g, hg, e⟩ := trimGR_split (r.dropWhile isGap)
  rw [trim_first] at e
  exact ⟨g, hg, e⟩

/-! ### A title behind a destination -/
/-- The title that a text is behind blanks; of no text none. -/
def lastL (s : List UInt8) : List UInt8 × Bool :=
  if s = [] then ([], true)
  else if !(titleL (trimG s)).2.2 || decide ((titleL (trimG s)).2.1 < (trimG s).length) || decide ((trimG s).length = s.length) then ([], false)
  else ((titleL (trimG s)).1, true)
def linkL (name t : List UInt8) : Dfn × Bool :=
  if (dnL name).2 && (destL t).2.2 && (lastL (t.drop (destL t).2.1)).2 then (⟨(dnL name).1, (destL t).1, (lastL (t.drop (destL t).2.1)).1, [], false⟩, true) else (noDfn, false)
theorem dropW_len (l : List UInt8) : (l.dropWhile isGap).length = l.length ↔ isGap (l.headD 1) = false := by
  cases l with
  | nil => simp [isGap]
  | cons b l =>
    cases hb : isGap b with
    | true =>
      rw [List.dropWhile_cons, if_pos hb]
      have := (List.dropWhile_sublist isGap (l := l)).length_le
      simp [hb]
      omega
    | false =>
      rw [List.dropWhile_cons, if_neg (by rw [hb]; simp)]
      simp [hb]
theorem headD_more {u : List UInt8} (hu : u ≠ []) (g : List UInt8) (d e : UInt8) : (u ++ g).headD d = u.headD e := by
  cases u with
  | nil => exact absurd rfl hu
  | cons b u => rfl
theorem dlTitle_last (n url u g : List UInt8) (hu : NoGap u) (hg : g.all isGap = true) : dlTitle n url (u ++ g) = if (lastL u).2 then (⟨n, url, (lastL u).1, [], false⟩, true) else (noDfn, false) := by
  unfold dlTitle lastL
  by_cases h0 : u = []
  · subst h0
    rw [List.nil_append, if_pos hg, if_pos rfl]
    rfl
  · have ha : ¬ (u ++ g).all isGap = true := by
      intro h
      rw [List.all_append, Bool.and_eq_true] at h
      exact h0 (hu.all h.1)
    have hw : (u ++ g).dropWhile isGap = u.dropWhile isGap ++ g := by
      rw [List.dropWhile_append]
      have h1 : u.dropWhile isGap ≠ [] := by
        intro h
        have h2 := List.takeWhile_append_dropWhile (p := isGap) (l := u)
        rw [h, List.append_nil] at h2
        have h3 : (u.takeWhile isGap).all isGap = true := List.all_takeWhile
        rw [h2] at h3
        exact h0 (hu.all h3)
      rw [if_neg]
      simpa using h1
    have ht : trimG u = u.dropWhile isGap := by rw [trimG_def, hu.trimGR]
    rw [if_neg ha, if_neg h0, hw, titleL_more hg, ht, headD_more h0 g 0 1]
    have hle := titleL_le (u.dropWhile isGap)
    have hng := (hu.dropW)
    have hl := dropW_len u
    generalize u.dropWhile isGap = x at *
    have hx : ((x ++ g).drop (titleL x).2.1).all isGap = decide (¬ (titleL x).2.1 < x.length) := by
      rw [List.drop_append_of_le_length hle, List.all_append, hg, Bool.and_true]
      by_cases h : (titleL x).2.1 < x.length
      · have h2 : x.drop (titleL x).2.1 ≠ [] := by simp; exact h
        have h3 : ¬ (x.drop (titleL x).2.1).all isGap = true := fun h4 => h2 ((hng.drop _).all h4)
        simpa [h] using h3
      · rw [List.drop_eq_nil_of_le (by omega)]
        simp [h]
    rw [hx]
    cases hh : isGap (u.headD 1) with
    | true =>
      have hl2 : ¬ x.length = u.length := by rw [hl, hh]; simp
      cases ho : (titleL x).2.2 <;> by_cases h : (titleL x).2.1 < x.length <;> simp [ho, h, hl2]
    | false =>
      have hl2 : x.length = u.length := by rw [hl, hh]
      simp [hl2]
theorem dlUrl_link (name r : List UInt8) : dlUrl name (r.dropWhile isGap) = linkL name (trimG r) := by
  obtain ⟨g, hg, e⟩ := dropW_split r
  have hle := destL_le (trimG r)
  have hng := trimG_noGap r
  unfold dlUrl linkL
  rw [e, destL_more hg, List.drop_append_of_le_length hle, dlTitle_last _ _ _ _ (hng.drop _) hg]
  cases h1 : (dnL name).2 <;> cases h2 : (destL (trimG r)).2.2 <;> simp
theorem dlNote_trim (name r : List UInt8) : dlNote name (r.dropWhile isGap) = if (dnL name).2 && !(trimG r).isEmpty then (⟨(dnL name).1, [], [], trimG r, true⟩, true) else (noDfn, false) := by
  unfold dlNote
  rw [trim_first2]
def noteL (name t : List UInt8) : Dfn × Bool := if (dnL name).2 && !t.isEmpty then (⟨(dnL name).1, [], [], t, true⟩, true) else (noDfn, false)

/-- What stands between the first sign and the sign that ends a name: as the program goes. -/
def behindL (name r : List UInt8) : Dfn × Bool := if Lib.hasPrefix name [94] then noteL (name.drop 1) (trimG r) else linkL name (trimG r)
def progL (l : List UInt8) : Dfn × Bool :=
  if Lib.hasPrefix l [91] then (if (Lib.cut (l.drop 1) sepD).2.2 then behindL (Lib.cut (l.drop 1) sepD).1 (Lib.cut (l.drop 1) sepD).2.1 else (noDfn, false)) else (noDfn, false)
theorem behind_is (name r : List UInt8) : behindL name r = dlBehind name (r.dropWhile isGap) := by
  unfold behindL dlBehind
  split
  · exact (dlNote_trim _ _).symm
  · exact (dlUrl_link _ _).symm
theorem behind_end {name r : List UInt8} (h : (93 : UInt8) ∈ name) : behindL name r = (noDfn, false) := by
  unfold behindL
  split
  · rename_i h1
    have h2 : (93 : UInt8) ∈ name.drop 1 := by
      cases name with
      | nil => simp at h
      | cons b name =>
        have hb : (94 : UInt8) = b := by simpa [Lib.hasPrefix] using h1
        subst hb
        simpa using h
    unfold noteL
    rw [dnL_end h2]
    rfl
  · unfold linkL
    rw [dnL_end h]
    rfl
theorem progL_is (l : List UInt8) : progL l = dlL l := by
  unfold progL dlL
  cases h1 : Lib.hasPrefix l [91] with
  | false => rfl
  | true =>
    simp only [if_true, Bool.true_and]
    rw [cut_cutD]
    cases h2 : Lib.hasPrefix ((l.drop 1).dropWhile (· != 93)) [93, 58] with
    | true =>
      rw [cutD_yes _ h2, if_pos rfl]
      dsimp only
      rw [if_pos rfl, behind_is]
    | false =>
      rw [if_neg Bool.false_ne_true]
      cases h3 : cutD (l.drop 1) with
      | none => rfl
      | some c =>
        obtain ⟨x, y⟩ := c
        exact behind_end (cutD_no _ h2 x y h3)

end Go.Proofs.YtioolcnoiaoflaaGreatDoor
