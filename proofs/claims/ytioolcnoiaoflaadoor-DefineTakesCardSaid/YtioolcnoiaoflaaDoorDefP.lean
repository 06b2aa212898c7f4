/-
  Plain words of the layer define: a name as it is kept, what a line defines, what is taken off a text.
-/
import Derived.Test.YtioolcnoiaoflaaDoorRepairG
import Derived.Test.YtioolcnoiaoflaaDoorTgtP
import Derived.Test.YtioolcnoiaoflaaDoorMrkP
import Derived.Test.YtioolcnoiaoflaaDoorDfn
namespace Go.Proofs.YtioolcnoiaoflaaDoor
open Go.RowKit
set_option linter.unusedSimpArgs false
set_option linter.unusedVariables false

/-- The bytes that no name has. -/
def badN (l : List UInt8) : Bool := l.any fun b => b == 91 || b == 93 || b == 10 || b == 0
def dnL (l : List UInt8) : List UInt8 × Bool := if (foldL l).isEmpty || decide (60 < (foldL l).length) || badN l then ([], false) else (foldL l, true)
def noDfn : Dfn := ⟨[], [], [], [], false⟩
/-- A note: its name (without the sign), and what stands behind. -/
def dlNote (name t : List UInt8) : Dfn × Bool := if (dnL name).2 && !(trimG t).isEmpty then (⟨(dnL name).1, [], [], trimG t, true⟩, true) else (noDfn, false)
/-- What stands behind a url: nothing, or a title. -/
def dlTitle (n url u : List UInt8) : Dfn × Bool :=
  if u.all isGap then (⟨n, url, [], [], false⟩, true)
  else if isGap (u.headD 0) && (titleL (u.dropWhile isGap)).2.2 && ((u.dropWhile isGap).drop (titleL (u.dropWhile isGap)).2.1).all isGap then (⟨n, url, (titleL (u.dropWhile isGap)).1, [], false⟩, true)
  else (noDfn, false)
def dlUrl (name t : List UInt8) : Dfn × Bool := if (dnL name).2 && (destL t).2.2 then dlTitle (dnL name).1 (destL t).1 (t.drop (destL t).2.1) else (noDfn, false)
def dlBehind (name t : List UInt8) : Dfn × Bool := if Lib.hasPrefix name [94] then dlNote (name.drop 1) t else dlUrl name t
def dlL (l : List UInt8) : Dfn × Bool :=
  if Lib.hasPrefix l [91] && Lib.hasPrefix ((l.drop 1).dropWhile (· != 93)) [93, 58] then dlBehind ((l.drop 1).takeWhile (· != 93)) ((((l.drop 1).dropWhile (· != 93)).drop 2).dropWhile isGap)
  else (noDfn, false)
def dtF : Nat → List UInt8 → List Dfn × List UInt8
  | 0, l => ([], l)
  | f + 1, l => if (dlL (l.takeWhile (· != 10))).2 then ((dlL (l.takeWhile (· != 10))).1 :: (dtF f ((l.dropWhile (· != 10)).drop 1)).1, (dtF f ((l.dropWhile (· != 10)).drop 1)).2) else ([], l)
def dtL (l : List UInt8) : List Dfn × List UInt8 := dtF l.length l

theorem dlL_nil : dlL [] = (noDfn, false) := rfl
/-- A line that defines nothing is nobody's. -/
theorem dlL_no {l : List UInt8} (h : (dlL l).2 = false) : (dlL l).1 = noDfn := by
  unfold dlL at *
  split at h
  · rename_i h1
    rw [if_pos h1]
    unfold dlBehind at *
    split at h
    · rename_i h2
      rw [if_pos h2]
      unfold dlNote at *
      split at h
      · exact absurd h (by simp)
      · rename_i h3; rw [if_neg h3]
    · rename_i h2
      rw [if_neg h2]
      unfold dlUrl at *
      split at h
      · rename_i h3
        rw [if_pos h3]
        unfold dlTitle at *
        split at h
        · exact absurd h (by simp)
        · rename_i h4
          rw [if_neg h4]
          split at h
          · exact absurd h (by simp)
          · rename_i h5; rw [if_neg h5]
      · rename_i h3; rw [if_neg h3]
  · rename_i h1; rw [if_neg h1]

/-! ### What is folded -/
theorem dec_low {x : UInt8} {m : List UInt8} (h : (dec (x :: m)).1 < 128) : x.toNat = (dec (x :: m)).1 ∧ (dec (x :: m)).2 = 1 := by
  unfold dec at h ⊢
  dsimp only [List.getD_cons_zero] at h ⊢
  split at h
  · rename_i h1; rw [if_pos h1]; exact ⟨rfl, rfl⟩
  · rename_i h1
    split at h
    · split at h
      · rename_i h2; dsimp only at h; omega
      · dsimp only at h; omega
    · split at h
      · split at h
        · rename_i h2; simp only [Bool.and_eq_true, decide_eq_true_eq] at h2; dsimp only at h; omega
        · dsimp only at h; omega
      · split at h
        · split at h
          · rename_i h2; simp only [Bool.and_eq_true, decide_eq_true_eq] at h2; dsimp only at h; omega
          · dsimp only at h; omega
        · dsimp only at h; omega
theorem enc_low {n : Nat} (hv : Utf8.valid n = true) {b : UInt8} (hb : b ∈ Lib.encodeRune n) (h : b.toNat < 128) : n = b.toNat := by
  have hv2 := of_valid n hv
  by_cases h1 : n < 128
  · rw [enc1 n h1] at hb
    simp at hb
    subst hb
    rw [u8 _ (by omega)]
  · exfalso
    by_cases h2 : n < 2048
    · rw [enc2 n (by omega) h2] at hb
      simp only [List.mem_cons, List.not_mem_nil, or_false] at hb
      rcases hb with rfl | rfl <;> rw [u8 _ (by omega)] at h <;> omega
    · by_cases h3 : n < 65536
      · rw [enc3 n (by omega)] at hb
        simp only [List.mem_cons, List.not_mem_nil, or_false] at hb
        rcases hb with rfl | rfl | rfl <;> rw [u8 _ (by omega)] at h <;> omega
      · rw [enc4 n (by omega) (by omega)] at hb
        simp only [List.mem_cons, List.not_mem_nil, or_false] at hb
        rcases hb with rfl | rfl | rfl | rfl <;> rw [u8 _ (by omega)] at h <;> omega
theorem segs_mem : ∀ (k : Nat) (l : List UInt8), l.length ≤ k → ∀ c ∈ segs l, ∃ (x : UInt8) (m pre : List UInt8), l = pre ++ x :: m ∧ c = ((dec (x :: m)).1, (x :: m).take (dec (x :: m)).2)
  | _, [], _, c, hc => by rw [segs_nil] at hc; cases hc
  | 0, _ :: _, h, _, _ => by simp at h
  | k + 1, x :: m, h, c, hc => by
    rw [segs_cons, List.mem_cons] at hc
    rcases hc with rfl | hc
    · exact ⟨x, m, [], rfl, rfl⟩
    · have hw := dec_width x m
      obtain ⟨y, m2, pre, e, rfl⟩ := segs_mem k _ (by rw [List.length_drop]; simp at h ⊢; omega) c hc
      exact ⟨y, m2, (x :: m).take (dec (x :: m)).2 ++ pre, by rw [List.append_assoc, ← e, List.take_append_drop], rfl⟩
theorem foldS_mem : ∀ (cs : List (Nat × List UInt8)) (g a : Bool) (b : UInt8), b ∈ foldS cs g a → b = 32 ∨ ∃ c ∈ cs, b ∈ chunkOut c
  | [], _, _, _, h => by cases h
  | c :: cs, g, a, b, h => by
    simp only [foldS] at h
    split at h
    · rcases foldS_mem cs true a b h with h | ⟨d, hd, h⟩
      · exact Or.inl h
      · exact Or.inr ⟨d, by simp [hd], h⟩
    · rw [List.mem_append, List.mem_append] at h
      rcases h with (h | h) | h
      · split at h
        · exact Or.inl (by simpa using h)
        · cases h
      · exact Or.inr ⟨c, by simp, h⟩
      · rcases foldS_mem cs false true b h with h | ⟨d, hd, h⟩
        · exact Or.inl h
        · exact Or.inr ⟨d, by simp [hd], h⟩
/-- A byte of ASCII that folding leaves, and that is no small letter, stood there before, or is a blank. -/
theorem fold_low {l : List UInt8} {b : UInt8} (hb : b ∈ foldL l) (h : b.toNat < 128) (h2 : b.toNat < 97) : b = 32 ∨ b ∈ l := by
  rcases foldS_mem _ _ _ b hb with h1 | ⟨c, hc, h1⟩
  · exact Or.inl h1
  · right
    obtain ⟨x, m, pre, e, rfl⟩ := segs_mem l.length l (Nat.le_refl _) c hc
    have hd := dec_valid (x :: m)
    have hdv := of_valid _ hd
    unfold chunkOut at h1
    split at h1
    · have h3 : b ∈ x :: m := List.mem_of_mem_take h1
      rw [e]
      simp at h3 ⊢
      exact Or.inr h3
    · rcases smallI_eq ((dec (x :: m)).1 : Int) with ⟨a1, a2, e2⟩ | ⟨a1, a2, a3, e2⟩ | ⟨a1, a2, e2⟩
      · have e3 : smallI ((dec (x :: m)).1 : Int) = (((dec (x :: m)).1 + 32 : Nat) : Int) := by rw [e2]; omega
        rw [e3] at h1
        have := enc_low (n := (dec (x :: m)).1 + 32) (valid_of _ (by omega)) h1 h
        omega
      · have e3 : smallI ((dec (x :: m)).1 : Int) = (((dec (x :: m)).1 + 32 : Nat) : Int) := by rw [e2]; omega
        rw [e3] at h1
        have := enc_low (n := (dec (x :: m)).1 + 32) (valid_of _ (by omega)) h1 h
        omega
      · rw [e2] at h1
        have h3 := enc_low hd h1 h
        have h4 := (dec_low (x := x) (m := m) (by omega)).1
        have h5 : x = b := by
          apply UInt8.toNat_inj.1
          omega
        rw [e, h5]
        simp
theorem badN_fold {l : List UInt8} (h : badN l = false) : badN (foldL l) = false := by
  rw [← Bool.not_eq_true] at h ⊢
  intro h2
  apply h
  unfold badN at h2 ⊢
  rw [List.any_eq_true] at h2 ⊢
  obtain ⟨b, hb, hx⟩ := h2
  refine ⟨b, ?_, hx⟩
  simp only [Bool.or_eq_true, beq_iff_eq] at hx
  have hlt : b.toNat < 97 := by rcases hx with ((rfl | rfl) | rfl) | rfl <;> decide
  rcases fold_low hb (by omega) hlt with rfl | h3
  · exact absurd hx (by decide)
  · exact h3
theorem foldL_about (s : List UInt8) : foldL (32 :: (s ++ [9, 32])) = foldL s := by
  unfold foldL
  have hf : fresh ([9, 32] : List UInt8) := fresh_cons _ _ (by decide)
  have h1 : spaceB (((32 : UInt8).toNat : Nat) : Int) = true := by decide +kernel
  rw [segs_ascii 32 _ (by decide), segs_app _ hf]
  simp only [foldS, h1, if_true]
  rw [foldS_end _ _ _ _ (by decide +kernel)]
  exact foldS_begin _ _ _
theorem badN_about (s : List UInt8) : badN (32 :: (s ++ [9, 32])) = badN s := by
  unfold badN
  rw [List.any_cons, List.any_append]
  simp
/-- Names that fold alike are one name. -/
theorem dnL_about (s : List UInt8) : dnL (32 :: (s ++ [9, 32])) = dnL s := by unfold dnL; rw [foldL_about, badN_about]
theorem dnL_yes {s : List UInt8} (h : (dnL s).2 = true) : (dnL s).1 = foldL s ∧ dnL (foldL s) = (foldL s, true) := by
  unfold dnL at h ⊢
  split at h
  · exact absurd h (by simp)
  · rename_i h1
    rw [if_neg h1, foldL_twice]
    refine ⟨rfl, if_neg ?_⟩
    simp only [Bool.or_eq_true, not_or, Bool.not_eq_true] at h1 ⊢
    exact ⟨h1.1, badN_fold h1.2⟩
theorem dnL_no {s : List UInt8} (h : (dnL s).2 = false) : (dnL s).1 = [] := by
  unfold dnL at h ⊢
  split at h
  · rename_i h1; rw [if_pos h1]
  · exact absurd h (by simp)

end Go.Proofs.YtioolcnoiaoflaaDoor
