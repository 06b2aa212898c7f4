/-
  What was folded stays so; blanks around, and between, do not matter.
-/
import Derived.Test.YtioolcnoiaoflaaDoorRepairF
namespace Go.Proofs.YtioolcnoiaoflaaDoor
open Go.RowKit
set_option linter.unusedSimpArgs false
set_option linter.unusedVariables false

def smallN (n : Nat) : Nat := (smallI n).toNat
theorem smallI_N (n : Nat) : smallI n = (smallN n : Int) := by
  unfold smallN
  have : 0 ≤ smallI n := by
    unfold smallI; split <;> omega
  omega
theorem smallI_eq (r : Int) : (65 ≤ r ∧ r ≤ 90 ∧ smallI r = r + 32) ∨ (192 ≤ r ∧ r ≤ 222 ∧ r ≠ 215 ∧ smallI r = r + 32) ∨ (¬ (65 ≤ r ∧ r ≤ 90) ∧ ¬ (192 ≤ r ∧ r ≤ 222 ∧ r ≠ 215) ∧ smallI r = r) := by
  unfold smallI
  split
  · rename_i h
    simp [inB] at h
    omega
  · rename_i h
    simp [inB] at h
    omega
theorem smallI_of (r : Int) (h1 : ¬ (65 ≤ r ∧ r ≤ 90)) (h2 : ¬ (192 ≤ r ∧ r ≤ 222 ∧ r ≠ 215)) : smallI r = r := by
  rcases smallI_eq r with h | h | h
  · omega
  · omega
  · exact h.2.2
theorem smallI_twice (r : Int) : smallI (smallI r) = smallI r := by
  rcases smallI_eq r with ⟨a, b, e⟩ | ⟨a, b, c, e⟩ | ⟨a, b, e⟩
  · rw [e]; exact smallI_of _ (by omega) (by omega)
  · rw [e]; exact smallI_of _ (by omega) (by omega)
  · rw [e, e]
theorem spaceB_f (r : Int) (h : (14 ≤ r ∧ r ≠ 32 ∧ r ≠ 160 ∧ r < 5760)) : spaceB r = false := by
  simp [spaceB, inB]
  omega
theorem smallI_space (r : Int) (h : spaceB r = false) : spaceB (smallI r) = false := by
  rcases smallI_eq r with ⟨a, b, e⟩ | ⟨a, b, c, e⟩ | ⟨a, b, e⟩
  · rw [e]; exact spaceB_f _ (by omega)
  · rw [e]; exact spaceB_f _ (by omega)
  · rw [e]; exact h
theorem smallN_valid (n : Nat) (h : Utf8.valid n = true) : Utf8.valid (smallN n) = true := by
  have := of_valid n h
  have e := smallI_N n
  apply valid_of
  rcases smallI_eq n with ⟨a, b, c⟩ | ⟨a, b, _, c⟩ | ⟨a, b, c⟩ <;> omega

theorem enc_fresh (n : Nat) (hv : Utf8.valid n = true) (m : List UInt8) : fresh (Lib.encodeRune n ++ m) := by
  have hv' := of_valid n hv
  have no : ∀ x : Nat, x < 256 → x / 64 ≠ 2 → goesOn x.toUInt8 = false := by
    intro x h1 h2
    unfold goesOn
    rw [u8 x h1]
    simpa using h2
  by_cases h1 : n < 128
  · rw [enc1 n h1]; exact fresh_cons _ _ (no _ (by omega) (by omega))
  · by_cases h2 : n < 2048
    · rw [enc2 n (by omega) h2]; exact fresh_cons _ _ (no _ (by omega) (by omega))
    · by_cases h3 : n < 65536
      · rw [enc3 n (by omega)]; exact fresh_cons _ _ (no _ (by omega) (by omega))
      · rw [enc4 n (by omega) (by omega)]; exact fresh_cons _ _ (no _ (by omega) (by omega))
theorem foldS_fresh : ∀ cs : List (Nat × List UInt8), fresh (foldS cs true true)
  | [] => fresh_nil
  | c :: cs => by
    simp only [foldS]
    split
    · exact foldS_fresh cs
    · simp only [Bool.and_self, if_true, List.append_assoc, List.cons_append, List.nil_append]
      exact fresh_cons _ _ (by decide)

theorem stray_first (b : UInt8) (l : List UInt8) (h : stray ((dec (b :: l)).1, (b :: l).take (dec (b :: l)).2) = true) : dec (b :: l) = (65533, 1) := by
  have hw := dec_width b l
  simp only [stray, Bool.and_eq_true, beq_iff_eq, List.length_take, List.length_cons] at h
  exact Prod.ext h.1 (by show _ = 1; omega)
theorem stray_space (c : Nat × List UInt8) (h : stray c = true) : spaceB c.1 = false := by
  simp only [stray, Bool.and_eq_true, beq_iff_eq] at h
  rw [h.1]; decide +kernel

/-- What goes on at the beginning stays. -/
theorem run_fold : ∀ (n : Nat) (R : List UInt8), R.length ≤ n → run (foldS (segs R) false true) = run R
  | _, [], _ => rfl
  | n + 1, b :: l, hn => by
    simp only [List.length_cons] at hn
    by_cases hb : goesOn b = true
    · have hd := dec_goesOn b l hb
      have ih := run_fold n l (by omega)
      rw [segs_cons, hd]
      have hs : spaceB ((65533 : Nat) : Int) = false := by decide +kernel
      have hst : stray (65533, [b]) = true := by simp [stray]
      simp only [foldS, hs, chunkOut, hst, if_true, Bool.false_and, Bool.false_eq_true, if_false, List.nil_append, List.take_succ_cons, List.take_zero, List.drop_succ_cons, List.drop_zero, List.cons_append]
      unfold run at ih ⊢
      simp only [List.takeWhile_cons, hb, if_true, ih]
    · have hb' : goesOn b = false := by simpa using hb
      have e0 : run (b :: l) = [] := by simp [run, hb']
      rw [e0]
      apply run_fresh
      rw [segs_cons]
      simp only [foldS]
      split
      · exact foldS_fresh _
      · simp only [Bool.false_and, Bool.false_eq_true, if_false, List.nil_append, chunkOut]
        split
        · rename_i hst
          rw [stray_first b l hst]
          exact fresh_cons _ _ hb'
        · rw [smallI_N]
          exact enc_fresh _ (smallN_valid _ (dec_valid _)) _

def outC (c : Nat × List UInt8) : Nat × List UInt8 := if stray c then c else (smallN c.1, Lib.encodeRune (smallI c.1))
def foldC : List (Nat × List UInt8) → Bool → Bool → List (Nat × List UInt8)
  | [], _, _ => []
  | c :: cs, gap, any => if spaceB c.1 then foldC cs true any else (if gap && any then [(32, [32])] else []) ++ outC c :: foldC cs false true

theorem segs_blank (m : List UInt8) : segs (32 :: m) = (32, [32]) :: segs m := by
  have := segs_enc 32 (by decide) m
  rw [enc1 32 (by decide)] at this
  exact this

theorem segs_fold : ∀ (n : Nat) (R : List UInt8) (g a : Bool), R.length ≤ n → segs (foldS (segs R) g a) = foldC (segs R) g a
  | _, [], _, _, _ => rfl
  | n + 1, b :: l, g, a, hn => by
    have hw := dec_width b l
    simp only [List.length_cons] at hn
    have ih := fun g a => segs_fold n ((b :: l).drop (dec (b :: l)).2) g a (by rw [List.length_drop, List.length_cons]; omega)
    have hrun := run_fold n ((b :: l).drop (dec (b :: l)).2) (by rw [List.length_drop, List.length_cons]; omega)
    have key : stray ((dec (b :: l)).1, (b :: l).take (dec (b :: l)).2) = false ∨ (stray ((dec (b :: l)).1, (b :: l).take (dec (b :: l)).2) = true ∧ dec (b :: l) = (65533, 1)) := by
      cases h : stray ((dec (b :: l)).1, (b :: l).take (dec (b :: l)).2) with
      | false => exact Or.inl rfl
      | true => exact Or.inr ⟨rfl, stray_first b l h⟩
    rw [segs_cons]
    have step : ∀ X, X = foldS (segs ((b :: l).drop (dec (b :: l)).2)) false true → segs (chunkOut ((dec (b :: l)).1, (b :: l).take (dec (b :: l)).2) ++ X) = outC ((dec (b :: l)).1, (b :: l).take (dec (b :: l)).2) :: foldC (segs ((b :: l).drop (dec (b :: l)).2)) false true := by
      intro X hX
      rw [← ih, ← hX]
      rcases key with hst | ⟨hst, hd⟩
      · unfold chunkOut outC
        simp only [hst, Bool.false_eq_true, if_false]
        rw [smallI_N]
        exact segs_enc _ (smallN_valid _ (dec_valid _)) _
      · unfold chunkOut outC
        simp only [hst, if_true]
        rw [hd] at hX hrun ⊢
        simp only [List.take_succ_cons, List.take_zero, List.drop_succ_cons, List.drop_zero, List.cons_append, List.nil_append] at hX hrun ⊢
        have e : dec (b :: X) = (65533, 1) := by
          rw [dec_run, hX, hrun, ← dec_run]; exact hd
        rw [segs_cons, e]
        rfl
    simp only [foldS, foldC]
    split
    · exact ih _ _
    · rw [List.append_assoc]
      by_cases hga : (g && a) = true
      · simp only [hga, if_true, List.cons_append, List.nil_append]
        rw [segs_blank, step _ rfl]
      · have hga' : (g && a) = false := by simpa using hga
        simp only [hga', Bool.false_eq_true, if_false, List.nil_append]
        exact step _ rfl

theorem outC_space (c : Nat × List UInt8) (h : spaceB c.1 = false) : spaceB (outC c).1 = false := by
  unfold outC
  split
  · exact h
  · have := smallI_space c.1 h
    rw [smallI_N] at this
    exact this
theorem chunkOut_outC (c : Nat × List UInt8) : chunkOut (outC c) = chunkOut c := by
  by_cases h : stray c = true
  · unfold outC; rw [if_pos h]
  · have e : outC c = (smallN c.1, Lib.encodeRune (smallI c.1)) := by unfold outC; rw [if_neg h]
    have h2 : stray (outC c) = false := by
      rw [e]
      unfold stray
      simp only [smallI_N]
      by_cases h1 : smallN c.1 = 65533
      · rw [h1]; decide +kernel
      · have : (smallN c.1 == 65533) = false := by simpa using h1
        rw [this]; rfl
    unfold chunkOut
    rw [h2, if_neg h, if_neg (by simp), e]
    simp only
    rw [← smallI_N, smallI_twice]
theorem foldS_foldC : ∀ (cs : List (Nat × List UInt8)) (g a : Bool), foldS (foldC cs g a) false a = foldS cs g a
  | [], _, _ => rfl
  | c :: cs, g, a => by
    simp only [foldC, foldS]
    split
    · exact foldS_foldC cs true a
    · rename_i h
      have h' : spaceB (outC c).1 = false := outC_space c (by simpa using h)
      have hb : spaceB ((32 : Nat) : Int) = true := by decide +kernel
      by_cases hga : (g && a) = true
      · simp only [hga, if_true, List.cons_append, List.nil_append, foldS, hb, h', Bool.false_eq_true, if_false, chunkOut_outC, foldS_foldC]
        simp only [Bool.and_eq_true] at hga
        simp [hga.2]
      · have hga' : (g && a) = false := by simpa using hga
        simp only [hga', Bool.false_eq_true, if_false, List.nil_append, foldS, h', Bool.false_and, chunkOut_outC, foldS_foldC]
theorem foldL_twice (l : List UInt8) : foldL (foldL l) = foldL l := by
  unfold foldL
  rw [segs_fold l.length l _ _ (Nat.le_refl _), foldS_foldC]

/-! ### Blanks -/
theorem foldS_end : ∀ (cs sp : List (Nat × List UInt8)) (g a : Bool), (∀ c ∈ sp, spaceB c.1 = true) → foldS (cs ++ sp) g a = foldS cs g a
  | [], [], _, _, _ => rfl
  | [], c :: sp, g, a, h => by
    show foldS (c :: sp) g a = []
    simp only [foldS, h c (by simp), if_true]
    exact foldS_end [] sp true a (fun x hx => h x (by simp [hx]))
  | c :: cs, sp, g, a, h => by
    simp only [List.cons_append, foldS]
    split
    · exact foldS_end cs sp true a h
    · rw [foldS_end cs sp false true h]
theorem foldS_begin : ∀ (cs : List (Nat × List UInt8)) (g g' : Bool), foldS cs g false = foldS cs g' false
  | [], _, _ => rfl
  | c :: cs, g, g' => by
    simp only [foldS, Bool.and_false, Bool.false_eq_true, if_false]
theorem foldS_mid : ∀ (cs sp sp' ds : List (Nat × List UInt8)) (g a : Bool), sp ≠ [] → sp' ≠ [] → (∀ c ∈ sp, spaceB c.1 = true) → (∀ c ∈ sp', spaceB c.1 = true) → foldS (cs ++ (sp ++ ds)) g a = foldS (cs ++ (sp' ++ ds)) g a
  | [], sp, sp', ds, g, a, h1, h2, h3, h4 => by
    have all : ∀ (sp : List (Nat × List UInt8)) (g : Bool), sp ≠ [] → (∀ c ∈ sp, spaceB c.1 = true) → foldS (sp ++ ds) g a = foldS ds true a := by
      intro sp
      induction sp with
      | nil => intro g h; exact absurd rfl h
      | cons c sp ih =>
        intro g _ h
        simp only [List.cons_append, foldS, h c (by simp), if_true]
        by_cases hs : sp = []
        · subst hs; rfl
        · exact ih true hs (fun x hx => h x (by simp [hx]))
    show foldS (sp ++ ds) g a = foldS (sp' ++ ds) g a
    rw [all sp g h1 h3, all sp' g h2 h4]
  | c :: cs, sp, sp', ds, g, a, h1, h2, h3, h4 => by
    simp only [List.cons_append, foldS]
    rw [foldS_mid cs sp sp' ds true a h1 h2 h3 h4, foldS_mid cs sp sp' ds false true h1 h2 h3 h4]

theorem segs_ascii (b : UInt8) (l : List UInt8) (h : b.toNat < 128) : segs (b :: l) = (b.toNat, [b]) :: segs l := by
  rw [segs_cons, dec_ascii b l h]; rfl
theorem foldL_around (s : List UInt8) : foldL ([32, 9] ++ s ++ [10, 32]) = foldL s := by
  unfold foldL
  have hf : fresh ([10, 32] : List UInt8) := fresh_cons _ _ (by decide)
  rw [segs_app _ hf, foldS_end _ _ _ _ (by decide +kernel)]
  show foldS (segs (32 :: 9 :: s)) false false = _
  rw [segs_ascii 32 _ (by decide), segs_ascii 9 _ (by decide)]
  have h1 : spaceB (((32 : UInt8).toNat : Nat) : Int) = true := by decide +kernel
  have h2 : spaceB (((9 : UInt8).toNat : Nat) : Int) = true := by decide +kernel
  simp only [foldS, h1, h2, if_true]
  exact foldS_begin _ _ _
theorem foldL_between (s t : List UInt8) : foldL (s ++ [32] ++ t) = foldL (s ++ [32, 10, 9, 32] ++ t) := by
  unfold foldL
  have f1 : fresh ([32] ++ t) := fresh_cons _ _ (by decide)
  have f2 : fresh ([32, 10, 9, 32] ++ t) := fresh_cons _ _ (by decide)
  rw [List.append_assoc, List.append_assoc, segs_app _ f1, segs_app _ f2]
  have e1 : segs ([32] ++ t) = [(32, [32])] ++ segs t := by
    show segs (32 :: t) = _
    rw [segs_ascii 32 _ (by decide)]; rfl
  have e2 : segs ([32, 10, 9, 32] ++ t) = [(32, [32]), (10, [10]), (9, [9]), (32, [32])] ++ segs t := by
    show segs (32 :: 10 :: 9 :: 32 :: t) = _
    rw [segs_ascii 32 _ (by decide), segs_ascii 10 _ (by decide), segs_ascii 9 _ (by decide), segs_ascii 32 _ (by decide)]; rfl
  rw [e1, e2]
  exact foldS_mid _ _ _ _ _ _ (by simp) (by simp) (by decide +kernel) (by decide +kernel)

end Go.Proofs.YtioolcnoiaoflaaDoor
