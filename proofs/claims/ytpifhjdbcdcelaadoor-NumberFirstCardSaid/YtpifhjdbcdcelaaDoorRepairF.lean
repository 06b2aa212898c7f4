/-
  Fold over chunks: what was folded stays so; blanks around, and between, do not matter.
  What was folded stays so; blanks around, and between, do not matter.
  What Text and Fold hand back, as strings (of Text the walk: XRepairH).
-/
import Derived.Test.YtpifhjdbcdcelaaDoorRepairC
import Derived.Test.YtpifhjdbcdcelaaDoorRepairE
import Derived.Outline
namespace Go.Proofs.YtpifhjdbcdcelaaDoor
open Go.RowKit
set_option linter.unusedSimpArgs false
set_option linter.unusedVariables false

def stray (c : Nat × List UInt8) : Bool := c.1 == 65533 && c.2.length == 1
def chunkOut (c : Nat × List UInt8) : List UInt8 := if stray c then c.2 else Lib.encodeRune (smallI c.1)
def foldS : List (Nat × List UInt8) → Bool → Bool → List UInt8
  | [], _, _ => []
  | c :: cs, gap, any => if spaceB c.1 then foldS cs true any else ((if gap && any then [32] else []) ++ chunkOut c) ++ foldS cs false true

theorem dec_goesOn (b : UInt8) (l : List UInt8) (h : goesOn b = true) : dec (b :: l) = (65533, 1) := by
  have h' : b.toNat / 64 = 2 := by simpa [goesOn] using h
  unfold dec
  simp only [List.getD_cons_zero]
  rw [if_neg (by omega), if_neg (by simp; omega), if_neg (by simp; omega), if_neg (by simp; omega)]
theorem enc_fffd : Lib.encodeRune 65533 = [239, 191, 189] := by decide +kernel
theorem dec_fffd (m : List UInt8) : dec (239 :: 191 :: 189 :: m) = (65533, 3) := by
  have := dec_enc 65533 (by decide) m
  rw [show ((65533 : Nat) : Int) = 65533 from rfl, enc_fffd] at this
  exact this
theorem u8_eq (b : UInt8) (n : Nat) (h : b.toNat = n) : b = n.toUInt8 := by
  subst h; simp
theorem dec_stray (b : UInt8) (l : List UInt8) (hr : (dec (b :: l)).1 = 65533) : (!Lib.hasPrefix (b :: l) [239, 191, 189]) = ((dec (b :: l)).2 == 1) := by
  by_cases hp : Lib.hasPrefix (b :: l) [239, 191, 189] = true
  · rw [hp]
    have hp' : [239, 191, 189] <+: b :: l := by simpa [Lib.hasPrefix] using hp
    obtain ⟨m, hm⟩ := hp'
    rw [← hm]
    show _ = ((dec (239 :: 191 :: 189 :: m)).2 == 1)
    rw [dec_fffd]
    rfl
  · have hp2 : Lib.hasPrefix (b :: l) [239, 191, 189] = false := by simpa using hp
    rw [hp2]
    simp only [Bool.not_false]
    symm
    rw [beq_iff_eq]
    unfold dec at hr ⊢
    dsimp only at hr ⊢
    split at hr
    · dsimp only at hr; omega
    · rename_i h1
      rw [if_neg h1]
      split at hr
      · rename_i h2
        rw [if_pos h2]
        split at hr
        · dsimp only at hr; simp at h2; omega
        · rename_i h3; rw [if_neg h3]
      · rename_i h2
        rw [if_neg h2]
        split at hr
        · rename_i h3
          rw [if_pos h3]
          split at hr
          · exfalso
            apply hp
            dsimp only at hr
            rcases l with _ | ⟨x, _ | ⟨y, m⟩⟩
            · simp at h3
            · simp at h3
            · simp only [List.getD_cons_zero, List.getD_cons_succ] at h3 hr
              simp at h3
              have a1 := u8_eq b 239 (by omega)
              have a2 := u8_eq x 191 (by omega)
              have a3 := u8_eq y 189 (by omega)
              rw [a1, a2, a3]
              simp [Lib.hasPrefix]
          · rename_i h4; rw [if_neg h4]
        · rename_i h3
          rw [if_neg h3]
          split at hr
          · rename_i h4
            rw [if_pos h4]
            split at hr
            · rename_i h5; dsimp only at hr; simp only [Bool.and_eq_true, decide_eq_true_eq] at h5; omega
            · rename_i h5; rw [if_neg h5]
          · rename_i h4; rw [if_neg h4]

theorem foldFrom_segs (s : ByteArray) : ∀ (fuel pos : Nat) (g a : Bool), s.size ≤ pos + fuel → foldFrom s fuel pos g a = foldS (segs (s.data.toList.drop pos)) g a
  | 0, pos, g, a, h => by
    rw [List.drop_eq_nil_of_le (by simpa using h)]; rfl
  | f + 1, pos, g, a, h => by
    by_cases hp : pos < s.size
    · have hw := width_pos s pos hp
      have ih := fun g a => foldFrom_segs s f (pos + (Utf8.decode s pos).2) g a (by omega)
      obtain ⟨b, l, e⟩ := drop_cons s pos hp
      have ho : foldOne s pos = chunkOut ((Utf8.decode s pos).1, (b :: l).take (Utf8.decode s pos).2) := by
        have hw2 := dec_width b l
        have hd := decode_dec s pos
        rw [e] at hd
        have hlen : ((b :: l).take (Utf8.decode s pos).2).length = (Utf8.decode s pos).2 := by rw [List.length_take, List.length_cons, hd]; omega
        have hst : strayB s pos = stray ((Utf8.decode s pos).1, (b :: l).take (Utf8.decode s pos).2) := by
          unfold strayB stray
          rw [e, hlen]
          by_cases h1 : (Utf8.decode s pos).1 = 65533
          · have := dec_stray b l (by rw [← hd]; exact h1)
            rw [this, h1, hd]; rfl
          · have h2 : (((Utf8.decode s pos).1 : Int) == 65533) = false := by simp; omega
            have h3 : ((Utf8.decode s pos).1 == 65533) = false := by simpa using h1
            rw [h2, h3]; rfl
        unfold foldOne chunkOut
        rw [← hst]
        by_cases h1 : strayB s pos = true
        · rw [if_pos h1, if_pos h1]
          rw [hst] at h1
          simp only [stray, hlen] at h1
          simp at h1
          rw [h1.2, getD_byte s pos hp]
          have : pos < s.data.toList.length := by simpa using hp
          have e2 := List.drop_eq_getElem_cons this
          rw [e] at e2
          injection e2 with e3 _
          simp only [List.take_succ_cons, List.take_zero]
          rw [e3]; rfl
        · rw [if_neg h1, if_neg h1]
      have hsg : segs (s.data.toList.drop pos) = ((Utf8.decode s pos).1, (b :: l).take (Utf8.decode s pos).2) :: segs (s.data.toList.drop (pos + (Utf8.decode s pos).2)) := by
        rw [e, segs_cons, ← e, ← decode_dec, List.drop_drop]
      rw [hsg]
      simp only [foldFrom, if_pos hp, foldS, ho, ih]
    · rw [foldFrom_end s _ _ _ _ hp, List.drop_eq_nil_of_le (by simpa using hp)]; rfl
def foldL (l : List UInt8) : List UInt8 := foldS (segs l) false false
theorem foldB_segs (s : ByteArray) : foldB s = foldL s.data.toList := by
  unfold foldB foldL
  rw [foldFrom_segs s _ _ _ _ (by omega)]
  rfl

end Go.Proofs.YtpifhjdbcdcelaaDoor

namespace Go.Proofs.YtpifhjdbcdcelaaDoor
open Go.RowKit
set_option linter.unusedSimpArgs false
set_option linter.unusedVariables false

def smallN (n : Nat) : Nat := (smallI n).toNat
theorem smallI_N (n : Nat) : smallI n = (smallN n : Int) := by
  unfold smallN
  have : 0 ≤ smallI n := by
    unfold smallI; split <;> omega
  omega
theorem smallI_eq (r : Int) : (65 ≤ r ∧ r ≤ 90 ∧ smallI r = r + 32) ∨ (192 ≤ r ∧ r ≤ 222 ∧ r ≠ 215 ∧ smallI r = r + 32) ∨ (¬ (65 ≤ r ∧ r ≤ 90) ∧ ¬ (192 ≤ r ∧ r ≤ 222 ∧ r ≠ 215) ∧ smallI r = r) := by
  unfold smallI
  split
  · rename_i h
    simp [inB] at h
    omega
  · rename_i h
    simp [inB] at h
    omega
theorem smallI_of (r : Int) (h1 : ¬ (65 ≤ r ∧ r ≤ 90)) (h2 : ¬ (192 ≤ r ∧ r ≤ 222 ∧ r ≠ 215)) : smallI r = r := by
  rcases smallI_eq r with h | h | h
  · omega
  · omega
  · exact h.2.2
theorem smallI_twice (r : Int) : smallI (smallI r) = smallI r := by
  rcases smallI_eq r with ⟨a, b, e⟩ | ⟨a, b, c, e⟩ | ⟨a, b, e⟩
  · rw [e]; exact smallI_of _ (by omega) (by omega)
  · rw [e]; exact smallI_of _ (by omega) (by omega)
  · rw [e, e]
theorem spaceB_f (r : Int) (h : (14 ≤ r ∧ r ≠ 32 ∧ r ≠ 160 ∧ r < 5760)) : spaceB r = false := by
  simp [spaceB, inB]
  omega
theorem smallI_space (r : Int) (h : spaceB r = false) : spaceB (smallI r) = false := by
  rcases smallI_eq r with ⟨a, b, e⟩ | ⟨a, b, c, e⟩ | ⟨a, b, e⟩
  · rw [e]; exact spaceB_f _ (by omega)
  · rw [e]; exact spaceB_f _ (by omega)
  · rw [e]; exact h
theorem smallN_valid (n : Nat) (h : Utf8.valid n = true) : Utf8.valid (smallN n) = true := by
  have := of_valid n h
  have e := smallI_N n
  apply valid_of
  rcases smallI_eq n with ⟨a, b, c⟩ | ⟨a, b, _, c⟩ | ⟨a, b, c⟩ <;> omega

theorem enc_fresh (n : Nat) (hv : Utf8.valid n = true) (m : List UInt8) : fresh (Lib.encodeRune n ++ m) := by
  have hv' := of_valid n hv
  have no : ∀ x : Nat, x < 256 → x / 64 ≠ 2 → goesOn x.toUInt8 = false := by
    intro x h1 h2
    unfold goesOn
    rw [u8 x h1]
    simpa using h2
  by_cases h1 : n < 128
  · rw [enc1 n h1]; exact fresh_cons _ _ (no _ (by omega) (by omega))
  · by_cases h2 : n < 2048
    · rw [enc2 n (by omega) h2]; exact fresh_cons _ _ (no _ (by omega) (by omega))
    · by_cases h3 : n < 65536
      · rw [enc3 n (by omega)]; exact fresh_cons _ _ (no _ (by omega) (by omega))
      · rw [enc4 n (by omega) (by omega)]; exact fresh_cons _ _ (no _ (by omega) (by omega))
theorem foldS_fresh : ∀ cs : List (Nat × List UInt8), fresh (foldS cs true true)
  | [] => fresh_nil
  | c :: cs => by
    simp only [foldS]
    split
    · exact foldS_fresh cs
    · simp only [Bool.and_self, if_true, List.append_assoc, List.cons_append, List.nil_append]
      exact fresh_cons _ _ (by decide)

theorem stray_first (b : UInt8) (l : List UInt8) (h : stray ((dec (b :: l)).1, (b :: l).take (dec (b :: l)).2) = true) : dec (b :: l) = (65533, 1) := by
  have hw := dec_width b l
  simp only [stray, Bool.and_eq_true, beq_iff_eq, List.length_take, List.length_cons] at h
  exact Prod.ext h.1 (by show _ = 1; omega)
theorem stray_space (c : Nat × List UInt8) (h : stray c = true) : spaceB c.1 = false := by
  simp only [stray, Bool.and_eq_true, beq_iff_eq] at h
  rw [h.1]; decide +kernel

/-- What goes on at the beginning stays. -/
theorem run_fold : ∀ (n : Nat) (R : List UInt8), R.length ≤ n → run (foldS (segs R) false true) = run R
  | _, [], _ => rfl
  | n + 1, b :: l, hn => by
    simp only [List.length_cons] at hn
    by_cases hb : goesOn b = true
    · have hd := dec_goesOn b l hb
      have ih := run_fold n l (by omega)
      rw [segs_cons, hd]
      have hs : spaceB ((65533 : Nat) : Int) = false := by decide +kernel
      have hst : stray (65533, [b]) = true := by simp [stray]
      simp only [foldS, hs, chunkOut, hst, if_true, Bool.false_and, Bool.false_eq_true, if_false, List.nil_append, List.take_succ_cons, List.take_zero, List.drop_succ_cons, List.drop_zero, List.cons_append]
      unfold run at ih ⊢
      simp only [List.takeWhile_cons, hb, if_true, ih]
    · have hb' : goesOn b = false := by simpa using hb
      have e0 : run (b :: l) = [] := by simp [run, hb']
      rw [e0]
      apply run_fresh
      rw [segs_cons]
      simp only [foldS]
      split
      · exact foldS_fresh _
      · simp only [Bool.false_and, Bool.false_eq_true, if_false, List.nil_append, chunkOut]
        split
        · rename_i hst
          rw [stray_first b l hst]
          exact fresh_cons _ _ hb'
        · rw [smallI_N]
          exact enc_fresh _ (smallN_valid _ (dec_valid _)) _

def outC (c : Nat × List UInt8) : Nat × List UInt8 := if stray c then c else (smallN c.1, Lib.encodeRune (smallI c.1))
def foldC : List (Nat × List UInt8) → Bool → Bool → List (Nat × List UInt8)
  | [], _, _ => []
  | c :: cs, gap, any => if spaceB c.1 then foldC cs true any else (if gap && any then [(32, [32])] else []) ++ outC c :: foldC cs false true

theorem segs_blank (m : List UInt8) : segs (32 :: m) = (32, [32]) :: segs m := by
  have := segs_enc 32 (by decide) m
  rw [enc1 32 (by decide)] at this
  exact this

theorem segs_fold : ∀ (n : Nat) (R : List UInt8) (g a : Bool), R.length ≤ n → segs (foldS (segs R) g a) = foldC (segs R) g a
  | _, [], _, _, _ => rfl
  | n + 1, b :: l, g, a, hn => by
    have hw := dec_width b l
    simp only [List.length_cons] at hn
    have ih := fun g a => segs_fold n ((b :: l).drop (dec (b :: l)).2) g a (by rw [List.length_drop, List.length_cons]; omega)
    have hrun := run_fold n ((b :: l).drop (dec (b :: l)).2) (by rw [List.length_drop, List.length_cons]; omega)
    have key : stray ((dec (b :: l)).1, (b :: l).take (dec (b :: l)).2) = false ∨ (stray ((dec (b :: l)).1, (b :: l).take (dec (b :: l)).2) = true ∧ dec (b :: l) = (65533, 1)) := by
      cases h : stray ((dec (b :: l)).1, (b :: l).take (dec (b :: l)).2) with
      | false => exact Or.inl rfl
      | true => exact Or.inr ⟨rfl, stray_first b l h⟩
    rw [segs_cons]
    have step : ∀ X, X = foldS (segs ((b :: l).drop (dec (b :: l)).2)) false true → segs (chunkOut ((dec (b :: l)).1, (b :: l).take (dec (b :: l)).2) ++ X) = outC ((dec (b :: l)).1, (b :: l).take (dec (b :: l)).2) :: foldC (segs ((b :: l).drop (dec (b :: l)).2)) false true := by
      intro X hX
      rw [← ih, ← hX]
      rcases key with hst | ⟨hst, hd⟩
      · unfold chunkOut outC
        simp only [hst, Bool.false_eq_true, if_false]
        rw [smallI_N]
        exact segs_enc _ (smallN_valid _ (dec_valid _)) _
      · unfold chunkOut outC
        simp only [hst, if_true]
        rw [hd] at hX hrun ⊢
        simp only [List.take_succ_cons, List.take_zero, List.drop_succ_cons, List.drop_zero, List.cons_append, List.nil_append] at hX hrun ⊢
        have e : dec (b :: X) = (65533, 1) := by
          rw [dec_run, hX, hrun, ← dec_run]; exact hd
        rw [segs_cons, e]
        rfl
    simp only [foldS, foldC]
    split
    · exact ih _ _
    · rw [List.append_assoc]
      by_cases hga : (g && a) = true
      · simp only [hga, if_true, List.cons_append, List.nil_append]
        rw [segs_blank, step _ rfl]
      · have hga' : (g && a) = false := by simpa using hga
        simp only [hga', Bool.false_eq_true, if_false, List.nil_append]
        exact step _ rfl

theorem outC_space (c : Nat × List UInt8) (h : spaceB c.1 = false) : spaceB (outC c).1 = false := by
  unfold outC
  split
  · exact h
  · have := smallI_space c.1 h
    rw [smallI_N] at this
    exact this
theorem chunkOut_outC (c : Nat × List UInt8) : chunkOut (outC c) = chunkOut c := by
  by_cases h : stray c = true
  · unfold outC; rw [if_pos h]
  · have e : outC c = (smallN c.1, Lib.encodeRune (smallI c.1)) := by unfold outC; rw [if_neg h]
    have h2 : stray (outC c) = false := by
      rw [e]
      unfold stray
      simp only [smallI_N]
      by_cases h1 : smallN c.1 = 65533
      · rw [h1]; decide +kernel
      · have : (smallN c.1 == 65533) = false := by simpa using h1
        rw [this]; rfl
    unfold chunkOut
    rw [h2, if_neg h, if_neg (by simp), e]
    simp only
    rw [← smallI_N, smallI_twice]
theorem foldS_foldC : ∀ (cs : List (Nat × List UInt8)) (g a : Bool), foldS (foldC cs g a) false a = foldS cs g a
  | [], _, _ => rfl
  | c :: cs, g, a => by
    simp only [foldC, foldS]
    split
    · exact foldS_foldC cs true a
    · rename_i h
      have h' : spaceB (outC c).1 = false := outC_space c (by simpa using h)
      have hb : spaceB ((32 : Nat) : Int) = true := by decide +kernel
      by_cases hga : (g && a) = true
      · simp only [hga, if_true, List.cons_append, List.nil_append, foldS, hb, h', Bool.false_eq_true, if_false, chunkOut_outC, foldS_foldC]
        simp only [Bool.and_eq_true] at hga
        simp [hga.2]
      · have hga' : (g && a) = false := by simpa using hga
        simp only [hga', Bool.false_eq_true, if_false, List.nil_append, foldS, h', Bool.false_and, chunkOut_outC, foldS_foldC]
theorem foldL_twice (l : List UInt8) : foldL (foldL l) = foldL l := by
  unfold foldL
  rw [segs_fold l.length l _ _ (Nat.le_refl _), foldS_foldC]

/-! ### Blanks -/
theorem foldS_end : ∀ (cs sp : List (Nat × List UInt8)) (g a : Bool), (∀ c ∈ sp, spaceB c.1 = true) → foldS (cs ++ sp) g a = foldS cs g a
  | [], [], _, _, _ => rfl
  | [], c :: sp, g, a, h => by
    show foldS (c :: sp) g a = []
    simp only [foldS, h c (by simp), if_true]
    exact foldS_end [] sp true a (fun x hx => h x (by simp [hx]))
  | c :: cs, sp, g, a, h => by
    simp only [List.cons_append, foldS]
    split
    · exact foldS_end cs sp true a h
    · rw [foldS_end cs sp false true h]
theorem foldS_begin : ∀ (cs : List (Nat × List UInt8)) (g g' : Bool), foldS cs g false = foldS cs g' false
  | [], _, _ => rfl
  | c :: cs, g, g' => by
    simp only [foldS, Bool.and_false, Bool.false_eq_true, if_false]
theorem foldS_mid : ∀ (cs sp sp' ds : List (Nat × List UInt8)) (g a : Bool), sp ≠ [] → sp' ≠ [] → (∀ c ∈ sp, spaceB c.1 = true) → (∀ c ∈ sp', spaceB c.1 = true) → foldS (cs ++ (sp ++ ds)) g a = foldS (cs ++ (sp' ++ ds)) g a
  | [], sp, sp', ds, g, a, h1, h2, h3, h4 => by
    have all : ∀ (sp : List (Nat × List UInt8)) (g : Bool), sp ≠ [] → (∀ c ∈ sp, spaceB c.1 = true) → foldS (sp ++ ds) g a = foldS ds true a := by
      intro sp
      induction sp with
      | nil => intro g h; exact absurd rfl h
      | cons c sp ih =>
        intro g _ h
        simp only [List.cons_append, foldS, h c (by simp), if_true]
        by_cases hs : sp = []
        · subst hs; rfl
        · exact ih true hs (fun x hx => h x (by simp [hx]))
    show foldS (sp ++ ds) g a = foldS (sp' ++ ds) g a
    rw [all sp g h1 h3, all sp' g h2 h4]
  | c :: cs, sp, sp', ds, g, a, h1, h2, h3, h4 => by
    simp only [List.cons_append, foldS]
    rw [foldS_mid cs sp sp' ds true a h1 h2 h3 h4, foldS_mid cs sp sp' ds false true h1 h2 h3 h4]

theorem segs_ascii (b : UInt8) (l : List UInt8) (h : b.toNat < 128) : segs (b :: l) = (b.toNat, [b]) :: segs l := by
  rw [segs_cons, dec_ascii b l h]; rfl
theorem foldL_around (s : List UInt8) : foldL ([32, 9] ++ s ++ [10, 32]) = foldL s := by
  unfold foldL
  have hf : fresh ([10, 32] : List UInt8) := fresh_cons _ _ (by decide)
  rw [segs_app _ hf, foldS_end _ _ _ _ (by decide +kernel)]
  show foldS (segs (32 :: 9 :: s)) false false = _
  rw [segs_ascii 32 _ (by decide), segs_ascii 9 _ (by decide)]
  have h1 : spaceB (((32 : UInt8).toNat : Nat) : Int) = true := by decide +kernel
  have h2 : spaceB (((9 : UInt8).toNat : Nat) : Int) = true := by decide +kernel
  simp only [foldS, h1, h2, if_true]
  exact foldS_begin _ _ _
theorem foldL_between (s t : List UInt8) : foldL (s ++ [32] ++ t) = foldL (s ++ [32, 10, 9, 32] ++ t) := by
  unfold foldL
  have f1 : fresh ([32] ++ t) := fresh_cons _ _ (by decide)
  have f2 : fresh ([32, 10, 9, 32] ++ t) := fresh_cons _ _ (by decide)
  rw [List.append_assoc, List.append_assoc, segs_app _ f1, segs_app _ f2]
  have e1 : segs ([32] ++ t) = [(32, [32])] ++ segs t := by
    show segs (32 :: t) = _
    rw [segs_ascii 32 _ (by decide)]; rfl
  have e2 : segs ([32, 10, 9, 32] ++ t) = [(32, [32]), (10, [10]), (9, [9]), (32, [32])] ++ segs t := by
    show segs (32 :: 10 :: 9 :: 32 :: t) = _
    rw [segs_ascii 32 _ (by decide), segs_ascii 10 _ (by decide), segs_ascii 9 _ (by decide), segs_ascii 32 _ (by decide)]; rfl
  rw [e1, e2]
  exact foldS_mid _ _ _ _ _ _ (by simp) (by simp) (by decide +kernel) (by decide +kernel)

end Go.Proofs.YtpifhjdbcdcelaaDoor

namespace Go.Proofs.YtpifhjdbcdcelaaDoor
open Go.RowKit
set_option linter.unusedSimpArgs false
set_option linter.unusedVariables false

theorem chunkOut_len (c : Nat × List UInt8) : (chunkOut c).length ≤ 4 := by
  unfold chunkOut
  split
  · rename_i h
    simp [stray] at h
    omega
  · have := Lib.encodeRuneZ_length (smallI c.1)
    simp [Lib.encodeRune]; omega
theorem foldS_len : ∀ (cs : List (Nat × List UInt8)) (g a : Bool), (foldS cs g a).length ≤ 5 * cs.length
  | [], _, _ => by simp [foldS]
  | c :: cs, g, a => by
    have h1 := chunkOut_len c
    have h2 := foldS_len cs true a
    have h3 := foldS_len cs false true
    simp only [foldS, List.length_cons]
    split
    · omega
    · simp only [List.length_append]
      split <;> simp <;> omega
theorem foldL_len (l : List UInt8) : (foldL l).length ≤ 5 * l.length := by
  have h1 := foldS_len (segs l) false false
  have h2 := segs_len l.length l (Nat.le_refl _)
  unfold foldL
  omega

/-- What Text, and Fold, hand back, as strings. -/
def textOf (s : ByteArray) : ByteArray := ⟨(textL s.data.toList).toArray⟩
def foldOf (s : ByteArray) : ByteArray := ⟨(foldL s.data.toList).toArray⟩
theorem fold_of (s : ByteArray) (w : World) (hs : s.size ≤ 17592186044416) :
    Calls Tryd.prog 23 #[.string s] w fun e w' => e = .returned (.string (foldOf s)) ∧ Below w.heap.size w w' := by
  have := fold_any s w hs
  rw [foldB_segs] at this
  exact this
def FoldIs (s r : ByteArray) : Prop := ∀ w1 : World, Calls Tryd.prog 23 #[.string s] w1 fun e w' => e = .returned (.string r) ∧ Below w1.heap.size w1 w'
theorem foldIs (s : ByteArray) (hs : s.size ≤ 17592186044416) : FoldIs s (foldOf s) := fun w1 => fold_of s w1 hs
theorem size_list (s : ByteArray) : s.data.toList.length = s.size := by simp
theorem textOf_size (s : ByteArray) : (textOf s).size ≤ 4 * s.size := by
  have := textL_len s.data.toList
  rw [size_list] at this
  show (textL s.data.toList).toArray.size ≤ _
  simpa using this
theorem foldOf_size (s : ByteArray) : (foldOf s).size ≤ 5 * s.size := by
  have := foldL_len s.data.toList
  rw [size_list] at this
  show (foldL s.data.toList).toArray.size ≤ _
  simpa using this
theorem textOf_twice (s : ByteArray) : textOf (textOf s) = textOf s := by
  unfold textOf
  simp only [textL_twice]
theorem foldOf_twice (s : ByteArray) : foldOf (foldOf s) = foldOf s := by
  unfold foldOf
  simp only [foldL_twice]
theorem textOf_byte (s : ByteArray) (k : Nat) (h : k < (textOf s).size) : (textOf s)[k].toNat ≠ 0 ∧ (textOf s)[k].toNat ≠ 13 := by
  have hm : (textOf s)[k] ∈ textL s.data.toList := by
    have h' : k < (textL s.data.toList).length := by
      have : (textOf s).size = (textL s.data.toList).length := by show (textL s.data.toList).toArray.size = _; simp
      omega
    exact List.getElem_mem (l := textL s.data.toList) h'
  have := textL_bytes _ _ hm
  exact ⟨fun e => this.1 (UInt8.toNat.inj e), fun e => this.2 (UInt8.toNat.inj e)⟩

theorem encode_eq (n : Nat) (h : Utf8.valid n = true) : Utf8.encode n = ⟨(Lib.encodeRune n).toArray⟩ := by
  have hv := of_valid n h
  unfold Utf8.encode
  simp only [h, if_true, Int.toNat_natCast]
  by_cases h1 : n < 128
  · rw [if_pos (by omega), enc1 n h1]
  · by_cases h2 : n < 2048
    · rw [if_neg (by omega), if_pos (by omega), enc2 n (by omega) h2]
    · by_cases h3 : n < 65536
      · rw [if_neg (by omega), if_neg (by omega), if_pos (by omega), enc3 n (by omega)]
      · rw [if_neg (by omega), if_neg (by omega), if_neg (by omega), enc4 n (by omega) (by omega)]
theorem encode_size (r : Int) : (Utf8.encode r).size ≤ 4 := by
  unfold Utf8.encode
  dsimp only
  generalize (if Utf8.valid r = true then r.toNat else Utf8.runeError) = c
  split
  · exact (by decide : (1 : Nat) ≤ 4)
  · split
    · exact (by decide : (2 : Nat) ≤ 4)
    · split
      · exact (by decide : (3 : Nat) ≤ 4)
      · exact (by decide : (4 : Nat) ≤ 4)


end Go.Proofs.YtpifhjdbcdcelaaDoor
