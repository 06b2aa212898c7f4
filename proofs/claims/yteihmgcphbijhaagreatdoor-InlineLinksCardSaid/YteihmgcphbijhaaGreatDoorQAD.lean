/- Texts joined: InY Owb Flt Iln EmR EmA EmB EmC. -/
import Derived.Test.YteihmgcphbijhaaGreatDoorQAC
import Derived.Test.YteihmgcphbijhaaGreatDoorQAA
import Derived.Deep.RegionHeld3
import Derived.Lib.SliceRun
namespace Go.Proofs.YteihmgcphbijhaaGreatDoor
open Go.RowKit
set_option linter.unusedSimpArgs false
set_option linter.unusedVariables false
theorem low_range {b : UInt8} (h : lowB b = true) : 97 ≤ (b.toNat : Int) ∧ (b.toNat : Int) ≤ 122 := by
  unfold lowB at h; rw [inR_iff] at h; exact h
theorem flag_left (p y : Int) (h1 : 97 ≤ y) (h2 : y ≤ 122) : leftB p y = true := by
  unfold leftB
  rw [small_space y h1 h2, small_punct y h1 h2]
  rfl
theorem flag_shut (x : Int) (h1 : 97 ≤ x) (h2 : x ≤ 122) : leftB x 91 = false ∧ leftB x 93 = false ∧ leftB x 10 = false := by
  unfold leftB
  rw [small_space x h1 h2, small_punct x h1 h2]
  decide +kernel
theorem opens_star (x y : Int) : opensB 42 x y = leftB x y := by unfold opensB; rw [if_pos rfl]
/-- Stars at the beginning stand ahead of a letter, those at the end behind one. -/
structure StarsOk (s : List UInt8) : Prop where
  al : ∀ b ∈ s, alB b = true
  first : s.headD 0 = 42 → lowB (s.getD (rowL s) 0) = true
  last : ∀ i, i < s.length → (∀ j, i ≤ j → j < s.length → s.getD j 0 = 42) → (i = 0 ∨ s.getD (i - 1) 0 ≠ 42) → 0 < i ∧ lowB (s.getD (i - 1) 0) = true
theorem getD_drop2 (l : List UInt8) (i j : Nat) : (l.drop i).getD j 0 = l.getD (i + j) 0 := getD_drop l i j
theorem row_stars (u : List UInt8) (hu : u.headD 0 = 42) (hne : u ≠ []) : ∀ j, j < rowL u → u.getD j 0 = 42 := by
  obtain ⟨c, t, rfl⟩ : ∃ c t, u = c :: t := by cases u with | nil => exact absurd rfl hne | cons c t => exact ⟨c, t, rfl⟩
  simp at hu
  subst hu
  intro j hj
  unfold rowL pastL at hj
  simp only [List.headD_cons, List.drop_succ_cons, List.drop_zero] at hj
  cases j with
  | zero => rfl
  | succ j =>
    rw [List.getD_cons_succ]
    have hlt : j < (t.takeWhile fun b => b == 42).length := by omega
    have e : t = (t.takeWhile fun b => b == 42) ++ t.dropWhile fun b => b == 42 := (List.takeWhile_append_dropWhile ..).symm
    have : t.getD j 0 = (t.takeWhile fun b => b == 42)[j] := by
      rw [List.getD_eq_getElem?_getD]
      conv => lhs; rw [e]
      rw [List.getElem?_append_left hlt, List.getElem?_eq_getElem hlt]
      rfl
    rw [this]
    have := takeWhile_all (fun b => b == (42 : UInt8)) t _ (List.getElem_mem hlt)
    simpa using this
/-- The two ways of reading: by itself, and between brackets. -/
theorem links_sim (D : List Dfn) (img : Bool) (s z : List UInt8) (hs : StarsOk s) (hz : Shut z) (hza : ∀ b ∈ z, b.toNat < 128 ∧ b.toNat ≠ 0) (L : List Ent) : ∀ (n i : Nat) (A : List Itm), s.length - i ≤ n → i ≤ s.length → (i = 0 ∨ s.getD (i - 1) 0 ≠ 42 ∨ ∀ b ∈ (s.drop i).head?, b ≠ 42) →
    ∃ F : List Itm, inlFrom rawE D s i (A.map Ent.it) = F.map Ent.it ∧ inlFrom rawE D (markOf img ++ (s ++ z)) ((markOf img).length + i) (A.map Ent.it ++ L) = inlFrom rawE D (markOf img ++ (s ++ z)) ((markOf img).length + s.length) (F.map Ent.it ++ L)
  | 0, i, A, hn, hi, _ => by
    have : i = s.length := by omega
    subst this
    exact ⟨A, inlFrom_end _ _ _ _ _ (Nat.le_refl _), rfl⟩
  | n + 1, i, A, hn, hi, hb => by
    by_cases hlt : i < s.length
    · have hune : s.drop i ≠ [] := by intro e; have := congrArg List.length e; simp at this; omega
      have hual : ∀ b ∈ s.drop i, alB b = true := fun b h => hs.al b (List.mem_of_mem_drop h)
      have hloc := next_local hz (s.drop i) hune hual
      have hal := next_al (s.drop i) hune hual
      have hlen := next_len (s.drop i) hune
      rw [List.length_drop] at hlen
      generalize hP : markOf img = P
      have hPl : 0 < P.length := by rw [← hP]; cases img <;> simp [markOf]
      have hPlast : P.getD (P.length - 1) 0 = 91 := by rw [← hP]; cases img <;> rfl
      have hPa : ∀ b ∈ P, b.toNat < 128 ∧ b.toNat ≠ 0 := by rw [← hP]; cases img <;> decide
      have hSd : (P ++ (s ++ z)).drop (P.length + i) = s.drop i ++ z := by
        rw [← List.drop_drop, List.drop_left' rfl, List.drop_append_of_le_length hi]
      generalize ht : nextL (s.drop i) = tk at hloc hal hlen
      obtain ⟨t, k⟩ := tk
      simp only at hal hlen
      have e1 := inlFrom_tok rawE D s i (A.map Ent.it) hlt ht
      have e2 := inlFrom_tok rawE D (P ++ (s ++ z)) (P.length + i) (A.map Ent.it ++ L) (by simp; omega) (t := t) (n := k) (by rw [hSd]; exact hloc)
      have hnext : (s.getD (i + k - 1) 0 ≠ 42 ∨ ∀ b ∈ (s.drop (i + k)).head?, b ≠ 42) := by
        have := hal.2
        rw [getD_drop2, List.drop_drop, show i + (k - 1) = i + k - 1 from by omega] at this
        exact this
      have main : ∃ x : Itm, stepI rawE D s i (i + k) t (A.map Ent.it) = ((x :: A).map Ent.it, 0) ∧ stepI rawE D (P ++ (s ++ z)) (P.length + i) (P.length + i + k) t (A.map Ent.it ++ L) = ((x :: A).map Ent.it ++ L, 0) := by
        rcases hal.1 with ⟨w, rfl⟩ | ⟨c, rfl⟩ | ⟨hrun, hstar, hkrow⟩
        · exact ⟨ndI [wordsI 0 w], rfl, rfl⟩
        · exact ⟨ndI [⟨2, 0, rawE.code c, [], []⟩], rfl, rfl⟩
        · subst hrun
          have hstars : ∀ j, i ≤ j → j < i + k → s.getD j 0 = 42 := fun j h1 h2 => by
            have := row_stars (s.drop i) hstar hune (j - i) (by omega)
            rw [getD_drop2, show i + (j - i) = j from by omega] at this
            exact this
          have hsa : ∀ b ∈ s, b.toNat < 128 ∧ b.toNat ≠ 0 := fun b h => by
            rcases alB_is (hs.al b h) with h | rfl | rfl | rfl
            · have := low_range h; omega
            · decide
            · decide
            · decide
          have hSa : ∀ b ∈ P ++ (s ++ z), b.toNat < 128 ∧ b.toNat ≠ 0 := fun b h => by
            rcases List.mem_append.1 h with h | h
            · exact hPa b h
            · rcases List.mem_append.1 h with h | h
              · exact hsa b h
              · exact hza b h
          have hSlen : (P ++ (s ++ z)).length = P.length + s.length + z.length := by simp; omega
          have hgetP : ∀ j, j < P.length → (P ++ (s ++ z)).getD j 0 = P.getD j 0 := fun j hj => by
            rw [List.getD_eq_getElem?_getD, List.getElem?_append_left hj, List.getD_eq_getElem?_getD]
          have hgetS : ∀ j, j < s.length → (P ++ (s ++ z)).getD (P.length + j) 0 = s.getD j 0 := fun j hj => by
            rw [List.getD_eq_getElem?_getD, List.getElem?_append_right (by omega), show P.length + j - P.length = j from by omega, List.getElem?_append_left hj, List.getD_eq_getElem?_getD]
          have hgetZ : (P ++ (s ++ z)).getD (P.length + s.length) 0 = 93 := by
            obtain ⟨r, rfl, _⟩ := hz
            rw [List.getD_eq_getElem?_getD, List.getElem?_append_right (by omega), show P.length + s.length - P.length = s.length from by omega, List.getElem?_append_right (Nat.le_refl _)]
            simp
          have hzl : 0 < z.length := by obtain ⟨r, rfl, _⟩ := hz; simp
          have a1 := around_ascii s hsa i hi
          have a2 := around_ascii s hsa (i + k) (by omega)
          have b1 := around_ascii (P ++ (s ++ z)) hSa (P.length + i) (by omega)
          have b2 := around_ascii (P ++ (s ++ z)) hSa (P.length + i + k) (by omega)
          have hA : aroundB ⟨s.toArray⟩ i ((i + k : Nat) : Int) = (befL s i, aftL s (i + k)) := by unfold aroundB; rw [a1, a2]
          have hB : aroundB ⟨(P ++ (s ++ z)).toArray⟩ ((P.length + i : Nat) : Int) ((P.length + i + k : Nat) : Int) = (befL (P ++ (s ++ z)) (P.length + i), aftL (P ++ (s ++ z)) (P.length + i + k)) := by unfold aroundB; rw [b1, b2]
          have hbef : befL (P ++ (s ++ z)) (P.length + i) = if i = 0 then 91 else befL s i := by
            unfold befL
            rw [if_neg (by omega)]
            by_cases h0 : i = 0
            · subst h0
              rw [if_pos rfl, show P.length + 0 - 1 = P.length - 1 from by omega, hgetP _ (by omega), hPlast]
              rfl
            · rw [if_neg h0, if_neg h0, show P.length + i - 1 = P.length + (i - 1) from by omega, hgetS _ (by omega)]
          have haft : aftL (P ++ (s ++ z)) (P.length + i + k) = if i + k = s.length then 93 else aftL s (i + k) := by
            unfold aftL
            rw [if_pos (by omega)]
            by_cases h0 : i + k = s.length
            · rw [if_pos h0, show P.length + i + k = P.length + s.length from by omega, hgetZ]
              rfl
            · rw [if_neg h0, if_pos (by omega), show P.length + i + k = P.length + (i + k) from by omega, hgetS _ (by omega)]
          have hflag : opensB 42 (befL s i) (aftL s (i + k)) = opensB 42 (befL (P ++ (s ++ z)) (P.length + i)) (aftL (P ++ (s ++ z)) (P.length + i + k)) ∧ opensB 42 (aftL s (i + k)) (befL s i) = opensB 42 (aftL (P ++ (s ++ z)) (P.length + i + k)) (befL (P ++ (s ++ z)) (P.length + i)) := by
            rw [hbef, haft]
            simp only [opens_star]
            by_cases h0 : i = 0
            · subst h0
              rw [if_pos rfl]
              have hf := hs.first (by simpa using hstar)
              have hkr : k = rowL s := by simpa using hkrow
              rw [← hkr] at hf
              have hkl : k < s.length := by
                refine Classical.byContradiction fun hge => ?_
                rw [List.getD_eq_getElem?_getD, List.getElem?_eq_none (by omega)] at hf
                revert hf; decide
              rw [if_neg (by omega)]
              have hy : aftL s (0 + k) = ((s.getD k 0).toNat : Int) := by unfold aftL; rw [Nat.zero_add, if_pos hkl]
              have hx : befL s 0 = 10 := rfl
              have hr := low_range hf
              rw [hy, hx, flag_left _ _ hr.1 hr.2, flag_left _ _ hr.1 hr.2]
              have hsh := flag_shut _ hr.1 hr.2
              rw [hsh.1, hsh.2.2]
              exact ⟨rfl, rfl⟩
            · rw [if_neg h0]
              by_cases h1 : i + k = s.length
              · rw [if_pos h1]
                have hl := hs.last i hlt (fun j h2 h3 => hstars j h2 (by omega)) (by
                  rcases hb with h | h | h
                  · exact absurd h h0
                  · exact Or.inr h
                  · exfalso
                    have hh := hstars i (Nat.le_refl _) (by omega)
                    have : (s.drop i).head? = some 42 := by
                      rw [List.head?_drop, List.getElem?_eq_getElem hlt]
                      rw [List.getD_eq_getElem?_getD, List.getElem?_eq_getElem hlt] at hh
                      exact congrArg some hh
                    exact h 42 (by rw [this]; rfl) rfl)
                have hr := low_range hl.2
                have hx : befL s i = ((s.getD (i - 1) 0).toNat : Int) := by unfold befL; rw [if_neg h0]
                have hy : aftL s (i + k) = 10 := by unfold aftL; rw [if_neg (by omega)]
                have hsh := flag_shut _ hr.1 hr.2
                rw [hx, hy, hsh.2.1, hsh.2.2, flag_left _ _ hr.1 hr.2, flag_left _ _ hr.1 hr.2]
                exact ⟨rfl, rfl⟩
              · rw [if_neg h1]
                exact ⟨rfl, rfl⟩
          refine ⟨⟨42, k, k, opensB 42 (befL s i) (aftL s (i + k)), opensB 42 (aftL s (i + k)) (befL s i), []⟩, ?_, ?_⟩
          · unfold stepI
            simp only [hA]
            rfl
          · unfold stepI
            simp only [hB, hflag.1, hflag.2]
            rfl
      obtain ⟨x, m1, m2⟩ := main
      rw [m1] at e1
      rw [m2] at e2
      simp only [Nat.add_zero] at e1 e2
      obtain ⟨F, f1, f2⟩ := links_sim D img s z hs hz hza L n (i + k) (x :: A) (by omega) (by omega) (Or.inr hnext)
      rw [hP] at f2
      refine ⟨F, e1.trans f1, ?_⟩
      rw [e2, ← f2, Nat.add_assoc]
    · have : i = s.length := by omega
      subst this
      exact ⟨A, inlFrom_end _ _ _ _ _ (Nat.le_refl _), rfl⟩
theorem asked_target (D : List Dfn) (img : Bool) (s r : List UInt8) (hs : ∀ b ∈ s, alB b = true) (u t : List UInt8) (n : Nat) (hi : insideL r = (u, t, n, true)) : askedL D img s r = some (linkN img u t, n) := by
  have h94 : Lib.hasPrefix s [94] = false := by
    cases s with
    | nil => rfl
    | cons b s =>
      have := (alB_ne (hs b (by simp))).2.2.1
      simp [Lib.hasPrefix, List.isPrefixOf, this.symm]
  have h35 : Lib.hasPrefix s [35] = false := by
    cases s with
    | nil => rfl
    | cons b s =>
      have := (alB_ne (hs b (by simp))).2.2.2.1
      simp [Lib.hasPrefix, List.isPrefixOf, this.symm]
  unfold askedL
  rw [h94, h35, hi]
  simp
theorem merged_link {x : Iln} (hx : x.kd ≠ 1) {X : List Iln} (h : Merged X) : Merged (x :: X) := by
  refine ⟨fun y hy hk => ?_, fun p a b q e => ?_⟩
  · rcases List.mem_cons.1 hy with rfl | hy
    · exact absurd hk hx
    · exact h.1 y hy hk
  · cases p with
    | nil =>
      simp only [List.nil_append, List.cons.injEq] at e
      rintro ⟨h1, _⟩
      rw [← e.1] at h1
      exact hx h1
    | cons y p =>
      simp only [List.cons_append, List.cons.injEq] at e
      exact h.2 p a b q e.2
theorem deepI_shift {X : List Iln} (h : SmallD X) : deepI X = shiftI 1 X := by
  unfold deepI shiftI
  refine List.map_congr_left fun x hx => ?_
  have := h x hx
  simp only [deepOne, wrap_small this.1 this.2]
theorem textI_deep (X : List Iln) : textI (deepI X) = textI X := by
  induction X with
  | nil => rfl
  | cons x X ih => rw [show deepI (x :: X) = deepOne x :: deepI X from rfl, textI_cons, textI_cons, ih]; rfl
/-- A text between brackets, with a target behind it. -/
theorem links_plain (D : List Dfn) (img : Bool) (s r u t : List UInt8) (hs : StarsOk s) (hl : s.length ≤ 100000) (hr : ∀ b ∈ r, b.toNat < 128 ∧ b.toNat ≠ 0 ∧ b ≠ 96) (hi : insideL r = (u, t, r.length, true)) :
    rawI D (markOf img ++ (s ++ 93 :: r)) = if img then [⟨6, 0, textI (rawI D s), u, t⟩] else ⟨5, 0, [], u, t⟩ :: deepI (rawI D s) := by
  have hz : Shut (93 :: r) := ⟨r, rfl, fun b hb => (hr b hb).2.2⟩
  have hza : ∀ b ∈ 93 :: r, b.toNat < 128 ∧ b.toNat ≠ 0 := fun b hb => by
    rcases List.mem_cons.1 hb with rfl | hb
    · decide
    · exact ⟨(hr b hb).1, (hr b hb).2.1⟩
  have hu : markOf img ≠ [] := by cases img <;> simp [markOf]
  have ht : nextL (markOf img ++ (s ++ 93 :: r)) = (.mark (markOf img), (markOf img).length) := by
    cases img
    · exact next_sq _
    · exact next_im _
  have e1 := inlFrom_plain rawE D [] (markOf img) (s ++ 93 :: r) [] hu ht (fun m e => by cases e; cases img <;> simp [markOf])
  have e2 : (stepI rawE D ([] ++ (markOf img ++ (s ++ 93 :: r))) ([] : List UInt8).length ([] ++ markOf img).length (.mark (markOf img)) []).1 = [.mk img (markOf img).length false] := by
    cases img <;> simp [stepI, markOf]
  rw [e2] at e1
  simp only [List.nil_append, List.length_nil] at e1
  obtain ⟨F, f1, f2⟩ := links_sim D img s (93 :: r) hs hz hza [.mk img (markOf img).length false] s.length 0 [] (by omega) (by omega) (Or.inl rfl)
  simp only [List.map_nil, List.nil_append, Nat.add_zero] at f1 f2
  generalize hS : markOf img ++ (s ++ 93 :: r) = S at e1 f2
  have hd : S.drop ((markOf img).length + s.length) = 93 :: r := by
    rw [← hS, ← List.drop_drop, List.drop_left' rfl, List.drop_left' rfl]
  have hlt : (markOf img).length + s.length < S.length := by rw [← hS]; simp <;> omega
  have e3 := inlFrom_tok rawE D S ((markOf img).length + s.length) (F.map Ent.it ++ [.mk img (markOf img).length false]) hlt (t := .mark [93]) (n := 1) (by rw [hd]; exact next_qs r)
  have hx : (S.take ((markOf img).length + s.length)).drop (markOf img).length = s := by
    rw [← hS, show markOf img ++ (s ++ 93 :: r) = (markOf img ++ s) ++ 93 :: r from by simp, List.take_left' (by simp), List.drop_left' rfl]
  have hb : S.drop ((markOf img).length + s.length + 1) = r := by rw [← List.drop_drop, hd]; rfl
  have hc : stepI rawE D S ((markOf img).length + s.length) ((markOf img).length + s.length + 1) (.mark [93]) (F.map Ent.it ++ [.mk img (markOf img).length false]) = closeI D S ((markOf img).length + s.length) ((markOf img).length + s.length + 1) (F.map Ent.it ++ [.mk img (markOf img).length false]) := rfl
  have hraw : rawI D s = groupI F.reverse := by
    unfold rawI
    rw [inlE_from, f1, ← List.map_reverse, List.map_map]
    congr 1
    exact (List.map_congr_left fun x _ => rfl).trans (List.map_id _)
  have hcl : closeI D S ((markOf img).length + s.length) ((markOf img).length + s.length + 1) (F.map Ent.it ++ [.mk img (markOf img).length false]) =
      (if img then [.it (ndI [⟨6, 0, textI (rawI D s), u, t⟩])] else [.it (ndI (⟨5, 0, [], u, t⟩ :: deepI (rawI D s)))], r.length) := by
    unfold closeI
    rw [lastMk_is]
    simp only [Bool.false_eq_true, if_false, hx, hb]
    rw [asked_target D img s r hs.al u t r.length hi]
    simp only
    rw [← hraw]
    cases img
    · rfl
    · rfl
  rw [hc, hcl] at e3
  have hend : S.length ≤ (markOf img).length + s.length + 1 + r.length := by rw [← hS]; simp; omega
  show inlE rawE D S = _
  rw [inlE_from, e1, f2, e3, inlFrom_end _ _ _ _ _ hend]
  have hX := shapes_plain D s (by omega)
  have hXs : SmallD (rawI D s) := fun x hx => by have := hX.1 x hx; omega
  cases img
  · show groupI [ndI (⟨5, 0, [], u, t⟩ :: deepI (rawI D s))] = _
    rw [all_nds _ (by simp [ndI])]
    have e : allI [ndI (⟨5, 0, [], u, t⟩ :: deepI (rawI D s))] = ⟨5, 0, [], u, t⟩ :: deepI (rawI D s) := by simp [allI, leftI, ndI]
    rw [e, mergeI_same]
    · rfl
    · refine merged_link (by simp) ?_
      rw [deepI_shift hXs]
      exact shift_merged hX.2.2 1
  · exact group_one ⟨6, 0, textI (rawI D s), u, t⟩ (by simp)
def pieceL (k : Nat) : List UInt8 := match k with
  | 0 => [97]
  | 1 => [42, 98, 42]
  | 2 => [32]
  | 3 => [42, 42, 99, 42, 42]
  | 4 => [96, 100, 96]
  | _ => [101]
theorem piece_al (k : Nat) : ∀ b ∈ pieceL k, alB b = true := by
  unfold pieceL
  split <;> decide
theorem tw_more (p : UInt8 → Bool) : ∀ (t x : List UInt8), (t.takeWhile p).length < t.length → (t ++ x).takeWhile p = t.takeWhile p
  | [], x, h => by simp at h
  | b :: t, x, h => by
    rw [List.takeWhile_cons] at h
    rw [List.cons_append, List.takeWhile_cons, List.takeWhile_cons]
    split
    · next hb =>
      rw [if_pos hb] at h
      rw [tw_more p t x (by simpa using h)]
    · rfl
theorem stars_nil : StarsOk [] := ⟨by simp, by simp, fun i h => by simp at h⟩
/-- One piece more, at the end. -/
theorem stars_snoc {s : List UInt8} (hs : StarsOk s) (k : Nat) : StarsOk (s ++ pieceL k) := by
  have hal : ∀ b ∈ s ++ pieceL k, alB b = true := fun b hb => by
    rcases List.mem_append.1 hb with hb | hb
    · exact hs.al b hb
    · exact piece_al k b hb
  have hget : ∀ j, s.length ≤ j → (s ++ pieceL k).getD j 0 = (pieceL k).getD (j - s.length) 0 := fun j hj => by
    rw [List.getD_eq_getElem?_getD, List.getElem?_append_right hj, List.getD_eq_getElem?_getD]
  refine ⟨hal, ?_, ?_⟩
  · intro hh
    by_cases hne : s = []
    · subst hne
      rw [List.nil_append] at hh ⊢
      unfold pieceL at hh ⊢
      split at hh <;> first | (exfalso; revert hh; decide) | decide
    · obtain ⟨c, t, rfl⟩ : ∃ c t, s = c :: t := by cases s with | nil => exact absurd rfl hne | cons c t => exact ⟨c, t, rfl⟩
      have hc : c = 42 := by simpa using hh
      subst hc
      have hf := hs.first rfl
      have hlt : rowL (42 :: t) < (42 :: t).length := by
        refine Classical.byContradiction fun hge => ?_
        rw [List.getD_eq_getElem?_getD, List.getElem?_eq_none (by omega)] at hf
        revert hf; decide
      have hb : (42 :: t)[rowL (42 :: t)]'hlt ≠ 42 := by
        rw [List.getD_eq_getElem?_getD, List.getElem?_eq_getElem hlt] at hf
        intro e
        simp only [Option.getD_some] at hf
        rw [e] at hf
        revert hf; decide
      have hrow : rowL (42 :: t ++ pieceL k) = rowL (42 :: t) := by
        unfold rowL pastL at hlt ⊢
        simp only [List.headD_cons, List.cons_append, List.drop_succ_cons, List.drop_zero] at hlt ⊢
        congr 2
        exact tw_more (fun b => b == 42) t (pieceL k) (by simp at hlt; omega)
      rw [hrow, List.getD_eq_getElem?_getD, List.getElem?_append_left hlt]
      rw [List.getD_eq_getElem?_getD] at hf
      exact hf
  · intro i hi hall hprev
    have hpl : 1 ≤ (pieceL k).length := by unfold pieceL; split <;> decide
    rw [List.length_append] at hi hall
    have hlast := hall (s.length + (pieceL k).length - 1) (by omega) (by omega)
    rw [hget _ (by omega), show s.length + (pieceL k).length - 1 - s.length = (pieceL k).length - 1 from by omega] at hlast
    have hk : k = 1 ∨ k = 3 := by
      unfold pieceL at hlast
      split at hlast
      · exfalso; revert hlast; decide
      · exact Or.inl rfl
      · exfalso; revert hlast; decide
      · exact Or.inr rfl
      · exfalso; revert hlast; decide
      · exfalso; revert hlast; decide
    rcases hk with rfl | rfl
    · have h1 : s.length + 1 < i := by
        refine Classical.byContradiction fun hn => ?_
        have := hall (s.length + 1) (by omega) (by simp [pieceL])
        rw [hget _ (by omega), show s.length + 1 - s.length = 1 from by omega] at this
        revert this; decide
      have hi2 : i = s.length + 2 := by simp [pieceL] at hi; omega
      subst hi2
      refine ⟨by omega, ?_⟩
      rw [show s.length + 2 - 1 = s.length + 1 from by omega, hget _ (by omega), show s.length + 1 - s.length = 1 from by omega]
      decide
    · have h1 : s.length + 2 < i := by
        refine Classical.byContradiction fun hn => ?_
        have := hall (s.length + 2) (by omega) (by simp [pieceL])
        rw [hget _ (by omega), show s.length + 2 - s.length = 2 from by omega] at this
        revert this; decide
      have hi2 : i = s.length + 3 ∨ i = s.length + 4 := by simp [pieceL] at hi; omega
      rcases hi2 with rfl | rfl
      · refine ⟨by omega, ?_⟩
        rw [show s.length + 3 - 1 = s.length + 2 from by omega, hget _ (by omega), show s.length + 2 - s.length = 2 from by omega]
        decide
      · exfalso
        rcases hprev with h | h
        · omega
        · rw [show s.length + 4 - 1 = s.length + 3 from by omega, hget _ (by omega), show s.length + 3 - s.length = 3 from by omega] at h
          exact h rfl
def targetL (u t : List UInt8) : List UInt8 := 40 :: (u ++ ((if t = [] then [] else 32 :: 39 :: (t ++ [39])) ++ [41]))
theorem target_inside (u t : List UInt8) (hu : ∀ b ∈ u, lowB b = true) (hne : u ≠ []) (ht : ∀ b ∈ t, lowB b = true) : insideL (targetL u t) = (u, t, (targetL u t).length, true) := by
  unfold targetL
  by_cases h : t = []
  · subst h
    rw [if_pos rfl, List.nil_append]
    have := rnd_plain (g1 := []) (g3 := []) (u := u) (by intro b hb; cases hb) (by intro b hb; cases hb) (lowers_of hu) hne []
    simp only [List.nil_append, List.length_nil, Nat.add_zero] at this
    rw [this]
    simp
    omega
  · rw [if_neg h]
    have := rnd_titleq (g1 := []) (g2 := [32]) (g3 := []) (u := u) (t := t) 39 (by decide) (fun l => title_sq (lowers_of ht) l) (by intro b hb; cases hb) (by intro b hb; simp at hb; subst hb; decide) (by simp) (by intro b hb; cases hb) (lowers_of hu) hne []
    simp only [List.nil_append, List.length_nil, Nat.add_zero, List.length_singleton] at this
    rw [show 40 :: (u ++ (32 :: 39 :: (t ++ [39]) ++ [41])) = 40 :: (u ++ ([32] ++ 39 :: (t ++ [39, 41]))) from by simp, this]
    simp
    omega
theorem target_ascii (u t : List UInt8) (hu : ∀ b ∈ u, lowB b = true) (ht : ∀ b ∈ t, lowB b = true) : ∀ b ∈ targetL u t, b.toNat < 128 ∧ b.toNat ≠ 0 ∧ b ≠ 96 := by
  have hlow : ∀ b : UInt8, lowB b = true → b.toNat < 128 ∧ b.toNat ≠ 0 ∧ b ≠ 96 := fun b h => by
    have := low_range h
    refine ⟨by omega, by omega, ?_⟩
    rintro rfl
    revert h; decide
  intro b hb
  unfold targetL at hb
  simp only [List.mem_cons, List.mem_append, List.not_mem_nil, or_false] at hb
  rcases hb with rfl | hb | hb | rfl
  · decide
  · exact hlow b (hu b hb)
  · split at hb
    · cases hb
    · simp only [List.mem_cons, List.mem_append, List.not_mem_nil, or_false] at hb
      rcases hb with rfl | rfl | hb | rfl
      · decide
      · decide
      · exact hlow b (ht b hb)
      · decide
  · decide
end Go.Proofs.YteihmgcphbijhaaGreatDoor

namespace Go.Proofs.YteihmgcphbijhaaGreatDoor
open Go.RowKit
set_option linter.unusedSimpArgs false
set_option linter.unusedVariables false
/-- Where the cells of a list of the call's own lie. -/
theorem own_block {w : World} {B : Nat} {e : TypeId} {size n : Nat} {v : Value} {xs : List Value} (h : w.ownsRow B e size v n xs) (hn : 0 < n) :
    ∃ g cap cur, v = .slice (some ⟨g, 0, none⟩) n cap ∧ B ≤ g ∧ g < w.heap.size ∧ n ≤ cap ∧ cap ≤ maxLen ∧ w.heap[g]? = some (.cells cur e (0, 0)) ∧ ∀ j u, xs[j]? = some u → w.cell? ⟨g, j, none⟩ = some u := by
  obtain ⟨hl, h⟩ := h
  rcases h with ⟨rfl, h0⟩ | ⟨g, cap, cur, rfl, hb, hg, hnc, hcm, hcs, ht⟩
  · omega
  · refine ⟨g, cap, cur, rfl, hb, (Array.getElem?_eq_some_iff.1 hg).1, hnc, hcm, hg, fun j u hu => ?_⟩
    rw [cell_of_row w g j cur e (0, 0) hg]
    have h3 : (cur.toList.take (n * size))[j]? = some u := by rw [ht]; exact hu
    rw [List.getElem?_take] at h3
    split at h3
    · simpa using h3
    · cases h3
end Go.Proofs.YteihmgcphbijhaaGreatDoor

namespace Go.Proofs.YteihmgcphbijhaaGreatDoor
open Go.RowKit
set_option linter.unusedSimpArgs false
set_option linter.unusedVariables false
/-- The cells of a list whose element x has the cells c x. -/
def flt {α : Type} (c : α → List Value) (X : List α) : List Value := X.flatMap c
theorem flt_cons {α : Type} (c : α → List Value) (x : α) (X : List α) : flt c (x :: X) = c x ++ flt c X := rfl
theorem flt_append {α : Type} (c : α → List Value) (a b : List α) : flt c (a ++ b) = flt c a ++ flt c b := by simp [flt]
theorem flt_one {α : Type} (c : α → List Value) (x : α) : flt c [x] = c x := by simp [flt]
theorem flt_length {α : Type} {c : α → List Value} {s : Nat} (hs : ∀ x, (c x).length = s) (X : List α) : (flt c X).length = X.length * s := by
  induction X with
  | nil => simp [flt]
  | cons p X ih => rw [flt_cons, List.length_append, ih, List.length_cons, hs, Nat.succ_mul, Nat.add_comm]
theorem flt_get {α : Type} {c : α → List Value} {s : Nat} (hs : ∀ x, (c x).length = s) : ∀ (X : List α) (k : Nat) (h : k < X.length) (j : Nat) (u : Value), (c X[k])[j]? = some u → (flt c X)[k * s + j]? = some u
  | x :: X, 0, h, j, u, hu => by
    have hu' : (c x)[j]? = some u := hu
    have hj := (List.getElem?_eq_some_iff.1 hu').1
    rw [flt_cons, List.getElem?_append_left (by omega), Nat.zero_mul, Nat.zero_add]
    exact hu'
  | x :: X, k + 1, h, j, u, hu => by
    have ih := flt_get hs X k (by simpa using h) j u (by simpa using hu)
    have hl := hs x
    have e : (k + 1) * s + j - s = k * s + j := by rw [Nat.succ_mul]; omega
    rw [flt_cons, List.getElem?_append_right (by rw [hl, Nat.succ_mul]; omega), hl, e]
    exact ih
/-- A list of elements of s cells each that may be read. -/
structure EltsAt (w : World) {α : Type} (c : α → List Value) (s : Nat) (A : Option Addr) (cap : Nat) (X : List α) : Prop where
  le : X.length ≤ cap
  cap : cap ≤ maxLen
  cells : X = [] ∨ ∃ b off, A = some ⟨b, off, none⟩ ∧ b < w.heap.size ∧ ∀ k (h : k < X.length) j u, (c X[k])[j]? = some u → w.cell? ⟨b, off + k * s + j, none⟩ = some u
theorem EltsAt.below {w w' : World} {α : Type} {c : α → List Value} {s : Nat} {A : Option Addr} {cap : Nat} {X : List α} (h : EltsAt w c s A cap X) (hb : Below w.heap.size w w') : EltsAt w' c s A cap X := by
  refine ⟨h.le, h.cap, ?_⟩
  rcases h.cells with h1 | ⟨b, off, e, hlt, hc⟩
  · exact Or.inl h1
  · refine Or.inr ⟨b, off, e, Nat.lt_of_lt_of_le hlt hb.size, fun k hk j u hu => ?_⟩
    rw [hb.cell (p := ⟨b, off + k * s + j, none⟩) hlt]
    exact hc k hk j u hu
theorem EltsAt.heap {w w' : World} {α : Type} {c : α → List Value} {s : Nat} {A : Option Addr} {cap : Nat} {X : List α} (hh : w'.heap = w.heap) (h : EltsAt w c s A cap X) : EltsAt w' c s A cap X := by
  refine ⟨h.le, h.cap, ?_⟩
  rcases h.cells with h1 | ⟨b, off, e, hlt, hc⟩
  · exact Or.inl h1
  · exact Or.inr ⟨b, off, e, by rw [hh]; exact hlt, fun k hk j u hu => by have := hc k hk j u hu; simpa [World.cell?, hh] using this⟩
theorem EltsAt.at {w : World} {α : Type} {c : α → List Value} {s : Nat} {A : Option Addr} {cap : Nat} {X : List α} (h : EltsAt w c s A cap X) {k : Nat} (hk : k < X.length) :
    ∃ b off, A = some ⟨b, off, none⟩ ∧ b < w.heap.size ∧ ∀ j u, (c X[k])[j]? = some u → w.cell? ⟨b, off + k * s + j, none⟩ = some u := by
  rcases h.cells with h3 | ⟨b, off, e, hlt, hc⟩
  · rw [h3] at hk; simp at hk
  · exact ⟨b, off, e, hlt, hc k hk⟩
theorem EltsAt.nil (w : World) {α : Type} (c : α → List Value) (s : Nat) (A : Option Addr) : EltsAt w c s A 0 ([] : List α) := ⟨Nat.le_refl _, Nat.zero_le _, Or.inl rfl⟩
/-- A list of the call's own may be read. -/
theorem EltsAt.own {w : World} {α : Type} {c : α → List Value} {s B : Nat} {te : TypeId} {v : Value} {X : List α} (hs : ∀ x, (c x).length = s) (h : w.ownsRow B te s v X.length (flt c X)) :
    ∃ A cap, v = .slice A X.length cap ∧ EltsAt w c s A cap X := by
  rcases h.2 with ⟨rfl, h0⟩ | ⟨g, cap, cur, rfl, hb, hg, hnc, hcm, hcs, ht⟩
  · have h0' : X.length = 0 := h0
    have hX := List.eq_nil_of_length_eq_zero h0'
    subst hX
    exact ⟨none, 0, rfl, EltsAt.nil _ _ _ _⟩
  · refine ⟨some ⟨g, 0, none⟩, cap, rfl, hnc, hcm, Or.inr ⟨g, 0, rfl, (Array.getElem?_eq_some_iff.1 hg).1, fun k hk j u hu => ?_⟩⟩
    rw [cell_of_row w g _ cur te (0, 0) hg, Nat.zero_add]
    have h1 := flt_get hs X k hk j u hu
    rw [← ht, List.getElem?_take] at h1
    split at h1
    · simpa using h1
    · cases h1
/-- The cells of the k-th element of a list of the call's own. -/
theorem own_elt {w : World} {α : Type} {c : α → List Value} {s B g n cap : Nat} {te : TypeId} {X : List α} (hs : ∀ x, (c x).length = s) (h : w.ownsRow B te s (.slice (some ⟨g, 0, none⟩) n cap) n (flt c X)) {k : Nat} (hk : k < X.length) (j : Nat) (u : Value)
    (hu : (c X[k])[j]? = some u) : w.cell? ⟨g, k * s + j, none⟩ = some u := by
  rcases h.2 with ⟨e1, h0⟩ | ⟨g', cap', cur, e1, hb, hg, hnc, hcm, hcs, ht⟩
  · cases e1
  · cases e1
    rw [cell_of_row w g _ cur te (0, 0) hg]
    have h1 := flt_get hs X k hk j u hu
    rw [← ht, List.getElem?_take] at h1
    split at h1
    · simpa using h1
    · cases h1
/-- The block of one element that a call hands in. -/
theorem elt_cells (w : World) (L : List Value) (t : TypeId) : ∀ (j : Nat) (u : Value), L[j]? = some u → (w.alloc (.cells L.toArray t)).cell? ((⟨w.heap.size, 0, none⟩ : Addr).add j) = some u := by
  intro j u hj
  rw [addr_add, cell_of_row _ _ _ _ t (0, 0) (heap_alloc_new w _), Nat.zero_add]
  simpa using hj
/-- Its cells as one row. -/
theorem EltsAt.flat {w : World} {α : Type} {c : α → List Value} {s : Nat} {ad : Addr} {cap : Nat} {X : List α} (hs : ∀ x, (c x).length = s) (h0 : 0 < s) (h : EltsAt w c s (some ad) cap X) : ∀ (j : Nat) (u : Value), (flt c X)[j]? = some u → w.cell? (ad.add j) = some u := by
  intro j u hu
  have hj := (List.getElem?_eq_some_iff.1 hu).1
  rw [flt_length hs] at hj
  have hk : j / s < X.length := Nat.div_lt_of_lt_mul (by rw [Nat.mul_comm]; exact hj)
  have hi : j % s < (c X[j / s]).length := by rw [hs]; exact Nat.mod_lt _ h0
  obtain ⟨b, off, e, hlt, hc⟩ := h.at hk
  cases e
  have h1 := flt_get hs X (j / s) hk (j % s) _ (List.getElem?_eq_getElem hi)
  have h2 := hc (j % s) _ (List.getElem?_eq_getElem hi)
  have e1 : j / s * s + j % s = j := by rw [Nat.mul_comm]; exact Nat.div_add_mod j s
  rw [e1] at h1
  rw [h1] at hu
  cases hu
  rw [addr_add, ← h2]
  congr 2
  show off + j = _
  omega
/-- Five cells are written over one after the other. -/
theorem flt_set5 {α : Type} {c : α → List Value} (hs : ∀ x, (c x).length = 5) (c0 c1 c2 c3 c4 : Value) (y : α) (hy : c y = [c0, c1, c2, c3, c4]) : ∀ (X : List α) (q : Nat), q < X.length →
    (((((flt c X).set (q * 5) c0).set (q * 5 + 1) c1).set (q * 5 + 2) c2).set (q * 5 + 3) c3).set (q * 5 + 4) c4 = flt c (X.set q y)
  | x :: X, 0, _ => by
    have hl := hs x
    rw [List.set_cons_zero, flt_cons, flt_cons, hy]
    match c x, hl with
    | [a0, a1, a2, a3, a4], _ => simp
  | x :: X, q + 1, h => by
    have ih := flt_set5 hs c0 c1 c2 c3 c4 y hy X q (by simpa using h)
    have hl := hs x
    rw [List.set_cons_succ, flt_cons, flt_cons, ← ih]
    have e : (q + 1) * 5 = (c x).length + q * 5 := by rw [hl]; omega
    rw [e]
    simp only [Nat.add_assoc, List.set_append_right, Nat.le_add_right, Nat.add_sub_cancel_left]
theorem own_form {w : World} {B : Nat} {e : TypeId} {size n : Nat} {v : Value} {xs : List Value} (h : w.ownsRow B e size v n xs) : ∃ A cap, v = .slice A n cap ∧ n ≤ cap := by
  rcases h.2 with ⟨rfl, rfl⟩ | ⟨g, cap, cur, rfl, hb, hg, hnc, hcm, hcs, ht⟩
  · exact ⟨none, 0, rfl, Nat.le_refl _⟩
  · exact ⟨_, cap, rfl, hnc⟩
end Go.Proofs.YteihmgcphbijhaaGreatDoor

namespace Go.Proofs.YteihmgcphbijhaaGreatDoor
open Go.RowKit
set_option linter.unusedSimpArgs false
set_option linter.unusedVariables false
/-- Its five cells. -/
def ilC (x : Iln) : List Value := [.int .i64 x.kd, .int .i64 x.dp, .string ⟨x.txt.toArray⟩, .string ⟨x.url.toArray⟩, .string ⟨x.ttl.toArray⟩]
theorem ilC_length (x : Iln) : (ilC x).length = 5 := rfl
theorem ilC_one (x : Iln) : ∀ u ∈ ilC x, u.oneCell' = true := by
  intro u hu
  simp [ilC] at hu
  rcases hu with rfl | rfl | rfl | rfl | rfl <;> rfl
theorem infoInl : (Tryz.prog.info? 28).map (fun i => (i.zero, i.size, i.bytes)) = some (some (.agg #[.int .i64 0, .int .i64 0, .string ByteArray.empty, .string ByteArray.empty, .string ByteArray.empty]), 5, 64) := by kernel_rfl
abbrev InlsAt (w : World) (A : Option Addr) (cap : Nat) (X : List Iln) : Prop := EltsAt w ilC 5 A cap X
theorem InlsAt.cells5 {w : World} {A : Option Addr} {cap : Nat} {X : List Iln} (h : InlsAt w A cap X) {k : Nat} (hk : k < X.length) :
    ∃ b off, A = some ⟨b, off, none⟩ ∧ b < w.heap.size ∧ w.cell? ⟨b, off + k * 5, none⟩ = some (.int .i64 X[k].kd) ∧ w.cell? ⟨b, off + k * 5 + 1, none⟩ = some (.int .i64 X[k].dp) ∧
      w.cell? ⟨b, off + k * 5 + 2, none⟩ = some (.string ⟨X[k].txt.toArray⟩) ∧ w.cell? ⟨b, off + k * 5 + 3, none⟩ = some (.string ⟨X[k].url.toArray⟩) ∧ w.cell? ⟨b, off + k * 5 + 4, none⟩ = some (.string ⟨X[k].ttl.toArray⟩) := by
  obtain ⟨b, off, e, hlt, hc⟩ := h.at hk
  exact ⟨b, off, e, hlt, hc 0 _ rfl, hc 1 _ rfl, hc 2 _ rfl, hc 3 _ rfl, hc 4 _ rfl⟩
theorem InlsAt.drew {w : World} {A : Option Addr} {cap : Nat} {X : List Iln} (h : InlsAt w A cap X) (n : Nat) : InlsAt (w.drewN n) A cap X := EltsAt.heap (w := w) (w' := w.drewN n) rfl h
end Go.Proofs.YteihmgcphbijhaaGreatDoor

namespace Go.Proofs.YteihmgcphbijhaaGreatDoor
open Go.RowKit
set_option linter.unusedSimpArgs false
set_option linter.unusedVariables false
theorem wrap64_add (a b : Int) : IntKind.i64.wrap (IntKind.i64.wrap a + b) = IntKind.i64.wrap (a + b) := by
  simp only [IntKind.wrap_i64]
  omega
/-- An item, what is left of its row (it.n), how many nodes end at it, which begin behind it (the innermost first). -/
structure Pc where
  it : Itm
  en : Nat
  bg : List Int
deriving Inhabited
inductive Ev where
  | row (i : Nat) (x : Itm)
  | nd (l : List Iln)
  | dn (k : Int)
  | up
def deepBy (d : Int) (l : List Iln) : List Iln := l.map fun x => { x with dp := IntKind.i64.wrap (x.dp + d) }
def rowW (d : Int) (x : Itm) : List Iln := if 0 < x.n then [wordsI (IntKind.i64.wrap d) (List.replicate x.n.toNat x.sg)] else []
def ren : Int → List Ev → List Iln
  | _, [] => []
  | d, .row _ x :: r => rowW d x ++ ren d r
  | d, .nd l :: r => deepBy d l ++ ren d r
  | d, .dn k :: r => ⟨k, IntKind.i64.wrap d, [], [], []⟩ :: ren (d + 1) r
  | d, .up :: r => ren (d - 1) r
def dep : Int → List Ev → Int
  | d, [] => d
  | d, .row _ _ :: r => dep d r
  | d, .nd _ :: r => dep d r
  | d, .dn _ :: r => dep (d + 1) r
  | d, .up :: r => dep (d - 1) r
def evP (i : Nat) (p : Pc) : List Ev := if p.it.sg = 0 then [.nd p.it.nd] else List.replicate p.en .up ++ .row i p.it :: p.bg.reverse.map .dn
def evF : Nat → List Pc → List Ev
  | _, [] => []
  | i, p :: ps => evP i p ++ evF (i + 1) ps
theorem evF_append (a b : List Pc) : ∀ i, evF i (a ++ b) = evF i a ++ evF (i + a.length) b := by
  induction a with
  | nil => intro i; simp [evF]
  | cons x a ih => intro i; simp [evF, ih, Nat.add_assoc, Nat.add_comm 1]
theorem ren_append (a b : List Ev) : ∀ d, ren d (a ++ b) = ren d a ++ ren (dep d a) b := by
  induction a with
  | nil => intro d; rfl
  | cons x a ih => intro d; cases x <;> simp [ren, dep, ih]
theorem dep_append (a b : List Ev) : ∀ d, dep d (a ++ b) = dep (dep d a) b := by
  induction a with
  | nil => intro d; rfl
  | cons x a ih => intro d; cases x <;> simp [dep, ih]
theorem deepBy_append (d : Int) (a b : List Iln) : deepBy d (a ++ b) = deepBy d a ++ deepBy d b := by simp [deepBy]
theorem deepBy_deep (d : Int) (l : List Iln) : deepBy d (deepI l) = deepBy (d + 1) l := by
  simp only [deepBy, deepI, List.map_map]
  refine List.map_congr_left fun x _ => ?_
  simp only [Function.comp, deepOne, wrap64_add]
  rw [show x.dp + 1 + d = x.dp + (d + 1) by omega]
/-- Without words that have no text. -/
def someI (l : List Iln) : List Iln := l.filter fun x => !(x.kd == 1 && x.txt == [])
theorem someI_append (a b : List Iln) : someI (a ++ b) = someI a ++ someI b := by simp [someI]
theorem mergeOne_some (out : List Iln) (x : Iln) (h : x.kd = 1 ∧ x.txt = []) : mergeOne out x = out := by unfold mergeOne; rw [if_pos h.1, if_pos h.2]
theorem foldl_some (l : List Iln) : ∀ p, (someI l).foldl mergeOne p = l.foldl mergeOne p := by
  induction l with
  | nil => intro p; rfl
  | cons x l ih =>
    intro p
    unfold someI at ih ⊢
    rw [List.filter_cons]
    split
    · simp only [List.foldl_cons]; exact ih _
    · next h =>
      have h' : x.kd = 1 ∧ x.txt = [] := by simpa using h
      rw [List.foldl_cons, mergeOne_some p x h']
      exact ih p
theorem mergeI_some (l : List Iln) : mergeI (someI l) = mergeI l := foldl_some l []
theorem some_row (d : Int) (x : Itm) (h : x.sg ≠ 0) : someI (rowW d x) = someI (deepBy d (leftI x)) := by
  unfold leftI rowW
  rw [if_neg h]
  split
  · simp [deepBy, wordsI]
  · next hn =>
    have : x.n.toNat = 0 := by omega
    simp [someI, deepBy, wordsI, this]
/-- A chunk of what happens: a row, or nodes (as they came, or made). -/
structure Ck where
  it : Itm
  pl : Nat
  ev : List Ev
def Ck.Ok (c : Ck) : Prop := if c.it.sg = 0 then ∀ d, someI (ren d c.ev) = someI (deepBy d c.it.nd) ∧ dep d c.ev = d else c.ev = [.row c.pl c.it]
def flatC (A : List Ck) : List Ev := A.flatMap Ck.ev
def itsC (A : List Ck) : List Itm := A.map Ck.it
def mayOpen (x : Itm) : Bool := x.sg != 0 && x.op && decide (0 < x.n)
/-- The places of the rows that may open. -/
def opsC (A : List Ck) : List Nat := (A.filter fun c => mayOpen c.it).map Ck.pl
theorem ok_ren {A : List Ck} (h : ∀ c ∈ A, c.Ok) : ∀ d, someI (ren d (flatC A)) = someI (deepBy d (allI (itsC A))) ∧ dep d (flatC A) = d := by
  induction A with
  | nil => intro d; exact ⟨rfl, rfl⟩
  | cons c A ih =>
    intro d
    have hc := h c (by simp)
    have h1 : someI (ren d c.ev) = someI (deepBy d (leftI c.it)) ∧ dep d c.ev = d := by
      unfold Ck.Ok at hc
      split at hc
      · next h0 => unfold leftI; rw [if_pos h0]; exact hc d
      · next h0 =>
        rw [hc]
        refine ⟨?_, rfl⟩
        simp only [ren, List.append_nil]
        exact some_row d c.it h0
    have ih' := ih (fun x hx => h x (by simp [hx])) d
    simp only [flatC, itsC, List.flatMap_cons, List.map_cons, allI_cons] at ih' ⊢
    rw [ren_append, dep_append, h1.2, someI_append, deepBy_append, someI_append, h1.1]
    exact ⟨by rw [ih'.1], ih'.2⟩
def rowAt (i : Nat) : Ev → Bool
  | .row j _ => i == j
  | _ => false
theorem split_row {i : Nat} {x x' : Itm} : ∀ (X X' Y Y' : List Ev), (∀ e ∈ X, rowAt i e = false) → (∀ e ∈ X', rowAt i e = false) → X ++ .row i x :: Y = X' ++ .row i x' :: Y' → X = X' ∧ x = x' ∧ Y = Y'
  | [], [], Y, Y', _, _, e => by simp at e; exact ⟨rfl, e.1, e.2⟩
  | [], b :: X', Y, Y', _, h', e => by
    simp at e
    have := h' b (by simp)
    rw [← e.1] at this
    simp [rowAt] at this
  | a :: X, [], Y, Y', h, _, e => by
    simp at e
    have := h a (by simp)
    rw [e.1] at this
    simp [rowAt] at this
  | a :: X, b :: X', Y, Y', h, h', e => by
    simp at e
    have := split_row X X' Y Y' (fun z hz => h z (by simp [hz])) (fun z hz => h' z (by simp [hz])) e.2
    exact ⟨by rw [e.1, this.1], this.2⟩
/-- The places of rows, in what happens. -/
def plE : Ev → Option Nat
  | .row i _ => some i
  | _ => none
theorem pls_up (n : Nat) : (List.replicate n Ev.up).filterMap plE = [] := by
  induction n with
  | zero => rfl
  | succ n ih => rw [List.replicate_succ, List.filterMap_cons]; exact ih
theorem pls_dn (l : List Int) : (l.map Ev.dn).filterMap plE = [] := by
  induction l with
  | nil => rfl
  | cons x l ih => rw [List.map_cons, List.filterMap_cons]; exact ih
theorem pls_P (i : Nat) (p : Pc) : (evP i p).filterMap plE = if p.it.sg = 0 then [] else [i] := by
  unfold evP
  split
  · rfl
  · rw [List.filterMap_append, pls_up, List.filterMap_cons]
    simp only [plE, pls_dn, List.nil_append]
theorem pls_F (ps : List Pc) : ∀ i, ((evF i ps).filterMap plE).Pairwise (· < ·) ∧ ∀ k ∈ (evF i ps).filterMap plE, i ≤ k ∧ k < i + ps.length := by
  induction ps with
  | nil => intro i; simp [evF]
  | cons p ps ih =>
    intro i
    obtain ⟨h1, h2⟩ := ih (i + 1)
    simp only [evF, List.filterMap_append, pls_P]
    split
    · refine ⟨by simpa using h1, fun k hk => ?_⟩
      have := h2 k (by simpa using hk)
      simp only [List.length_cons]; omega
    · refine ⟨?_, fun k hk => ?_⟩
      · simp only [List.singleton_append, List.pairwise_cons]
        exact ⟨fun k hk => by have := h2 k hk; omega, h1⟩
      · simp only [List.singleton_append, List.mem_cons] at hk
        simp only [List.length_cons]
        rcases hk with rfl | hk
        · omega
        · have := h2 k hk; omega
theorem rowAt_of {i : Nat} {l : List Ev} (h : i ∉ l.filterMap plE) : ∀ e ∈ l, rowAt i e = false := by
  intro e he
  cases e with
  | row j x =>
    simp only [rowAt]
    by_cases hij : i = j
    · exact absurd (List.mem_filterMap.2 ⟨_, he, by rw [hij]; rfl⟩) h
    · simpa using hij
  | nd l => rfl
  | dn k => rfl
  | up => rfl
/-- The pieces, e ends behind them, the places that may open: as the document has them (l: nearest first). -/
structure Sim (l : List Itm) (ps : List Pc) (e : Nat) (ops : List Nat) : Prop where
  ex : ∃ A : List Ck, l.reverse = itsC A ∧ (∀ c ∈ A, c.Ok) ∧ evF 0 ps ++ List.replicate e .up = flatC A ∧ ops = opsC A
theorem sim_nil : Sim [] [] 0 [] := ⟨[], rfl, by simp, rfl, rfl⟩
theorem sim_push {l : List Itm} {ps : List Pc} {e : Nat} {ops : List Nat} (h : Sim l ps e ops) (c : Itm) (he : c.sg = 0 → e = 0) :
    Sim (c :: l) (ps ++ [⟨c, e, []⟩]) 0 (if mayOpen c then ops ++ [ps.length] else ops) := by
  obtain ⟨A, h1, h2, h3, h4⟩ := h.ex
  by_cases h0 : c.sg = 0
  · have he0 := he h0
    subst he0
    refine ⟨A ++ [⟨c, 0, [.nd c.nd]⟩], ?_, ?_, ?_, ?_⟩
    · simp [itsC, h1]
    · intro x hx
      rcases List.mem_append.1 hx with hx | hx
      · exact h2 x hx
      · rw [List.mem_singleton] at hx
        subst hx
        unfold Ck.Ok
        rw [if_pos h0]
        intro d
        simp [ren, dep]
    · simp only [List.replicate_zero, List.append_nil] at h3 ⊢
      rw [evF_append, h3]
      simp [flatC, evF, evP, h0]
    · have : mayOpen c = false := by simp [mayOpen, h0]
      simp [opsC, this, h4]
  · refine ⟨A ++ [⟨c, ps.length, [.row ps.length c]⟩], ?_, ?_, ?_, ?_⟩
    · simp [itsC, h1]
    · intro x hx
      rcases List.mem_append.1 hx with hx | hx
      · exact h2 x hx
      · rw [List.mem_singleton] at hx
        subst hx
        unfold Ck.Ok
        rw [if_neg h0]
    · simp only [List.replicate_zero, List.append_nil]
      rw [evF_append]
      simp only [evF, evP, if_neg h0, List.append_nil, List.reverse_nil, List.map_nil, Nat.zero_add]
      rw [show flatC (A ++ [⟨c, ps.length, [.row ps.length c]⟩]) = flatC A ++ [.row ps.length c] by simp [flatC], ← h3]
      simp
    · by_cases hm : mayOpen c = true
      · simp [opsC, hm, h4]
      · simp [opsC, hm, h4]
/-- The places that may open ascend, and at each stands a row. -/
theorem plC_split {A : List Ck} (h : ∀ c ∈ A, c.Ok) {c : Ck} (hc : c ∈ A) (h0 : c.it.sg ≠ 0) : .row c.pl c.it ∈ flatC A := by
  have := h c hc
  unfold Ck.Ok at this
  rw [if_neg h0] at this
  exact List.mem_flatMap.2 ⟨c, hc, by rw [this]; simp⟩
theorem ev_mem {ps : List Pc} : ∀ {i k : Nat} {x : Itm}, Ev.row k x ∈ evF i ps → ∃ p, ps[k - i]? = some p ∧ i ≤ k ∧ p.it = x ∧ x.sg ≠ 0 := by
  induction ps with
  | nil => intro i k x h; simp [evF] at h
  | cons p ps ih =>
    intro i k x h
    simp only [evF, List.mem_append] at h
    rcases h with h | h
    · unfold evP at h
      split at h
      · simp at h
      · next h0 =>
        rw [List.mem_append, List.mem_cons, List.mem_replicate, List.mem_map] at h
        rcases h with ⟨_, h⟩ | h | ⟨_, _, h⟩
        · cases h
        · cases h
          exact ⟨p, by simp, Nat.le_refl _, rfl, h0⟩
        · cases h
    · obtain ⟨q, h1, h2, h3⟩ := ih h
      refine ⟨q, ?_, by omega, h3⟩
      rw [show k - i = (k - (i + 1)) + 1 by omega, List.getElem?_cons_succ]
      exact h1
theorem sim_at {l : List Itm} {ps : List Pc} {e : Nat} {ops : List Nat} (h : Sim l ps e ops) : ∀ k ∈ ops, ∃ p, ps[k]? = some p ∧ mayOpen p.it = true := by
  obtain ⟨A, h1, h2, h3, h4⟩ := h.ex
  intro k hk
  rw [h4] at hk
  obtain ⟨c, hc, rfl⟩ := List.mem_map.1 hk
  obtain ⟨hc, hm⟩ := List.mem_filter.1 hc
  have h0 : c.it.sg ≠ 0 := by simp [mayOpen] at hm; exact hm.1.1
  have hr := plC_split h2 hc h0
  rw [← h3, List.mem_append, List.mem_replicate] at hr
  rcases hr with hr | ⟨_, hr⟩
  · obtain ⟨p, e1, _, e2, _⟩ := ev_mem hr
    exact ⟨p, by simpa using e1, by rw [e2]; exact hm⟩
  · cases hr
/-- One list of places within another. -/
theorem pls_C {A : List Ck} (h : ∀ c ∈ A, c.Ok) : (opsC A).Sublist ((flatC A).filterMap plE) := by
  induction A with
  | nil => simp [opsC, flatC]
  | cons c A ih =>
    have ih' := ih fun x hx => h x (by simp [hx])
    have hc := h c (by simp)
    simp only [flatC, List.flatMap_cons, List.filterMap_append]
    unfold opsC at ih' ⊢
    rw [List.filter_cons]
    split
    · next hm =>
      have h0 : c.it.sg ≠ 0 := by simp [mayOpen] at hm; exact hm.1.1
      unfold Ck.Ok at hc
      rw [if_neg h0] at hc
      rw [hc]
      simp only [List.map_cons, List.filterMap_cons, plE, List.filterMap_nil, List.singleton_append]
      exact ih'.cons_cons _
    · exact ih'.trans (List.sublist_append_right _ _)
theorem sim_ops {l : List Itm} {ps : List Pc} {e : Nat} {ops : List Nat} (h : Sim l ps e ops) : ops.Pairwise (· < ·) := by
  obtain ⟨A, h1, h2, h3, h4⟩ := h.ex
  rw [h4]
  refine List.Pairwise.sublist (pls_C h2) ?_
  rw [← h3, List.filterMap_append, pls_up, List.append_nil]
  exact (pls_F ps 0).1
/-- Two rows that go together: of one sign, not three in all. -/
def fitI (o c : Itm) : Bool := o.sg == c.sg && !((o.op && o.cl || c.op && c.cl) && (o.ff + c.ff).tmod 3 == 0 && (o.ff.tmod 3 != 0 || c.ff.tmod 3 != 0))
theorem canOpen_is {o c : Itm} (hc : c.sg ≠ 0) : canOpen o c = (mayOpen o && fitI o c) := by
  unfold canOpen mayOpen fitI
  by_cases hs : o.sg = c.sg
  · have : o.sg ≠ 0 := by rw [hs]; exact hc
    simp [hs, hc, Bool.and_assoc]
  · have h1 : (o.sg == c.sg) = false := by simpa using hs
    simp [h1]
/-- Pairing: the place is the last that goes together with the closer. -/
theorem sim_none {l : List Itm} {ps : List Pc} {e : Nat} {ops : List Nat} (h : Sim l ps e ops) {c : Itm} (hc : c.sg ≠ 0)
    (hn : ∀ k ∈ ops, ∀ p, ps[k]? = some p → fitI p.it c = false) : openerI c l = none := by
  obtain ⟨A, h1, h2, h3, h4⟩ := h.ex
  refine openerI_no fun x hx => ?_
  rw [canOpen_is hc]
  by_cases hm : mayOpen x = true
  · have hx' : x ∈ itsC A := by rw [← h1]; simpa using hx
    obtain ⟨k, hk, rfl⟩ := List.mem_map.1 hx'
    have hk4 : k.pl ∈ ops := by rw [h4]; exact List.mem_map.2 ⟨k, List.mem_filter.2 ⟨hk, hm⟩, rfl⟩
    have h0 : k.it.sg ≠ 0 := by simp [mayOpen] at hm; exact hm.1.1
    have hr := plC_split h2 hk h0
    rw [← h3, List.mem_append, List.mem_replicate] at hr
    rcases hr with hr | ⟨_, hr⟩
    · obtain ⟨p, e1, _, e2, _⟩ := ev_mem hr
      have := hn k.pl hk4 p (by simpa using e1)
      rw [e2] at this
      simp [this]
    · cases hr
  · simp [hm]
theorem sim_pair {l : List Itm} {ps : List Pc} {e : Nat} {o1 o2 : List Nat} {j : Nat} (h : Sim l ps e (o1 ++ j :: o2)) {c : Itm} (hc : c.sg ≠ 0) {p : Pc} (hp : ps[j]? = some p)
    (hf : fitI p.it c = true) (hn : ∀ k ∈ o2, ∀ q, ps[k]? = some q → fitI q.it c = false) :
    ∃ m l', openerI c l = some (m, p.it, l') ∧
      Sim (nodeI (kOf p.it c) (allI m.reverse) :: lessI p.it (kOf p.it c) :: l') (ps.set j ⟨lessI p.it (kOf p.it c), p.en, p.bg ++ [if kOf p.it c = 2 then 4 else 3]⟩) (e + 1) (if 0 < p.it.n - kOf p.it c then o1 ++ [j] else o1) := by
  obtain ⟨A, h1, h2, h3, h4⟩ := h.ex
  -- the chunk of the opener
  obtain ⟨A1, k, A2, hA, hk1, hkp, hk2, hkm⟩ : ∃ A1 k A2, A = A1 ++ k :: A2 ∧ opsC A1 = o1 ∧ k.pl = j ∧ opsC A2 = o2 ∧ mayOpen k.it = true := by
    obtain ⟨F1, F2', e1, e2, e3⟩ := List.map_eq_append_iff.1 h4.symm
    obtain ⟨k, F2, rfl, e4, e5⟩ := List.map_eq_cons_iff.1 e3
    obtain ⟨A1, A2', rfl, e6, e7⟩ := List.filter_eq_append_iff.1 e1
    obtain ⟨B1, B2, rfl, e8, e9, e10⟩ := List.filter_eq_cons_iff.1 e7
    refine ⟨A1 ++ B1, k, B2, by simp, ?_, e4, by rw [opsC, e10, e5], e9⟩
    unfold opsC
    rw [List.filter_append, e6, List.filter_eq_nil_iff.2 e8, List.append_nil, e2]
  subst hA
  have h0 : k.it.sg ≠ 0 := by simp [mayOpen] at hkm; exact hkm.1.1
  have hkO := h2 k (by simp)
  unfold Ck.Ok at hkO
  rw [if_neg h0] at hkO
  -- the piece of the opener
  have hj : j < ps.length := (List.getElem?_eq_some_iff.1 hp).1
  have hps : ps = ps.take j ++ p :: ps.drop (j + 1) := by
    conv => lhs; rw [← List.take_append_drop j ps]
    rw [List.drop_eq_getElem_cons hj, (List.getElem?_eq_some_iff.1 hp).2]
  have hset : ∀ p' : Pc, ps.set j p' = ps.take j ++ p' :: ps.drop (j + 1) := fun p' => by
    rw [List.set_eq_take_append_cons_drop, if_pos hj]
  have htl : (ps.take j).length = j := by rw [List.length_take]; omega
  have hF := pls_F ps 0
  have hE : flatC (A1 ++ k :: A2) = flatC A1 ++ .row j k.it :: flatC A2 := by simp [flatC, hkO, hkp]
  rw [hE] at h3
  -- its place stands once
  have hnd : ((flatC A1).filterMap plE ++ j :: (flatC A2).filterMap plE).Pairwise (· < ·) := by
    have := hF.1
    have h5 : (evF 0 ps ++ List.replicate e Ev.up).filterMap plE = (evF 0 ps).filterMap plE := by rw [List.filterMap_append, pls_up, List.append_nil]
    rw [← h5, h3, List.filterMap_append, List.filterMap_cons] at this
    exact this
  have hnA : j ∉ (flatC A1).filterMap plE := fun hm => by
    have := (List.pairwise_append.1 hnd).2.2 j hm j (by simp)
    omega
  -- the piece is a row
  have hpr : p.it.sg ≠ 0 := by
    have hr := plC_split h2 (c := k) (by simp) h0
    rw [hE, ← h3, List.mem_append, List.mem_replicate] at hr
    rcases hr with hr | ⟨_, hr⟩
    · obtain ⟨q, e1, _, e2, e3⟩ := ev_mem hr
      rw [hkp] at e1
      simp only [Nat.sub_zero] at e1
      rw [hp] at e1
      cases e1
      rw [e2]
      exact e3
    · cases hr
  have hEp : ∀ q : Pc, q.it.sg ≠ 0 → evF 0 (ps.take j ++ q :: ps.drop (j + 1)) ++ List.replicate e Ev.up = (evF 0 (ps.take j) ++ List.replicate q.en .up) ++ .row j q.it :: (q.bg.reverse.map .dn ++ evF (j + 1) (ps.drop (j + 1)) ++ List.replicate e .up) := fun q hq => by
    rw [evF_append]
    simp [evF, evP, hq, htl]
  have hnP : j ∉ (evF 0 (ps.take j) ++ List.replicate p.en Ev.up).filterMap plE := fun hm => by
    rw [List.filterMap_append, pls_up, List.append_nil] at hm
    have := (pls_F (ps.take j) 0).2 j hm
    omega
  have h3' := h3
  rw [hps, hEp p hpr] at h3'
  obtain ⟨x1, x2, x3⟩ := split_row _ _ _ _ (rowAt_of hnP) (rowAt_of hnA) h3'
  refine ⟨(itsC A2).reverse, (itsC A1).reverse, ?_, ?_⟩
  · have : l = (itsC A2).reverse ++ p.it :: (itsC A1).reverse := by
      have := congrArg List.reverse h1
      rw [List.reverse_reverse] at this
      rw [this, x2]
      simp [itsC]
    rw [this]
    refine openerI_is ?_ fun x hx => ?_
    · rw [canOpen_is hc, x2, hkm, ← x2, hf]; rfl
    · rw [canOpen_is hc]
      by_cases hm : mayOpen x = true
      · have hx' : x ∈ itsC A2 := by simpa using hx
        obtain ⟨q, hq, rfl⟩ := List.mem_map.1 hx'
        have hq4 : q.pl ∈ o2 := by rw [← hk2]; exact List.mem_map.2 ⟨q, List.mem_filter.2 ⟨hq, hm⟩, rfl⟩
        have hq0 : q.it.sg ≠ 0 := by simp [mayOpen] at hm; exact hm.1.1
        have hr := plC_split h2 (c := q) (by simp [hq]) hq0
        rw [hE, ← h3, List.mem_append, List.mem_replicate] at hr
        rcases hr with hr | ⟨_, hr⟩
        · obtain ⟨u, e1, _, e2, _⟩ := ev_mem hr
          have := hn q.pl hq4 u (by simpa using e1)
          rw [e2] at this
          simp [this]
        · cases hr
      · simp [hm]
  · have hl0 : (lessI p.it (kOf p.it c)).sg ≠ 0 := hpr
    refine ⟨A1 ++ ⟨lessI p.it (kOf p.it c), j, [.row j (lessI p.it (kOf p.it c))]⟩ :: [⟨nodeI (kOf p.it c) (allI (itsC A2)), 0, .dn (if kOf p.it c = 2 then 4 else 3) :: flatC A2 ++ [.up]⟩], ?_, ?_, ?_, ?_⟩
    · simp [itsC]
    · intro x hx
      simp only [List.mem_append, List.mem_cons, List.not_mem_nil, or_false] at hx
      rcases hx with hx | rfl | rfl
      · exact h2 x (by simp [hx])
      · unfold Ck.Ok; rw [if_neg hl0]
      · unfold Ck.Ok
        rw [if_pos (show (nodeI (kOf p.it c) (allI (itsC A2))).sg = 0 from rfl)]
        intro d
        have hi := ok_ren (A := A2) (fun x hx => h2 x (by simp [hx])) (d + 1)
        simp only [List.cons_append, ren, dep, ren_append, dep_append, hi.2, List.append_nil, nodeI]
        refine ⟨?_, by omega⟩
        rw [show ∀ (y : Iln) (r : List Iln), someI (y :: r) = someI [y] ++ someI r from fun y r => by rw [← someI_append]; rfl, hi.1]
        rw [show ∀ (y : Iln) (r : List Iln), deepBy d (y :: r) = deepBy d [y] ++ deepBy d r from fun y r => by rw [← deepBy_append]; rfl, someI_append, deepBy_deep]
        simp [deepBy]
    · rw [hset, List.replicate_succ', ← List.append_assoc, hEp ⟨lessI p.it (kOf p.it c), p.en, p.bg ++ [if kOf p.it c = 2 then 4 else 3]⟩ hl0]
      simp only [flatC, List.flatMap_append, List.flatMap_cons, List.flatMap_nil, List.append_nil]
      rw [show (List.flatMap Ck.ev A1) = flatC A1 from rfl, ← x1, show (List.flatMap Ck.ev A2) = flatC A2 from rfl, ← x3]
      simp
    · have hlm : mayOpen (lessI p.it (kOf p.it c)) = decide (0 < p.it.n - kOf p.it c) := by
        have hkm' := hkm
        rw [← x2] at hkm'
        simp [mayOpen] at hkm'
        simp [mayOpen, lessI, hkm']
      have hnm : mayOpen (nodeI (kOf p.it c) (allI (itsC A2))) = false := rfl
      unfold opsC at hk1 ⊢
      rw [List.filter_append, List.map_append, hk1, List.filter_cons, List.filter_cons]
      simp only [hlm, hnm]
      by_cases hz : kOf p.it c < p.it.n <;> simp [hz]
/-- Depths that fit. -/
def WrapD (l : List Iln) : Prop := ∀ x ∈ l, IntKind.i64.wrap x.dp = x.dp
theorem wrapD_deep (l : List Iln) : WrapD (deepI l) := by
  intro x hx
  obtain ⟨y, _, rfl⟩ := List.mem_map.1 hx
  have := wrap64_add (y.dp + 1) 0
  simpa [deepOne] using this
theorem deepBy_zero {l : List Iln} (h : WrapD l) : deepBy 0 l = l := by
  unfold deepBy
  conv => rhs; rw [← List.map_id l]
  refine List.map_congr_left fun x hx => ?_
  simp [h x hx]
theorem wrapD_append {a b : List Iln} : WrapD (a ++ b) ↔ WrapD a ∧ WrapD b := by
  unfold WrapD
  constructor
  · exact fun h => ⟨fun x hx => h x (List.mem_append_left _ hx), fun x hx => h x (List.mem_append_right _ hx)⟩
  · rintro ⟨h, k⟩ x hx
    rcases List.mem_append.1 hx with hx | hx
    · exact h x hx
    · exact k x hx
theorem wrapD_row {x : Itm} (h : x.sg ≠ 0) : WrapD (leftI x) := by
  unfold leftI
  rw [if_neg h]
  intro y hy
  rw [List.mem_singleton] at hy
  subst hy
  rfl
theorem wrapD_node (k : Int) (l : List Iln) : WrapD (leftI (nodeI k l)) := by
  unfold leftI nodeI
  simp only [if_true]
  intro y hy
  rcases List.mem_cons.1 hy with rfl | hy
  · rfl
  · exact wrapD_deep l y hy
theorem wrapD_go : ∀ (f : Nat) (l r : List Itm), WrapD (allI l) → WrapD (allI r) → WrapD (allI (groupGo f l r))
  | 0, l, r, h, k => by
    simp only [groupGo, allI_append]
    refine wrapD_append.2 ⟨fun x hx => ?_, k⟩
    obtain ⟨y, hy, hx⟩ := List.mem_flatMap.1 hx
    exact h x (List.mem_flatMap.2 ⟨y, List.mem_reverse.1 hy, hx⟩)
  | f + 1, l, [], h, k => by
    simp only [groupGo]
    intro x hx
    obtain ⟨y, hy, hx⟩ := List.mem_flatMap.1 hx
    exact h x (List.mem_flatMap.2 ⟨y, List.mem_reverse.1 hy, hx⟩)
  | f + 1, l, c :: r, h, k => by
    rw [allI_cons, wrapD_append] at k
    have hp : WrapD (allI (groupGo f (c :: l) r)) := wrapD_go f (c :: l) r (by rw [allI_cons, wrapD_append]; exact ⟨k.1, h⟩) k.2
    simp only [groupGo]
    split
    · next hc =>
      have hc0 := canClose_pos hc
      split
      · exact hp
      · next m o l' he =>
        obtain ⟨rfl, ho, _⟩ := openerI_some he
        have ho0 := canOpen_pos ho
        rw [allI_append, allI_cons, wrapD_append, wrapD_append] at h
        refine wrapD_go f _ _ ?_ ?_
        · rw [allI_cons, allI_cons, wrapD_append, wrapD_append]
          exact ⟨wrapD_node _ _, wrapD_row (x := lessI o _) (by show o.sg ≠ 0; rw [ho0.2.1]; exact hc0.2.1), h.2.2⟩
        · rw [allI_cons, wrapD_append]
          exact ⟨wrapD_row (x := lessI c _) hc0.2.1, k.2⟩
    · exact hp
/-- At the end. -/
theorem sim_end {l : List Itm} {ps : List Pc} {ops : List Nat} (h : Sim l ps 0 ops) (hw : WrapD (allI l.reverse)) : mergeI (ren 0 (evF 0 ps)) = mergeI (allI l.reverse) := by
  obtain ⟨A, h1, h2, h3, h4⟩ := h.ex
  simp only [List.replicate_zero, List.append_nil] at h3
  rw [h3, ← mergeI_some, (ok_ren h2 0).1, mergeI_some, ← h1, deepBy_zero hw]
def itN (x : Itm) : Nat := if x.sg = 0 then x.nd.length + (textI x.nd).length else 1 + x.n.toNat
def potI (S : List Itm) : Nat := (S.map itN).sum
def pcN (p : Pc) : Nat := itN p.it + (if p.it.sg = 0 then 0 else p.bg.length)
def potP (ps : List Pc) : Nat := (ps.map pcN).sum
theorem potP_append (a b : List Pc) : potP (a ++ b) = potP a + potP b := by simp [potP]
theorem potI_cons (x : Itm) (S : List Itm) : potI (x :: S) = itN x + potI S := by simp [potI]
theorem potP_set (p' : Pc) : ∀ (ps : List Pc) (j : Nat) (p : Pc), ps[j]? = some p → potP (ps.set j p') + pcN p = potP ps + pcN p'
  | [], j, p, h => by cases h
  | q :: ps, 0, p, h => by
    have e : q = p := Option.some.inj h
    subst e
    simp only [List.set_cons_zero, potP, List.map_cons, List.sum_cons]
    omega
  | q :: ps, j + 1, p, h => by
    have := potP_set p' ps j p h
    simp only [List.set_cons_succ, potP, List.map_cons, List.sum_cons] at *
    omega
theorem itN_less (x : Itm) {k : Int} (hk : 1 ≤ k) (hn : k ≤ x.n) : itN (lessI x k) ≤ itN x := by
  unfold itN lessI
  dsimp only
  split <;> omega
theorem pcN_less (p : Pc) {k : Int} (hk : 1 ≤ k) (hn : k ≤ p.it.n) (z : Int) : pcN ⟨lessI p.it k, p.en, p.bg ++ [z]⟩ ≤ pcN p := by
  unfold pcN itN lessI
  dsimp only
  rw [List.length_append, List.length_singleton]
  split <;> omega
/-- What is done, what comes: as far as the document has come. -/
structure Run (S : List Itm) (ps : List Pc) (e : Nat) (ops : List Nat) (r : List Itm) : Prop where
  pt : potP ps + potI r ≤ potI S
  ex : ∃ l, Sim l ps e ops ∧ ∀ f, r.length + signsI (l ++ r) ≤ f → groupGo (fuelI S) [] S = groupGo f l r
theorem run_start (S : List Itm) : Run S [] 0 [] S := ⟨by simp [potP], [], sim_nil, fun f h => (groupGo_more (fuelI S) f [] S (by unfold fuelI; simp) (by unfold fuelI; simpa using h)).symm⟩
theorem run_push {S : List Itm} {ps : List Pc} {e : Nat} {ops : List Nat} {c : Itm} {r : List Itm} (h : Run S ps e ops (c :: r)) (he : c.sg = 0 → e = 0)
    (hn : canClose c = true → ∀ k ∈ ops, ∀ p, ps[k]? = some p → fitI p.it c = false) : Run S (ps ++ [⟨c, e, []⟩]) 0 (if mayOpen c then ops ++ [ps.length] else ops) r := by
  obtain ⟨l, h1, h2⟩ := h.ex
  have hpt := h.pt
  refine ⟨by rw [potP_append]; rw [potI_cons] at hpt; have : potP [(⟨c, e, []⟩ : Pc)] = itN c := by simp [potP, pcN]
             omega, c :: l, sim_push h1 c he, fun f hf => ?_⟩
  have e1 : signsI (l ++ c :: r) = signsI (c :: l ++ r) := by
    simp only [signsI_append, signsI_cons, List.cons_append]; omega
  rw [h2 (f + 1) (by rw [e1, List.length_cons]; omega)]
  simp only [groupGo]
  split
  · next hc =>
    rw [sim_none h1 (canClose_pos hc).2.1 (hn hc)]
  · rfl
theorem run_pair {S : List Itm} {ps : List Pc} {e : Nat} {o1 o2 : List Nat} {j : Nat} {c : Itm} {r : List Itm} (h : Run S ps e (o1 ++ j :: o2) (c :: r)) (hc : canClose c = true) {p : Pc} (hp : ps[j]? = some p)
    (hf : fitI p.it c = true) (hn : ∀ k ∈ o2, ∀ q, ps[k]? = some q → fitI q.it c = false) :
    Run S (ps.set j ⟨lessI p.it (kOf p.it c), p.en, p.bg ++ [if kOf p.it c = 2 then 4 else 3]⟩) (e + 1) (if 0 < p.it.n - kOf p.it c then o1 ++ [j] else o1) (lessI c (kOf p.it c) :: r) := by
  obtain ⟨l, h1, h2⟩ := h.ex
  have hc0 := canClose_pos hc
  obtain ⟨m, l', h3, h4⟩ := sim_pair h1 hc0.2.1 hp hf hn
  obtain ⟨e0, ho, _⟩ := openerI_some h3
  have hk := kOf_is p.it c (canOpen_pos ho).1 hc0.1
  have hpt := h.pt
  have hp1 := potP_set ⟨lessI p.it (kOf p.it c), p.en, p.bg ++ [if kOf p.it c = 2 then 4 else 3]⟩ ps j p hp
  refine ⟨by rw [potI_cons] at *; have h5 := pcN_less p (k := kOf p.it c) (by omega) (by omega) (if kOf p.it c = 2 then 4 else 3); have h6 := itN_less c (k := kOf p.it c) (by omega) (by omega); omega, _, h4, fun f hf => ?_⟩
  rw [h2 (f + (c :: r).length + signsI (l ++ c :: r) + 1) (by omega)]
  simp only [groupGo]
  rw [if_pos hc, h3]
  exact groupGo_more f _ _ _ hf (by omega)
theorem run_end {S : List Itm} {ps : List Pc} {ops : List Nat} (h : Run S ps 0 ops []) (hw : WrapD (allI S)) : mergeI (ren 0 (evF 0 ps)) = groupI S := by
  obtain ⟨l, h1, h2⟩ := h.ex
  have e1 : groupGo (fuelI S) [] S = l.reverse := by
    rw [h2 (signsI l + 1) (by simp)]
    rfl
  unfold groupI
  rw [e1]
  refine sim_end h1 ?_
  rw [← e1]
  exact wrapD_go _ _ _ (by intro x hx; cases hx) hw
end Go.Proofs.YteihmgcphbijhaaGreatDoor

namespace Go.Proofs.YteihmgcphbijhaaGreatDoor
open Go.RowKit
set_option linter.unusedSimpArgs false
set_option linter.unusedVariables false
set_option maxRecDepth 100000
def ilV (x : Iln) : Value := .agg #[.int .i64 x.kd, .int .i64 x.dp, .string ⟨x.txt.toArray⟩, .string ⟨x.url.toArray⟩, .string ⟨x.ttl.toArray⟩]
/-- An item of package emph: lv: its nodes' slice. -/
def itV (x : Itm) (lv : Value) : Value := .agg #[.int .u8 x.sg.toNat, .int .i64 x.ff, .bool x.op, .bool x.cl, lv]
def kindV (sg : UInt8) (b : Bool) (r : Int) : Value := .agg #[.int .u8 sg.toNat, .bool b, .int .i64 r]
def kV (x : Itm) : Value := kindV x.sg (x.op && x.cl) (x.ff.tmod 3)
theorem box5 (w : World) (c0 c1 c2 c3 c4 : Value) (t : TypeId) : (w.alloc (.cells #[c0, c1, c2, c3, c4] t)).cell? ⟨w.heap.size, 0, none⟩ = some c0 ∧ (w.alloc (.cells #[c0, c1, c2, c3, c4] t)).cell? ⟨w.heap.size, 1, none⟩ = some c1 ∧
    (w.alloc (.cells #[c0, c1, c2, c3, c4] t)).cell? ⟨w.heap.size, 2, none⟩ = some c2 ∧ (w.alloc (.cells #[c0, c1, c2, c3, c4] t)).cell? ⟨w.heap.size, 3, none⟩ = some c3 ∧ (w.alloc (.cells #[c0, c1, c2, c3, c4] t)).cell? ⟨w.heap.size, 4, none⟩ = some c4 := by
  have h : ∀ j u, [c0, c1, c2, c3, c4][j]? = some u → _ := elt_cells w [c0, c1, c2, c3, c4] t
  simp only [addr_add, Nat.zero_add] at h
  exact ⟨h 0 _ rfl, h 1 _ rfl, h 2 _ rfl, h 3 _ rfl, h 4 _ rfl⟩
theorem box3 (w : World) (c0 c1 c2 : Value) (t : TypeId) : (w.alloc (.cells #[c0, c1, c2] t)).cell? ⟨w.heap.size, 0, none⟩ = some c0 ∧ (w.alloc (.cells #[c0, c1, c2] t)).cell? ⟨w.heap.size, 1, none⟩ = some c1 ∧
    (w.alloc (.cells #[c0, c1, c2] t)).cell? ⟨w.heap.size, 2, none⟩ = some c2 := by
  have h : ∀ j u, [c0, c1, c2][j]? = some u → _ := elt_cells w [c0, c1, c2] t
  simp only [addr_add, Nat.zero_add] at h
  exact ⟨h 0 _ rfl, h 1 _ rfl, h 2 _ rfl⟩
theorem empty_any (x : Iln) (w : World) : Calls Tryz.prog 55 #[ilV x] w fun e w' => e = .returned (.bool (x.kd == 1 && x.txt == [])) ∧ Below w.heap.size w w' := by
  obtain ⟨k, d, s, u, t⟩ := x
  unfold ilV
  dsimp only
  obtain ⟨x0, x1, x2, x3, x4⟩ := box5 w (.int .i64 k) (.int .i64 d) (.string ⟨s.toArray⟩) (.string ⟨u.toArray⟩) (.string ⟨t.toArray⟩) 28
  have b0 : Below w.heap.size w (w.alloc (.cells #[.int .i64 k, .int .i64 d, .string ⟨s.toArray⟩, .string ⟨u.toArray⟩, .string ⟨t.toArray⟩] 28)) := (Below.refl _ w).alloc (Nat.le_refl _) _
  have HB := Lib.hid b0
  clear b0
  go_enter Tryz.func55, Tryz.ntmps55
  go_wp2
  all_goals (go_ret; refine ⟨ret_bool (by cases s <;> simp_all), (Below.refl _ w).alloc (Nat.le_refl _) _⟩)
theorem words_any (d : Int) (s : List UInt8) (w : World) : Calls Tryz.prog 57 #[.int .i64 d, .string ⟨s.toArray⟩] w fun e w' => e = .returned (ilV (wordsI d s)) ∧ Below w.heap.size w w' := by
  go_enter Tryz.func57, Tryz.ntmps57
  go_wp2
  refine bodyPost_ret (results_cell_row rfl _ _ _ 28 _ (0, 0) _ rfl (heap_alloc_new _ _) Tryz.underlying28 rfl (by kernel_rfl)) rfl ?_
  exact ⟨rfl, (Below.refl _ w).alloc (Nat.le_refl _) _⟩
theorem shown_any (x : Iln) (w : World) : Calls Tryz.prog 10 #[ilV x] w fun e w' => e = .returned (.string ⟨(ilText x).toArray⟩) ∧ Below w.heap.size w w' := by
  obtain ⟨k, d, s, u, t⟩ := x
  unfold ilV
  dsimp only
  obtain ⟨x0, x1, x2, x3, x4⟩ := box5 w (.int .i64 k) (.int .i64 d) (.string ⟨s.toArray⟩) (.string ⟨u.toArray⟩) (.string ⟨t.toArray⟩) 28
  have b0 : Below w.heap.size w (w.alloc (.cells #[.int .i64 k, .int .i64 d, .string ⟨s.toArray⟩, .string ⟨u.toArray⟩, .string ⟨t.toArray⟩] 28)) := (Below.refl _ w).alloc (Nat.le_refl _) _
  have HB := Lib.hid b0
  clear b0
  go_enter Tryz.func10, Tryz.ntmps10
  go_wp2
  all_goals (go_ret; refine ⟨?_, (Below.refl _ w).alloc (Nat.le_refl _) _⟩)
  all_goals (simp_all [ilText])
theorem kindOf_any (x : Itm) (lv : Value) (w : World) : Calls Tryz.prog 52 #[itV x lv] w fun e w' => e = .returned (kV x) ∧ Below w.heap.size w w' := by
  obtain ⟨sg, n, ff, op, cl, nd⟩ := x
  unfold itV kV kindV
  dsimp only
  obtain ⟨x0, x1, x2, x3, x4⟩ := box5 w (.int .u8 sg.toNat) (.int .i64 ff) (.bool op) (.bool cl) lv 75
  have b0 : Below w.heap.size w (w.alloc (.cells #[.int .u8 sg.toNat, .int .i64 ff, .bool op, .bool cl, lv] 75)) := (Below.refl _ w).alloc (Nat.le_refl _) _
  have HB := Lib.hid b0
  clear b0
  go_enter Tryz.func52, Tryz.ntmps52
  go_wp2
  all_goals refine bodyPost_ret (results_cell_row rfl _ _ _ 124 _ (0, 0) _ rfl (heap_alloc2_new _ _ _) Tryz.underlying124 rfl (by kernel_rfl)) rfl ?_
  all_goals exact ⟨by simp_all, ((Below.refl _ w).alloc (Nat.le_refl _) _).alloc (by simp) _⟩
def fitK (sg : UInt8) (b : Bool) (r : Int) (b2 : Bool) (r2 : Int) : Bool := !((b || b2) && (r + r2).tmod 3 == 0 && !(r == 0 && r2 == 0))
theorem fits_any (sg sg2 : UInt8) (b b2 : Bool) (r r2 : Int) (w : World) (h1 : -2 ≤ r ∧ r ≤ 2) (h2 : -2 ≤ r2 ∧ r2 ≤ 2) : Calls Tryz.prog 116 #[kindV sg b r, kindV sg2 b2 r2] w fun e w' => e = .returned (.bool (fitK sg b r b2 r2)) ∧ Below w.heap.size w w' := by
  unfold kindV
  have hw0 : wrap64 (r + r2) = r + r2 := by simp only [wrap64]; omega
  have hw1 : wrap64 r = r := by simp only [wrap64]; omega
  have hw2 : wrap64 r2 = r2 := by simp only [wrap64]; omega
  have HW := Lib.hid (And.intro hw0 (And.intro hw1 hw2))
  clear h1 h2
  go_enter Tryz.func116, Tryz.ntmps116
  go_wp2
  all_goals (go_ret; refine ⟨ret_bool (by simp_all [fitK]), ((Below.refl _ w).alloc (Nat.le_refl _) _).alloc (by simp) _⟩)
end Go.Proofs.YteihmgcphbijhaaGreatDoor

namespace Go.Proofs.YteihmgcphbijhaaGreatDoor
open Go.RowKit
set_option linter.unusedSimpArgs false
set_option linter.unusedVariables false
set_option maxRecDepth 100000
theorem em_width (s : ByteArray) (k : Nat) (h : k < s.size) : 1 ≤ (Utf8.decode s k).2 := by
  by_cases ha : s[k].toNat < 128
  · rw [decode_ascii s k h ha]; exact Nat.le_refl _
  · exact (decode_high s k h (by omega)).2
theorem em_strcells (l acc : List UInt8) (s : ByteArray) (h : s.data.toList = l) : Lib.byteCells acc ++ Lib.strCells s = Lib.byteCells (acc ++ l) := by
  rw [Lib.byteCells_append, ← h]; rfl
theorem em_extract (s : ByteArray) (t k : Nat) : (s.extract t k).data.toList = (s.data.toList.take k).drop t := by simp [List.drop_take]
theorem em_isB {T e : TypeId} {B b : Nat} {bs : List Value} {w w' : World} (h : Lib.IsBuilderF T e B b bs w) (hb : Below w.heap.size w w') : Lib.IsBuilderF T e B b bs w' := by
  have go : ∀ p, Lib.BuilderAtF T e B b p bs w → Lib.BuilderAtF T e B b p bs w' := by
    rintro p ⟨hB, v, hbk, hown, hne⟩
    refine ⟨hB, v, (hb.block b (Array.getElem?_eq_some_iff.1 hbk).1).trans hbk, ⟨hown.1, ?_⟩, hne⟩
    rcases hown.2 with hn | ⟨g, cap, cur, fz, hv, hbg, hg, rest⟩
    · exact .inl hn
    · exact .inr ⟨g, cap, cur, fz, hv, hbg, (hb.block g (Array.getElem?_eq_some_iff.1 hg).1).trans hg, rest⟩
  exact h.elim (fun x => .inl (go _ x)) (fun x => .inr (go _ x))
def AddRel (B b : Nat) (l : List UInt8) (s : ByteArray) (w : World) (z : Value) (wr : World) : Prop :=
  ∃ k t : Nat, z = .int .i64 t ∧ t ≤ k ∧ k ≤ s.size ∧ wr.heap[w.heap.size]? = some (.stringIter s k) ∧ Lib.IsBuilderF 39 5 B b (Lib.byteCells (l ++ s.data.toList.take t)) wr ∧ Below B w wr
set_option maxHeartbeats 4000000 in
theorem add_any (B b : Nat) (l : List UInt8) (s : ByteArray) (w : World) (hI0 : Lib.IsBuilderF 39 5 B b (Lib.byteCells l) w) (hBw : B ≤ w.heap.size) (hbw0 : b < w.heap.size) (hs : l.length + s.size ≤ 140737488355328) :
    Calls Tryz.prog 9 #[.pointer (some ⟨b, 0, none⟩), .string s] w fun e w' => e = .returned (.tuple #[]) ∧ Lib.IsBuilderF 39 5 B b (Lib.byteCells (l ++ s.data.toList)) w' ∧ Below B w w' := by
  have HI0 := Lib.hid hI0
  clear hI0
  go_enter Tryz.func9, Tryz.ntmps9
  go_wp2_with fail
  go_loopw [4] (fun z wr => AddRel B b l s w z wr) (fun _ wr => s.size - wr.iterPos w.heap.size)
  case atStart =>
    refine ⟨0, 0, rfl, Nat.le_refl _, Nat.zero_le _, World.iter_heap w s 0, ?_, (Below.refl _ w).alloc hBw _⟩
    rw [List.take_zero, List.append_nil]
    exact HI0.out.alloc _
  case round =>
    obtain ⟨k, t, rfl, ht, hk, hit, hI, hbw⟩ := hrel
    have hsz : w.heap.size < wr.heap.size := (Array.getElem?_eq_some_iff.1 hit).1
    have hlen : (s.data.toList.take t).length ≤ t := by rw [List.length_take]; omega
    by_cases hp : k < s.size
    · have hnx : ∀ ty, (Instr.next (.pointer (some ⟨w.heap.size, 0, none⟩)) true ty).run Tryz.prog wr = _ := fun ty => Lib.run_next_any_at wr w.heap.size s k ty hit hp
      have hwd := em_width s k hp
      have hd2 := (decode_tail s k hp).1
      have hI2 := hI.iterAt hit (k + (Utf8.decode s k).2)
      have hit2 := Lib.iterAt_heap wr w.heap.size s k (k + (Utf8.decode s k).2) hit
      have hbw2 := Lib.below_iterAt hbw (k := w.heap.size) (by omega) s (k + (Utf8.decode s k).2)
      have hsz2 : w.heap.size < (wr.iterAt w.heap.size s (k + (Utf8.decode s k).2)).heap.size := by rw [Lib.iterAt_size]; omega
      have Hit := Lib.hid hit
      clear hit hbw hI
      have hsl := slice_lohi s t k t k rfl rfl ht (by omega)
      have hws := Tryz.Builder_WriteString_k B b _ (s.extract t k) _ hI2 (by rw [Lib.byteCells_length, List.length_append, ByteArray.size_extract]; omega) (by omega)
      rw [em_strcells _ _ _ (em_extract s t k), List.append_assoc, show s.data.toList.take t ++ (s.data.toList.take k).drop t = s.data.toList.take k from by
        conv => rhs; rw [← List.take_append_drop t (s.data.toList.take k), List.take_take, Nat.min_eq_left ht]] at hws
      have HW := Lib.hid hws
      clear hws hI2
      generalize hdd : Utf8.decode s k = d at *
      obtain ⟨d1, d2⟩ := d
      simp only at *
      go_wp2_with fail
      refine HW.out.mono ?_
      rintro e w2 ⟨rfl, g2, b2, k2⟩
      have hit3 := Lib.hid (k2.iter hit2 (by omega))
      have hs4 := b2.size
      have hB2 := Lib.hid (hbw2.trans b2)
      have HG := Lib.hid g2
      clear g2 hbw2
      go_wp2
      go_roundw
      case rel => exact ⟨k + d2, k, rfl, by omega, hd2, hit3.out, Or.inr HG.out, hB2.out⟩
      case measure => simp only [World.iterPos, hit3.out, Hit.out]; omega
    · have hnx : ∀ ty, (Instr.next (.pointer (some ⟨w.heap.size, 0, none⟩)) true ty).run Tryz.prog wr = _ := fun ty => Lib.run_next_end_at wr w.heap.size s k ty hit hp
      obtain rfl : k = s.size := by omega
      have hsl := slice_lo s t t rfl ht
      have hws := Tryz.Builder_WriteString_k B b _ (s.extract t s.size) _ hI (by rw [Lib.byteCells_length, List.length_append, ByteArray.size_extract]; omega) (by omega)
      rw [em_strcells _ _ _ (em_extract s t s.size), List.append_assoc, show s.data.toList.take t ++ (s.data.toList.take s.size).drop t = s.data.toList from by
        rw [List.take_of_length_le (l := s.data.toList) (i := s.size) (by simp)]; exact List.take_append_drop t _] at hws
      have HW := Lib.hid hws
      clear hws hI
      go_wp2_with fail
      refine HW.out.mono ?_
      rintro e w2 ⟨rfl, g2, b2, k2⟩
      have HG := Lib.hid (show Lib.IsBuilderF 39 5 B b (Lib.byteCells (l ++ s.data.toList)) w2 from Or.inr g2)
      clear g2
      go_wp2
      go_end0
      exact ⟨rfl, HG.out, hbw.trans b2⟩
def TextRel (X : List Iln) (w : World) (i : Value) (wr : World) : Prop :=
  ∃ k : Nat, i = .int .i64 k ∧ k ≤ X.length ∧ Lib.IsBuilderF 39 5 w.heap.size w.heap.size (Lib.byteCells (textI (X.take k))) wr ∧ Below w.heap.size w wr ∧ w.heap.size < wr.heap.size
theorem textI_take (X : List Iln) (k : Nat) (h : k < X.length) : textI (X.take (k + 1)) = textI (X.take k) ++ ilText X[k] := by
  rw [List.take_succ_eq_append_getElem h, textI_append]; simp [textI]
theorem textI_le (X : List Iln) (k : Nat) : (textI (X.take k)).length ≤ (textI X).length := by
  have := congrArg List.length (show textI X = textI (X.take k) ++ textI (X.drop k) from by rw [← textI_append, List.take_append_drop])
  rw [List.length_append] at this
  omega
set_option maxHeartbeats 4000000 in
theorem text_inl (A : Option Addr) (cap : Nat) (X : List Iln) (w : World) (hrow : InlsAt w A cap X) (hlen : (textI X).length ≤ 140737488355328) :
    Calls Tryz.prog 7 #[.slice A X.length cap] w fun e w' => e = .returned (.string ⟨(textI X).toArray⟩) ∧ Below w.heap.size w w' := by
  have hl1 := hrow.le
  have hl2 := hrow.cap
  unfold maxLen at hl2
  go_enter Tryz.func7, Tryz.ntmps7
  go_wp2_with fail
  go_loopw [8] (fun i wr => TextRel X w i wr) (fun i wr => X.length - (intOf i).toNat)
  case atStart =>
    refine ⟨0, rfl, Nat.zero_le _, Lib.IsBuilderF.of (Lib.fresh_isBuilder 39 5 w), (Below.refl _ w).alloc (Nat.le_refl _) _, (by show _ < (w.heap.push _).size; simp)⟩
  case round =>
    obtain ⟨k, rfl, hk, hI, hbw, hsz⟩ := hrel
    by_cases hp : k < X.length
    · obtain ⟨b, off, rfl, hb, c0, c1, c2, c3, c4⟩ := InlsAt.cells5 (EltsAt.below hrow hbw) hp
      have HJ := Lib.hid (textI_take X k hp)
      have h1 := textI_le X (k + 1)
      rw [HJ.out, List.length_append] at h1
      have hsh := fun w1 => shown_any X[k] w1
      have h2 : (⟨(ilText X[k]).toArray⟩ : ByteArray).size = (ilText X[k]).length := rfl
      generalize hx : X[k] = x at *
      obtain ⟨kd, dp, txt, url, ttl⟩ := x
      have HS := Lib.hid hsh
      have HI := Lib.hid hI
      have HX := Lib.hid hx
      clear hsh hI hx
      unfold ilV at HS
      dsimp only at HS c0 c1 c2 c3 c4
      go_wp2_with fail
      refine (HS.out _).mono ?_
      rintro e w1 ⟨rfl, b1⟩
      have hs1 := b1.size
      have hsA := alloc_size wr (.cells #[.int .i64 kd, .int .i64 dp, .string ⟨txt.toArray⟩, .string ⟨url.toArray⟩, .string ⟨ttl.toArray⟩] 28)
      have hI1 := em_isB (em_isB HI.out ((Below.refl _ wr).alloc (Nat.le_refl _) _)) b1
      have hb1 : Below w.heap.size w w1 := (hbw.alloc (by omega) _).trans (b1.mono (by omega))
      have HA := Lib.hid (add_any w.heap.size w.heap.size _ ⟨(ilText ⟨kd, dp, txt, url, ttl⟩).toArray⟩ w1 hI1 (by omega) (by omega) (by rw [h2]; omega))
      rw [show (⟨(ilText ⟨kd, dp, txt, url, ttl⟩).toArray⟩ : ByteArray).data.toList = ilText ⟨kd, dp, txt, url, ttl⟩ from rfl, ← HJ.out] at HA
      clear hI1
      go_wp2_with fail
      refine HA.out.mono ?_
      rintro e w2 ⟨rfl, hI2, b2⟩
      have hs2 := b2.size
      have HI2 := Lib.hid hI2
      clear hI2
      go_wp2
      go_roundw
      case rel => exact ⟨k + 1, by go_num, by omega, HI2.out, hb1.trans b2, by omega⟩
      case measure => simp [intOf]; omega
    · obtain rfl : k = X.length := by omega
      rw [List.take_length] at hI
      go_wp2_with fail
      refine (Tryz.Builder_String_any_k w.heap.size w.heap.size _ _ hI (by omega)).mono ?_
      rintro e w1 ⟨rfl, _, b1, _⟩
      go_wp2
      go_ret
      exact ⟨rfl, hbw.trans b1⟩
end Go.Proofs.YteihmgcphbijhaaGreatDoor

namespace Go.Proofs.YteihmgcphbijhaaGreatDoor
open Go.RowKit
set_option linter.unusedSimpArgs false
set_option linter.unusedVariables false
set_option maxRecDepth 100000
def dropI (A : Option Addr) (cap k : Nat) : Option Addr := if cap = k then A else A.map (·.add (k * 5))
theorem InlsAt.dropL {w : World} {A : Option Addr} {cap : Nat} {X : List Iln} (h : InlsAt w A cap X) {k : Nat} (hk : k ≤ X.length) : InlsAt w (dropI A cap k) (cap - k) (X.drop k) := by
  have h1 := h.le
  have h2 := h.cap
  refine ⟨by rw [List.length_drop]; omega, by omega, ?_⟩
  by_cases h0 : X.drop k = []
  · exact Or.inl h0
  · have hlt : k < X.length := by
      rw [List.drop_eq_nil_iff] at h0
      omega
    rcases h.cells with e | ⟨b, off, e, hb, hc⟩
    · rw [e] at hlt; simp at hlt
    · refine Or.inr ⟨b, off + k * 5, ?_, hb, fun i hi j u hu => ?_⟩
      · unfold dropI
        rw [if_neg (by omega), e, Option.map_some, addr_add]
      · rw [List.length_drop] at hi
        rw [List.getElem_drop] at hu
        have := hc (k + i) (by omega) j u hu
        rw [← this]
        congr 2
        omega
theorem InlsAt.takeL {w : World} {A : Option Addr} {cap : Nat} {X : List Iln} (h : InlsAt w A cap X) (k : Nat) : InlsAt w A cap (X.take k) := by
  refine ⟨by rw [List.length_take]; have := h.le; omega, h.cap, ?_⟩
  rcases h.cells with e | ⟨b, off, e, hb, hc⟩
  · exact Or.inl (by rw [e]; simp)
  · refine Or.inr ⟨b, off, e, hb, fun i hi j u hu => ?_⟩
    rw [List.length_take] at hi
    rw [List.getElem_take] at hu
    exact hc i (by omega) j u hu
theorem elem_inls : Tryz.prog.elem 25 = 28 := by kernel_rfl
theorem islice_low (A : Option Addr) (len cap k : Nat) (h : k ≤ len) (W : World) : (Instr.slice 25 (.slice A len cap) (some (.int .i64 (k : Int))) none none).run Tryz.prog W = .ok (.slice (dropI A cap k) (len - k) (cap - k)) W := by
  rw [run_slice_l W 25 A len cap (by kernel_rfl) .i64 (k : Int) (by omega) (by omega)]
  rw [show Tryz.prog.elem 25 = 28 from elem_inls]
  go_simp
  simp [sliced, dropI]
theorem islice_high (A : Option Addr) (len cap k : Nat) (h : k ≤ cap) (W : World) : (Instr.slice 25 (.slice A len cap) none (some (.int .i64 (k : Int))) none).run Tryz.prog W = .ok (.slice A k cap) W := by
  rw [run_slice_h W 25 A len cap (by kernel_rfl) .i64 (k : Int) (by omega) (by omega)]
  rw [show Tryz.prog.elem 25 = 28 from elem_inls]
  go_simp
theorem ils_one' (X : List Iln) : ∀ u ∈ flt ilC X, u.oneCell' = true := by
  intro u hu
  obtain ⟨x, _, hx⟩ := List.mem_flatMap.1 hu
  exact ilC_one x u hx
/-- What a row owns at its beginning. -/
theorem own_cut {w : World} {B g n cap s m : Nat} {e : TypeId} {xs : List Value} (h : w.ownsRow B e s (.slice (some ⟨g, 0, none⟩) n cap) n xs) (hm : m ≤ n) : w.ownsRow B e s (.slice (some ⟨g, 0, none⟩) m cap) m (xs.take (m * s)) := by
  have hl := h.1
  have hms : m * s ≤ n * s := Nat.mul_le_mul_right s hm
  refine ⟨by rw [List.length_take]; omega, ?_⟩
  rcases h.2 with ⟨e1, _⟩ | ⟨g', cap', cur, e1, hb, hg, hnc, hcm, hcs, ht⟩
  · cases e1
  · cases e1
    refine Or.inr ⟨g, cap, cur, rfl, hb, hg, by omega, hcm, hcs, ?_⟩
    rw [← ht, List.take_take, Nat.min_eq_left hms]
/-- Cells behind some place are written over. -/
theorem own_setCells {B g n cap s : Nat} {e : TypeId} : ∀ (L : List Value) (o : Nat) (w : World) (xs : List Value), w.ownsRow B e s (.slice (some ⟨g, 0, none⟩) n cap) n xs →
    ∃ ys, ys.take o = xs.take o ∧ (w.setCells g o L).ownsRow B e s (.slice (some ⟨g, 0, none⟩) n cap) n ys ∧ w.grownBy (w.setCells g o L) (some g)
  | [], o, w, xs, h => ⟨xs, rfl, h, ⟨rfl, rfl, rfl, Nat.le_refl _, fun _ _ _ => rfl⟩⟩
  | v :: L, o, w, xs, h => by
    obtain ⟨s1, g1⟩ := h.stored o v
    obtain ⟨ys, h1, h2, h3⟩ := own_setCells L (o + 1) _ _ s1
    refine ⟨ys, ?_, h2, g1.trans h3⟩
    have := congrArg (List.take o) h1
    rw [List.take_take, List.take_take, Nat.min_eq_left (by omega)] at this
    rw [this, List.take_set_of_le (Nat.le_refl o)]
theorem clone_inls (A : Option Addr) (cap : Nat) (ls : List Iln) (w : World) (hrow : InlsAt w A cap ls) (hn : ls.length ≤ 100000000) :
    Calls Tryz.prog 54 #[.slice A ls.length cap] w fun e w' => ∃ v, e = .returned v ∧ w'.ownsRow w.heap.size 28 5 v ls.length (flt ilC ls) ∧ Below w.heap.size w w' := by
  obtain ⟨i0, hi, hz0, hz1, hz2⟩ := info_parts infoInl
  have hl := flt_length ilC_length ls
  have h1 := ils_one' ls
  have qe : ∀ (w : World) (a : Option Addr) (n c n' c' : Nat), (binOp .eql 25 (.slice a n c) (.slice none n' c')).run Tryz.prog w = .ok (.bool a.isNone) w := fun w a n c n' c' => Lib.run_eql_slice_nil w _ _ a n c n' c' Tryz.underlying25
  rcases A with _ | ad
  · have h0 : ls = [] := by
      rcases hrow.cells with h | ⟨b, off, e, _⟩
      · exact h
      · cases e
    subst h0
    go_enter Tryz.func54, Tryz.ntmps54
    go_wp2
    go_ret
    exact ⟨_, rfl, World.ownsRow_nil _ _ _ _, Below.refl _ _⟩
  · have hown0 : (w.alloc (.cells #[] 28)).ownsRow w.heap.size 28 5 (.slice (some ⟨w.heap.size, 0, none⟩) 0 0) 0 [] :=
      ⟨rfl, .inr ⟨w.heap.size, 0, #[], rfl, Nat.le_refl _, heap_alloc_new w _, Nat.le_refl _, Nat.zero_le _, rfl, rfl⟩⟩
    have b0 : Below w.heap.size w (w.alloc (.cells #[] 28)) := (Below.refl _ w).alloc (Nat.le_refl _) _
    have hc := (hrow.below b0).flat ilC_length (by decide)
    have hbs := b0.size
    have HL := Lib.hid hl
    have HB0 := Lib.hid b0
    clear hl b0
    go_enter Tryz.func54, Tryz.ntmps54
    go_wp2_with (at_builtin; refine wpList_append_own _ rfl _ _ 25 rfl w.heap.size 28 i0 (.agg #[.int .i64 0, .int .i64 0, .string ByteArray.empty, .string ByteArray.empty, .string ByteArray.empty]) 5 64 Tryz.underlying25 hi hz0 hz1 hz2 rfl (by decide) _ 0 [] rfl hown0 ad ls.length cap (flt ilC ls) rfl HL.out hc h1 (by unfold maxLen; omega) (by omega) hbs ?_)
    intro v' w2 hown' hgrow _
    have hb := HB0.out.grown hgrow hbs (fun k hk => (hown0.lt k hk).1)
    have HO := Lib.hid hown'
    clear hown' hgrow
    go_wp2
    go_ret
    exact ⟨_, rfl, by simpa using HO.out, hb⟩
/-- What the search answers. -/
def idxI (p : Iln → Bool) (X : List Iln) : Int := if X.findIdx p < X.length then (X.findIdx p : Int) else -1
theorem idx_step {p : Iln → Bool} {X : List Iln} {k : Nat} (hk : k < X.length) (h : k ≤ X.findIdx p) : (p X[k] = true → X.findIdx p = k) ∧ (p X[k] = false → k + 1 ≤ X.findIdx p) := by
  constructor
  · intro hp
    rcases Nat.lt_or_ge k (X.findIdx p) with h1 | h1
    · have := List.not_of_lt_findIdx h1
      simp [hp] at this
    · omega
  · intro hp
    rcases Nat.lt_or_ge k (X.findIdx p) with h1 | h1
    · exact h1
    · have e : X.findIdx p = k := by omega
      have := List.findIdx_getElem (w := show X.findIdx p < X.length by omega)
      simp only [e] at this
      rw [hp] at this
      cases this
def togI (y x : Iln) : Bool := !(x.kd == 1) || !(x.dp == y.dp)
theorem tog1_any (x y : Iln) (X : List Iln) (bx : Nat) (A : Option Addr) (cap n : Nat) (w : World) (hn : n = (y :: X).length) (hbx : w.cell? ⟨bx, 0, none⟩ = some (.slice A n cap)) (hlt : bx < w.heap.size) (hrow : InlsAt w A cap (y :: X)) :
    Calls Tryz.prog 90 #[ilV x, .pointer (some ⟨bx, 0, none⟩)] w fun e w' => e = .returned (.bool (togI y x)) ∧ Below w.heap.size w w' := by
  obtain ⟨k, d, s, u, t⟩ := x
  obtain ⟨b, off, rfl, hb, c0, c1, c2, c3, c4⟩ := InlsAt.cells5 hrow (k := 0) (by simp)
  simp only [List.getElem_cons_zero, Nat.zero_mul, Nat.add_zero] at c1
  have b0 : Below w.heap.size w (w.alloc (.cells #[.int .i64 k, .int .i64 d, .string ⟨s.toArray⟩, .string ⟨u.toArray⟩, .string ⟨t.toArray⟩] 28)) := (Below.refl _ w).alloc (Nat.le_refl _) _
  have hbx1 := (b0.cell (p := ⟨bx, 0, none⟩) hlt).trans hbx
  have c11 := (b0.cell (p := ⟨b, off + 1, none⟩) hb).trans c1
  have hn0 : 0 < n := by rw [hn]; simp
  unfold ilV togI
  dsimp only
  generalize y.dp = yd at *
  clear hrow c0 c2 c3 c4 c1 hbx hn
  have hbs : b < (w.alloc (.cells #[.int .i64 k, .int .i64 d, .string ⟨s.toArray⟩, .string ⟨u.toArray⟩, .string ⟨t.toArray⟩] 28)).heap.size := by simp; omega
  clear b0
  obtain ⟨x0, x1, x2, x3, x4⟩ := box5 w (.int .i64 k) (.int .i64 d) (.string ⟨s.toArray⟩) (.string ⟨u.toArray⟩) (.string ⟨t.toArray⟩) 28
  by_cases hk : k = 1
  · subst hk
    go_enter Tryz.func90, Tryz.ntmps90
    go_wp2_with fail
    go_quiet (fail)
    all_goals go_wp2
    all_goals go_ret
    all_goals exact ⟨ret_bool (by simp [bne]), below_drewN' ((Below.refl _ w).alloc (Nat.le_refl _) _) _⟩
  · have hk1 : (k != 1) = true := by simpa using hk
    have hk2 : (k == 1) = false := by simpa using hk
    go_enter Tryz.func90, Tryz.ntmps90
    go_wp2_with fail
    go_quiet (fail)
    all_goals go_wp2
    all_goals go_ret
    all_goals exact ⟨ret_bool (by simp [hk]), below_drewN' ((Below.refl _ w).alloc (Nat.le_refl _) _) _⟩
def emI (x : Iln) : Bool := x.kd == 1 && x.txt == []
theorem emI_any (x : Iln) (w : World) : Calls Tryz.prog 55 #[ilV x] w fun e w' => e = .returned (.bool (emI x)) ∧ Below w.heap.size w w' := empty_any x w
set_option maxHeartbeats 2000000 in
theorem idxE_any (A : Option Addr) (c : Nat) (X : List Iln) (w : World) (hrow : InlsAt w A c X) :
    Calls Tryz.prog 89 #[.slice A X.length c, .func (.func 55) #[] #[]] w fun e w' => e = .returned (.int .i64 (idxI emI X)) ∧ Below w.heap.size w w' := by
  have hcl := hrow.le
  have hcm := hrow.cap
  unfold maxLen at hcm
  go_enter Tryz.func89, Tryz.ntmps89
  go_wp2_with fail
  go_loopw [8] (fun i wr => ∃ k : Nat, i = .int .i64 k ∧ k ≤ X.length ∧ k ≤ X.findIdx emI ∧ Below w.heap.size w wr) (fun i _ => X.length - (intOf i).toNat)
  case atStart => exact ⟨0, rfl, Nat.zero_le _, Nat.zero_le _, Below.refl _ _⟩
  case round =>
    obtain ⟨k, rfl, hk, hf, hbw⟩ := hrel
    have HR := Lib.hid hrow
    by_cases hp : k < X.length
    · obtain ⟨b, off, rfl, hb, c0, c1, c2, c3, c4⟩ := InlsAt.cells5 (EltsAt.below hrow hbw) hp
      obtain ⟨st1, st2⟩ := idx_step (p := emI) hp hf
      have HS1 := Lib.hid st1
      have HS2 := Lib.hid st2
      have ce := Lib.hid (fun w1 => emI_any X[k] w1)
      have HF := Lib.hid hf
      clear hf st1 st2 hrow
      generalize hx : X[k] = x at *
      have HXX := Lib.hid hx
      clear hx
      cases hpx : emI x with
      | true =>
        rw [hpx] at ce HS1
        have HE := Lib.hid (HS1.out rfl)
        clear HS1 HS2 hpx
        obtain ⟨kd, dp, txt, url, ttl⟩ := x
        unfold ilV at ce
        dsimp only at ce c0 c1 c2 c3 c4
        go_wp2_with fail
        refine (ce.out _).mono ?_
        rintro e w1 ⟨rfl, b1⟩
        go_wp2
        go_ret
        exact ⟨by unfold idxI; rw [HE.out, if_pos hp]; rfl, hbw.then b1⟩
      | false =>
        rw [hpx] at ce HS2
        have HE := Lib.hid (HS2.out rfl)
        clear HS1 HS2 hpx
        obtain ⟨kd, dp, txt, url, ttl⟩ := x
        unfold ilV at ce
        dsimp only at ce c0 c1 c2 c3 c4
        go_wp2_with fail
        refine (ce.out _).mono ?_
        rintro e w1 ⟨rfl, b1⟩
        go_wp2
        go_roundw
        case rel => exact ⟨k + 1, by go_num, by omega, HE.out, hbw.then b1⟩
        case measure => simp [intOf]; omega
    · obtain rfl : k = X.length := by omega
      have HE := Lib.hid hf
      clear hf hrow HR
      go_wp2
      go_ret
      exact ⟨by unfold idxI; rw [if_neg (by have := HE.out; omega)]; rfl, hbw⟩
set_option maxHeartbeats 2000000 in
theorem idxT_any (A : Option Addr) (c : Nat) (X : List Iln) (y : Iln) (Y : List Iln) (bx : Nat) (w : World) (hrow : InlsAt w A c X) (hX : X = y :: Y) (hbx : w.cell? ⟨bx, 0, none⟩ = some (.slice A X.length c)) (hlt : bx < w.heap.size) :
    Calls Tryz.prog 89 #[.slice A X.length c, .func (.func 90) #[] #[.pointer (some ⟨bx, 0, none⟩)]] w fun e w' => e = .returned (.int .i64 (idxI (togI y) X)) ∧ Below w.heap.size w w' := by
  have hcl := hrow.le
  have hcm := hrow.cap
  unfold maxLen at hcm
  have ctog := Lib.hid (fun (x : Iln) (W : World) (hb : Below w.heap.size w W) => tog1_any x y Y bx A c X.length W (by rw [hX]) ((hb.cell (p := ⟨bx, 0, none⟩) hlt).trans hbx) (Nat.lt_of_lt_of_le hlt hb.size) (by rw [← hX]; exact EltsAt.below hrow hb))
  clear hbx hX
  go_enter Tryz.func89, Tryz.ntmps89
  go_wp2_with fail
  go_loopw [8] (fun i wr => ∃ k : Nat, i = .int .i64 k ∧ k ≤ X.length ∧ k ≤ X.findIdx (togI y) ∧ Below w.heap.size w wr) (fun i _ => X.length - (intOf i).toNat)
  case atStart => exact ⟨0, rfl, Nat.zero_le _, Nat.zero_le _, Below.refl _ _⟩
  case round =>
    obtain ⟨k, rfl, hk, hf, hbw⟩ := hrel
    have HR := Lib.hid hrow
    by_cases hp : k < X.length
    · obtain ⟨b, off, rfl, hb, c0, c1, c2, c3, c4⟩ := InlsAt.cells5 (EltsAt.below hrow hbw) hp
      obtain ⟨st1, st2⟩ := idx_step (p := (togI y)) hp hf
      have HS1 := Lib.hid st1
      have HS2 := Lib.hid st2
      have ce := Lib.hid (fun (W : World) (h : Below w.heap.size w W) => ctog.out X[k] W h)
      have HF := Lib.hid hf
      clear hf st1 st2 hrow
      generalize hx : X[k] = x at *
      have HXX := Lib.hid hx
      clear hx
      cases hpx : (togI y) x with
      | true =>
        rw [hpx] at ce HS1
        have HE := Lib.hid (HS1.out rfl)
        clear HS1 HS2 hpx
        obtain ⟨kd, dp, txt, url, ttl⟩ := x
        unfold ilV at ce
        dsimp only at ce c0 c1 c2 c3 c4
        go_wp2_with fail
        refine (ce.out _ hbw).mono ?_
        rintro e w1 ⟨rfl, b1⟩
        go_wp2
        go_ret
        exact ⟨by unfold idxI; rw [HE.out, if_pos hp]; rfl, hbw.then b1⟩
      | false =>
        rw [hpx] at ce HS2
        have HE := Lib.hid (HS2.out rfl)
        clear HS1 HS2 hpx
        obtain ⟨kd, dp, txt, url, ttl⟩ := x
        unfold ilV at ce
        dsimp only at ce c0 c1 c2 c3 c4
        go_wp2_with fail
        refine (ce.out _ hbw).mono ?_
        rintro e w1 ⟨rfl, b1⟩
        go_wp2
        go_roundw
        case rel => exact ⟨k + 1, by go_num, by omega, HE.out, hbw.then b1⟩
        case measure => simp [intOf]; omega
    · obtain rfl : k = X.length := by omega
      have HE := Lib.hid hf
      clear hf hrow HR
      go_wp2
      go_ret
      exact ⟨by unfold idxI; rw [if_neg (by have := HE.out; omega)]; rfl, hbw⟩
/-- How many words of one depth stand at the beginning. -/
theorem together_any (A : Option Addr) (c : Nat) (y : Iln) (Y : List Iln) (w : World) (hrow : InlsAt w A c (y :: Y)) :
    Calls Tryz.prog 56 #[.slice A (y :: Y).length c] w fun e w' => e = .returned (.int .i64 ((y :: Y).findIdx (togI y) : Nat)) ∧ Below w.heap.size w w' := by
  have hmf : ∀ (fn : Fn) (first cap : Array Value) (w : World), (Instr.makeFunc fn first cap).run Tryz.prog w = .ok (.func fn first cap) w := fun _ _ _ _ => rfl
  have b0 : Below w.heap.size w (w.alloc (.cells #[.slice A (y :: Y).length c] 25)) := (Below.refl _ w).alloc (Nat.le_refl _) _
  have hc0 : (w.alloc (.cells #[.slice A (y :: Y).length c] 25)).cell? ⟨w.heap.size, 0, none⟩ = some (.slice A (y :: Y).length c) := by simp
  have hs0 := alloc_size w (.cells #[.slice A (y :: Y).length c] 25)
  have ci := idxT_any A c (y :: Y) y Y w.heap.size _ (EltsAt.below hrow b0) rfl hc0 (by show w.heap.size < _; omega)
  have hcm := hrow.cap
  have hle := hrow.le
  unfold maxLen at hcm
  unfold idxI at ci
  have HL := Lib.hid (List.findIdx_le_length (p := togI y) (xs := y :: Y))
  have HB := Lib.hid b0
  clear hrow b0
  generalize (y :: Y).findIdx (togI y) = i at *
  generalize (y :: Y).length = n at *
  by_cases hi : i < n
  · rw [if_pos hi] at ci
    go_enter Tryz.func56, Tryz.ntmps56
    go_wp2_with fail
    refine ci.mono ?_
    rintro e w1 ⟨rfl, b1⟩
    go_wp2
    go_ret
    exact ⟨rfl, HB.out.then b1⟩
  · rw [if_neg hi] at ci
    have hin : i = n := by have := HL.out; omega
    subst hin
    go_enter Tryz.func56, Tryz.ntmps56
    go_wp2_with fail
    refine ci.mono ?_
    rintro e w1 ⟨rfl, b1⟩
    have hc1 := (b1.cell (p := ⟨w.heap.size, 0, none⟩) (by show w.heap.size < _; omega)).trans hc0
    go_wp2
    go_ret
    exact ⟨rfl, HB.out.then b1⟩
end Go.Proofs.YteihmgcphbijhaaGreatDoor
