/-
  Plain facts of the layer define: definitions that are written of letters.
-/
import Derived.Test.YtioolcnoiaoflaaDoorDefP
import Derived.Test.YtioolcnoiaoflaaDoorTgLt
namespace Go.Proofs.YtioolcnoiaoflaaDoor
open Go.RowKit
set_option linter.unusedSimpArgs false
set_option linter.unusedVariables false

theorem foldS_low (y : UInt8) (cs : List (Nat × List UInt8)) (a : Bool) (h1 : 97 ≤ y.toNat) (h2 : y.toNat ≤ 122) : foldS ((y.toNat, [y]) :: cs) false a = y :: foldS cs false true := by
  have hs : spaceB (y.toNat : Int) = false := spaceB_f _ (by omega)
  have hst : stray (y.toNat, [y]) = false := by
    have : y.toNat ≠ 65533 := by omega
    simp [stray, this]
  have hy := u8_eq y y.toNat rfl
  have ho : chunkOut (y.toNat, [y]) = [y] := by
    unfold chunkOut
    rw [hst, if_neg (by simp)]
    have : smallI (y.toNat : Int) = ((y.toNat : Nat) : Int) := by
      rcases smallI_eq (y.toNat : Int) with ⟨a, b, e⟩ | ⟨a, b, d, e⟩ | ⟨a, b, e⟩
      · omega
      · omega
      · exact e
    simp only [this]
    rw [enc1 _ (by omega), ← hy]
  simp only [foldS, hs, ho, Bool.false_eq_true, if_false, Bool.false_and]
  rfl
theorem foldS_lows : ∀ (u : List UInt8) (a : Bool), Lowers u → foldS (segs u) false a = u
  | [], _, _ => by rw [segs_nil]; rfl
  | b :: u, a, h => by
    have hb := h b (by simp)
    rw [segs_ascii b u (by omega), foldS_low b _ a hb.1 hb.2, foldS_lows u true (fun x hx => h x (by simp [hx]))]
theorem foldL_low {u : List UInt8} (h : Lowers u) : foldL u = u := foldS_lows u false h
theorem badN_low {u : List UInt8} (h : Lowers u) : badN u = false := by
  unfold badN
  rw [List.any_eq_false]
  intro b hb
  have := h b hb
  simp only [Bool.or_eq_true, beq_iff_eq, not_or]
  refine ⟨⟨⟨?_, ?_⟩, ?_⟩, ?_⟩ <;> (rintro rfl; exact absurd this.1 (by decide))
theorem dnL_low {u : List UInt8} (h : Lowers u) (hne : u ≠ []) (hl : u.length ≤ 60) : dnL u = (u, true) := by
  unfold dnL
  rw [foldL_low h, badN_low h, if_neg (by simp [hne]; omega)]

/-- A text without the sign that ends a name. -/
def NoEnd (n : List UInt8) : Prop := ∀ b ∈ n, b ≠ 93
theorem noEnd_low {u : List UInt8} (h : Lowers u) : NoEnd u := fun b hb => by
  have := h b hb
  rintro rfl
  exact absurd this.1 (by decide)
theorem takeW_end : ∀ (n r : List UInt8), NoEnd n → (n ++ 93 :: r).takeWhile (· != 93) = n
  | [], r, _ => rfl
  | b :: n, r, h => by
    have hb := h b (by simp)
    rw [List.cons_append, List.takeWhile_cons, if_pos (by simpa using hb), takeW_end n r (fun x hx => h x (by simp [hx]))]
theorem dropW_end : ∀ (n r : List UInt8), NoEnd n → (n ++ 93 :: r).dropWhile (· != 93) = 93 :: r
  | [], r, _ => rfl
  | b :: n, r, h => by
    have hb := h b (by simp)
    rw [List.cons_append, List.dropWhile_cons, if_pos (by simpa using hb), dropW_end n r (fun x hx => h x (by simp [hx]))]
theorem dropW_none : ∀ (n : List UInt8), NoEnd n → n.dropWhile (· != 93) = []
  | [], _ => rfl
  | b :: n, h => by
    have hb := h b (by simp)
    rw [List.dropWhile_cons, if_pos (by simpa using hb), dropW_none n (fun x hx => h x (by simp [hx]))]
/-- A line that is begun as a definition is. -/
theorem dlL_open {n : List UInt8} (hn : NoEnd n) (r : List UInt8) : dlL (91 :: (n ++ 93 :: 58 :: r)) = dlBehind n (r.dropWhile isGap) := by
  unfold dlL
  rw [List.drop_one, List.tail_cons, dropW_end n _ hn, takeW_end n _ hn, if_pos (by rfl)]
  rfl
theorem dlL_shut {n : List UInt8} (hn : NoEnd n) {r : List UInt8} (hr : Lib.hasPrefix r [58] = false) : dlL (91 :: (n ++ 93 :: r)) = (noDfn, false) := by
  unfold dlL
  rw [List.drop_one, List.tail_cons, dropW_end n _ hn, if_neg]
  have e : Lib.hasPrefix (93 :: r) [93, 58] = Lib.hasPrefix r [58] := by simp [Lib.hasPrefix]
  rw [e, hr]
  simp
theorem dlL_noEnd {n : List UInt8} (hn : NoEnd n) : dlL (91 :: n) = (noDfn, false) := by
  unfold dlL
  rw [List.drop_one, List.tail_cons, dropW_none n hn, if_neg (by simp [Lib.hasPrefix])]
theorem dlL_other {b : UInt8} (hb : b ≠ 91) (l : List UInt8) : dlL (b :: l) = (noDfn, false) := by
  unfold dlL
  rw [if_neg]
  simp [Lib.hasPrefix, hb]
  intro e
  exact absurd e.symm hb

theorem behind_low {u : List UInt8} (h : Lowers u) (hne : u ≠ []) (t : List UInt8) : dlBehind u t = dlUrl u t := by
  unfold dlBehind
  have := letters_ne h (b := 94) (by decide) hne []
  rw [List.append_nil] at this
  rw [this, if_neg (by simp)]
theorem behind_note (u t : List UInt8) : dlBehind (94 :: u) t = dlNote u t := by
  unfold dlBehind
  rw [if_pos (by rfl)]
  rfl
theorem low_gap {b : UInt8} (h : 97 ≤ b.toNat) : isGap b = false := by
  unfold isGap
  simp only [Bool.or_eq_false_iff, beq_eq_false_iff_ne, ne_eq]
  constructor <;> (rintro rfl; exact absurd h (by decide))
theorem dropW_gap : ∀ u : List UInt8, (∀ b ∈ u.head?, isGap b = false) → u.dropWhile isGap = u
  | [], _ => rfl
  | b :: u, h => by rw [List.dropWhile_cons, if_neg (by rw [h b (by simp)]; simp)]
theorem trimG_low {u : List UInt8} (h : Lowers u) : trimG u = u := by
  have hg : ∀ b ∈ u, isGap b = false := fun b hb => low_gap (h b hb).1
  rw [trimG_def, trimGR_def, dropW_gap u.reverse (fun b hb => hg b (by have := List.mem_of_mem_head? hb; simpa using this)), List.reverse_reverse]
  exact dropW_gap u (fun b hb => hg b (List.mem_of_mem_head? hb))
theorem dlNote_low {u x : List UInt8} (hu : Lowers u) (hne : u ≠ []) (hl : u.length ≤ 60) (hx : Lowers x) (hxe : x ≠ []) : dlNote u x = (⟨u, [], [], x, true⟩, true) := by
  unfold dlNote
  rw [dnL_low hu hne hl, trimG_low hx, if_pos (by simp [hxe])]

theorem dest_angle {u : List UInt8} (h : Lowers u) (l : List UInt8) : destL (60 :: (u ++ 62 :: l)) = (u, u.length + 2, true) := by
  have hu : ∀ b ∈ u, b.toNat ≠ 0 ∧ b.toNat ≠ 92 ∧ b ≠ 62 ∧ b ∉ [60, (10 : UInt8)] := by
    intro b hb
    have := h b hb
    refine ⟨by omega, by omega, ?_, ?_⟩
    · rintro rfl
      exact absurd this.1 (by decide)
    · intro e
      simp only [List.mem_cons, List.not_mem_nil, or_false] at e
      rcases e with rfl | rfl <;> exact absurd this.1 (by decide)
  have hb : btwGo 62 [60, 10] (u ++ 62 :: l) false 1 = some (u.length + 1) := by
    rw [btwGo_plain 62 [60, 10] u _ 1 hu, btwGo_shut (by decide) (by decide) rfl, Nat.add_comm]
  unfold destL
  rw [if_pos (by rfl)]
  unfold btwL
  rw [List.drop_one, List.tail_cons, hb]
  simp only
  rw [List.take_succ_cons, List.drop_one, List.tail_cons, List.take_left, unL_letters h]
theorem title_sq {t : List UInt8} (h : Lowers t) (l : List UInt8) : titleL (39 :: (t ++ 39 :: l)) = (t, t.length + 2, true) := by
  have hgo : btwGo 39 [] (t ++ 39 :: l) false 1 = some (t.length + 1) := by
    rw [btwGo_plain 39 [] t _ 1 (by
      intro b hb
      have := h b hb
      refine ⟨by omega, by omega, ?_, by simp⟩
      rintro rfl
      exact absurd this.1 (by decide)), btwGo_shut (by decide) (by decide) rfl]
    congr 1
    omega
  unfold titleL
  rw [if_neg (by simp [Lib.hasPrefix]), if_pos (by rfl)]
  unfold btwL
  rw [List.drop_one, List.tail_cons, hgo]
  simp only
  rw [List.take_succ_cons, List.drop_one, List.tail_cons, List.take_left, unL_letters h]
theorem dlUrl_angle {u x : List UInt8} (hu : Lowers u) (hne : u ≠ []) (hl : u.length ≤ 60) (hx : Lowers x) : dlUrl u (60 :: (x ++ [62])) = (⟨u, x, [], [], false⟩, true) := by
  unfold dlUrl
  rw [dnL_low hu hne hl, dest_angle hx, if_pos (by rfl)]
  have e : (60 :: (x ++ [62])).drop (x.length + 2) = [] := by rw [List.drop_eq_nil_of_le (by simp)]
  rw [e]
  rfl
theorem dlUrl_title {u x t : List UInt8} (hu : Lowers u) (hne : u ≠ []) (hl : u.length ≤ 60) (hx : Lowers x) (ht : Lowers t) :
    dlUrl u (60 :: (x ++ 62 :: 32 :: 39 :: (t ++ [39, 32]))) = (⟨u, x, t, [], false⟩, true) := by
  unfold dlUrl
  rw [dnL_low hu hne hl, dest_angle hx, if_pos (by rfl)]
  have e : (60 :: (x ++ 62 :: 32 :: 39 :: (t ++ [39, 32]))).drop (x.length + 2) = 32 :: 39 :: (t ++ [39, 32]) := by
    rw [show (60 :: (x ++ 62 :: 32 :: 39 :: (t ++ [39, 32]))) = (60 :: (x ++ [62])) ++ (32 :: 39 :: (t ++ [39, 32])) from by simp, List.drop_left' (by simp)]
  rw [e]
  unfold dlTitle
  have e2 : (32 :: 39 :: (t ++ [39, 32])).dropWhile isGap = 39 :: (t ++ 39 :: [32]) := by
    rw [List.dropWhile_cons, if_pos (by decide), List.dropWhile_cons, if_neg (by decide)]
  have e3 : (39 :: (t ++ 39 :: [32])).drop (t.length + 2) = [32] := by
    rw [show (39 :: (t ++ 39 :: [32])) = (39 :: (t ++ [39])) ++ [32] from by simp, List.drop_left' (by simp)]
  rw [e2, title_sq ht, e3, if_neg, if_pos (by rfl)]
  simp [isGap]

end Go.Proofs.YtioolcnoiaoflaaDoor
