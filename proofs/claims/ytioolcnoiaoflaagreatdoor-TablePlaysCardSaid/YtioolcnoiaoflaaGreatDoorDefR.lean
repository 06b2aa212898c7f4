/-
  Plain facts of the layer define: definitions that are written of letters.
  Plain facts of the layer define: what is taken off a text.
-/
import Derived.Test.YtioolcnoiaoflaaGreatDoorDefP
import Derived.Test.YtioolcnoiaoflaaGreatDoorTgLo
namespace Go.Proofs.YtioolcnoiaoflaaGreatDoor
open Go.RowKit
set_option linter.unusedSimpArgs false
set_option linter.unusedVariables false

theorem foldS_low (y : UInt8) (cs : List (Nat × List UInt8)) (a : Bool) (h1 : 97 ≤ y.toNat) (h2 : y.toNat ≤ 122) : foldS ((y.toNat, [y]) :: cs) false a = y :: foldS cs false true := by
  have hs : spaceB (y.toNat : Int) = false := spaceB_f _ (by omega)
  have hst : stray (y.toNat, [y]) = false := by
    have : y.toNat ≠ 65533 := by omega
    simp [stray, this]
  have hy := u8_eq y y.toNat rfl
  have ho : chunkOut (y.toNat, [y]) = [y] := by
    unfold chunkOut
    rw [hst, if_neg (by simp)]
    have : smallI (y.toNat : Int) = ((y.toNat : Nat) : Int) := by
      rcases smallI_eq (y.toNat : Int) with ⟨a, b, e⟩ | ⟨a, b, d, e⟩ | ⟨a, b, e⟩
      · omega
      · omega
      · exact e
    simp only [this]
    rw [enc1 _ (by omega), ← hy]
  simp only [foldS, hs, ho, Bool.false_eq_true, if_false, Bool.false_and]
  rfl
theorem foldS_lows : ∀ (u : List UInt8) (a : Bool), Lowers u → foldS (segs u) false a = u
  | [], _, _ => by rw [segs_nil]; rfl
  | b :: u, a, h => by
    have hb := h b (by simp)
    rw [segs_ascii b u (by omega), foldS_low b _ a hb.1 hb.2, foldS_lows u true (fun x hx => h x (by simp [hx]))]
theorem foldL_low {u : List UInt8} (h : Lowers u) : foldL u = u := foldS_lows u false h
theorem badN_low {u : List UInt8} (h : Lowers u) : badN u = false := by
  unfold badN
  rw [List.any_eq_false]
  intro b hb
  have := h b hb
  simp only [Bool.or_eq_true, beq_iff_eq, not_or]
  refine ⟨⟨⟨?_, ?_⟩, ?_⟩, ?_⟩ <;> (rintro rfl; exact absurd this.1 (by decide))
theorem dnL_low {u : List UInt8} (h : Lowers u) (hne : u ≠ []) (hl : u.length ≤ 60) : dnL u = (u, true) := by
  unfold dnL
  rw [foldL_low h, badN_low h, if_neg (by simp [hne]; omega)]

/-- A text without the sign that ends a name. -/
def NoEnd (n : List UInt8) : Prop := ∀ b ∈ n, b ≠ 93
theorem noEnd_low {u : List UInt8} (h : Lowers u) : NoEnd u := fun b hb => by
  have := h b hb
  rintro rfl
  exact absurd this.1 (by decide)
theorem takeW_end : ∀ (n r : List UInt8), NoEnd n → (n ++ 93 :: r).takeWhile (· != 93) = n
  | [], r, _ => rfl
  | b :: n, r, h => by
    have hb := h b (by simp)
    rw [List.cons_append, List.takeWhile_cons, if_pos (by simpa using hb), takeW_end n r (fun x hx => h x (by simp [hx]))]
theorem dropW_end : ∀ (n r : List UInt8), NoEnd n → (n ++ 93 :: r).dropWhile (· != 93) = 93 :: r
  | [], r, _ => rfl
  | b :: n, r, h => by
    have hb := h b (by simp)
    rw [List.cons_append, List.dropWhile_cons, if_pos (by simpa using hb), dropW_end n r (fun x hx => h x (by simp [hx]))]
theorem dropW_none : ∀ (n : List UInt8), NoEnd n → n.dropWhile (· != 93) = []
  | [], _ => rfl
  | b :: n, h => by
    have hb := h b (by simp)
    rw [List.dropWhile_cons, if_pos (by simpa using hb), dropW_none n (fun x hx => h x (by simp [hx]))]
/-- A line that is begun as a definition is. -/
theorem dlL_open {n : List UInt8} (hn : NoEnd n) (r : List UInt8) : dlL (91 :: (n ++ 93 :: 58 :: r)) = dlBehind n (r.dropWhile isGap) := by
  unfold dlL
  rw [List.drop_one, List.tail_cons, dropW_end n _ hn, takeW_end n _ hn, if_pos (by rfl)]
  rfl
theorem dlL_shut {n : List UInt8} (hn : NoEnd n) {r : List UInt8} (hr : Lib.hasPrefix r [58] = false) : dlL (91 :: (n ++ 93 :: r)) = (noDfn, false) := by
  unfold dlL
  rw [List.drop_one, List.tail_cons, dropW_end n _ hn, if_neg]
  have e : Lib.hasPrefix (93 :: r) [93, 58] = Lib.hasPrefix r [58] := by simp [Lib.hasPrefix]
  rw [e, hr]
  simp
theorem dlL_noEnd {n : List UInt8} (hn : NoEnd n) : dlL (91 :: n) = (noDfn, false) := by
  unfold dlL
  rw [List.drop_one, List.tail_cons, dropW_none n hn, if_neg (by simp [Lib.hasPrefix])]
theorem dlL_other {b : UInt8} (hb : b ≠ 91) (l : List UInt8) : dlL (b :: l) = (noDfn, false) := by
  unfold dlL
  rw [if_neg]
  simp [Lib.hasPrefix, hb]
  intro e
  exact absurd e.symm hb

theorem behind_low {u : List UInt8} (h : Lowers u) (hne : u ≠ []) (t : List UInt8) : dlBehind u t = dlUrl u t := by
  unfold dlBehind
  have := letters_ne h (b := 94) (by decide) hne []
  rw [List.append_nil] at this
  rw [this, if_neg (by simp)]
theorem behind_note (u t : List UInt8) : dlBehind (94 :: u) t = dlNote u t := by
  unfold dlBehind
  rw [if_pos (by rfl)]
  rfl
theorem low_gap {b : UInt8} (h : 97 ≤ b.toNat) : isGap b = false := by
  unfold isGap
  simp only [Bool.or_eq_false_iff, beq_eq_false_iff_ne, ne_eq]
  constructor <;> (rintro rfl; exact absurd h (by decide))
theorem dropW_gap : ∀ u : List UInt8, (∀ b ∈ u.head?, isGap b = false) → u.dropWhile isGap = u
  | [], _ => rfl
  | b :: u, h => by rw [List.dropWhile_cons, if_neg (by rw [h b (by simp)]; simp)]
theorem trimG_low {u : List UInt8} (h : Lowers u) : trimG u = u := by
  have hg : ∀ b ∈ u, isGap b = false := fun b hb => low_gap (h b hb).1
  rw [trimG_def, trimGR_def, dropW_gap u.reverse (fun b hb => hg b (by have := List.mem_of_mem_head? hb; simpa using this)), List.reverse_reverse]
  exact dropW_gap u (fun b hb => hg b (List.mem_of_mem_head? hb))
theorem dlNote_low {u x : List UInt8} (hu : Lowers u) (hne : u ≠ []) (hl : u.length ≤ 60) (hx : Lowers x) (hxe : x ≠ []) : dlNote u x = (⟨u, [], [], x, true⟩, true) := by
  unfold dlNote
  rw [dnL_low hu hne hl, trimG_low hx, if_pos (by simp [hxe])]

theorem dest_angle {u : List UInt8} (h : Lowers u) (l : List UInt8) : destL (60 :: (u ++ 62 :: l)) = (u, u.length + 2, true) := by
  have hu : ∀ b ∈ u, b.toNat ≠ 0 ∧ b.toNat ≠ 92 ∧ b ≠ 62 ∧ b ∉ [60, (10 : UInt8)] := by
    intro b hb
    have := h b hb
    refine ⟨by omega, by omega, ?_, ?_⟩
    · rintro rfl
      exact absurd this.1 (by decide)
    · intro e
      simp only [List.mem_cons, List.not_mem_nil, or_false] at e
      rcases e with rfl | rfl <;> exact absurd this.1 (by decide)
  have hb : btwGo 62 [60, 10] (u ++ 62 :: l) false 1 = some (u.length + 1) := by
    rw [btwGo_plain 62 [60, 10] u _ 1 hu, btwGo_shut (by decide) (by decide) rfl, Nat.add_comm]
  unfold destL
  rw [if_pos (by rfl)]
  unfold btwL
  rw [List.drop_one, List.tail_cons, hb]
  simp only
  rw [List.take_succ_cons, List.drop_one, List.tail_cons, List.take_left, unL_letters h]
theorem title_sq {t : List UInt8} (h : Lowers t) (l : List UInt8) : titleL (39 :: (t ++ 39 :: l)) = (t, t.length + 2, true) := by
  have hgo : btwGo 39 [] (t ++ 39 :: l) false 1 = some (t.length + 1) := by
    rw [btwGo_plain 39 [] t _ 1 (by
      intro b hb
      have := h b hb
      refine ⟨by omega, by omega, ?_, by simp⟩
      rintro rfl
      exact absurd this.1 (by decide)), btwGo_shut (by decide) (by decide) rfl]
    congr 1
    omega
  unfold titleL
  rw [if_neg (by simp [Lib.hasPrefix]), if_pos (by rfl)]
  unfold btwL
  rw [List.drop_one, List.tail_cons, hgo]
  simp only
  rw [List.take_succ_cons, List.drop_one, List.tail_cons, List.take_left, unL_letters h]
theorem dlUrl_angle {u x : List UInt8} (hu : Lowers u) (hne : u ≠ []) (hl : u.length ≤ 60) (hx : Lowers x) : dlUrl u (60 :: (x ++ [62])) = (⟨u, x, [], [], false⟩, true) := by
  unfold dlUrl
  rw [dnL_low hu hne hl, dest_angle hx, if_pos (by rfl)]
  have e : (60 :: (x ++ [62])).drop (x.length + 2) = [] := by rw [List.drop_eq_nil_of_le (by simp)]
  rw [e]
  rfl
theorem dlUrl_title {u x t : List UInt8} (hu : Lowers u) (hne : u ≠ []) (hl : u.length ≤ 60) (hx : Lowers x) (ht : Lowers t) :
    dlUrl u (60 :: (x ++ 62 :: 32 :: 39 :: (t ++ [39, 32]))) = (⟨u, x, t, [], false⟩, true) := by
  unfold dlUrl
  rw [dnL_low hu hne hl, dest_angle hx, if_pos (by rfl)]
  have e : (60 :: (x ++ 62 :: 32 :: 39 :: (t ++ [39, 32]))).drop (x.length + 2) = 32 :: 39 :: (t ++ [39, 32]) := by
    rw [show (60 :: (x ++ 62 :: 32 :: 39 :: (t ++ [39, 32]))) = (60 :: (x ++ [62])) ++ (32 :: 39 :: (t ++ [39, 32])) from by simp, List.drop_left' (by simp)]
  rw [e]
  unfold dlTitle
  have e2 : (32 :: 39 :: (t ++ [39, 32])).dropWhile isGap = 39 :: (t ++ 39 :: [32]) := by
    rw [List.dropWhile_cons, if_pos (by decide), List.dropWhile_cons, if_neg (by decide)]
  have e3 : (39 :: (t ++ 39 :: [32])).drop (t.length + 2) = [32] := by
    rw [show (39 :: (t ++ 39 :: [32])) = (39 :: (t ++ [39])) ++ [32] from by simp, List.drop_left' (by simp)]
  rw [e2, title_sq ht, e3, if_neg, if_pos (by rfl)]
  simp [isGap]

end Go.Proofs.YtioolcnoiaoflaaGreatDoor

namespace Go.Proofs.YtioolcnoiaoflaaGreatDoor
open Go.RowKit
set_option linter.unusedSimpArgs false
set_option linter.unusedVariables false

def NoLf (n : List UInt8) : Prop := ∀ b ∈ n, b ≠ 10
theorem takeW_lf : ∀ (n r : List UInt8), NoLf n → (n ++ 10 :: r).takeWhile (· != 10) = n
  | [], r, _ => rfl
  | b :: n, r, h => by
    have hb := h b (by simp)
    rw [List.cons_append, List.takeWhile_cons, if_pos (by simpa using hb), takeW_lf n r (fun x hx => h x (by simp [hx]))]
theorem dropW_lf : ∀ (n r : List UInt8), NoLf n → (n ++ 10 :: r).dropWhile (· != 10) = 10 :: r
  | [], r, _ => rfl
  | b :: n, r, h => by
    have hb := h b (by simp)
    rw [List.cons_append, List.dropWhile_cons, if_pos (by simpa using hb), dropW_lf n r (fun x hx => h x (by simp [hx]))]
theorem takeW_all : ∀ (n : List UInt8), NoLf n → n.takeWhile (· != 10) = n
  | [], _ => rfl
  | b :: n, h => by
    have hb := h b (by simp)
    rw [List.takeWhile_cons, if_pos (by simpa using hb), takeW_all n (fun x hx => h x (by simp [hx]))]
theorem dropW_all : ∀ (n : List UInt8), NoLf n → n.dropWhile (· != 10) = []
  | [], _ => rfl
  | b :: n, h => by
    have hb := h b (by simp)
    rw [List.dropWhile_cons, if_pos (by simpa using hb), dropW_all n (fun x hx => h x (by simp [hx]))]
theorem dropW_le (l : List UInt8) : (l.dropWhile (· != 10)).length ≤ l.length := (List.dropWhile_sublist _).length_le
theorem dtF_more : ∀ (f g : Nat) (l : List UInt8), l.length ≤ f → l.length ≤ g → dtF f l = dtF g l
  | 0, 0, _, _, _ => rfl
  | 0, g + 1, l, h, _ => by
    have e : l = [] := List.eq_nil_of_length_eq_zero (by omega)
    subst e
    rfl
  | f + 1, 0, l, _, h => by
    have e : l = [] := List.eq_nil_of_length_eq_zero (by omega)
    subst e
    rfl
  | f + 1, g + 1, l, h, h2 => by
    have hd := dropW_le l
    by_cases e : l = []
    · subst e; rfl
    · have hl : 0 < l.length := List.length_pos_iff.2 e
      unfold dtF
      rw [dtF_more f g _ (by rw [List.length_drop]; omega) (by rw [List.length_drop]; omega)]
theorem dtL_step (l : List UInt8) : dtL l = if (dlL (l.takeWhile (· != 10))).2 then ((dlL (l.takeWhile (· != 10))).1 :: (dtL ((l.dropWhile (· != 10)).drop 1)).1, (dtL ((l.dropWhile (· != 10)).drop 1)).2) else ([], l) := by
  by_cases e : l = []
  · subst e; rfl
  · have hl : 0 < l.length := List.length_pos_iff.2 e
    have hd := dropW_le l
    obtain ⟨n, hn⟩ : ∃ n, l.length = n + 1 := ⟨l.length - 1, by omega⟩
    unfold dtL
    rw [hn, dtF, dtF_more n _ _ (by rw [List.length_drop]; omega) (Nat.le_refl _)]
/-- A line that is a definition is taken. -/
theorem dtL_cons {s : List UInt8} (hs : NoLf s) {d : Dfn} (hd : dlL s = (d, true)) (r : List UInt8) : dtL (s ++ 10 :: r) = (d :: (dtL r).1, (dtL r).2) := by
  rw [dtL_step, takeW_lf s r hs, dropW_lf s r hs, hd]
  rfl
theorem dtL_last {s : List UInt8} (hs : NoLf s) {d : Dfn} (hd : dlL s = (d, true)) : dtL s = ([d], []) := by
  rw [dtL_step, takeW_all s hs, dropW_all s hs, hd]
  rfl
/-- A text whose first line defines nothing stays. -/
theorem dtL_stop {l : List UInt8} (h : (dlL (l.takeWhile (· != 10))).2 = false) : dtL l = ([], l) := by
  rw [dtL_step, h]
  rfl
theorem dtL_other {b : UInt8} (hb : b ≠ 91) (l : List UInt8) : dtL (b :: l) = ([], b :: l) := by
  apply dtL_stop
  rw [List.takeWhile_cons]
  split
  · rw [dlL_other hb]
  · rfl
/-- What is taken of many. -/
theorem dtL_many (r : List UInt8) : ∀ (X : List (List UInt8 × Dfn)), (∀ x ∈ X, NoLf x.1 ∧ dlL x.1 = (x.2, true)) →
    dtL (X.flatMap (fun x => x.1 ++ [10]) ++ r) = (X.map (·.2) ++ (dtL r).1, (dtL r).2)
  | [], _ => rfl
  | x :: X, h => by
    have hx := h x (by simp)
    rw [List.flatMap_cons, List.append_assoc, List.append_assoc, List.singleton_append, dtL_cons hx.1 hx.2, dtL_many r X (fun y hy => h y (by simp [hy]))]
    rfl

/-! ### A url of a slash and letters -/
theorem dest_slash {u : List UInt8} (h : Lowers u) : destL (47 :: u) = (47 :: u, u.length + 1, true) := by
  have hb : bareGo (47 :: u) 0 false 0 = (u.length + 1, 0) := by
    rw [bareGo_on (by decide) (by decide), if_neg (by simp), if_neg (by decide), if_neg (by decide), if_neg (by decide)]
    have := bareGo_letters u [] (0 + 1) h
    rw [List.append_nil] at this
    rw [this]
    show (0 + 1 + u.length, 0) = _
    rw [Nat.zero_add, Nat.add_comm]
  unfold destL
  rw [if_neg (by simp [Lib.hasPrefix])]
  unfold bareL
  rw [hb]
  simp only [Nat.lt_irrefl, if_false]
  rw [List.take_of_length_le (by simp), unL_plain (47 :: u) (by
    intro b hb
    rw [List.mem_cons] at hb
    rcases hb with rfl | hb
    · decide
    · have := h b hb; omega)]
  simp
theorem dest_slash_sp {u : List UInt8} (h : Lowers u) (l : List UInt8) : destL (47 :: (u ++ 32 :: l)) = (47 :: u, u.length + 1, true) := by
  have hb : bareGo (47 :: (u ++ 32 :: l)) 0 false 0 = (u.length + 1, 0) := by
    rw [bareGo_on (by decide) (by decide), if_neg (by simp), if_neg (by decide), if_neg (by decide), if_neg (by decide), bareGo_letters u _ _ h, bareGo_stop (Or.inl (by decide)), Nat.zero_add, Nat.add_comm]
  unfold destL
  rw [if_neg (by simp [Lib.hasPrefix])]
  unfold bareL
  rw [hb]
  simp only [Nat.lt_irrefl, if_false]
  rw [List.take_succ_cons, List.take_left, unL_plain (47 :: u) (by
    intro b hb
    rw [List.mem_cons] at hb
    rcases hb with rfl | hb
    · decide
    · have := h b hb; omega)]
  simp
theorem dlUrl_slash {n u : List UInt8} (hn : Lowers n) (hne : n ≠ []) (hl : n.length ≤ 60) (hu : Lowers u) : dlUrl n (47 :: u) = (⟨n, 47 :: u, [], [], false⟩, true) := by
  unfold dlUrl
  rw [dnL_low hn hne hl, dest_slash hu, if_pos (by rfl), List.drop_eq_nil_of_le (by simp)]
  rfl
/-- A line of DefineTakes. -/
theorem takes_line {n u : List UInt8} (hn : Lowers n) (hne : n ≠ []) (hl : n.length ≤ 60) (hu : Lowers u) : dlL (91 :: (n ++ 93 :: 58 :: 32 :: 47 :: u)) = (⟨n, 47 :: u, [], [], false⟩, true) := by
  rw [dlL_open (noEnd_low hn), List.dropWhile_cons, if_pos (by decide), List.dropWhile_cons, if_neg (by decide), behind_low hn hne, dlUrl_slash hn hne hl hu]
/-- The lines of DefineBack. -/
theorem back_note {n x : List UInt8} (hn : Lowers n) (hne : n ≠ []) (hl : n.length ≤ 60) (hx : Lowers x) (hxe : x ≠ []) : dlL (91 :: 94 :: (n ++ 93 :: 58 :: 32 :: x)) = (⟨n, [], [], x, true⟩, true) := by
  have h1 : NoEnd (94 :: n) := by
    intro b hb
    rw [List.mem_cons] at hb
    rcases hb with rfl | hb
    · decide
    · exact noEnd_low hn b hb
  have h2 := dlL_open h1 (32 :: x)
  rw [List.cons_append] at h2
  rw [h2, List.dropWhile_cons, if_pos (by decide), dropW_gap x (fun b hb => low_gap (hx b (List.mem_of_mem_head? hb)).1), behind_note, dlNote_low hn hne hl hx hxe]
theorem back_plain {n x : List UInt8} (hn : Lowers n) (hne : n ≠ []) (hl : n.length ≤ 60) (hx : Lowers x) : dlL (91 :: (n ++ 93 :: 58 :: 32 :: 32 :: 60 :: (x ++ [62]))) = (⟨n, x, [], [], false⟩, true) := by
  rw [dlL_open (noEnd_low hn), List.dropWhile_cons, if_pos (by decide), List.dropWhile_cons, if_pos (by decide), List.dropWhile_cons, if_neg (by decide), behind_low hn hne, dlUrl_angle hn hne hl hx]
theorem back_title {n x t : List UInt8} (hn : Lowers n) (hne : n ≠ []) (hl : n.length ≤ 60) (hx : Lowers x) (ht : Lowers t) :
    dlL (91 :: (n ++ 93 :: 58 :: 32 :: 32 :: 60 :: (x ++ 62 :: 32 :: 39 :: (t ++ [39, 32])))) = (⟨n, x, t, [], false⟩, true) := by
  rw [dlL_open (noEnd_low hn), List.dropWhile_cons, if_pos (by decide), List.dropWhile_cons, if_pos (by decide), List.dropWhile_cons, if_neg (by decide), behind_low hn hne, dlUrl_title hn hne hl hx ht]

/-! ### What defines nothing -/
theorem none_x (m : List UInt8) : dlL (120 :: m) = (noDfn, false) := dlL_other (by decide) m
theorem none_sp (m : List UInt8) : dlL (32 :: m) = (noDfn, false) := dlL_other (by decide) m
theorem low_x {m : List UInt8} (h : Lowers m) : Lowers (120 :: m) := by
  intro b hb
  rw [List.mem_cons] at hb
  rcases hb with rfl | hb
  · decide
  · exact h b hb
theorem none_open {m : List UInt8} (h : Lowers m) : dlL (91 :: 120 :: m) = (noDfn, false) := dlL_noEnd (noEnd_low (low_x h))
theorem none_shut {m : List UInt8} (h : Lowers m) : dlL (91 :: 120 :: (m ++ [93])) = (noDfn, false) := dlL_shut (noEnd_low (low_x h)) (r := []) rfl
theorem none_gap {m : List UInt8} (h : Lowers m) (r : List UInt8) : dlL (91 :: 120 :: (m ++ 93 :: 32 :: r)) = (noDfn, false) := dlL_shut (noEnd_low (low_x h)) (r := 32 :: r) (by rfl)
theorem none_empty : dlL [91, 93, 58, 32, 47, 117] = (noDfn, false) := by decide +kernel
theorem none_blank : dlL [91, 32, 93, 58, 32, 47, 117] = (noDfn, false) := by decide +kernel
theorem none_note0 : dlL [91, 94, 93, 58, 32, 116] = (noDfn, false) := by decide +kernel
theorem none_note {m : List UInt8} (h : Lowers m) : dlL (91 :: 94 :: 120 :: (m ++ [93, 58, 32])) = (noDfn, false) := by
  have h1 : NoEnd (94 :: 120 :: m) := by
    intro b hb
    rw [List.mem_cons] at hb
    rcases hb with rfl | hb
    · decide
    · exact noEnd_low (low_x h) b hb
  have h2 := dlL_open h1 [32]
  rw [List.cons_append, List.cons_append] at h2
  rw [h2, behind_note]
  unfold dlNote
  rw [if_neg]
  simp [trimG_nil, isGap]
theorem none_url {m : List UInt8} (h : Lowers m) : dlL (91 :: 120 :: (m ++ [93, 58, 32])) = (noDfn, false) := by
  have h2 := dlL_open (noEnd_low (low_x h)) [32]
  rw [List.cons_append] at h2
  rw [h2, behind_low (low_x h) (by simp)]
  unfold dlUrl
  rw [if_neg]
  have : (destL (([32] : List UInt8).dropWhile isGap)).2.2 = false := by decide +kernel
  rw [this]
  simp
theorem none_behind {m : List UInt8} (h : Lowers m) (hl : m.length ≤ 50) (r : List UInt8) (hr : ∀ n url : List UInt8, dlTitle n url (32 :: r) = (noDfn, false)) : dlL (91 :: 120 :: (m ++ 93 :: 58 :: 32 :: 47 :: 117 :: 32 :: r)) = (noDfn, false) := by
  have h2 := dlL_open (noEnd_low (low_x h)) (32 :: 47 :: 117 :: 32 :: r)
  rw [List.cons_append] at h2
  rw [h2, behind_low (low_x h) (by simp), List.dropWhile_cons, if_pos (by decide), List.dropWhile_cons, if_neg (by decide)]
  unfold dlUrl
  have h3 := dest_slash_sp (u := [117]) (by intro b hb; simp at hb; subst hb; decide) r
  have e : (47 :: ([117] ++ 32 :: r) : List UInt8) = 47 :: 117 :: 32 :: r := rfl
  rw [e] at h3
  rw [h3, dnL_low (low_x h) (by simp) (by simp; omega), if_pos (by rfl)]
  exact hr _ _
theorem none_t1 (n url : List UInt8) : dlTitle n url [32, 39, 116] = (noDfn, false) := rfl
theorem none_t2 (n url : List UInt8) : dlTitle n url [32, 39, 116, 39, 32, 122] = (noDfn, false) := rfl
theorem none_t3 (n url : List UInt8) : dlTitle n url [32, 122] = (noDfn, false) := rfl

end Go.Proofs.YtioolcnoiaoflaaGreatDoor
