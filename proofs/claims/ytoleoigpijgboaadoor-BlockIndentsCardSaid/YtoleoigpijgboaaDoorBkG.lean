/-
  BlockIndents: lines behind four blanks are code, without these blanks; blank lines between belong to it: the law's walk.
-/
import Derived.Test.YtoleoigpijgboaaDoorBkF
namespace Go.Proofs.YtoleoigpijgboaaDoor
open Go.RowKit
set_option linter.unusedSimpArgs false
set_option linter.unusedVariables false
set_option maxRecDepth 100000

def four (x : List UInt8) : List UInt8 := 32 :: 32 :: 32 :: 32 :: x
theorem cols_notab : ∀ (x : List UInt8) (c : Nat), (∀ b ∈ x, b ≠ 9) → mCols x c = c + mSize x
  | [], c, _ => rfl
  | b :: l, c, h => by
    by_cases h32 : b = 32
    · subst h32
      have ih := cols_notab l (c + 1) (fun y hy => h y (by simp [hy]))
      simp only [mCols, mSize, isGap, beq_self_eq_true, Bool.true_or, if_true]
      rw [ih]; omega
    · have h9 := h b (by simp)
      have hg : isGap b = false := by simp [isGap, h32, h9]
      rw [mCols_other hg, mSize_other hg]; rfl
theorem spaces_notab : ∀ (x : List UInt8), (∀ b ∈ x, b ≠ 9) → spaces (mSize x) ++ x.drop (mSize x) = x
  | [], _ => rfl
  | b :: l, h => by
    by_cases h32 : b = 32
    · subst h32
      have ih := spaces_notab l (fun y hy => h y (by simp [hy]))
      rw [mSize_gap rfl, List.drop_succ_cons]
      show 32 :: (spaces (mSize l) ++ _) = _
      rw [ih]
    · have h9 := h b (by simp)
      have hg : isGap b = false := by simp [isGap, h32, h9]
      rw [mSize_other hg]; rfl
theorem four_cols (x : List UInt8) (h : ∀ b ∈ x, b ≠ 9) : mCols (four x) 0 = 4 + mSize x := by
  show mCols x 4 = _
  exact cols_notab x 4 h
theorem four_size (x : List UInt8) : mSize (four x) = mSize x + 4 := rfl
theorem four_strip (x : List UInt8) (h : ∀ b ∈ x, b ≠ 9) : stripL (four x) 4 = x := by
  unfold stripL
  rw [four_cols x h, four_size, show 4 + mSize x - 4 = mSize x from by omega, show (four x).drop (mSize x + 4) = x.drop (mSize x) from rfl]
  exact spaces_notab x h
theorem four_blank (x : List UInt8) : (four x).all isGap = x.all isGap := rfl
/-- Lines behind four blanks, the last not blank. -/
theorem deep_four : ∀ (ls : List (List UInt8)) (x : List UInt8), (∀ y ∈ ls, ∀ b ∈ y, b ≠ 9) → (∀ b ∈ x, b ≠ 9) → x.all isGap = false → deepL 4 ((ls ++ [x]).map four) = ls.length + 1
  | [], x, _, h9, hb => by
    simp only [List.nil_append, List.map_cons, List.map_nil, deepL, four_blank, hb, Bool.false_eq_true, if_false]
    rw [if_neg (by rw [four_cols x h9]; omega)]
    rfl
  | y :: ls, x, h, h9, hb => by
    have ih := deep_four ls x (fun z hz => h z (by simp [hz])) h9 hb
    rw [List.cons_append, List.map_cons]
    simp only [deepL, ih, List.length_cons]
    split
    · rfl
    · rw [if_neg (by rw [four_cols y (h y (by simp))]; omega)]
theorem parse_four (ls : List (List UInt8)) (h9 : ∀ y ∈ ls, ∀ b ∈ y, b ≠ 9) (hne : ls ≠ []) (h0 : ∀ x, ls[0]? = some x → x.all isGap = false) (hl : ∀ x, ls[ls.length - 1]? = some x → x.all isGap = false) : parseB (ls.map four) = [⟨6, 0, 0, false, joinL ls, []⟩] := by
  obtain ⟨y, r, e⟩ : ∃ y r, ls = y :: r := by
    cases ls with
    | nil => exact absurd rfl hne
    | cons y r => exact ⟨y, r, rfl⟩
  have hy : y.all isGap = false := h0 y (by rw [e]; rfl)
  have hd : deepL 4 (ls.map four) = ls.length := by
    rcases List.eq_nil_or_concat ls with h | ⟨t, x, h⟩
    · exact absurd h hne
    · rw [List.concat_eq_append] at h
      have hx := hl x (by rw [h]; simp)
      rw [h, deep_four t x (fun z hz => h9 z (by rw [h]; simp [hz])) (h9 x (by rw [h]; simp)) hx]
      simp
  have hs : strippedL 4 (ls.map four) = ls := by
    unfold strippedL
    rw [List.map_map]
    have : ∀ z ∈ ls, ((fun s => stripL s 4) ∘ four) z = id z := fun z hz => four_strip z (h9 z hz)
    rw [List.map_congr_left this, List.map_id]
  have hi : leafL (ls.map four) = (⟨6, 0, 0, false, joinL ls, []⟩, ls.length) := by
    unfold leafL
    rw [e, List.map_cons, List.headD_cons, if_pos (by rw [four_cols y (h9 y (by rw [e]; simp))]; omega), ← List.map_cons, ← e]
    unfold indentedL
    rw [hd, List.take_of_length_le (by simp), hs]
  have hf : firstM 12 (ls.map four) = ([⟨6, 0, 0, false, joinL ls, []⟩], ls.length) := by
    show firstL (10 - ((10 : Nat) : Int)) _ _ _ = _
    unfold firstL
    rw [hi, if_neg (by rw [e, List.map_cons, List.headD_cons, four_blank, hy]; simp), if_pos (by rw [e]; simp)]
    rfl
  show allL 12 _ = _
  rw [allL_step 12 _ (by rw [e]; simp), hf]
  simp only
  rw [List.drop_of_length_le (by simp), allL_nil]
  rfl

def TbRel (X : ByteArray) (w : World) (i : Value) (wr : World) : Prop := ∃ j : Nat, i = .int .i64 j ∧ j ≤ X.size ∧ (X.data.toList.take j).all (fun b => b != 9) = true ∧ wr = w
structure IndOk (ls : List (List UInt8)) (k : Nat) : Prop where
  all : ∀ x ∈ ls.take k, x.length ≤ 60 ∧ ∀ b ∈ x, b ≠ 9
  ends : ∀ j x, j < k → ls[j]? = some x → j = 0 ∨ j + 1 = ls.length → x.all isGap = false
def InRel (ls : List (List UInt8)) (w1 : World) (z3 z4 z24 : Value) (wr : World) : Prop :=
  ∃ (k : Nat) (U : ByteArray), z24 = .int .i64 k ∧ k ≤ ls.length ∧ z3 = .string U ∧ U.data.toList = joinL (ls.take k) ∧ wr.ownsRow w1.heap.size 9 1 z4 k (strs ((ls.take k).map four)) ∧ Below w1.heap.size w1 wr ∧ IndOk ls k
theorem IndOk.step {ls : List (List UInt8)} {k : Nat} (h : IndOk ls k) (hk : k < ls.length) {x : List UInt8} (hx : ls.take (k + 1) = ls.take k ++ [x]) (h60 : x.length ≤ 60) (h9 : ∀ b ∈ x, b ≠ 9) (hb : k = 0 ∨ k + 1 = ls.length → x.all isGap = false) : IndOk ls (k + 1) := by
  refine ⟨fun y hy => ?_, fun j y hj hy ho => ?_⟩
  · rw [hx] at hy
    rcases List.mem_append.1 hy with hy | hy
    · exact h.all y hy
    · simp at hy
      subst hy
      exact ⟨h60, h9⟩
  · by_cases hjk : j < k
    · exact h.ends j y hjk hy ho
    · obtain rfl : j = k := by omega
      have e1 : (ls.take (j + 1))[j]? = some y := by rw [List.getElem?_take, if_pos (by omega)]; exact hy
      rw [hx, List.getElem?_append_right (by rw [List.length_take]; omega), List.length_take, Nat.min_eq_left (by omega), Nat.sub_self] at e1
      simp at e1
      subst e1
      exact hb ho

set_option maxHeartbeats 16000000 in
theorem blockIndents_short (w : World) (A : Option Addr) (cap : Nat) (ls : List (List UInt8)) (hrow : RowOf w A cap (strs ls)) (hz : ∀ x ∈ ls, x.length ≤ 9223372036854775807) (h1 : 1 ≤ ls.length) (h20 : ls.length ≤ 20) :
    Calls Tryd.prog 14 #[.slice A ls.length cap] w fun e w' => e = .returned (.bool true) ∧ Below w.heap.size w w' := by
  obtain ⟨i0, hi, hz0, hz1, hz2⟩ := info_parts infoString
  have hcl := hrow.strs_le
  have hf0 : decide ((20 : Int) < (ls.length : Int)) = false := by simp; omega
  have hf00 : decide ((ls.length : Int) < 1) = false := by simp; omega
  have HZ := Lib.hid hz
  have HR := Lib.hid hrow
  have HNe := Lib.hid h1
  clear hz hrow
  go_enter Tryd.func14, Tryd.ntmps14
  go_wp2_with fail
  refine (alive9_any _).mono ?_
  rintro e w1 ⟨rfl, b1⟩
  have HB1 := Lib.hid b1
  have HR1 := Lib.hid (HR.out.below b1)
  clear b1
  go_wp2_with fail
  go_loopw [3, 4, 24] (fun z3 z4 z24 wr => InRel ls w1 z3 z4 z24 wr) (fun _ _ z24 _ => ls.length - (intOf z24).toNat)
  case atStart => exact ⟨0, ⟨#[]⟩, rfl, Nat.zero_le _, rfl, rfl, World.ownsRow_nil _ _ _ _, Below.refl _ _, ⟨by simp, fun j x h => by omega⟩⟩
  case round =>
    obtain ⟨k, U, rfl, hk, rfl, hU, hown, hbw, hall⟩ := hrel
    have hss := hbw.size
    have hszU := text_size hU
    have hjb := joinL_bound (ls.take k) 60 (fun x hx => (hall.all x hx).1)
    rw [List.length_take, Nat.min_eq_left hk] at hjb
    have hU2 : U.size ≤ 2000 := by
      have : k * (60 + 1) ≤ 20 * 61 := Nat.mul_le_mul_right _ (by omega)
      omega
    have HU := Lib.hid hU
    have HO := Lib.hid hown
    have HBW := Lib.hid hbw
    have HAll := Lib.hid hall
    clear hszU hjb hU hown hall
    by_cases hp : k < ls.length
    · obtain ⟨b9, off, hA, hb9, hcell⟩ := (HR1.out.below hbw).cellAt hp
      have hsz := HZ.out _ (List.getElem_mem hp)
      have HTk := Lib.hid (List.take_succ_eq_append_getElem hp)
      generalize ls[k] = x at *
      obtain ⟨X, hX1, hX⟩ := text_of' x
      rw [hX1] at hcell
      have hXs : X.size = x.length := by rw [← hX]; simp
      have hXm : X.size ≤ 9223372036854775807 := by omega
      have HXL := Lib.hid hX
      have HXS := Lib.hid hXs
      subst hA
      clear hX1 hX hXs hsz hbw
      by_cases h1 : 60 < X.size
      · have f1 : decide ((60 : Int) < (X.size : Int)) = true := by simp; omega
        clear h1
        go_wp2
        go_ret
        exact ⟨rfl, HB1.out.then HBW.out⟩
      · have f1 : decide ((60 : Int) < (X.size : Int)) = false := by simp; omega
        have hX60 : X.size ≤ 60 := by omega
        clear h1
        rename World => w2
        go_wp2_with fail
        go_loopw [7] (fun i wr2 => TbRel X w2 i wr2) (fun i _ => X.size - (intOf i).toNat)
        case atStart => exact ⟨0, rfl, Nat.zero_le _, by simp, rfl⟩
        case round =>
          obtain ⟨j, rfl, hj, hall, hwe⟩ := hrel
          have hwe := hwe.symm
          subst hwe
          by_cases hp2 : j < X.size
          · have hlt : j < X.data.toList.length := by simpa using hp2
            have HAll2 := Lib.hid (fun h => all_step (p := fun b : UInt8 => b != 9) hlt hall h)
            have hge : X.data.toList[j] = X[j] := rfl
            rw [hge] at HAll2
            clear hall hge
            by_cases h10 : X[j] = 10
            · have f2 : ((X[j].toNat : Int) == 10) = true := by rw [h10]; rfl
              clear h10
              go_wp2
              go_ret
              exact ⟨rfl, HB1.out.then HBW.out⟩
            · have f2 : ((X[j].toNat : Int) == 10) = false := by
                rw [beq_eq_false_iff_ne]
                intro e
                exact h10 (UInt8.toNat_inj.1 (by show X[j].toNat = 10; omega))
              clear h10
              by_cases h9 : X[j] = 9
              · have f3 : ((X[j].toNat : Int) == 9) = true := by rw [h9]; rfl
                clear h9
                go_wp2
                go_ret
                exact ⟨rfl, HB1.out.then HBW.out⟩
              · have f3 : ((X[j].toNat : Int) == 9) = false := by
                  rw [beq_eq_false_iff_ne]
                  intro e
                  exact h9 (UInt8.toNat_inj.1 (by show X[j].toNat = 9; omega))
                have HN := Lib.hid (HAll2.out (by simpa using h9))
                clear h9
                go_wp2
                first
                  | (go_roundw
                     case rel => exact ⟨j + 1, by go_num, by omega, HN.out, rfl⟩
                     case measure => simp [intOf]; omega)
                  | exact ⟨⟨j + 1, by go_num, by omega, HN.out, rfl⟩, by simp [intOf]; omega⟩
          · obtain rfl : j = X.size := by omega
            rw [List.take_of_length_le (by simp)] at hall
            have h9 : ∀ b ∈ x, b ≠ 9 := by
              intro b hb
              rw [HXL.out, List.all_eq_true] at hall
              simpa using hall b hb
            have H9 := Lib.hid h9
            clear hall h9
            rename World => wQ
            have cb := blank_any X wQ (by omega)
            rw [HXL.out] at cb
            by_cases hend : k = 0 ∨ k + 1 = ls.length
            · have hge : ((k : Int) == 0) = true ∨ (((k : Int) == 0) = false ∧ ((k : Int) == (ls.length : Int) - 1) = true) := by
                rcases hend with h | h
                · exact Or.inl (by simp; omega)
                · by_cases h0 : k = 0
                  · exact Or.inl (by simp; omega)
                  · exact Or.inr ⟨by simp; omega, by simp; omega⟩
              have HEnd := Lib.hid hend
              clear hend
              cases hbl : x.all isGap with
              | true =>
                rw [hbl] at cb
                clear hbl
                rcases hge with g1 | ⟨g1, g2⟩
                all_goals
                  go_wp2_with fail
                  refine cb.mono ?_
                  rintro e w3 ⟨rfl, b3⟩
                  have HB3 := Lib.hid ((HB1.out.then HBW.out).trans (b3.mono (by have := HB1.out.size; have := HBW.out.size; omega)))
                  clear b3 cb
                  go_wp2
                  go_ret
                  exact ⟨rfl, HB3.out⟩
              | false =>
                rw [hbl] at cb
                have HOk := Lib.hid (HAll.out.step hp HTk.out (by have := HXS.out; omega) H9.out (fun _ => hbl))
                clear hbl
                rcases hge with g1 | ⟨g1, g2⟩
                all_goals
                  go_wp2_with fail
                  refine cb.mono ?_
                  rintro e w3 ⟨rfl, b3⟩
                  have HBW3 := Lib.hid (HBW.out.trans (b3.mono hss))
                  have HO3 := Lib.hid (ownsRow_below HO.out b3)
                  have hs3 := b3.size
                  clear b3 cb
                  obtain ⟨Y, hY0⟩ : ∃ Y, (⟨#[32, 32, 32, 32]⟩ : ByteArray) ++ X = Y := ⟨_, rfl⟩
                  have hYl : Y.data.toList = four x := by rw [← hY0, ByteArray.data_append, Array.toList_append, HXL.out]; rfl
                  have k0 := fun W => run_string_add_sum (P := Tryd.prog) W (⟨#[32, 32, 32, 32]⟩ : ByteArray) X (by show 4 + _ ≤ _; omega)
                  rw [hY0] at k0
                  have hnw := cells_one w3 (.string Y) 9
                  have hrow2 := HO3.out.alloc (.cells #[.string Y] 9)
                  have k1 := fun W => run_string_add_sum (P := Tryd.prog) W X (⟨#[10]⟩ : ByteArray) (by show _ + 1 ≤ _; omega)
                  have k2 := fun W => run_string_add_sum (P := Tryd.prog) W U (X ++ (⟨#[10]⟩ : ByteArray)) (by rw [ByteArray.size_append]; show _ + (_ + 1) ≤ _; omega)
                  have HYL := Lib.hid hYl
                  clear hYl hY0
                  go_wp2_with (at_builtin; refine wpList_append_own _ rfl _ _ 22 rfl w1.heap.size 9 i0 (.string ByteArray.empty) 1 16 Tryd.underlying22 hi hz0 hz1 hz2 rfl (by decide) _ _ _ rfl hrow2 ⟨w3.heap.size, 0, none⟩ 1 1 [.string Y] rfl rfl hnw (by simp [Value.oneCell']) (by unfold maxLen; omega) (by omega) (by simp; omega) ?_)
                  intro v' w5 hown' hgrow _
                  have HO5 := Lib.hid (show w5.ownsRow w1.heap.size 9 1 v' (k + 1) (strs ((ls.take (k + 1)).map four)) from by
                    have e : strs ((ls.take (k + 1)).map four) = strs ((ls.take k).map four) ++ [Value.string Y] := by
                      rw [HTk.out, List.map_append, strs_append, List.map_cons, List.map_nil, strs_one, text_is HYL.out]
                    rw [e, List.map_take]
                    exact hown')
                  have HB5 := Lib.hid ((HBW3.out.alloc (by omega) (.cells #[.string Y] 9)).trans (below_of_grown hgrow (fun g hg => (hrow2.lt g hg).1) (by simp; omega)))
                  have HU5 := Lib.hid (show (U ++ (X ++ (⟨#[10]⟩ : ByteArray))).data.toList = joinL (ls.take (k + 1)) from by
                    rw [HTk.out, joinL_snoc, ByteArray.data_append, Array.toList_append, ByteArray.data_append, Array.toList_append, HU.out, HXL.out]
                    simp)
                  clear hown' hgrow hrow2 hnw
                  go_wp2
                  first
                    | (go_roundw
                       case rel => exact ⟨k + 1, _, by go_num, by omega, rfl, HU5.out, HO5.out, HB5.out, HOk.out⟩
                       case measure => simp [intOf]; omega)
                    | exact ⟨⟨k + 1, _, by go_num, by omega, rfl, HU5.out, HO5.out, HB5.out, HOk.out⟩, by simp [intOf]; omega⟩
            · have g1 : ((k : Int) == 0) = false := by simp; omega
              have g2 : ((k : Int) == (ls.length : Int) - 1) = false := by simp; omega
              have HOk := Lib.hid (HAll.out.step hp HTk.out (by have := HXS.out; omega) H9.out (fun h => absurd h hend))
              have HBW3 := Lib.hid HBW.out
              have HO3 := Lib.hid HO.out
              have hs3 : wQ.heap.size ≤ wQ.heap.size := Nat.le_refl _
              clear hend cb
              obtain ⟨Y, hY0⟩ : ∃ Y, (⟨#[32, 32, 32, 32]⟩ : ByteArray) ++ X = Y := ⟨_, rfl⟩
              have hYl : Y.data.toList = four x := by rw [← hY0, ByteArray.data_append, Array.toList_append, HXL.out]; rfl
              have k0 := fun W => run_string_add_sum (P := Tryd.prog) W (⟨#[32, 32, 32, 32]⟩ : ByteArray) X (by show 4 + _ ≤ _; omega)
              rw [hY0] at k0
              have hnw := cells_one wQ (.string Y) 9
              have hrow2 := HO3.out.alloc (.cells #[.string Y] 9)
              have k1 := fun W => run_string_add_sum (P := Tryd.prog) W X (⟨#[10]⟩ : ByteArray) (by show _ + 1 ≤ _; omega)
              have k2 := fun W => run_string_add_sum (P := Tryd.prog) W U (X ++ (⟨#[10]⟩ : ByteArray)) (by rw [ByteArray.size_append]; show _ + (_ + 1) ≤ _; omega)
              have HYL := Lib.hid hYl
              clear hYl hY0
              go_wp2_with (at_builtin; refine wpList_append_own _ rfl _ _ 22 rfl w1.heap.size 9 i0 (.string ByteArray.empty) 1 16 Tryd.underlying22 hi hz0 hz1 hz2 rfl (by decide) _ _ _ rfl hrow2 ⟨wQ.heap.size, 0, none⟩ 1 1 [.string Y] rfl rfl hnw (by simp [Value.oneCell']) (by unfold maxLen; omega) (by omega) (by simp; omega) ?_)
              intro v' w5 hown' hgrow _
              have HO5 := Lib.hid (show w5.ownsRow w1.heap.size 9 1 v' (k + 1) (strs ((ls.take (k + 1)).map four)) from by
                have e : strs ((ls.take (k + 1)).map four) = strs ((ls.take k).map four) ++ [Value.string Y] := by
                  rw [HTk.out, List.map_append, strs_append, List.map_cons, List.map_nil, strs_one, text_is HYL.out]
                rw [e, List.map_take]
                exact hown')
              have HB5 := Lib.hid ((HBW3.out.alloc (by omega) (.cells #[.string Y] 9)).trans (below_of_grown hgrow (fun g hg => (hrow2.lt g hg).1) (by simp; omega)))
              have HU5 := Lib.hid (show (U ++ (X ++ (⟨#[10]⟩ : ByteArray))).data.toList = joinL (ls.take (k + 1)) from by
                rw [HTk.out, joinL_snoc, ByteArray.data_append, Array.toList_append, ByteArray.data_append, Array.toList_append, HU.out, HXL.out]
                simp)
              clear hown' hgrow hrow2 hnw
              go_wp2
              first
                | (go_roundw
                   case rel => exact ⟨k + 1, _, by go_num, by omega, rfl, HU5.out, HO5.out, HB5.out, HOk.out⟩
                   case measure => simp [intOf]; omega)
                | exact ⟨⟨k + 1, _, by go_num, by omega, rfl, HU5.out, HO5.out, HB5.out, HOk.out⟩, by simp [intOf]; omega⟩
    · obtain rfl : k = ls.length := by omega
      have hown := HO.out
      have hU3 := HU.out
      have hall := HAll.out
      rw [List.take_length] at hown hU3
      have hpr := parse_four ls (fun y hy => (hall.all y (by rw [List.take_length]; exact hy)).2) (fun e => by rw [e] at h1; simp at h1) (fun x hx => hall.ends 0 x (by omega) hx (Or.inl rfl)) (fun x hx => hall.ends (ls.length - 1) x (by omega) hx (Or.inr (by omega)))
      have hfew : Few (ls.map four) := ⟨by rw [List.length_map]; omega, fun y hy => by
        obtain ⟨z, hz, rfl⟩ := List.mem_map.1 hy
        have h4 := wt_le (four z)
        have h5 := (hall.all z (by rw [List.take_length]; exact hz)).1
        simp only [four, List.length_cons] at h4
        show wt (four z) ≤ _
        unfold four
        omega⟩
      obtain ⟨A3, c3, rfl, hr3, _⟩ := RowOf.own hown
      have cp := bparse_any A3 c3 (ls.map four) wr hr3 hfew
      rw [hpr, List.length_map] at cp
      have HU4 := Lib.hid hU3
      clear hown hr3 hpr hfew hall hU3
      go_wp2_with fail
      refine cp.mono ?_
      rintro e w4 ⟨v4, rfl, hown4, b4⟩
      obtain ⟨A4, c4, rfl, hat⟩ := BlksAt.own hown4
      obtain ⟨b8, o8, hA8, _, a00, a01, a02, a03, a04, a05⟩ := hat.one
      subst hA8
      dsimp only at a00 a01 a02 a03 a04 a05
      rw [text_is HU4.out] at a04
      have hle4 := hat.le
      have hcm4 := hat.cap
      unfold maxLen at hcm4
      have HB4 := Lib.hid ((HB1.out.then HBW.out).trans (b4.mono (by have := HB1.out.size; have := HBW.out.size; omega)))
      simp only [List.length_cons, List.length_nil] at hle4 ⊢
      clear hown4 b4 cp hat
      go_wp2
      go_ret
      exact ⟨ret_bool (by simp), HB4.out⟩

theorem blockIndents_walk (w : World) (A0 : Option Addr) (c0 : Nat) (z0 : List ByteArray) (r0 : RowOf w A0 c0 (z0.map Value.string)) (w0 : ∀ s ∈ z0, s.size ≤ maxLen) :
    Calls Tryd.prog 14 #[.slice A0 z0.length c0] w fun e w' => e = .returned (.bool true) ∧ Below w.heap.size w w' := by
  by_cases h20 : 1 ≤ z0.length ∧ z0.length ≤ 20
  · rw [strs_of] at r0
    have h := blockIndents_short w A0 c0 _ r0 (fun y hy => by
      obtain ⟨s, hs, rfl⟩ := List.mem_map.1 hy
      have := w0 s hs
      unfold maxLen at this
      simpa using this) (by rw [List.length_map]; exact h20.1) (by rw [List.length_map]; exact h20.2)
    simp only [List.length_map] at h
    exact h
  · have h1 := r0.1
    have h2 := r0.2.1
    rw [List.length_map] at h1
    unfold maxLen at h2
    have hor : decide ((z0.length : Int) < 1) = true ∨ (decide ((z0.length : Int) < 1) = false ∧ decide ((20 : Int) < (z0.length : Int)) = true) := by
      by_cases h : z0.length < 1
      · exact Or.inl (by simp; omega)
      · exact Or.inr ⟨by simp; omega, by simp; omega⟩
    have hor2 : z0.length < 1 ∨ 20 < z0.length := by omega
    generalize z0.length = n at *
    clear r0 w0 h20
    rcases hor with f1 | ⟨f1, f2⟩
    all_goals
      go_enter Tryd.func14, Tryd.ntmps14
      go_wp2_with fail
      refine (alive9_any _).mono ?_
      rintro e w1 ⟨rfl, b1⟩
      go_wp2
      go_ret
      exact ⟨rfl, b1⟩

end Go.Proofs.YtoleoigpijgboaaDoor
