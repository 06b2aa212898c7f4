/-
  BlockRaws: raw HTML goes up to a blank line, as it is: the law's walk.
-/
import Derived.Test.YtoleoigpijgboaaDoorBkE
namespace Go.Proofs.YtoleoigpijgboaaDoor
open Go.RowKit
set_option linter.unusedSimpArgs false
set_option linter.unusedVariables false
set_option maxRecDepth 100000

def NlRel (X : ByteArray) (w : World) (i : Value) (wr : World) : Prop := ∃ j : Nat, i = .int .i64 j ∧ j ≤ X.size ∧ wr = w
def tagB : List UInt8 := [60, 98, 62]
theorem rawN_lines (ls m : List (List UInt8)) (h : ∀ x ∈ ls, x.all isGap = false) {s : List UInt8} (hs : s.all isGap = true) : rawN (ls ++ s :: m) = ls.length := by
  rw [rawN_blank hs]
  unfold rawN
  induction ls with
  | nil => rfl
  | cons x l ih => rw [List.takeWhile_cons, if_pos (by rw [h x (by simp)]; rfl), List.length_cons, ih (fun y hy => h y (by simp [hy])), List.length_cons]
theorem parse_raw (ls m : List (List UInt8)) (h : ∀ x ∈ ls, x.all isGap = false) {s : List UInt8} (hs : s.all isGap = true) : parseB (tagB :: (ls ++ s :: m)) = ⟨8, 0, 0, false, joinL (tagB :: ls), []⟩ :: parseB m := by
  have hr : rawN (tagB :: (ls ++ s :: m)) = ls.length + 1 := rawN_lines (tagB :: ls) m (fun x hx => by
    rcases List.mem_cons.1 hx with rfl | hx
    · rfl
    · exact h x hx) hs
  have hl : (leafL (tagB :: (ls ++ s :: m))).2 = 0 := by
    unfold leafL
    rw [List.headD_cons, if_neg (by decide), show mkFence tagB = none from by decide +kernel, show mkHead tagB = none from by decide +kernel, show mkRule tagB = false from by decide +kernel]
    rfl
  have hq : rawL (tagB :: (ls ++ s :: m)) = (⟨8, 0, 0, false, joinL (tagB :: ls), []⟩, ls.length + 1) := by
    unfold rawL
    rw [hr, show (tagB :: (ls ++ s :: m)).take (ls.length + 1) = tagB :: ls from by rw [List.take_succ_cons, List.take_append_of_le_length (Nat.le_refl _), List.take_length]]
  have hf : firstM 12 (tagB :: (ls ++ s :: m)) = ([⟨8, 0, 0, false, joinL (tagB :: ls), []⟩], ls.length + 1) := by
    show firstL (10 - ((10 : Nat) : Int)) _ _ _ = _
    unfold firstL
    rw [List.headD_cons, if_neg (by decide), hl, if_neg (by omega), show beginsQ (10 - ((10 : Nat) : Int)) tagB = false from by decide +kernel, show beginsI (10 - ((10 : Nat) : Int)) tagB = false from by decide +kernel, show mkHtml tagB = true from by decide +kernel, hq]
    rfl
  show allL 12 _ = _
  rw [allL_step 12 _ (by simp), hf]
  simp only [List.drop_succ_cons]
  rw [List.drop_append_of_le_length (Nat.le_refl _), List.drop_length, List.nil_append]
  show _ :: allL 12 (s :: m) = _
  rw [allL_blank 12 s m hs]
  rfl
theorem joinL_snoc (a : List (List UInt8)) (x : List UInt8) : joinL (a ++ [x]) = joinL a ++ x ++ [10] := by rw [joinL_append]; simp [joinL]

def RwRel (ls : List (List UInt8)) (w1 : World) (z3 z4 z20 : Value) (wr : World) : Prop :=
  ∃ (k : Nat) (U : ByteArray), z20 = .int .i64 k ∧ k ≤ ls.length ∧ z3 = .string U ∧ U.data.toList = joinL (tagB :: ls.take k) ∧ wr.ownsRow w1.heap.size 9 1 z4 (k + 1) (strs (tagB :: ls.take k)) ∧ Below w1.heap.size w1 wr ∧ (∀ x ∈ ls.take k, x.length ≤ 60 ∧ x.all isGap = false)
theorem strs_end (ls : List (List UInt8)) : strs (tagB :: ls) ++ [Value.string ⟨#[]⟩, Value.string ⟨#[101, 110, 100]⟩] = strs (tagB :: (ls ++ [[], [101, 110, 100]])) := by
  rw [show tagB :: (ls ++ [[], [101, 110, 100]]) = (tagB :: ls) ++ [[], [101, 110, 100]] from rfl, strs_append]
  rfl
theorem cells_pair (w : World) (u v : Value) (t : TypeId) : ∀ (j : Nat) (x : Value), [u, v][j]? = some x → (w.alloc (.cells #[u, v] t)).cell? ((⟨w.heap.size, 0, none⟩ : Addr).add j) = some x := by
  intro j x hj
  rw [addr_add, cell_of_row _ _ _ _ t (0, 0) (heap_alloc_new w _), Nat.zero_add]
  simpa using hj

set_option maxHeartbeats 16000000 in
theorem blockRaws_short (w : World) (A : Option Addr) (cap : Nat) (ls : List (List UInt8)) (hrow : RowOf w A cap (strs ls)) (hz : ∀ x ∈ ls, x.length ≤ 9223372036854775807) (h20 : ls.length ≤ 20) :
    Calls Tryd.prog 13 #[.slice A ls.length cap] w fun e w' => e = .returned (.bool true) ∧ Below w.heap.size w w' := by
  obtain ⟨i0, hi, hz0, hz1, hz2⟩ := info_parts infoString
  have hcl := hrow.strs_le
  have hf0 : decide ((20 : Int) < (ls.length : Int)) = false := by simp; omega
  have HZ := Lib.hid hz
  have HR := Lib.hid hrow
  clear hz hrow
  go_enter Tryd.func13, Tryd.ntmps13
  go_wp2_with fail
  refine (alive9_any _).mono ?_
  rintro e w1 ⟨rfl, b1⟩
  have HB1 := Lib.hid b1
  have HR1 := Lib.hid (HR.out.below b1)
  clear b1
  have hlit : (w1.alloc (.cells #[.string ⟨#[60, 98, 62]⟩] 9)).ownsRow w1.heap.size 9 1 (.slice (some ⟨w1.heap.size, 0, none⟩) 1 1) 1 (strs [tagB]) :=
    ⟨rfl, .inr ⟨w1.heap.size, 1, #[.string ⟨#[60, 98, 62]⟩], rfl, Nat.le_refl _, heap_alloc_new w1 _, Nat.le_refl _, by unfold maxLen; omega, rfl, rfl⟩⟩
  have HLit := Lib.hid hlit
  have HBL := Lib.hid ((Below.refl _ w1).alloc (Nat.le_refl _) (.cells #[.string ⟨#[60, 98, 62]⟩] 9))
  clear hlit
  go_wp2_with fail
  go_loopw [3, 4, 20] (fun z3 z4 z20 wr => RwRel ls w1 z3 z4 z20 wr) (fun _ _ z20 _ => ls.length - (intOf z20).toNat)
  case atStart => exact ⟨0, ⟨#[60, 98, 62, 10]⟩, rfl, Nat.zero_le _, rfl, rfl, HLit.out, HBL.out, by simp⟩
  case round =>
    obtain ⟨k, U, rfl, hk, rfl, hU, hown, hbw, hall⟩ := hrel
    have hss := hbw.size
    have hszU := text_size hU
    have hjb := joinL_bound (tagB :: ls.take k) 60 (fun x hx => by
      rcases List.mem_cons.1 hx with rfl | hx
      · decide
      · exact (hall x hx).1)
    rw [List.length_cons, List.length_take, Nat.min_eq_left hk] at hjb
    have hU2 : U.size ≤ 2000 := by
      have : (k + 1) * (60 + 1) ≤ 21 * 61 := Nat.mul_le_mul_right _ (by omega)
      omega
    have HU := Lib.hid hU
    have HO := Lib.hid hown
    have HBW := Lib.hid hbw
    have HAll := Lib.hid hall
    clear hszU hjb hU hown hall
    by_cases hp : k < ls.length
    · obtain ⟨b9, off, hA, hb9, hcell⟩ := (HR1.out.below hbw).cellAt hp
      have hsz := HZ.out _ (List.getElem_mem hp)
      have HTk := Lib.hid (List.take_succ_eq_append_getElem hp)
      generalize ls[k] = x at *
      obtain ⟨X, hX1, hX⟩ := text_of' x
      rw [hX1] at hcell
      have hXs : X.size = x.length := by rw [← hX]; simp
      have hXm : X.size ≤ 9223372036854775807 := by omega
      have HXL := Lib.hid hX
      have HXS := Lib.hid hXs
      subst hA
      clear hX1 hX hXs hsz hbw
      by_cases h1 : 60 < X.size
      · have f1 : decide ((60 : Int) < (X.size : Int)) = true := by simp; omega
        clear h1
        go_wp2
        go_ret
        exact ⟨rfl, HB1.out.then HBW.out⟩
      · have f1 : decide ((60 : Int) < (X.size : Int)) = false := by simp; omega
        have cb := blank_any X wr (by omega)
        rw [HXL.out] at cb
        have H1 := Lib.hid h1
        have hX60 : X.size ≤ 60 := by omega
        clear h1
        cases hbl : x.all isGap with
        | true =>
          rw [hbl] at cb
          clear hbl
          go_wp2_with fail
          refine cb.mono ?_
          rintro e w2 ⟨rfl, b2⟩
          have HB2 := Lib.hid ((HB1.out.then HBW.out).trans (b2.mono (by have := HB1.out.size; have := HBW.out.size; omega)))
          clear b2 cb hcell
          go_wp2
          go_ret
          exact ⟨rfl, HB2.out⟩
        | false =>
          rw [hbl] at cb
          have HBl := Lib.hid hbl
          clear hbl
          go_wp2_with fail
          refine cb.mono ?_
          rintro e w2 ⟨rfl, b2⟩
          have HBW2 := Lib.hid (HBW.out.trans (b2.mono hss))
          have HO2 := Lib.hid (ownsRow_below HO.out b2)
          have hs2 := b2.size
          clear b2 cb hcell
          go_wp2_with fail
          go_loopw [7] (fun i wr2 => NlRel X w2 i wr2) (fun i _ => X.size - (intOf i).toNat)
          case atStart => exact ⟨0, rfl, Nat.zero_le _, rfl⟩
          case round =>
            obtain ⟨j, rfl, hj, hwe⟩ := hrel
            have hwe := hwe.symm
            subst hwe
            by_cases hp2 : j < X.size
            · by_cases h10 : X[j] = 10
              · have f2 : ((X[j].toNat : Int) == 10) = true := by rw [h10]; rfl
                clear h10
                go_wp2
                go_ret
                exact ⟨rfl, HB1.out.then HBW2.out⟩
              · have f2 : ((X[j].toNat : Int) == 10) = false := by
                  rw [beq_eq_false_iff_ne]
                  intro e
                  exact h10 (UInt8.toNat_inj.1 (by show X[j].toNat = 10; omega))
                clear h10
                go_wp2
                first
                  | (go_roundw
                     case rel => exact ⟨j + 1, by go_num, by omega, rfl⟩
                     case measure => simp [intOf]; omega)
                  | exact ⟨⟨j + 1, by go_num, by omega, rfl⟩, by simp [intOf]; omega⟩
            · obtain rfl : j = X.size := by omega
              rename World => wQ
              have hnw := cells_one wQ (.string X) 9
              have hrow2 := HO2.out.alloc (.cells #[.string X] 9)
              have k1 := fun W => run_string_add_sum (P := Tryd.prog) W X (⟨#[10]⟩ : ByteArray) (by show _ + 1 ≤ _; omega)
              have k2 := fun W => run_string_add_sum (P := Tryd.prog) W U (X ++ (⟨#[10]⟩ : ByteArray)) (by rw [ByteArray.size_append]; show _ + (_ + 1) ≤ _; omega)
              go_wp2_with (at_builtin; refine wpList_append_own _ rfl _ _ 22 rfl w1.heap.size 9 i0 (.string ByteArray.empty) 1 16 Tryd.underlying22 hi hz0 hz1 hz2 rfl (by decide) _ _ _ rfl hrow2 ⟨wQ.heap.size, 0, none⟩ 1 1 [.string X] rfl rfl hnw (by simp [Value.oneCell']) (by unfold maxLen; omega) (by omega) (by simp; omega) ?_)
              intro v' w3 hown' hgrow _
              have HO3 := Lib.hid (show w3.ownsRow w1.heap.size 9 1 v' (k + 1 + 1) (strs (tagB :: ls.take (k + 1))) from by
                have e : strs (tagB :: ls.take (k + 1)) = strs (tagB :: ls.take k) ++ [Value.string X] := by
                  rw [HTk.out, show tagB :: (ls.take k ++ [x]) = (tagB :: ls.take k) ++ [x] from rfl, strs_append, strs_one, text_is HXL.out]
                rw [e]
                exact hown')
              have HB3 := Lib.hid ((HBW2.out.alloc (by omega) (.cells #[.string X] 9)).trans (below_of_grown hgrow (fun g hg => (hrow2.lt g hg).1) (by simp; omega)))
              have HU3 := Lib.hid (show (U ++ (X ++ (⟨#[10]⟩ : ByteArray))).data.toList = joinL (tagB :: ls.take (k + 1)) from by
                rw [HTk.out, show tagB :: (ls.take k ++ [x]) = (tagB :: ls.take k) ++ [x] from rfl, joinL_snoc, ByteArray.data_append, Array.toList_append, ByteArray.data_append, Array.toList_append, HU.out, HXL.out]
                simp)
              have HAll3 := Lib.hid (show ∀ y ∈ ls.take (k + 1), y.length ≤ 60 ∧ y.all isGap = false from by
                intro y hy
                rw [HTk.out] at hy
                rcases List.mem_append.1 hy with hy | hy
                · exact HAll.out y hy
                · simp at hy
                  subst hy
                  exact ⟨by have := HXS.out; omega, HBl.out⟩)
              clear hown' hgrow hrow2 hnw
              go_wp2
              first
                | (go_roundw
                   case rel => exact ⟨k + 1, _, by go_num, by omega, rfl, HU3.out, HO3.out, HB3.out, HAll3.out⟩
                   case measure => simp [intOf]; omega)
                | exact ⟨⟨k + 1, _, by go_num, by omega, rfl, HU3.out, HO3.out, HB3.out, HAll3.out⟩, by simp [intOf]; omega⟩
    · obtain rfl : k = ls.length := by omega
      have hown := HO.out
      have hU3 := HU.out
      have hall := HAll.out
      rw [List.take_length] at hown hU3 hall
      have hnw := cells_pair wr (.string ⟨#[]⟩) (.string ⟨#[101, 110, 100]⟩) 9
      have hrow2 := hown.alloc (.cells #[.string ⟨#[]⟩, .string ⟨#[101, 110, 100]⟩] 9)
      have hpr := parse_raw ls [[101, 110, 100]] (fun x hx => (hall x hx).2) (s := []) rfl
      rw [show ls ++ [] :: [[101, 110, 100]] = ls ++ [[], [101, 110, 100]] from rfl] at hpr
      have hfew : Few (tagB :: (ls ++ [[], [101, 110, 100]])) := ⟨by simp; omega, fun y hy => by
        have h4 := wt_le y
        rcases List.mem_cons.1 hy with rfl | hy
        · decide
        · rcases List.mem_append.1 hy with hy | hy
          · have := (hall y hy).1; omega
          · simp at hy
            rcases hy with rfl | rfl <;> decide⟩
      have HFew := Lib.hid hfew
      have HPr := Lib.hid hpr
      have HU4 := Lib.hid hU3
      clear hfew hpr hU3 hall hown
      go_wp2_with (at_builtin; refine wpList_append_own _ rfl _ _ 22 rfl w1.heap.size 9 i0 (.string ByteArray.empty) 1 16 Tryd.underlying22 hi hz0 hz1 hz2 rfl (by decide) _ _ _ rfl hrow2 ⟨wr.heap.size, 0, none⟩ 2 2 [.string ⟨#[]⟩, .string ⟨#[101, 110, 100]⟩] rfl rfl hnw (by simp [Value.oneCell']) (by unfold maxLen; omega) (by omega) (by simp; omega) ?_)
      intro v' w3 hown' hgrow _
      rw [strs_end] at hown'
      have HB3 := Lib.hid ((HBW.out.alloc (by omega) (.cells #[.string ⟨#[]⟩, .string ⟨#[101, 110, 100]⟩] 9)).trans (below_of_grown hgrow (fun g hg => (hrow2.lt g hg).1) (by simp; omega)))
      obtain ⟨A3, c3, rfl, hr3, _⟩ := RowOf.own hown'
      have cp := bparse_any A3 c3 (tagB :: (ls ++ [[], [101, 110, 100]])) w3 hr3 HFew.out
      rw [HPr.out] at cp
      rw [show (tagB :: (ls ++ [[], [101, 110, 100]])).length = ls.length + 1 + 2 from by simp] at cp
      clear hown' hgrow hrow2 hnw hr3
      go_wp2_with fail
      refine cp.mono ?_
      rintro e w4 ⟨v4, rfl, hown4, b4⟩
      obtain ⟨A4, c4, rfl, hat⟩ := BlksAt.own hown4
      rw [show parseB [[101, 110, 100]] = [⟨1, 0, 0, false, [101, 110, 100], []⟩] from by decide +kernel] at hat
      obtain ⟨b8, o8, hA8, _, a00, a01, a02, a03, a04, a05⟩ := hat.one
      subst hA8
      obtain ⟨a10, a11, a12, a13, a14, a15⟩ := hat.second
      dsimp only at a00 a01 a02 a03 a04 a05 a10 a11 a12 a13 a14 a15
      rw [text_is HU4.out] at a04
      have hle4 := hat.le
      have hcm4 := hat.cap
      unfold maxLen at hcm4
      have HB4 := Lib.hid ((HB1.out.then HB3.out).then b4)
      rw [show parseB [[101, 110, 100]] = [⟨1, 0, 0, false, [101, 110, 100], []⟩] from by decide +kernel]
      simp only [List.length_cons, List.length_nil] at hle4 ⊢
      clear hown4 b4 cp hat
      go_wp2
      go_ret
      exact ⟨ret_bool (by simp), HB4.out⟩

theorem blockRaws_walk (w : World) (A0 : Option Addr) (c0 : Nat) (z0 : List ByteArray) (r0 : RowOf w A0 c0 (z0.map Value.string)) (w0 : ∀ s ∈ z0, s.size ≤ maxLen) :
    Calls Tryd.prog 13 #[.slice A0 z0.length c0] w fun e w' => e = .returned (.bool true) ∧ Below w.heap.size w w' := by
  by_cases h20 : z0.length ≤ 20
  · rw [strs_of] at r0
    have h := blockRaws_short w A0 c0 _ r0 (fun y hy => by
      obtain ⟨s, hs, rfl⟩ := List.mem_map.1 hy
      have := w0 s hs
      unfold maxLen at this
      simpa using this) (by rw [List.length_map]; exact h20)
    simp only [List.length_map] at h
    exact h
  · have h1 := r0.1
    have h2 := r0.2.1
    rw [List.length_map] at h1
    unfold maxLen at h2
    have f1 : decide ((20 : Int) < (z0.length : Int)) = true := by simp; omega
    generalize z0.length = n at *
    clear r0 w0 h20
    go_enter Tryd.func13, Tryd.ntmps13
    go_wp2_with fail
    refine (alive9_any _).mono ?_
    rintro e w1 ⟨rfl, b1⟩
    go_wp2
    go_ret
    exact ⟨rfl, b1⟩

end Go.Proofs.YtoleoigpijgboaaDoor
