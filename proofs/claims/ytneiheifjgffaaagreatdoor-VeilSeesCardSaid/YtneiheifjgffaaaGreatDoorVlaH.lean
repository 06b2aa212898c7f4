/-
  VeilSees: more labels are never seen by who does not see fewer; a label twice counts once; their order does not count; the law's walk.
-/
import Derived.Test.YtneiheifjgffaaaGreatDoorVlaD
namespace Go.Proofs.YtneiheifjgffaaaGreatDoor
open Go.RowKit
set_option linter.unusedSimpArgs false
set_option linter.unusedVariables false
set_option maxRecDepth 100000

theorem wrapE7 (z : Int) : IntKind.i64.wrap z = wrap64 z := by rw [IntKind.wrap_i64]; unfold wrap64; rfl
def TrnRel (L : List Txt) (w : World) (v i : Value) (wr : World) : Prop :=
  ∃ (k : Nat) (z : Int) (T : List Txt), i = .int .i64 z ∧ z = (k : Int) - 1 ∧ k ≤ L.length ∧ T.length = 2 * (L.length - k) ∧ (∀ p : Txt → Bool, T.all p = (L.drop k).all p) ∧ wr.ownsRow w.heap.size 9 1 v T.length (strs T) ∧ Below w.heap.size w wr

set_option maxHeartbeats 8000000 in
theorem veilSees_core (w : World) (h7 : W7 w) (a0 : Int) (A1 : Option Addr) (c1 : Nat) (ls : List Txt) (r1 : RowOf w A1 c1 (strs ls)) (a2 : ByteArray) :
    Calls Tryz.prog 5 #[.int .i64 a0, .slice A1 ls.length c1, .string a2] w fun e w' => e = .returned (.bool true) ∧ Below w.heap.size w w' := by
  have ca := alive7_any w h7
  obtain ⟨i0, hi, hz0, hz1, hz2⟩ := info_parts infoString
  have l1 := r1.1
  have m1 := r1.2.1
  rw [strs_length] at l1
  unfold maxLen at m1
  by_cases hbig : 10 < ls.length
  · go_enter Tryz.func5, Tryz.ntmps5
    go_wp2_with fail
    refine ca.mono ?_
    rintro e w1 ⟨rfl, b1⟩
    go_wp2
    go_ret
    exact ⟨rfl, b1⟩
  have hu : ls.length ≤ 10 := by omega
  clear hbig
  have HR1 := Lib.hid r1
  clear r1
  obtain ⟨j, hj, hm⟩ := mod4 a0
  rw [wrapE7] at hm
  go_enter Tryz.func5, Tryz.ntmps5
  go_wp2_with fail
  refine ca.mono ?_
  rintro e w1 ⟨rfl, b1⟩
  have HB1 := Lib.hid b1
  have HW1 := Lib.hid (h7.below b1)
  clear b1 ca h7
  go_wp2_with fail
  refine (diamond_any _).mono ?_
  rintro e w2 ⟨d1, d2, rfl, hd, b2⟩
  obtain ⟨g, off, rfl, hg, hcell⟩ := dia_cell hd j hj
  have HB2 := Lib.hid (HB1.out.then b2)
  have HW2 := Lib.hid (HW1.out.below b2)
  have hb0 : Below w2.heap.size w2 (w2.alloc (.cells #[.slice (some ⟨g, off, none⟩) 4 4, .slice d2 4 4] 26)) := (Below.refl _ w2).alloc (Nat.le_refl _) _
  have hbx := box_cell w2 (.slice (some ⟨g, off, none⟩) 4 4) (.slice d2 4 4) 26
  have hs0 := alloc_size w2 (.cells #[.slice (some ⟨g, off, none⟩) 4 4, .slice d2 4 4] 26)
  have hc0 := (hb0.cell (p := ⟨g, off + j, none⟩) hg).trans hcell
  have HD3 := Lib.hid (hd.below hb0)
  have HW3 := Lib.hid (HW2.out.below hb0)
  have HB3 := Lib.hid (HB2.out.then hb0)
  clear b2 hd hb0 hcell
  go_wp2_with fail
  generalize w2.alloc (.cells #[.slice (some ⟨g, off, none⟩) 4 4, .slice d2 4 4] 26) = w3 at *
  obtain ⟨hx0, hx1⟩ := hbx
  have hI3 : ((j : Nat) : Int) < 4 := by omega
  have hn3 := World.block_lt_of_cell? _ _ hx0
  have hg3 := World.block_lt_of_cell? _ _ hc0
  have HC := Lib.hid (fun W hW => newD_held (n := w2.heap.size) HW3.out HD3.out hj hn3 hg3 W hW)
  have hS : w3.drew.cell? ⟨w2.heap.size, 0, none⟩ = some (.slice (some ⟨g, off, none⟩) 4 4) ∧ w3.drew.cell? ⟨w2.heap.size, 1, none⟩ = some (.slice d2 4 4) ∧ w3.drew.cell? ⟨g, off + j, none⟩ = some (.string ⟨(dNm j).toArray⟩) ∧ Below w3.heap.size w3 w3.drew := ⟨hx0, hx1, hc0, (Below.refl _ _).drew⟩
  clear hx0 hx1 hc0 hn3 hg3
  refine wp_region_N (fun W => W.cell? ⟨w2.heap.size, 0, none⟩ = some (.slice (some ⟨g, off, none⟩) 4 4) ∧ W.cell? ⟨w2.heap.size, 1, none⟩ = some (.slice d2 4 4) ∧ W.cell? ⟨g, off + j, none⟩ = some (.string ⟨(dNm j).toArray⟩) ∧ Below w3.heap.size w3 W) (fun _ => true) (by kernel_rfl) ?_
  refine wpAnyN_take_at 0 23 (v := ?_) rfl rfl (by kernel_rfl) (by kernel_rfl) (by kernel_rfl) (by kernel_rfl) (by kernel_rfl) (fun _ _ _ h => h) (by rfl) ?_ hS ?_
  rotate_left
  · intro w hSw; (try dsimp only at hSw); obtain ⟨s0, s1, s2, s3⟩ := hSw; go_simp; (try with_reducible rfl)
  simp only [Act.put, List.setIfInBounds_toArray, List.set_cons_zero, List.set_cons_succ]
  refine wpAnyN_take_at 1 24 (v := ?_) rfl rfl (by kernel_rfl) (by kernel_rfl) (by kernel_rfl) (by kernel_rfl) (by kernel_rfl) (fun _ _ _ h => h) (by rfl) ?_ hS ?_
  rotate_left
  · intro w hSw; (try dsimp only at hSw); obtain ⟨s0, s1, s2, s3⟩ := hSw; go_simp; (try with_reducible rfl)
  simp only [Act.put, List.setIfInBounds_toArray, List.set_cons_zero, List.set_cons_succ]
  refine wpAnyN_take_at 2 25 (v := ?_) rfl rfl (by kernel_rfl) (by kernel_rfl) (by kernel_rfl) (by kernel_rfl) (by kernel_rfl) (fun _ _ _ h => h) (by rfl) ?_ hS ?_
  rotate_left
  · intro w hSw; (try dsimp only at hSw); obtain ⟨s0, s1, s2, s3⟩ := hSw; go_simp; (try with_reducible rfl)
  simp only [Act.put, List.setIfInBounds_toArray, List.set_cons_zero, List.set_cons_succ]
  refine wpAnyN_take_at 3 26 (v := ?_) rfl rfl (by kernel_rfl) (by kernel_rfl) (by kernel_rfl) (by kernel_rfl) (by kernel_rfl) (fun _ _ _ h => h) (by rfl) ?_ hS ?_
  rotate_left
  · intro w hSw; (try dsimp only at hSw); obtain ⟨s0, s1, s2, s3⟩ := hSw; go_simp; (try with_reducible rfl)
  simp only [Act.put, List.setIfInBounds_toArray, List.set_cons_zero, List.set_cons_succ]
  refine wpAnyN_take_at 4 27 (v := ?_) rfl rfl (by kernel_rfl) (by kernel_rfl) (by kernel_rfl) (by kernel_rfl) (by kernel_rfl) (fun _ _ _ h => h) (by rfl) ?_ hS ?_
  rotate_left
  · intro w hSw; (try dsimp only at hSw); obtain ⟨s0, s1, s2, s3⟩ := hSw; go_simp; (try with_reducible rfl)
  simp only [Act.put, List.setIfInBounds_toArray, List.set_cons_zero, List.set_cons_succ]
  refine wpAnyN_take_at 5 28 (v := .int .i64 (wrap64 (a0.tmod 4 + 4))) rfl rfl (by kernel_rfl) (by kernel_rfl) (by kernel_rfl) (by kernel_rfl) (by kernel_rfl) (fun _ _ _ h => h) (by rfl) ?_ hS ?_
  · intro w hSw; (try dsimp only at hSw); obtain ⟨s0, s1, s2, s3⟩ := hSw; go_simp; (try rw [wrapE7]); (try with_reducible rfl)
  simp only [Act.put, List.setIfInBounds_toArray, List.set_cons_zero, List.set_cons_succ]
  refine wpAnyN_take_at 6 29 (v := .int .i64 ((j : Nat) : Int)) rfl rfl (by kernel_rfl) (by kernel_rfl) (by kernel_rfl) (by kernel_rfl) (by kernel_rfl) (fun _ _ _ h => h) (by rfl) ?_ hS ?_
  · intro w hSw; (try dsimp only at hSw); obtain ⟨s0, s1, s2, s3⟩ := hSw; go_simp; (try rw [hm]); (try with_reducible rfl)
  simp only [Act.put, List.setIfInBounds_toArray, List.set_cons_zero, List.set_cons_succ]
  refine wpAnyN_take_at 7 30 (v := ?_) rfl rfl (by kernel_rfl) (by kernel_rfl) (by kernel_rfl) (by kernel_rfl) (by kernel_rfl) (fun _ _ _ h => h) (by rfl) ?_ hS ?_
  rotate_left
  · intro w hSw; (try dsimp only at hSw); obtain ⟨s0, s1, s2, s3⟩ := hSw; go_simp; (try with_reducible rfl)
  simp only [Act.put, List.setIfInBounds_toArray, List.set_cons_zero, List.set_cons_succ]
  refine wpAnyN_take_at 8 31 (v := ?_) rfl rfl (by kernel_rfl) (by kernel_rfl) (by kernel_rfl) (by kernel_rfl) (by kernel_rfl) (fun _ _ _ h => h) (by rfl) ?_ hS ?_
  rotate_left
  · intro w hSw; (try dsimp only at hSw); obtain ⟨s0, s1, s2, s3⟩ := hSw; go_simp; (try with_reducible rfl)
  simp only [Act.put, List.setIfInBounds_toArray, List.set_cons_zero, List.set_cons_succ]
  refine wpAnyN_one (i := 9) rfl (by kernel_rfl) (fun K hK => ?_)
  go_simp
  refine (HC.out _ hS).mono ?_
  rintro e w5 ⟨b, rfl, hSd, hS5⟩
  refine hK _ _ (fun _ => hS5) ?_
  clear hK hS HC
  have hS := hS5
  refine wpAnyN_take_at 10 22 (v := ?_) rfl rfl (by kernel_rfl) (by kernel_rfl) (by kernel_rfl) (by kernel_rfl) (by kernel_rfl) (fun _ _ _ h => h) (by rfl) ?_ hS ?_
  rotate_left
  · intro w hSw; (try dsimp only at hSw); obtain ⟨s0, s1, s2, s3⟩ := hSw; go_simp; (try with_reducible rfl)
  simp only [Act.put, List.setIfInBounds_toArray, List.set_cons_zero, List.set_cons_succ]
  refine wpAnyN_take_at 11 33 (v := ?_) rfl rfl (by kernel_rfl) (by kernel_rfl) (by kernel_rfl) (by kernel_rfl) (by kernel_rfl) (fun _ _ _ h => h) (by rfl) ?_ hS ?_
  rotate_left
  · intro w hSw; (try dsimp only at hSw); obtain ⟨s0, s1, s2, s3⟩ := hSw; go_simp; (try with_reducible rfl)
  simp only [Act.put, List.setIfInBounds_toArray, List.set_cons_zero, List.set_cons_succ]
  refine wpAnyN_take_at 12 34 (v := ?_) rfl rfl (by kernel_rfl) (by kernel_rfl) (by kernel_rfl) (by kernel_rfl) (by kernel_rfl) (fun _ _ _ h => h) (by rfl) ?_ hS ?_
  rotate_left
  · intro w hSw; (try dsimp only at hSw); obtain ⟨s0, s1, s2, s3⟩ := hSw; go_simp; (try with_reducible rfl)
  simp only [Act.put, List.setIfInBounds_toArray, List.set_cons_zero, List.set_cons_succ]
  refine wpAnyN_take_at 13 8 (v := ?_) rfl rfl (by kernel_rfl) (by kernel_rfl) (by kernel_rfl) (by kernel_rfl) (by kernel_rfl) (fun _ _ _ h => h) (by rfl) ?_ hS ?_
  rotate_left
  · intro w hSw; (try dsimp only at hSw); obtain ⟨s0, s1, s2, s3⟩ := hSw; go_simp; (try with_reducible rfl)
  simp only [Act.put, List.setIfInBounds_toArray, List.set_cons_zero, List.set_cons_succ]
  refine wpAnyN_take_at 14 9 (v := ?_) rfl rfl (by kernel_rfl) (by kernel_rfl) (by kernel_rfl) (by kernel_rfl) (by kernel_rfl) (fun _ _ _ h => h) (by rfl) ?_ hS ?_
  rotate_left
  · intro w hSw; (try dsimp only at hSw); obtain ⟨s0, s1, s2, s3⟩ := hSw; go_simp; (try with_reducible rfl)
  simp only [Act.put, List.setIfInBounds_toArray, List.set_cons_zero, List.set_cons_succ]
  refine wpAnyN_rest 15 [] rfl (by kernel_rfl) (by kernel_rfl) ?_
  have HB5 := Lib.hid (HB3.out.then hS5.2.2.2)
  have HD5 := Lib.hid (HD3.out.below hS5.2.2.2)
  have HW5 := Lib.hid (HW3.out.below hS5.2.2.2)
  have HSb5 := Lib.hid hS5.2.2.2
  obtain ⟨hx0, hx1, _, _⟩ := hS5
  have HSb := Lib.hid hSd
  clear hSd hS hm
  clear hx0 hx1
  have hmore := a2.data.toList
  have HLow := Lib.hid (sv_low hj)
  generalize hp : svD j = p at *
  have HPe := Lib.hid hp
  clear hp
  rcases A1 with _ | ad
  · have h0 : ls = [] := by
      rcases HR1.out.2.2 with h | ⟨b, off, e, _⟩
      · exact List.map_eq_nil_iff.1 h
      · cases e
    subst h0
    have b38 : Below w5.heap.size w5 w5 := Below.refl _ _
    have HB38 := HB5
    have hown38 : w5.ownsRow w5.heap.size 9 1 (.slice none 0 0) ([] : List Txt).length (strs []) := World.ownsRow_nil _ _ _ _
    have hs38 := b38.size
    go_wp2_with (at_builtin; refine append_strs rfl _ _ rfl w5.heap.size (.slice none 0 0) ([] : List Txt) rfl (hown38.alloc (.cells #[.string a2] 9)) (some ⟨w5.heap.size, 0, none⟩) 1 [a2.data.toList] rfl (rowOf_lit w5 9 (strs [a2.data.toList]) (by rw [strs_length]; show 1 ≤ maxLen; decide)) (by simp) (by simp <;> omega) (by rw [alloc_size]; omega) ?_)
    intro v41 w6 hown6 hgr6
    replace hown6 : w6.ownsRow w5.heap.size 9 1 v41 (([] : List Txt) ++ [a2.data.toList]).length (strs (([] : List Txt) ++ [a2.data.toList])) := by first | exact hown6 | (rw [List.length_append]; exact hown6)
    have hb41 : Below w5.heap.size w5 (w5.alloc (.cells #[.string a2] 9)) := (Below.refl _ w5).alloc (Nat.le_refl _) _
    have hs41 := alloc_size w5 (.cells #[.string a2] 9)
    have HB6 := Lib.hid ((HB38.out.then hb41).trans (below_of_grown hgr6 (fun g hg => by have := ((hown38.alloc (.cells #[.string a2] 9)).lt g hg).1; have := HB5.out.size; omega) (by have := HB38.out.size; omega)))
    have HS6 := Lib.hid (HSb.out.below ((b38.then hb41).trans (below_of_grown hgr6 (fun g hg => ((hown38.alloc (.cells #[.string a2] 9)).lt g hg).1) (by omega))))
    have hLa : ∀ q : Txt → Bool, (([] : List Txt) ++ [a2.data.toList]).all q = (([] : List Txt).all q && q a2.data.toList) := fun q => by simp
    have hLl : (([] : List Txt) ++ [a2.data.toList]).length = 1 := by simp
    generalize ([] : List Txt) ++ [a2.data.toList] = L at *
    obtain ⟨A4, c4, rfl, hr4, _, _⟩ := RowOf.own hown6
    have q1 := hr4.1
    have q2 := hr4.2.1
    rw [strs_length] at q1
    unfold maxLen at q2
    have HR4 := Lib.hid hr4
    have HLa := Lib.hid hLa
    have HLl := Lib.hid hLl
    have hLe1 := Nat.le_of_eq hLl
    have hLe2 := Nat.le_of_eq hLl.symm
    have hLl1 : 1 ≤ L.length := by omega
    have hLl2 : L.length ≤ 11 := by omega
    clear hown6 hgr6 hown38 b38 hb41 hs41 hr4 hLa hLl
    go_wp2_with fail
    go_loopw [11, 12] (fun v i wr => TrnRel L w6 v i wr) (fun _ i _ => (intOf i + 1).toNat)
    case atStart => exact ⟨L.length, (L.length : Int) - 1, [], rfl, rfl, Nat.le_refl _, by simp, fun q => by simp, World.ownsRow_nil _ _ _ _, Below.refl _ _⟩
    case round =>
      obtain ⟨k, z, T, rfl, hz, hk, hTl, hTa, hown, hbw⟩ := hrel
      have HTa := Lib.hid hTa
      have HBw := Lib.hid hbw
      cases k with
      | zero =>
        obtain rfl : z = -1 := by omega
        clear hz
        have f0 : decide ((-1 : Int) ≥ 0) = false := by decide
        have f1 : decide ((0 : Int) ≤ -1) = false := by decide
        obtain ⟨A9, c9, rfl, hr9, _, _⟩ := RowOf.own hown
        have HSr := Lib.hid (HS6.out.below hbw)
        have HRr := Lib.hid (HR4.out.below hbw)
        have HB7 := Lib.hid (HB6.out.then hbw)
        have hTT : ∀ q : Txt → Bool, T.all q = L.all q := fun q => by have := HTa.out q; simpa using this
        have cL := seesD_any HSr.out A4 c4 L HRr.out
        rw [HPe.out, HLa.out] at cL
        have HTT := Lib.hid hTT
        have HR9 := Lib.hid hr9
        clear hTT hTa hbw hown hr9 hTl
        cases hall : (([] : List Txt).all p && p a2.data.toList) with
        | false =>
          rw [hall] at cL
          have HAll := Lib.hid hall
          clear hall
          go_wp2_with fail
          refine cL.mono ?_
          rintro e w8 ⟨rfl, b8⟩
          have HB8 := Lib.hid (HB7.out.then b8)
          have HS8 := Lib.hid (HSr.out.below b8)
          have HR8 := Lib.hid (HRr.out.below b8)
          have HR98 := Lib.hid (HR9.out.below b8)
          clear b8 cL
          have cL2 := seesD_any HS8.out A4 c4 L HR8.out
          rw [HPe.out, HLa.out, HAll.out] at cL2
          go_wp2_with fail
          refine cL2.mono ?_
          rintro e wc ⟨rfl, bc⟩
          have HBc := Lib.hid (HB8.out.then bc)
          have HSc := Lib.hid (HS8.out.below bc)
          have cT := seesD_any HSc.out A9 c9 T (HR98.out.below bc)
          rw [HPe.out, HTT.out, HLa.out, HAll.out] at cT
          clear bc cL2
          go_wp2_with fail
          refine cT.mono ?_
          rintro e wd ⟨rfl, bd⟩
          have HBd := Lib.hid (HBc.out.then bd)
          have HSd := Lib.hid (HSc.out.below bd)
          have cN := seesD_any HSd.out none 0 [] (rowOf_nil none)
          rw [show ([] : List Txt).all (svD j) = true from rfl] at cN
          clear bd cT
          go_wp2_with fail
          refine cN.mono ?_
          rintro e we ⟨rfl, be⟩
          have HBe := Lib.hid (HBd.out.then be)
          have cW := seesD_one (HSd.out.below be) nLow
          rw [HPe.out, HLow.out, show (⟨nLow.toArray⟩ : ByteArray) = ⟨#[108, 111, 119]⟩ from rfl] at cW
          clear be cN
          go_wp2_with fail
          refine cW.mono ?_
          rintro e wf ⟨rfl, bf⟩
          go_wp2
          go_ret
          exact ⟨rfl, HBe.out.then bf⟩
        | true =>
          rw [hall] at cL
          have HAll := Lib.hid hall
          have hand := Bool.and_eq_true_iff.1 hall
          clear hall
          go_wp2_with fail
          refine cL.mono ?_
          rintro e wa ⟨rfl, ba⟩
          have HBa := Lib.hid (HB7.out.then ba)
          have HSa := Lib.hid (HSr.out.below ba)
          have HRa := Lib.hid (HRr.out.below ba)
          have HR9a := Lib.hid (HR9.out.below ba)
          have cl1 := seesD_any HSa.out none c1 ([] : List Txt) (HR1.out.below HBa.out)
          rw [HPe.out, hand.1] at cl1
          clear ba cL
          go_wp2_with fail
          refine cl1.mono ?_
          rintro e wb ⟨rfl, bb⟩
          have HBb := Lib.hid (HBa.out.then bb)
          have HSb2 := Lib.hid (HSa.out.below bb)
          have HRb := Lib.hid (HRa.out.below bb)
          have HR9b := Lib.hid (HR9a.out.below bb)
          have cl2 := seesD_one HSb2.out a2.data.toList
          rw [HPe.out, hand.2, show (⟨a2.data.toList.toArray⟩ : ByteArray) = a2 from rfl] at cl2
          clear bb cl1 hand
          go_wp2_with fail
          refine cl2.mono ?_
          rintro e w8 ⟨rfl, b8⟩
          have HB8 := Lib.hid (HBb.out.then b8)
          have HS8 := Lib.hid (HSb2.out.below b8)
          have HR8 := Lib.hid (HRb.out.below b8)
          have HR98 := Lib.hid (HR9b.out.below b8)
          clear b8 cl2
          have cL2 := seesD_any HS8.out A4 c4 L HR8.out
          rw [HPe.out, HLa.out, HAll.out] at cL2
          go_wp2_with fail
          refine cL2.mono ?_
          rintro e wc ⟨rfl, bc⟩
          have HBc := Lib.hid (HB8.out.then bc)
          have HSc := Lib.hid (HS8.out.below bc)
          have cT := seesD_any HSc.out A9 c9 T (HR98.out.below bc)
          rw [HPe.out, HTT.out, HLa.out, HAll.out] at cT
          clear bc cL2
          go_wp2_with fail
          refine cT.mono ?_
          rintro e wd ⟨rfl, bd⟩
          have HBd := Lib.hid (HBc.out.then bd)
          have HSd := Lib.hid (HSc.out.below bd)
          have cN := seesD_any HSd.out none 0 [] (rowOf_nil none)
          rw [show ([] : List Txt).all (svD j) = true from rfl] at cN
          clear bd cT
          go_wp2_with fail
          refine cN.mono ?_
          rintro e we ⟨rfl, be⟩
          have HBe := Lib.hid (HBd.out.then be)
          have cW := seesD_one (HSd.out.below be) nLow
          rw [HPe.out, HLow.out, show (⟨nLow.toArray⟩ : ByteArray) = ⟨#[108, 111, 119]⟩ from rfl] at cW
          clear be cN
          go_wp2_with fail
          refine cW.mono ?_
          rintro e wf ⟨rfl, bf⟩
          go_wp2
          go_ret
          exact ⟨rfl, HBe.out.then bf⟩
      | succ m =>
        obtain rfl : z = (m : Int) := by omega
        clear hz
        have hTl2 := Nat.le_of_eq hTl
        have hTg := Nat.le_of_eq hTl.symm
        clear hTl
        have hmL : m < L.length := by omega
        have hmI : (m : Int) < (L.length : Int) := by omega
        obtain ⟨g4, o4, e4, hg4, hc4⟩ := (HR4.out.below hbw).cellAt hmL
        cases e4
        have hdrop : ∀ q : Txt → Bool, (T ++ [L[m], L[m]]).all q = (L.drop m).all q := fun q => by
          rw [List.all_append, HTa.out, List.drop_eq_getElem_cons hmL]
          simp only [List.all_cons, List.all_nil, Bool.and_true]
          cases q L[m] <;> cases (L.drop (m + 1)).all q <;> rfl
        have HDrop := Lib.hid hdrop
        generalize L[m] = x at *
        have hS : wr.drew.cell? ⟨g4, o4 + m, none⟩ = some (.string ⟨x.toArray⟩) := hc4
        have hbs := hbw.size
        clear hdrop hTa hc4
        go_wp2_with fail
        refine wp_region_N (fun W => W.cell? ⟨g4, o4 + m, none⟩ = some (.string ⟨x.toArray⟩)) (fun q => decide (q < 10)) (by kernel_rfl) ?_
        refine wpAnyN_take_at 0 49 (v := ?_) rfl rfl (by kernel_rfl) (by kernel_rfl) (by kernel_rfl) (by kernel_rfl) (by kernel_rfl) (fun _ _ _ h => h) (by rfl) ?_ hS ?_
        rotate_left
        · intro w hSw; (try dsimp only at hSw); go_simp; (try with_reducible rfl)
        simp only [Act.put, List.setIfInBounds_toArray, List.set_cons_zero, List.set_cons_succ]
        refine wpAnyN_take_at 1 50 (v := ?_) rfl rfl (by kernel_rfl) (by kernel_rfl) (by kernel_rfl) (by kernel_rfl) (by kernel_rfl) (fun _ _ _ h => h) (by rfl) ?_ hS ?_
        rotate_left
        · intro w hSw; (try dsimp only at hSw); go_simp; (try with_reducible rfl)
        simp only [Act.put, List.setIfInBounds_toArray, List.set_cons_zero, List.set_cons_succ]
        refine wpAnyN_take_at 2 51 (v := ?_) rfl rfl (by kernel_rfl) (by kernel_rfl) (by kernel_rfl) (by kernel_rfl) (by kernel_rfl) (fun _ _ _ h => h) (by rfl) ?_ hS ?_
        rotate_left
        · intro w hSw; (try dsimp only at hSw); go_simp; (try with_reducible rfl)
        simp only [Act.put, List.setIfInBounds_toArray, List.set_cons_zero, List.set_cons_succ]
        refine wpAnyN_take_at 3 52 (v := ?_) rfl rfl (by kernel_rfl) (by kernel_rfl) (by kernel_rfl) (by kernel_rfl) (by kernel_rfl) (fun _ _ _ h => h) (by rfl) ?_ hS ?_
        rotate_left
        · intro w hSw; (try dsimp only at hSw); go_simp; (try with_reducible rfl)
        simp only [Act.put, List.setIfInBounds_toArray, List.set_cons_zero, List.set_cons_succ]
        refine wpAnyN_take_at 4 53 (v := ?_) rfl rfl (by kernel_rfl) (by kernel_rfl) (by kernel_rfl) (by kernel_rfl) (by kernel_rfl) (fun _ _ _ h => h) (by rfl) ?_ hS ?_
        rotate_left
        · intro w hSw; (try dsimp only at hSw); go_simp; (try with_reducible rfl)
        simp only [Act.put, List.setIfInBounds_toArray, List.set_cons_zero, List.set_cons_succ]
        refine wpAnyN_take_at 5 54 (v := ?_) rfl rfl (by kernel_rfl) (by kernel_rfl) (by kernel_rfl) (by kernel_rfl) (by kernel_rfl) (fun _ _ _ h => h) (by rfl) ?_ hS ?_
        rotate_left
        · intro w hSw; (try dsimp only at hSw); go_simp; (try with_reducible rfl)
        simp only [Act.put, List.setIfInBounds_toArray, List.set_cons_zero, List.set_cons_succ]
        refine wpAnyN_take_at 6 55 (v := ?_) rfl rfl (by kernel_rfl) (by kernel_rfl) (by kernel_rfl) (by kernel_rfl) (by kernel_rfl) (fun _ _ _ h => h) (by rfl) ?_ hS ?_
        rotate_left
        · intro w hSw; (try dsimp only at hSw); go_simp; (try with_reducible rfl)
        simp only [Act.put, List.setIfInBounds_toArray, List.set_cons_zero, List.set_cons_succ]
        refine wpAnyN_take_at 7 56 (v := ?_) rfl rfl (by kernel_rfl) (by kernel_rfl) (by kernel_rfl) (by kernel_rfl) (by kernel_rfl) (fun _ _ _ h => h) (by rfl) ?_ hS ?_
        rotate_left
        · intro w hSw; (try dsimp only at hSw); go_simp; (try with_reducible rfl)
        simp only [Act.put, List.setIfInBounds_toArray, List.set_cons_zero, List.set_cons_succ]
        refine wpAnyN_take_at 8 57 (v := ?_) rfl rfl (by kernel_rfl) (by kernel_rfl) (by kernel_rfl) (by kernel_rfl) (by kernel_rfl) (fun _ _ _ h => h) (by rfl) ?_ hS ?_
        rotate_left
        · intro w hSw; (try dsimp only at hSw); go_simp; (try with_reducible rfl)
        simp only [Act.put, List.setIfInBounds_toArray, List.set_cons_zero, List.set_cons_succ]
        have hSA : (wr.alloc (.cells #[.string ⟨x.toArray⟩, .string ⟨x.toArray⟩] 9)).cell? ⟨g4, o4 + m, none⟩ = some (.string ⟨x.toArray⟩) := (((Below.refl wr.heap.size wr).alloc (Nat.le_refl _) _).cell (p := ⟨g4, o4 + m, none⟩) hg4).trans hS
        refine wpAnyN_one (i := 9) rfl (by kernel_rfl) (fun K hK => ?_)
        go_simp
        refine hK _ _ (fun _ => hSA) ?_
        clear hK hSA
        refine wpAnyN_rest 10 [_, _] rfl (by kernel_rfl) (by kernel_rfl) ?_
        have hpr : RowOf (wr.alloc (.cells #[.string ⟨x.toArray⟩, .string ⟨x.toArray⟩] 9)).drew (some ⟨wr.heap.size, 0, none⟩) 2 (strs [x, x]) := rowOf_heap (w := wr.alloc (.cells (strs [x, x]).toArray 9)) rfl (rowOf_lit wr 9 (strs [x, x]) (by rw [strs_length]; show 2 ≤ maxLen; decide))
        have hoA := own_heap (w' := (wr.alloc (.cells #[.string ⟨x.toArray⟩, .string ⟨x.toArray⟩] 9)).drew) rfl (hown.alloc (.cells #[.string ⟨x.toArray⟩, .string ⟨x.toArray⟩] 9))
        clear hS
        go_wp2_with (at_builtin; refine append_strs rfl _ _ rfl w6.heap.size _ T rfl hoA (some ⟨wr.heap.size, 0, none⟩) 2 [x, x] rfl hpr (by simp) (by simp <;> omega) (by show w6.heap.size ≤ (wr.alloc _).heap.size; rw [alloc_size]; omega) ?_)
        intro v' w9 hown9 hgr9
        have hbd : Below wr.heap.size wr (wr.alloc (.cells #[.string ⟨x.toArray⟩, .string ⟨x.toArray⟩] 9)).drew := ((Below.refl _ wr).alloc (Nat.le_refl _) _).drew
        have HB9 := Lib.hid ((HBw.out.then hbd).trans (below_of_grown hgr9 (fun g hg => (hoA.lt g hg).1) (by have := hbd.size; omega)))
        have HO9 := Lib.hid hown9
        clear hown9 hgr9 hoA hbd hpr
        go_wp2
        go_roundw
        case rel => exact ⟨m, (m : Int) - 1, T ++ [x, x], by go_num, rfl, by omega, by simp; omega, HDrop.out, (by have := HO9.out; rw [List.length_append]; exact this), HB9.out⟩
        case measure => simp [intOf]
  · have hc1 := (HR1.out.below HB5.out).cells
    have hl1 := strs_length ls
    have HL1 := Lib.hid hl1
    clear hl1
    go_wp2_with (at_builtin; refine wpList_append_own _ rfl _ _ 22 rfl w5.heap.size 9 i0 (.string ByteArray.empty) 1 16 Tryz.underlying22 hi hz0 hz1 hz2 rfl (by decide) _ 0 [] rfl (World.ownsRow_nil _ _ _ _) ad ls.length c1 (strs ls) rfl (by rw [HL1.out]; omega) hc1 (strs_one' ls) (by unfold maxLen; omega) (by omega) (Nat.le_refl _) ?_)
    intro v38 w38 hown38' hgr38 _
    have hown38 : w38.ownsRow w5.heap.size 9 1 v38 ls.length (strs ls) := by simpa using hown38'
    have b38 : Below w5.heap.size w5 w38 := (Below.refl w5.heap.size w5).grown hgr38 (Nat.le_refl _) (fun k hk => by simp [Value.ownBlock] at hk)
    have HB38 := Lib.hid (HB5.out.then b38)
    clear hown38' hgr38 hc1
    have hs38 := b38.size
    go_wp2_with (at_builtin; refine append_strs rfl _ _ rfl w5.heap.size v38 ls rfl (hown38.alloc (.cells #[.string a2] 9)) (some ⟨w38.heap.size, 0, none⟩) 1 [a2.data.toList] rfl (rowOf_lit w38 9 (strs [a2.data.toList]) (by rw [strs_length]; show 1 ≤ maxLen; decide)) (by simp) (by simp <;> omega) (by rw [alloc_size]; omega) ?_)
    intro v41 w6 hown6 hgr6
    replace hown6 : w6.ownsRow w5.heap.size 9 1 v41 (ls ++ [a2.data.toList]).length (strs (ls ++ [a2.data.toList])) := by first | exact hown6 | (rw [List.length_append]; exact hown6)
    have hb41 : Below w38.heap.size w38 (w38.alloc (.cells #[.string a2] 9)) := (Below.refl _ w38).alloc (Nat.le_refl _) _
    have hs41 := alloc_size w38 (.cells #[.string a2] 9)
    have HB6 := Lib.hid ((HB38.out.then hb41).trans (below_of_grown hgr6 (fun g hg => by have := ((hown38.alloc (.cells #[.string a2] 9)).lt g hg).1; have := HB5.out.size; omega) (by have := HB38.out.size; omega)))
    have HS6 := Lib.hid (HSb.out.below ((b38.then hb41).trans (below_of_grown hgr6 (fun g hg => ((hown38.alloc (.cells #[.string a2] 9)).lt g hg).1) (by omega))))
    have hLa : ∀ q : Txt → Bool, (ls ++ [a2.data.toList]).all q = (ls.all q && q a2.data.toList) := fun q => by simp
    have hLl : (ls ++ [a2.data.toList]).length = ls.length + 1 := by simp
    generalize ls ++ [a2.data.toList] = L at *
    obtain ⟨A4, c4, rfl, hr4, _, _⟩ := RowOf.own hown6
    have q1 := hr4.1
    have q2 := hr4.2.1
    rw [strs_length] at q1
    unfold maxLen at q2
    have HR4 := Lib.hid hr4
    have HLa := Lib.hid hLa
    have HLl := Lib.hid hLl
    have hLe1 := Nat.le_of_eq hLl
    have hLe2 := Nat.le_of_eq hLl.symm
    have hLl1 : 1 ≤ L.length := by omega
    have hLl2 : L.length ≤ 11 := by omega
    clear hown6 hgr6 hown38 b38 hb41 hs41 hr4 hLa hLl
    go_wp2_with fail
    go_loopw [11, 12] (fun v i wr => TrnRel L w6 v i wr) (fun _ i _ => (intOf i + 1).toNat)
    case atStart => exact ⟨L.length, (L.length : Int) - 1, [], rfl, rfl, Nat.le_refl _, by simp, fun q => by simp, World.ownsRow_nil _ _ _ _, Below.refl _ _⟩
    case round =>
      obtain ⟨k, z, T, rfl, hz, hk, hTl, hTa, hown, hbw⟩ := hrel
      have HTa := Lib.hid hTa
      have HBw := Lib.hid hbw
      cases k with
      | zero =>
        obtain rfl : z = -1 := by omega
        clear hz
        have f0 : decide ((-1 : Int) ≥ 0) = false := by decide
        have f1 : decide ((0 : Int) ≤ -1) = false := by decide
        obtain ⟨A9, c9, rfl, hr9, _, _⟩ := RowOf.own hown
        have HSr := Lib.hid (HS6.out.below hbw)
        have HRr := Lib.hid (HR4.out.below hbw)
        have HB7 := Lib.hid (HB6.out.then hbw)
        have hTT : ∀ q : Txt → Bool, T.all q = L.all q := fun q => by have := HTa.out q; simpa using this
        have cL := seesD_any HSr.out A4 c4 L HRr.out
        rw [HPe.out, HLa.out] at cL
        have HTT := Lib.hid hTT
        have HR9 := Lib.hid hr9
        clear hTT hTa hbw hown hr9 hTl
        cases hall : (ls.all p && p a2.data.toList) with
        | false =>
          rw [hall] at cL
          have HAll := Lib.hid hall
          clear hall
          go_wp2_with fail
          refine cL.mono ?_
          rintro e w8 ⟨rfl, b8⟩
          have HB8 := Lib.hid (HB7.out.then b8)
          have HS8 := Lib.hid (HSr.out.below b8)
          have HR8 := Lib.hid (HRr.out.below b8)
          have HR98 := Lib.hid (HR9.out.below b8)
          clear b8 cL
          have cL2 := seesD_any HS8.out A4 c4 L HR8.out
          rw [HPe.out, HLa.out, HAll.out] at cL2
          go_wp2_with fail
          refine cL2.mono ?_
          rintro e wc ⟨rfl, bc⟩
          have HBc := Lib.hid (HB8.out.then bc)
          have HSc := Lib.hid (HS8.out.below bc)
          have cT := seesD_any HSc.out A9 c9 T (HR98.out.below bc)
          rw [HPe.out, HTT.out, HLa.out, HAll.out] at cT
          clear bc cL2
          go_wp2_with fail
          refine cT.mono ?_
          rintro e wd ⟨rfl, bd⟩
          have HBd := Lib.hid (HBc.out.then bd)
          have HSd := Lib.hid (HSc.out.below bd)
          have cN := seesD_any HSd.out none 0 [] (rowOf_nil none)
          rw [show ([] : List Txt).all (svD j) = true from rfl] at cN
          clear bd cT
          go_wp2_with fail
          refine cN.mono ?_
          rintro e we ⟨rfl, be⟩
          have HBe := Lib.hid (HBd.out.then be)
          have cW := seesD_one (HSd.out.below be) nLow
          rw [HPe.out, HLow.out, show (⟨nLow.toArray⟩ : ByteArray) = ⟨#[108, 111, 119]⟩ from rfl] at cW
          clear be cN
          go_wp2_with fail
          refine cW.mono ?_
          rintro e wf ⟨rfl, bf⟩
          go_wp2
          go_ret
          exact ⟨rfl, HBe.out.then bf⟩
        | true =>
          rw [hall] at cL
          have HAll := Lib.hid hall
          have hand := Bool.and_eq_true_iff.1 hall
          clear hall
          go_wp2_with fail
          refine cL.mono ?_
          rintro e wa ⟨rfl, ba⟩
          have HBa := Lib.hid (HB7.out.then ba)
          have HSa := Lib.hid (HSr.out.below ba)
          have HRa := Lib.hid (HRr.out.below ba)
          have HR9a := Lib.hid (HR9.out.below ba)
          have cl1 := seesD_any HSa.out (some ad) c1 ls (HR1.out.below HBa.out)
          rw [HPe.out, hand.1] at cl1
          clear ba cL
          go_wp2_with fail
          refine cl1.mono ?_
          rintro e wb ⟨rfl, bb⟩
          have HBb := Lib.hid (HBa.out.then bb)
          have HSb2 := Lib.hid (HSa.out.below bb)
          have HRb := Lib.hid (HRa.out.below bb)
          have HR9b := Lib.hid (HR9a.out.below bb)
          have cl2 := seesD_one HSb2.out a2.data.toList
          rw [HPe.out, hand.2, show (⟨a2.data.toList.toArray⟩ : ByteArray) = a2 from rfl] at cl2
          clear bb cl1 hand
          go_wp2_with fail
          refine cl2.mono ?_
          rintro e w8 ⟨rfl, b8⟩
          have HB8 := Lib.hid (HBb.out.then b8)
          have HS8 := Lib.hid (HSb2.out.below b8)
          have HR8 := Lib.hid (HRb.out.below b8)
          have HR98 := Lib.hid (HR9b.out.below b8)
          clear b8 cl2
          have cL2 := seesD_any HS8.out A4 c4 L HR8.out
          rw [HPe.out, HLa.out, HAll.out] at cL2
          go_wp2_with fail
          refine cL2.mono ?_
          rintro e wc ⟨rfl, bc⟩
          have HBc := Lib.hid (HB8.out.then bc)
          have HSc := Lib.hid (HS8.out.below bc)
          have cT := seesD_any HSc.out A9 c9 T (HR98.out.below bc)
          rw [HPe.out, HTT.out, HLa.out, HAll.out] at cT
          clear bc cL2
          go_wp2_with fail
          refine cT.mono ?_
          rintro e wd ⟨rfl, bd⟩
          have HBd := Lib.hid (HBc.out.then bd)
          have HSd := Lib.hid (HSc.out.below bd)
          have cN := seesD_any HSd.out none 0 [] (rowOf_nil none)
          rw [show ([] : List Txt).all (svD j) = true from rfl] at cN
          clear bd cT
          go_wp2_with fail
          refine cN.mono ?_
          rintro e we ⟨rfl, be⟩
          have HBe := Lib.hid (HBd.out.then be)
          have cW := seesD_one (HSd.out.below be) nLow
          rw [HPe.out, HLow.out, show (⟨nLow.toArray⟩ : ByteArray) = ⟨#[108, 111, 119]⟩ from rfl] at cW
          clear be cN
          go_wp2_with fail
          refine cW.mono ?_
          rintro e wf ⟨rfl, bf⟩
          go_wp2
          go_ret
          exact ⟨rfl, HBe.out.then bf⟩
      | succ m =>
        obtain rfl : z = (m : Int) := by omega
        clear hz
        have hTl2 := Nat.le_of_eq hTl
        have hTg := Nat.le_of_eq hTl.symm
        clear hTl
        have hmL : m < L.length := by omega
        have hmI : (m : Int) < (L.length : Int) := by omega
        obtain ⟨g4, o4, e4, hg4, hc4⟩ := (HR4.out.below hbw).cellAt hmL
        cases e4
        have hdrop : ∀ q : Txt → Bool, (T ++ [L[m], L[m]]).all q = (L.drop m).all q := fun q => by
          rw [List.all_append, HTa.out, List.drop_eq_getElem_cons hmL]
          simp only [List.all_cons, List.all_nil, Bool.and_true]
          cases q L[m] <;> cases (L.drop (m + 1)).all q <;> rfl
        have HDrop := Lib.hid hdrop
        generalize L[m] = x at *
        have hS : wr.drew.cell? ⟨g4, o4 + m, none⟩ = some (.string ⟨x.toArray⟩) := hc4
        have hbs := hbw.size
        clear hdrop hTa hc4
        go_wp2_with fail
        refine wp_region_N (fun W => W.cell? ⟨g4, o4 + m, none⟩ = some (.string ⟨x.toArray⟩)) (fun q => decide (q < 10)) (by kernel_rfl) ?_
        refine wpAnyN_take_at 0 49 (v := ?_) rfl rfl (by kernel_rfl) (by kernel_rfl) (by kernel_rfl) (by kernel_rfl) (by kernel_rfl) (fun _ _ _ h => h) (by rfl) ?_ hS ?_
        rotate_left
        · intro w hSw; (try dsimp only at hSw); go_simp; (try with_reducible rfl)
        simp only [Act.put, List.setIfInBounds_toArray, List.set_cons_zero, List.set_cons_succ]
        refine wpAnyN_take_at 1 50 (v := ?_) rfl rfl (by kernel_rfl) (by kernel_rfl) (by kernel_rfl) (by kernel_rfl) (by kernel_rfl) (fun _ _ _ h => h) (by rfl) ?_ hS ?_
        rotate_left
        · intro w hSw; (try dsimp only at hSw); go_simp; (try with_reducible rfl)
        simp only [Act.put, List.setIfInBounds_toArray, List.set_cons_zero, List.set_cons_succ]
        refine wpAnyN_take_at 2 51 (v := ?_) rfl rfl (by kernel_rfl) (by kernel_rfl) (by kernel_rfl) (by kernel_rfl) (by kernel_rfl) (fun _ _ _ h => h) (by rfl) ?_ hS ?_
        rotate_left
        · intro w hSw; (try dsimp only at hSw); go_simp; (try with_reducible rfl)
        simp only [Act.put, List.setIfInBounds_toArray, List.set_cons_zero, List.set_cons_succ]
        refine wpAnyN_take_at 3 52 (v := ?_) rfl rfl (by kernel_rfl) (by kernel_rfl) (by kernel_rfl) (by kernel_rfl) (by kernel_rfl) (fun _ _ _ h => h) (by rfl) ?_ hS ?_
        rotate_left
        · intro w hSw; (try dsimp only at hSw); go_simp; (try with_reducible rfl)
        simp only [Act.put, List.setIfInBounds_toArray, List.set_cons_zero, List.set_cons_succ]
        refine wpAnyN_take_at 4 53 (v := ?_) rfl rfl (by kernel_rfl) (by kernel_rfl) (by kernel_rfl) (by kernel_rfl) (by kernel_rfl) (fun _ _ _ h => h) (by rfl) ?_ hS ?_
        rotate_left
        · intro w hSw; (try dsimp only at hSw); go_simp; (try with_reducible rfl)
        simp only [Act.put, List.setIfInBounds_toArray, List.set_cons_zero, List.set_cons_succ]
        refine wpAnyN_take_at 5 54 (v := ?_) rfl rfl (by kernel_rfl) (by kernel_rfl) (by kernel_rfl) (by kernel_rfl) (by kernel_rfl) (fun _ _ _ h => h) (by rfl) ?_ hS ?_
        rotate_left
        · intro w hSw; (try dsimp only at hSw); go_simp; (try with_reducible rfl)
        simp only [Act.put, List.setIfInBounds_toArray, List.set_cons_zero, List.set_cons_succ]
        refine wpAnyN_take_at 6 55 (v := ?_) rfl rfl (by kernel_rfl) (by kernel_rfl) (by kernel_rfl) (by kernel_rfl) (by kernel_rfl) (fun _ _ _ h => h) (by rfl) ?_ hS ?_
        rotate_left
        · intro w hSw; (try dsimp only at hSw); go_simp; (try with_reducible rfl)
        simp only [Act.put, List.setIfInBounds_toArray, List.set_cons_zero, List.set_cons_succ]
        refine wpAnyN_take_at 7 56 (v := ?_) rfl rfl (by kernel_rfl) (by kernel_rfl) (by kernel_rfl) (by kernel_rfl) (by kernel_rfl) (fun _ _ _ h => h) (by rfl) ?_ hS ?_
        rotate_left
        · intro w hSw; (try dsimp only at hSw); go_simp; (try with_reducible rfl)
        simp only [Act.put, List.setIfInBounds_toArray, List.set_cons_zero, List.set_cons_succ]
        refine wpAnyN_take_at 8 57 (v := ?_) rfl rfl (by kernel_rfl) (by kernel_rfl) (by kernel_rfl) (by kernel_rfl) (by kernel_rfl) (fun _ _ _ h => h) (by rfl) ?_ hS ?_
        rotate_left
        · intro w hSw; (try dsimp only at hSw); go_simp; (try with_reducible rfl)
        simp only [Act.put, List.setIfInBounds_toArray, List.set_cons_zero, List.set_cons_succ]
        have hSA : (wr.alloc (.cells #[.string ⟨x.toArray⟩, .string ⟨x.toArray⟩] 9)).cell? ⟨g4, o4 + m, none⟩ = some (.string ⟨x.toArray⟩) := (((Below.refl wr.heap.size wr).alloc (Nat.le_refl _) _).cell (p := ⟨g4, o4 + m, none⟩) hg4).trans hS
        refine wpAnyN_one (i := 9) rfl (by kernel_rfl) (fun K hK => ?_)
        go_simp
        refine hK _ _ (fun _ => hSA) ?_
        clear hK hSA
        refine wpAnyN_rest 10 [_, _] rfl (by kernel_rfl) (by kernel_rfl) ?_
        have hpr : RowOf (wr.alloc (.cells #[.string ⟨x.toArray⟩, .string ⟨x.toArray⟩] 9)).drew (some ⟨wr.heap.size, 0, none⟩) 2 (strs [x, x]) := rowOf_heap (w := wr.alloc (.cells (strs [x, x]).toArray 9)) rfl (rowOf_lit wr 9 (strs [x, x]) (by rw [strs_length]; show 2 ≤ maxLen; decide))
        have hoA := own_heap (w' := (wr.alloc (.cells #[.string ⟨x.toArray⟩, .string ⟨x.toArray⟩] 9)).drew) rfl (hown.alloc (.cells #[.string ⟨x.toArray⟩, .string ⟨x.toArray⟩] 9))
        clear hS
        go_wp2_with (at_builtin; refine append_strs rfl _ _ rfl w6.heap.size _ T rfl hoA (some ⟨wr.heap.size, 0, none⟩) 2 [x, x] rfl hpr (by simp) (by simp <;> omega) (by show w6.heap.size ≤ (wr.alloc _).heap.size; rw [alloc_size]; omega) ?_)
        intro v' w9 hown9 hgr9
        have hbd : Below wr.heap.size wr (wr.alloc (.cells #[.string ⟨x.toArray⟩, .string ⟨x.toArray⟩] 9)).drew := ((Below.refl _ wr).alloc (Nat.le_refl _) _).drew
        have HB9 := Lib.hid ((HBw.out.then hbd).trans (below_of_grown hgr9 (fun g hg => (hoA.lt g hg).1) (by have := hbd.size; omega)))
        have HO9 := Lib.hid hown9
        clear hown9 hgr9 hoA hbd hpr
        go_wp2
        go_roundw
        case rel => exact ⟨m, (m : Int) - 1, T ++ [x, x], by go_num, rfl, by omega, by simp; omega, HDrop.out, (by have := HO9.out; rw [List.length_append]; exact this), HB9.out⟩
        case measure => simp [intOf]
theorem veilSees_walk (w : World) (h7 : W7 w) (a0 : Int) (w0 : (Lit.int .i64 a0).wf = true) (A1 : Option Addr) (c1 : Nat) (z1 : List ByteArray) (r1 : RowOf w A1 c1 (z1.map Value.string)) (w1 : ∀ s ∈ z1, s.size ≤ maxLen) (a2 : ByteArray) (w2 : a2.size ≤ maxLen) :
    Calls Tryz.prog 5 #[.int .i64 a0, .slice A1 z1.length c1, .string a2] w fun e w' => e = .returned (.bool true) ∧ Below w.heap.size w w' := by
  rw [strs_of] at r1
  have h := veilSees_core w h7 a0 A1 c1 _ r1 a2
  simp only [List.length_map] at h
  exact h

end Go.Proofs.YtneiheifjgffaaaGreatDoor
