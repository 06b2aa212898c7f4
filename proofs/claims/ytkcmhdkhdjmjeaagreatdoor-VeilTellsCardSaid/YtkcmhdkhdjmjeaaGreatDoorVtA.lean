/-
  What VeilTells' walk asks of its world: the table of math/bits, MaxLen, and the tables of unicode/utf8 as facts.
  VeilTells: the law's walk.
  VeilTells: the law's walk, for every input.
-/
import Derived.Test.YtkcmhdkhdjmjeaaGreatDoorHnd
import Derived.Test.YtkcmhdkhdjmjeaaGreatDoorRfV
import Derived.PinnedBridge
import Derived.Lib.LaidU8
import Derived.Test.YtkcmhdkhdjmjeaaGreatDoorRdr
import Derived.Test.YtkcmhdkhdjmjeaaGreatDoorLent
import Derived.Test.YtkcmhdkhdjmjeaaGreatDoorVlaA
namespace Go.Proofs.YtkcmhdkhdjmjeaaGreatDoor
open Go.ChangeShapes Go.WideShapes Go.ChangeAt Go.RowKit Go.Lib
set_option linter.unusedVariables false

/-- What the walk asks of the world it begins in. -/
structure W7t (w : World) : Prop where
  w7 : W7 w
  tabs : Tabs w
theorem W7t.below {w w' : World} (h : W7t w) (hb : Below w.heap.size w w') : W7t w' := ⟨h.w7.below hb, h.tabs.below hb⟩
theorem u8extra3 : U8Extra Tryz.prog Tryz.lays260_ren := { n3 := by kernel_rfl, n4 := by kernel_rfl, y3 := by kernel_rfl, y4 := by kernel_rfl, c5 := by kernel_rfl, c119 := by kernel_rfl, c138 := by kernel_rfl }
theorem accept_eq3 : (Rows.laid_unicode_utf8_acceptRanges : DataW Unit) = Lib.acceptData := by kernel_rfl
theorem tabs_of3 {W : World} (h : laidMetH Tryz.prog [("math/bits.deBruijn64tab", Rows.laid_math_bits_deBruijn64tab), ("unicode/utf8.acceptRanges", Rows.laid_unicode_utf8_acceptRanges), ("unicode/utf8.first", Rows.laid_unicode_utf8_first)] W) : Tabs W := by
  rw [MakeChecks.laidMetH_plain _ _ _ (by kernel_rfl)] at h
  have h3 := Lib.laidMet.reads h (n := "unicode/utf8.first") (d := Rows.laid_unicode_utf8_first) (by simp)
  have h4 := Lib.laidMet.reads h (n := "unicode/utf8.acceptRanges") (d := Rows.laid_unicode_utf8_acceptRanges) (by simp)
  rw [accept_eq3] at h4
  rw [show Rows.laid_unicode_utf8_first = Lib.firstData from Pinned.utf8First_eq] at h3
  exact utf8Tabs_of_reads Tryz.lays260 u8extra3 h3 h4
theorem w7t_of {W : World} (h : laidMetH Tryz.prog [("math/bits.deBruijn64tab", Rows.laid_math_bits_deBruijn64tab), ("unicode/utf8.acceptRanges", Rows.laid_unicode_utf8_acceptRanges), ("unicode/utf8.first", Rows.laid_unicode_utf8_first)] W) (hs : W.ShapedOpen Tryz.prog) : W7t W :=
  ⟨w7_of h hs, tabs_of3 h⟩

end Go.Proofs.YtkcmhdkhdjmjeaaGreatDoor

namespace Go.Proofs.YtkcmhdkhdjmjeaaGreatDoor
open Go.RowKit
set_option linter.unusedSimpArgs false
set_option linter.unusedVariables false
set_option maxRecDepth 100000

set_option maxHeartbeats 16000000 in
theorem veilTells_long (w : World) (h7 : W7t w) (A0 : Option Addr) (c0 n0 : Nat) (A1 : Option Addr) (c1 n1 : Nat) (a2 : ByteArray) (A3 : Option Addr) (c3 n3 : Nat) (a4 : ByteArray) (a5 : ByteArray)
    (h0 : n0 ≤ c0) (hc0 : c0 ≤ maxLen) (h1 : n1 ≤ c1) (hc1 : c1 ≤ maxLen) (h3 : n3 ≤ c3) (hc3 : c3 ≤ maxLen) (h4 : a4.size ≤ maxLen) (h5 : a5.size ≤ maxLen)
    (hbad : 10 < n0 ∨ (n0 ≤ 10 ∧ 30 < n1) ∨ (n0 ≤ 10 ∧ n1 ≤ 30 ∧ 10 < n3) ∨ (n0 ≤ 10 ∧ n1 ≤ 30 ∧ n3 ≤ 10 ∧ 200 < a4.size) ∨ (n0 ≤ 10 ∧ n1 ≤ 30 ∧ n3 ≤ 10 ∧ a4.size ≤ 200 ∧ 1000 < a5.size)) :
    Calls Tryz.prog 3 #[.slice A0 n0 c0, .slice A1 n1 c1, .string a2, .slice A3 n3 c3, .string a4, .string a5] w fun e w' => e = .returned (.bool true) ∧ Below w.heap.size w w' := by
  have ca := alive7_any w h7.w7
  unfold maxLen at *
  clear h7
  rcases hbad with h | ⟨h, h'⟩ | ⟨h, h', h''⟩ | ⟨h, h', h'', h'''⟩ | ⟨h, h', h'', h''', h''''⟩
  all_goals
    go_enter Tryz.func3, Tryz.ntmps3
    go_wp2_with fail
    refine ca.mono ?_
    rintro e w3 ⟨rfl, b3⟩
    go_wp2
    go_ret
    exact ⟨rfl, b3⟩

def VtRel (ls : List (List UInt8)) (w : World) (i : Value) (wr : World) : Prop := ∃ k : Nat, i = .int .i64 k ∧ k ≤ ls.length ∧ Below w.heap.size w wr
set_option maxHeartbeats 16000000 in
theorem veilTells_short (w : World) (h7 : W7t w) (A0 : Option Addr) (c0 : Nat) (ns : List (List UInt8)) (r0 : RowOf w A0 c0 (strs ns)) (hz : ∀ y ∈ ns, y.length ≤ 9223372036854775807) (A1 : Option Addr) (c1 : Nat) (ps : List (Int × Int)) (r1 : PairsAt w A1 c1 ps) (a2 : ByteArray) (A3 : Option Addr) (c3 : Nat) (ls : List (List UInt8)) (r3 : RowOf w A3 c3 (strs ls)) (a4 : ByteArray) (a5 : ByteArray)
    (i0 : ns.length ≤ 10) (i1 : ps.length ≤ 30) (i3 : ls.length ≤ 10) (i4 : a4.size ≤ 200) (i5 : a5.size ≤ 1000) :
    Calls Tryz.prog 3 #[.slice A0 ns.length c0, .slice A1 ps.length c1, .string a2, .slice A3 ls.length c3, .string a4, .string a5] w fun e w' => e = .returned (.bool true) ∧ Below w.heap.size w w' := by
  have ca := alive7_any w h7.w7
  have HW := Lib.hid h7
  have H0 := Lib.hid r0
  have H1 := Lib.hid r1
  have H3 := Lib.hid r3
  have HZ := Lib.hid hz
  have hc3 := r3.1
  have hm3 := r3.2.1
  rw [strs_length] at hc3
  unfold maxLen at hm3
  clear h7 r0 r1 r3 hz
  go_enter Tryz.func3, Tryz.ntmps3
  go_wp2_with fail
  refine ca.mono ?_
  rintro e w1 ⟨rfl, b1⟩
  have HW1 := Lib.hid (HW.out.below b1)
  have H01 := Lib.hid (H0.out.below b1)
  have H11 := Lib.hid (H1.out.below b1)
  have HB1 := Lib.hid b1
  have bA : Below w1.heap.size w1 (w1.alloc (.cells #[.slice A0 ns.length c0, .slice A1 ps.length c1] 26)) := (Below.refl _ w1).alloc (Nat.le_refl _) _
  have hbx := box_cell w1 (.slice A0 ns.length c0) (.slice A1 ps.length c1) 26
  have cN := newSeer_any A0 c0 A1 c1 (ns, ps) a2 (w1.alloc (.cells #[.slice A0 ns.length c0, .slice A1 ps.length c1] 26)) (HW1.out.below bA).w7.tab (H01.out.below bA) (H11.out.below bA) HZ.out
  simp only at cN
  have HBA := Lib.hid bA
  clear b1 ca bA
  cases hr : rightL (ns, ps) with
  | false =>
    have hE : newErr (ns, ps) a2.data.toList = 1 := if_pos hr
    go_wp2_with fail
    refine cN.mono ?_
    rintro e w2 ⟨b2, hN⟩
    rcases hN with ⟨_, rfl⟩ | ⟨hN, _⟩
    · have hx0 := (b2.cell (p := ⟨w1.heap.size, 0, none⟩) (World.block_lt_of_cell? _ _ hbx.1)).trans hbx.1
      have hx1 := (b2.cell (p := ⟨w1.heap.size, 1, none⟩) (World.block_lt_of_cell? _ _ hbx.2)).trans hbx.2
      have b2 := HBA.out.then b2
      have cR := polRight_any A0 c0 A1 c1 (ns, ps) w2 (H01.out.below b2) (H11.out.below b2) HZ.out
      simp only at cR
      rw [hr] at cR
      rw [hE]
      have HB2 := Lib.hid (HB1.out.then b2)
      clear b2 cN hr hE
      go_wp2_with fail
      refine cR.mono ?_
      rintro e w3 ⟨rfl, b3⟩
      go_wp2
      go_ret
      exact ⟨rfl, HB2.out.then b3⟩
    · rw [hE] at hN
      cases hN
  | true =>
    go_wp2_with fail
    refine cN.mono ?_
    rintro e w2 ⟨b2, hN⟩
    have hx0 := (b2.cell (p := ⟨w1.heap.size, 0, none⟩) (World.block_lt_of_cell? _ _ hbx.1)).trans hbx.1
    have hx1 := (b2.cell (p := ⟨w1.heap.size, 1, none⟩) (World.block_lt_of_cell? _ _ hbx.2)).trans hbx.2
    have b2 := HBA.out.then b2
    have HB2 := Lib.hid (HB1.out.then b2)
    have cR := polRight_any A0 c0 A1 c1 (ns, ps) w2 (H01.out.below b2) (H11.out.below b2) HZ.out
    simp only at cR
    rw [hr] at cR
    have HW2 := Lib.hid (HW1.out.below b2)
    have H02 := Lib.hid (H01.out.below b2)
    have H12 := Lib.hid (H11.out.below b2)
    clear b2 cN
    rcases hN with ⟨hne, rfl⟩ | ⟨h0, b, A2, c2, lb, rfl, hbl, hS⟩
    · go_wp2_with fail
      refine cR.mono ?_
      rintro e w3 ⟨rfl, b3⟩
      have cD := reader_any A0 c0 A1 c1 ns ps a2 w3 (H02.out.below b3) (H12.out.below b3) hr (by omega)
      have HB3 := Lib.hid (HB2.out.then b3)
      clear b3 cR
      generalize newErr (ns, ps) a2.data.toList = z at *
      go_wp2_with fail
      refine cD.mono ?_
      rintro e w4 ⟨b4, hD⟩
      rcases hD with ⟨_, rfl⟩ | ⟨hD, _⟩
      · have HB4 := Lib.hid (HB3.out.then b4)
        clear b4 hne cD hr
        go_wp2_with fail
        refine (sees_nil _ _).mono ?_
        rintro e w5 ⟨rfl, b5⟩
        have HB5 := Lib.hid (HB4.out.then b5)
        clear b5
        go_wp2_with fail
        refine (unknown_nil _ _).mono ?_
        rintro e w6 ⟨rfl, b6⟩
        have HB6 := Lib.hid (HB5.out.then b6)
        clear b6
        go_wp2_with fail
        refine (veil_nil _ _).mono ?_
        rintro e w7 ⟨rfl, b7⟩
        have HB7 := Lib.hid (HB6.out.then b7)
        clear b7
        go_wp2_with fail
        refine (line_nil _ _ _).mono ?_
        rintro e w8 ⟨rfl, b8⟩
        have HB8 := Lib.hid (HB7.out.then b8)
        clear b8
        go_wp2
        go_ret
        exact ⟨rfl, HB8.out⟩
      · exact absurd hD hne
    · go_wp2_with fail
      refine cR.mono ?_
      rintro e w3 ⟨rfl, b3⟩
      have cD := reader_any A0 c0 A1 c1 ns ps a2 w3 (H02.out.below b3) (H12.out.below b3) hr (by omega)
      have HB3 := Lib.hid (HB2.out.then b3)
      have HS3 := Lib.hid (hS.below b3)
      have HM3 := Lib.hid ((HW2.out.below b3).w7.max)
      have HW3 := Lib.hid (HW2.out.below b3)
      clear b3 cR hS
      generalize leqS ns.length ps = R at *
      generalize (idxL ns a2.data.toList).toNat = me at *
      go_wp2_with fail
      refine cD.mono ?_
      rintro e w4 ⟨b4, hD⟩
      rcases hD with ⟨hD, _⟩ | ⟨_, b', p', rfl, hRS⟩
      · exact absurd h0 hD
      · have HB4 := Lib.hid (HB3.out.then b4)
        have HS4 := Lib.hid (HS3.out.below b4)
        have HW4 := Lib.hid (HW3.out.below b4)
        have HR4 := Lib.hid hRS
        clear b4 cD hr h0 hRS
        go_wp2_with fail
        refine (sees_nil _ _).mono ?_
        rintro e w5 ⟨rfl, b5⟩
        go_wp2_with fail
        refine (unknown_nil _ _).mono ?_
        rintro e w6 ⟨rfl, b6⟩
        go_wp2_with fail
        refine (veil_nil _ _).mono ?_
        rintro e w7 ⟨rfl, b7⟩
        go_wp2_with fail
        refine (line_nil _ _ _).mono ?_
        rintro e w8 ⟨rfl, b8⟩
        have b48 := ((b5.then b6).then b7).then b8
        have HB8 := Lib.hid (HB4.out.then b48)
        have HS8 := Lib.hid (HS4.out.below b48)
        have HW8 := Lib.hid (HW4.out.below b48)
        have HR8 := Lib.hid (HR4.out.below b48)
        have H38 := Lib.hid (H3.out.below HB8.out)
        have H08 := Lib.hid (H0.out.below HB8.out)
        clear b5 b6 b7 b8 b48
        go_wp2_with fail
        go_loopw [105] (fun i wr => VtRel ls w8 i wr) (fun i _ => ls.length - (intOf i).toNat)
        case atStart => exact ⟨0, rfl, Nat.zero_le _, Below.refl _ _⟩
        case round =>
          obtain ⟨k, rfl, hk, hbw⟩ := hrel
          have HSr := Lib.hid (HS8.out.below hbw)
          have HRr := Lib.hid (HR8.out.below hbw)
          have HWr := Lib.hid (HW8.out.below hbw)
          have HBr := Lib.hid (HB8.out.then hbw)
          have H3r := Lib.hid (H38.out.below hbw)
          have HBw := Lib.hid hbw
          clear hbw
          by_cases hp : k < ls.length
          · obtain ⟨b9, off, rfl, hb9, hc9⟩ := H3r.out.cellAt hp
            generalize ls[k] = x at *
            have cU := unknown_any HSr.out ⟨x.toArray⟩
            rw [show (⟨x.toArray⟩ : ByteArray).data.toList = x from rfl] at cU
            have cA := fun w' hr => rat_all A0 c0 ns ⟨x.toArray⟩ w' hr
            rw [show (⟨x.toArray⟩ : ByteArray).data.toList = x from rfl] at cA
            rcases idx_nonneg ns x with hi | ⟨i, hi⟩
            all_goals
              rw [hi] at cU cA
              clear hi
              go_wp2_with fail
              refine cU.mono ?_
              rintro e u1 ⟨rfl, c1⟩
              have HC1 := Lib.hid c1
              have H0u := Lib.hid ((H08.out.below HBw.out).below c1)
              clear c1 cU
              go_wp2_with fail
              refine (cA u1 H0u.out).mono ?_
              rintro e u2 ⟨rfl, hue⟩
              have hue := hue.symm
              subst hue
              clear cA
              go_wp2
              go_roundw
              case rel => exact ⟨k + 1, by go_num, by omega, HBw.out.then HC1.out⟩
              case measure => simp [intOf]; omega
          · obtain rfl : k = ls.length := by omega
            go_wp2_with fail
            refine (lentTexts_any A3 c3 ls wr H3r.out (by omega)).mono ?_
            rintro e v1 ⟨g, cg, rfl, hown, d1⟩
            obtain ⟨Am, cm, em, hrm, _⟩ := RowOf.own hown
            cases em
            have hrt := hrm.take ls.length
            rw [show (strs (ls ++ [markW])).take ls.length = strs ls from by simp [strs]] at hrt
            have HRM := Lib.hid hrm
            have HRT := Lib.hid hrt
            have HD1 := Lib.hid d1
            have k2 := sees_any (HSr.out.below d1) (some ⟨g, 0, none⟩) cg ls hrt
            clear hown hrm hrt d1
            go_wp2_with fail
            refine k2.mono ?_
            rintro e v2 ⟨rfl, d2⟩
            have HD2 := Lib.hid (HD1.out.then d2)
            have HE2 := Lib.hid d2
            have k3 := rsees_any (HRr.out.below HD2.out) A3 c3 ls (H3r.out.below HD2.out)
            generalize seesL ns R me ls = sv at *
            clear d2 k2
            go_wp2_with fail
            refine k3.mono ?_
            rintro e v3 ⟨rfl, d3⟩
            have HD3 := Lib.hid (HD2.out.then d3)
            have HE3 := Lib.hid (HE2.out.then d3)
            have k4 := line_any (HSr.out.below HD3.out) (HWr.out.below HD3.out).w7.max a4 (by omega) (some ⟨g, 0, none⟩) cg ls (HRT.out.below HE3.out)
            clear d3 k3
            go_wp2_with fail
            refine k4.mono ?_
            rintro e v4 ⟨rfl, d4⟩
            have HD4 := Lib.hid (HD3.out.then d4)
            have HE4 := Lib.hid (HE3.out.then d4)
            have k5 := rline_any (HRr.out.below HD4.out) a4 (by omega) A3 c3 ls (H3r.out.below HD4.out) (by omega)
            generalize (⟨(lineL (underP ns R me ls) a4.data.toList).toArray⟩ : ByteArray) = T1 at *
            clear d4 k4
            go_wp2_with fail
            refine k5.mono ?_
            rintro e v5 ⟨rfl, d5⟩
            have HD5 := Lib.hid (HD4.out.then d5)
            have HE5 := Lib.hid (HE4.out.then d5)
            have k6 := staysTexts_any g cg A3 c3 ls v5 (HRM.out.below HE5.out) (H3r.out.below HD5.out) (by omega)
            clear d5 k5
            go_wp2_with fail
            refine k6.mono ?_
            rintro e v6 ⟨rfl, nq, rfl⟩
            have d6 : Below v5.heap.size v5 (v5.drewN nq) := below_drewN' (Below.refl _ v5) nq
            generalize v5.drewN nq = v6 at *
            have HD6 := Lib.hid (HD5.out.then d6)
            have k7 := veil_any (HSr.out.below HD6.out) (HWr.out.below HD6.out).w7.max a5 (by omega)
            clear d6 k6
            go_wp2_with fail
            refine k7.mono ?_
            rintro e v7 ⟨rfl, d7⟩
            have HD7 := Lib.hid (HD6.out.then d7)
            have k8 := rveil_any (HRr.out.below HD7.out) (HWr.out.below HD7.out).tabs a5 (by omega)
            generalize (⟨(veilL (svL ns R me) a5.data.toList).toArray⟩ : ByteArray) = T2 at *
            clear d7 k7
            go_wp2_with fail
            refine k8.mono ?_
            rintro e v8 ⟨rfl, d8⟩
            have HD8 := Lib.hid (HBr.out.then (HD7.out.then d8))
            clear d8 k8
            go_wp2
            go_ret
            exact ⟨rfl, HD8.out⟩

end Go.Proofs.YtkcmhdkhdjmjeaaGreatDoor

namespace Go.Proofs.YtkcmhdkhdjmjeaaGreatDoor
open Go.RowKit
set_option linter.unusedVariables false

theorem veilTells_core (w : World) (h7 : W7t w) (A0 : Option Addr) (c0 : Nat) (ns : List (List UInt8)) (r0 : RowOf w A0 c0 (strs ns)) (hz : ∀ y ∈ ns, y.length ≤ 9223372036854775807) (A1 : Option Addr) (c1 : Nat) (ps : List (Int × Int)) (r1 : PairsAt w A1 c1 ps) (a2 : ByteArray) (A3 : Option Addr) (c3 : Nat) (ls : List (List UInt8)) (r3 : RowOf w A3 c3 (strs ls)) (a4 : ByteArray) (w4 : a4.size ≤ maxLen) (a5 : ByteArray) (w5 : a5.size ≤ maxLen) :
    Calls Tryz.prog 3 #[.slice A0 ns.length c0, .slice A1 ps.length c1, .string a2, .slice A3 ls.length c3, .string a4, .string a5] w fun e w' => e = .returned (.bool true) ∧ Below w.heap.size w w' := by
  have l0 := r0.1
  have m0 := r0.2.1
  have l1 := r1.1
  have m1 := r1.2.1
  have l3 := r3.1
  have m3 := r3.2.1
  rw [strs_length] at l0 l3
  by_cases i0 : ns.length ≤ 10
  · by_cases i1 : ps.length ≤ 30
    · by_cases i3 : ls.length ≤ 10
      · by_cases i4 : a4.size ≤ 200
        · by_cases i5 : a5.size ≤ 1000
          · exact veilTells_short w h7 A0 c0 ns r0 hz A1 c1 ps r1 a2 A3 c3 ls r3 a4 a5 i0 i1 i3 i4 i5
          · exact veilTells_long w h7 A0 c0 _ A1 c1 _ a2 A3 c3 _ a4 a5 l0 m0 l1 m1 l3 m3 w4 w5 (by omega)
        · exact veilTells_long w h7 A0 c0 _ A1 c1 _ a2 A3 c3 _ a4 a5 l0 m0 l1 m1 l3 m3 w4 w5 (by omega)
      · exact veilTells_long w h7 A0 c0 _ A1 c1 _ a2 A3 c3 _ a4 a5 l0 m0 l1 m1 l3 m3 w4 w5 (by omega)
    · exact veilTells_long w h7 A0 c0 _ A1 c1 _ a2 A3 c3 _ a4 a5 l0 m0 l1 m1 l3 m3 w4 w5 (by omega)
  · exact veilTells_long w h7 A0 c0 _ A1 c1 _ a2 A3 c3 _ a4 a5 l0 m0 l1 m1 l3 m3 w4 w5 (by omega)

theorem veilTells_walk (w : World) (h7 : W7t w) (A0 : Option Addr) (c0 : Nat) (z0 : List ByteArray) (r0 : RowOf w A0 c0 (z0.map Value.string)) (w0 : ∀ s ∈ z0, s.size ≤ maxLen) (A1 : Option Addr) (c1 : Nat) (z1 : List (Int × Int)) (r1 : PairsAt w A1 c1 z1) (a2 : ByteArray) (w2 : a2.size ≤ maxLen) (A3 : Option Addr) (c3 : Nat) (z3 : List ByteArray) (r3 : RowOf w A3 c3 (z3.map Value.string)) (w3 : ∀ s ∈ z3, s.size ≤ maxLen) (a4 : ByteArray) (w4 : a4.size ≤ maxLen) (a5 : ByteArray) (w5 : a5.size ≤ maxLen) :
    Calls Tryz.prog 3 #[.slice A0 z0.length c0, .slice A1 z1.length c1, .string a2, .slice A3 z3.length c3, .string a4, .string a5] w fun e w' => e = .returned (.bool true) ∧ Below w.heap.size w w' := by
  rw [strs_of] at r0 r3
  have h := veilTells_core w h7 A0 c0 _ r0 (fun y hy => by
    obtain ⟨s, hs, rfl⟩ := List.mem_map.1 hy
    have := w0 s hs
    unfold maxLen at this
    simpa using this) A1 c1 _ r1 a2 A3 c3 _ r3 a4 w4 a5 w5
  simp only [List.length_map] at h
  exact h

end Go.Proofs.YtkcmhdkhdjmjeaaGreatDoor
