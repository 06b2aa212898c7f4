/-
  VeilEach: labels are seen together just if each is seen by itself; the law's walk.
-/
import Derived.Test.YtneiheifjgffaaaGreatDoorVlaA
namespace Go.Proofs.YtneiheifjgffaaaGreatDoor
open Go.RowKit
set_option linter.unusedSimpArgs false
set_option linter.unusedVariables false
set_option maxRecDepth 100000

def EaRel (p : Sv) (ls : List Txt) (w : World) (v i : Value) (wr : World) : Prop := ∃ k : Nat, i = .int .i64 k ∧ k ≤ ls.length ∧ v = .bool ((ls.take k).all p) ∧ Below w.heap.size w wr
theorem newErr_right {st : St} {x : Txt} (h : newErr st x = 0) : rightL st = true := by
  unfold newErr at h
  split at h
  · cases h
  · rename_i h1; simpa using h1

set_option maxHeartbeats 8000000 in
theorem veilEach_core (w : World) (h7 : W7 w) (A0 : Option Addr) (c0 : Nat) (ns : List Txt) (r0 : RowOf w A0 c0 (strs ns)) (hz : ∀ y ∈ ns, y.length ≤ 9223372036854775807) (A1 : Option Addr) (c1 : Nat) (ps : List (Int × Int)) (r1 : PairsAt w A1 c1 ps) (x : ByteArray)
    (A3 : Option Addr) (c3 : Nat) (ls : List Txt) (r3 : RowOf w A3 c3 (strs ls)) :
    Calls Tryz.prog 10 #[.slice A0 ns.length c0, .slice A1 ps.length c1, .string x, .slice A3 ls.length c3] w fun e w' => e = .returned (.bool true) ∧ Below w.heap.size w w' := by
  have l0 := r0.1
  have l3 := r3.1
  have m0 := r0.2.1
  have m3 := r3.2.1
  have l1 := r1.1
  have m1 := r1.2.1
  rw [strs_length] at l0 l3
  unfold maxLen at m0 m1 m3
  have hb0 : Below w.heap.size w (w.alloc (.cells #[.slice A0 ns.length c0, .slice A1 ps.length c1] 26)) := (Below.refl _ w).alloc (Nat.le_refl _) _
  have hbx := box_cell w (.slice A0 ns.length c0) (.slice A1 ps.length c1) 26
  have ca := alive7_any _ (h7.below hb0)
  have HB0 := Lib.hid hb0
  have HW0 := Lib.hid (h7.below hb0)
  have cr := polRight_any A0 c0 A1 c1 (ns, ps) _ (r0.below hb0) (r1.below hb0) hz
  simp only at cr
  have HR0 := Lib.hid (r0.below hb0)
  have HR1 := Lib.hid (r1.below hb0)
  have HR3 := Lib.hid (r3.below hb0)
  have HZ := Lib.hid hz
  clear hb0 r0 r1 r3 hz h7
  by_cases h10 : 10 < ns.length
  · clear cr
    go_enter Tryz.func10, Tryz.ntmps10
    go_wp2_with fail
    refine ca.mono ?_
    rintro e w1 ⟨rfl, b1⟩
    go_wp2
    go_ret
    exact ⟨rfl, HB0.out.then b1⟩
  by_cases h30 : 30 < ps.length
  · clear cr
    go_enter Tryz.func10, Tryz.ntmps10
    go_wp2_with fail
    refine ca.mono ?_
    rintro e w1 ⟨rfl, b1⟩
    go_wp2
    go_ret
    exact ⟨rfl, HB0.out.then b1⟩
  by_cases h11 : 10 < ls.length
  · clear cr
    go_enter Tryz.func10, Tryz.ntmps10
    go_wp2_with fail
    refine ca.mono ?_
    rintro e w1 ⟨rfl, b1⟩
    go_wp2
    go_ret
    exact ⟨rfl, HB0.out.then b1⟩
  have g1 : ns.length ≤ 10 := by omega
  have g2 : ps.length ≤ 30 := by omega
  have g3 : ls.length ≤ 10 := by omega
  clear h10 h30 h11 ca
  cases hr : rightL (ns, ps) with
  | false =>
    rw [hr] at cr
    clear hr
    go_enter Tryz.func10, Tryz.ntmps10
    go_wp2_with fail
    refine cr.mono ?_
    rintro e w1 ⟨rfl, b1⟩
    have HB1 := Lib.hid (HB0.out.then b1)
    have ca := alive7_any _ (HW0.out.below b1)
    clear b1 cr
    go_wp2_with fail
    refine ca.mono ?_
    rintro e w2 ⟨rfl, b2⟩
    go_wp2
    go_ret
    exact ⟨rfl, HB1.out.then b2⟩
  | true =>
    rw [hr] at cr
    clear hr
    go_enter Tryz.func10, Tryz.ntmps10
    go_wp2_with fail
    refine cr.mono ?_
    rintro e w1 ⟨rfl, b1⟩
    have HB1 := Lib.hid (HB0.out.then b1)
    have HW1 := Lib.hid (HW0.out.below b1)
    have ca := alive7_any _ HW1.out
    have hx0 := (b1.cell (p := ⟨w.heap.size, 0, none⟩) (World.block_lt_of_cell? _ _ hbx.1)).trans hbx.1
    have hx1 := (b1.cell (p := ⟨w.heap.size, 1, none⟩) (World.block_lt_of_cell? _ _ hbx.2)).trans hbx.2
    have HR01 := Lib.hid (HR0.out.below b1)
    have HR11 := Lib.hid (HR1.out.below b1)
    have HR31 := Lib.hid (HR3.out.below b1)
    clear b1 cr hbx
    go_wp2_with fail
    refine ca.mono ?_
    rintro e w2 ⟨rfl, b2⟩
    have HB2 := Lib.hid (HB1.out.then b2)
    have HW2 := Lib.hid (HW1.out.below b2)
    have hx02 := (b2.cell (p := ⟨w.heap.size, 0, none⟩) (World.block_lt_of_cell? _ _ hx0)).trans hx0
    have hx12 := (b2.cell (p := ⟨w.heap.size, 1, none⟩) (World.block_lt_of_cell? _ _ hx1)).trans hx1
    have hR32 := HR31.out.below b2
    have cn := newSeer_any A0 c0 A1 c1 (ns, ps) x w2 HW2.out.tab (HR01.out.below b2) (HR11.out.below b2) HZ.out
    simp only at cn
    have HR32 := Lib.hid hR32
    clear b2 ca hx0 hx1 hR32
    go_wp2_with fail
    refine cn.mono ?_
    rintro e w3 ⟨b3, h3⟩
    have HB3 := Lib.hid (HB2.out.then b3)
    have HR33 := Lib.hid (HR32.out.below b3)
    clear b3 cn hx02 hx12
    rcases h3 with ⟨hn, rfl⟩ | ⟨_, b, A2, c2, lb, rfl, hbl, hs⟩
    · have fn : (newErr (ns, ps) x.data.toList != 0) = true := by simpa using hn
      generalize newErr (ns, ps) x.data.toList = z at *
      go_wp2
      go_ret
      exact ⟨rfl, HB3.out⟩
    · have HS := Lib.hid hs
      generalize hme : (idxL (ns, ps).fst x.data.toList).toNat = me at *
      clear hs hbl hme
      go_wp2_with fail
      go_loopw [12, 53] (fun v i wr => EaRel (svL ns (leqS ns.length ps) me) ls w3 v i wr) (fun _ i _ => ls.length - (intOf i).toNat)
      case atStart => exact ⟨0, rfl, Nat.zero_le _, rfl, Below.refl _ _⟩
      case round =>
        obtain ⟨k, rfl, hk, rfl, hbw⟩ := hrel
        have HBw := Lib.hid hbw
        have hSr := HS.out.below hbw
        by_cases hp : k < ls.length
        · obtain ⟨b1, o1, rfl, hl1, hc⟩ := (HR33.out.below hbw).cellAt hp
          have co := sees_one hSr ls[k]
          have HT := Lib.hid (show (ls.take (k + 1)).all (svL ns (leqS ns.length ps) me) = ((ls.take k).all (svL ns (leqS ns.length ps) me) && svL ns (leqS ns.length ps) me ls[k]) from by
            rw [List.take_succ_eq_append_getElem hp, List.all_append]; simp)
          clear hbw hSr
          generalize (ls.take k).all (svL ns (leqS ns.length ps) me) = u at *
          cases u with
          | false =>
            clear co
            go_wp2
            go_roundw
            case rel => exact ⟨k + 1, by go_num, by omega, by rw [HT.out]; rfl, HBw.out⟩
            case measure => simp [intOf]; omega
          | true =>
            go_wp2_with fail
            refine co.mono ?_
            rintro e w5 ⟨rfl, b5⟩
            go_wp2
            go_roundw
            case rel => exact ⟨k + 1, by go_num, by omega, by rw [HT.out]; rfl, HBw.out.then b5⟩
            case measure => simp [intOf]; omega
        · obtain rfl : k = ls.length := by omega
          have cs := sees_any hSr A3 c3 ls (HR33.out.below hbw)
          rw [seesL_all hSr.L hSr.pos hSr.lt] at cs
          rw [List.take_length]
          generalize ls.all (svL ns (leqS ns.length ps) me) = u at *
          clear hbw hSr
          go_wp2_with fail
          refine cs.mono ?_
          rintro e w5 ⟨rfl, b5⟩
          go_wp2
          go_ret
          exact ⟨ret_bool (by simp), (HB3.out.then HBw.out).then b5⟩
theorem veilEach_walk (w : World) (h7 : W7 w) (A0 : Option Addr) (c0 : Nat) (z0 : List ByteArray) (r0 : RowOf w A0 c0 (z0.map Value.string)) (w0 : ∀ s ∈ z0, s.size ≤ maxLen) (A1 : Option Addr) (c1 : Nat) (z1 : List (Int × Int)) (r1 : PairsAt w A1 c1 z1) (a2 : ByteArray) (w2 : a2.size ≤ maxLen) (A3 : Option Addr) (c3 : Nat) (z3 : List ByteArray) (r3 : RowOf w A3 c3 (z3.map Value.string)) (w3 : ∀ s ∈ z3, s.size ≤ maxLen) :
    Calls Tryz.prog 10 #[.slice A0 z0.length c0, .slice A1 z1.length c1, .string a2, .slice A3 z3.length c3] w fun e w' => e = .returned (.bool true) ∧ Below w.heap.size w w' := by
  rw [strs_of] at r0 r3
  have h := veilEach_core w h7 A0 c0 _ r0 (fun y hy => by
    obtain ⟨s, hs, rfl⟩ := List.mem_map.1 hy
    have := w0 s hs
    unfold maxLen at this
    have h2 : s.data.toList.length = s.size := by simp
    omega) A1 c1 z1 r1 a2 A3 c3 _ r3
  simp only [List.length_map] at h
  exact h

end Go.Proofs.YtneiheifjgffaaaGreatDoor
