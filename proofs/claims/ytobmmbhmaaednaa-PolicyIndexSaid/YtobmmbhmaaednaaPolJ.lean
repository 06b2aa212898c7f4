/-
  PolicyIndex: a name's index is where it stands; what is no name has none: the law's walk.
-/
import Derived.Test.YtobmmbhmaaednaaPolI
import Derived.Test.YtobmmbhmaaednaaPairs
namespace Go.Proofs.Ytobmmbhmaaednaa
open Go.RowKit
set_option linter.unusedSimpArgs false
set_option linter.unusedVariables false

def InRel (ns : List (List UInt8)) (x : List UInt8) (w1 : World) (b i : Value) (wr : World) : Prop :=
  ∃ (k : Nat) (t : Bool), i = .int .i64 k ∧ k ≤ ns.length ∧ b = .bool t ∧ (t = true ↔ x ∈ ns.take k) ∧ Below w1.heap.size w1 wr

theorem policyIndex_out (w : World) (hml : MaxL w) (A B : Option Addr) (c d : Nat) (st : St) (x : ByteArray) (hrow : RowOf w A c (strs st.1)) (hpr : PairsAt w B d st.2) (hz : ∀ y ∈ st.1, y.length ≤ 9223372036854775807) (hx : x.size ≤ 9223372036854775807)
    (h : 20 < st.1.length ∨ (st.1.length ≤ 20 ∧ 60 < x.size) ∨ (st.1.length ≤ 20 ∧ x.size ≤ 60 ∧ rightL st = false)) :
    Calls Try.prog 6 #[.slice A st.1.length c, .slice B st.2.length d, .string x] w fun e w' => e = .returned (.bool true) ∧ Below w.heap.size w w' := by
  have hc1 := hrow.1
  have hc2 := hrow.2.1
  rw [strs_length] at hc1
  have hd1 := hpr.1
  have hd2 := hpr.2.1
  unfold maxLen at hc2 hd2
  have hb0 : Below w.heap.size w (w.alloc (.cells #[.slice A st.1.length c, .slice B st.2.length d] 25)) := (Below.refl _ w).alloc (Nat.le_refl _) _
  have hm0 := hml.below hb0
  have cr := right_any A c B d st (w.alloc (.cells #[.slice A st.1.length c, .slice B st.2.length d] 25)) (hrow.below hb0) (hpr.below hb0) hz
  have HB := Lib.hid hb0
  have HM := Lib.hid hm0
  have CR := Lib.hid cr
  clear hb0 hm0 cr
  rcases h with h | ⟨h1, h2⟩ | ⟨h1, h2, h3⟩
  · go_enter Try.func6, Try.ntmps6
    go_wp2_with fail
    refine (alive4_any _ HM.out).mono ?_
    rintro e w1 ⟨rfl, b1⟩
    go_wp2
    go_ret
    exact ⟨rfl, HB.out.then b1⟩
  · go_enter Try.func6, Try.ntmps6
    go_wp2_with fail
    refine (alive4_any _ HM.out).mono ?_
    rintro e w1 ⟨rfl, b1⟩
    go_wp2
    go_ret
    exact ⟨rfl, HB.out.then b1⟩
  · have cr := CR.out
    rw [h3] at cr
    clear h3
    go_enter Try.func6, Try.ntmps6
    go_wp2_with fail
    refine cr.mono ?_
    rintro e w2 ⟨rfl, b2⟩
    go_wp2_with fail
    refine (alive4_any _ (HM.out.below b2)).mono ?_
    rintro e w1 ⟨rfl, b1⟩
    go_wp2
    go_ret
    exact ⟨rfl, (HB.out.then b2).then b1⟩

set_option maxHeartbeats 2000000 in
theorem policyIndex_in (w : World) (hml : MaxL w) (A B : Option Addr) (c d : Nat) (st : St) (x : ByteArray) (hrow : RowOf w A c (strs st.1)) (hpr : PairsAt w B d st.2) (hz : ∀ y ∈ st.1, y.length ≤ 9223372036854775807)
    (h1 : st.1.length ≤ 20) (h2 : x.size ≤ 60) (h3 : rightL st = true) :
    Calls Try.prog 6 #[.slice A st.1.length c, .slice B st.2.length d, .string x] w fun e w' => e = .returned (.bool true) ∧ Below w.heap.size w w' := by
  obtain ⟨ns, ps⟩ := st
  simp only at *
  have hc1 := hrow.1
  have hc2 := hrow.2.1
  rw [strs_length] at hc1
  have hd1 := hpr.1
  have hd2 := hpr.2.1
  unfold maxLen at hc2 hd2
  have hb0 : Below w.heap.size w (w.alloc (.cells #[.slice A ns.length c, .slice B ps.length d] 25)) := (Below.refl _ w).alloc (Nat.le_refl _) _
  have hm0 := hml.below hb0
  have hbx := box_cell w (.slice A ns.length c) (.slice B ps.length d) 25
  have cr := right_any A c B d (ns, ps) (w.alloc (.cells #[.slice A ns.length c, .slice B ps.length d] 25)) (hrow.below hb0) (hpr.below hb0) hz
  have HRN := Lib.hid ((rightL_iff _).1 h3).2.1
  rw [h3] at cr
  have CR := Lib.hid cr
  have HB := Lib.hid hb0
  have HM := Lib.hid hm0
  have HR := Lib.hid (hrow.below hb0)
  clear hb0 hm0 cr h3 hz
  go_enter Try.func6, Try.ntmps6
  go_wp2_with fail
  refine CR.out.mono ?_
  rintro e w2 ⟨rfl, b2⟩
  go_wp2_with fail
  refine (alive4_any _ (HM.out.below b2)).mono ?_
  rintro e w1 ⟨rfl, b1⟩
  have hb := b2.then b1
  have hx0 := (hb.cell (p := ⟨w.heap.size, 0, none⟩) (World.block_lt_of_cell? _ _ hbx.1)).trans hbx.1
  have hx1 := (hb.cell (p := ⟨w.heap.size, 1, none⟩) (World.block_lt_of_cell? _ _ hbx.2)).trans hbx.2
  have hblt := World.block_lt_of_cell? _ _ hx0
  have hrow1 := HR.out.below hb
  have HB1 := Lib.hid (HB.out.then hb)
  clear b1 b2 hb hbx
  go_wp2_with fail
  go_loopw [8, 34] (fun b i wr => InRel ns x.data.toList w1 b i wr) (fun _ i _ => ns.length - (intOf i).toNat)
  case atStart => exact ⟨0, false, rfl, Nat.zero_le _, rfl, by simp, Below.refl _ _⟩
  case round =>
    obtain ⟨k, t, rfl, hk, rfl, hin, hbw⟩ := hrel
    have hx0r := (hbw.cell (p := ⟨w.heap.size, 0, none⟩) hblt).trans hx0
    have hx1r := (hbw.cell (p := ⟨w.heap.size, 1, none⟩) hblt).trans hx1
    have hrowr := hrow1.below hbw
    have HBW := Lib.hid hbw
    have HI := Lib.hid hin
    clear hbw hin
    by_cases hp : k < ns.length
    · obtain ⟨b, off, rfl, hb, hcell⟩ := hrowr.cellAt hp
      have hok := ((okAt_iff ns k hp).1 ((rightN_iff _).1 HRN.out k hp)).2
      have ci := fun w4 h4 => index_any (some ⟨b, off, none⟩) c (.slice B ps.length d) ns ⟨ns[k].toArray⟩ w4 h4
      rw [show (⟨ns[k].toArray⟩ : ByteArray).data.toList = ns[k] from rfl, hok] at ci
      have HT := Lib.hid (List.take_succ_eq_append_getElem hp)
      clear hok
      generalize ns[k] = y at *
      cases t with
      | true =>
        go_wp2_with fail
        refine (ci _ hrowr).mono ?_
        rintro e w4 ⟨rfl, b4⟩
        go_wp2
        go_roundw
        case rel => exact ⟨k + 1, true, by go_num, by omega, rfl, by rw [HT.out, List.mem_append]; exact ⟨fun _ => Or.inl (HI.out.1 (by trivial)), fun _ => by trivial⟩, HBW.out.then b4⟩
        case measure => simp [intOf]; omega
      | false =>
        by_cases he : y = x.data.toList
        · have fe : (@BEq.beq (List UInt8) (@List.instBEq UInt8 (@instBEqOfDecidableEq UInt8 instDecidableEqUInt8)) y x.toList) = true := by rw [ByteArray.toList_eq, he]; simp
          have HE := Lib.hid he
          clear he
          go_wp2_with fail
          refine (ci _ hrowr).mono ?_
          rintro e w4 ⟨rfl, b4⟩
          go_wp2
          go_roundw
          case rel => exact ⟨k + 1, true, by go_num, by omega, rfl, by rw [HT.out, List.mem_append, HE.out]; simp, HBW.out.then b4⟩
          case measure => simp [intOf]; omega
        · have fe : (@BEq.beq (List UInt8) (@List.instBEq UInt8 (@instBEqOfDecidableEq UInt8 instDecidableEqUInt8)) y x.toList) = false := by rw [ByteArray.toList_eq]; simpa using he
          have HE := Lib.hid he
          clear he
          go_wp2_with fail
          refine (ci _ hrowr).mono ?_
          rintro e w4 ⟨rfl, b4⟩
          go_wp2
          go_roundw
          case rel => exact ⟨k + 1, false, by go_num, by omega, rfl, by
            rw [HT.out, List.mem_append, List.mem_singleton, ← HI.out]
            simp
            exact fun e => HE.out e.symm, HBW.out.then b4⟩
          case measure => simp [intOf]; omega
    · obtain rfl : k = ns.length := by omega
      have ci := fun w4 h4 => index_any A c (.slice B ps.length d) ns x w4 h4
      have HX := Lib.hid (show decide (0 ≤ idxL ns x.data.toList) = t from by
        have h := HI.out
        rw [List.take_length] at h
        rw [Bool.eq_iff_iff, decide_eq_true_iff, h]
        rcases idxL_cases ns x.data.toList with ⟨e1, e2⟩ | ⟨j, hj, e1, e2, _⟩
        · constructor
          · intro h5; omega
          · intro h5; exact absurd h5 e2
        · constructor
          · intro _; rw [← e2]; exact List.getElem_mem hj
          · intro _; omega)
      generalize idxL ns x.data.toList = z at *
      go_wp2_with fail
      refine (ci _ hrowr).mono ?_
      rintro e w4 ⟨rfl, b4⟩
      go_wp2
      go_ret
      exact ⟨ret_bool (by rw [HX.out]; simp), HB1.out.then (HBW.out.then b4)⟩

theorem policyIndex_walk (w : World) (hml : MaxL w) (A0 : Option Addr) (c0 : Nat) (z0 : List ByteArray) (r0 : RowOf w A0 c0 (z0.map Value.string)) (w0 : ∀ s ∈ z0, s.size ≤ maxLen) (A1 : Option Addr) (c1 : Nat) (z1 : List (Int × Int)) (r1 : PairsAt w A1 c1 z1) (a2 : ByteArray) (w2 : a2.size ≤ maxLen) :
    Calls Try.prog 6 #[.slice A0 z0.length c0, .slice A1 z1.length c1, .string a2] w fun e w' => e = .returned (.bool true) ∧ Below w.heap.size w w' := by
  unfold maxLen at w0 w2
  rw [strs_of] at r0
  have hz : ∀ y ∈ (z0.map fun s => s.data.toList), y.length ≤ 9223372036854775807 := by
    intro y hy
    obtain ⟨s, hs, rfl⟩ := List.mem_map.1 hy
    have := w0 s hs
    have h2 : s.data.toList.length = s.size := by simp
    omega
  rw [show z0.length = (z0.map fun s => s.data.toList).length from by simp]
  generalize (z0.map fun s => s.data.toList) = ns at *
  by_cases h1 : ns.length ≤ 20
  · by_cases h2 : a2.size ≤ 60
    · cases h3 : rightL (ns, z1) with
      | true => exact policyIndex_in w hml A0 A1 c0 c1 (ns, z1) a2 r0 r1 hz h1 h2 h3
      | false => exact policyIndex_out w hml A0 A1 c0 c1 (ns, z1) a2 r0 r1 hz (by omega) (Or.inr (Or.inr ⟨h1, h2, h3⟩))
    · exact policyIndex_out w hml A0 A1 c0 c1 (ns, z1) a2 r0 r1 hz (by omega) (Or.inr (Or.inl ⟨h1, by show 60 < _; omega⟩))
  · exact policyIndex_out w hml A0 A1 c0 c1 (ns, z1) a2 r0 r1 hz (by omega) (Or.inl (by show 20 < ns.length; omega))

end Go.Proofs.Ytobmmbhmaaednaa
