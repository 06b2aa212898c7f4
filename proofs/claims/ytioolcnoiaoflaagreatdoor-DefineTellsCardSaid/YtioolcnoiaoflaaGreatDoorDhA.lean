/-
  The laws of the layer define: DefineTells: its walk.
-/
import Derived.Test.YtioolcnoiaoflaaGreatDoorRdA
import Derived.Test.YtioolcnoiaoflaaGreatDoorDnE
import Derived.Test.YtioolcnoiaoflaaGreatDoorDfH
import Derived.Test.YtioolcnoiaoflaaGreatDoorDnZ
namespace Go.Proofs.YtioolcnoiaoflaaGreatDoor
open Go.RowKit
set_option linter.unusedSimpArgs false
set_option linter.unusedVariables false
set_option maxRecDepth 100000

theorem dtF_len : ∀ (f : Nat) (l : List UInt8), (dtF f l).1.length ≤ f
  | 0, _ => Nat.le_refl _
  | f + 1, l => by
    unfold dtF
    split
    · have := dtF_len f ((l.dropWhile (· != 10)).drop 1)
      simp only [List.length_cons]
      omega
    · exact Nat.zero_le _
def LfRel (s : ByteArray) (W : World) (lf i : Value) (wr : World) : Prop := ∃ (k : Nat) (b : Bool), i = .int .i64 k ∧ lf = .bool b ∧ k ≤ s.size ∧ wr = W

set_option maxHeartbeats 8000000 in
theorem defineTells_in (w : World) (hv : Elz w) (a0 a1 a2 : ByteArray) (h0 : a0.size ≤ 100) (h1 : a1.size ≤ 200) (h2 : a2.size ≤ 400) :
    Calls Tryz.prog 3 #[.string a0, .string a1, .string a2] w fun e w' => e = .returned (.bool true) ∧ Below w.heap.size w w' := by
  have ca := alive11_any w hv.ev
  have c1 := fun W => defName_any a0 W (by omega)
  have c2 := fun W h => rdnm_any a0 W h (by omega)
  have c3 := fun W h => dline_any a1 W h (by omega)
  have c4 := fun W h => rdline_any a1 W h (by omega)
  have c5 := fun W h => dtake_any a2 W h (by omega)
  have c6 := fun W h => rtake_any a2 W h (by omega)
  have hdl : (dtL a2.data.toList).1.length ≤ 400 := by
    have := dtF_len a2.data.toList.length a2.data.toList
    rw [str_len] at this
    unfold dtL
    rw [str_len]
    omega
  generalize dnL a0.data.toList = y at *
  obtain ⟨x, ok⟩ := y
  obtain ⟨X, hX, rfl⟩ := text_of' x
  simp only at c1 c2
  rw [hX] at c1 c2
  generalize dlL a1.data.toList = y at *
  obtain ⟨d, on⟩ := y
  unfold dfTib dfV at c3 c4
  simp only at c3 c4
  generalize dtL a2.data.toList = y at *
  obtain ⟨D, r⟩ := y
  obtain ⟨R, hR, rfl⟩ := text_of' r
  simp only at c5 c6 hdl
  rw [hR] at c5 c6
  have s1 : (X.toList != X.toList) = false := by simp
  have s2 : (R.toList == R.toList) = true := by simp
  have C1 := Lib.hid c1
  have C2 := Lib.hid c2
  have C3 := Lib.hid c3
  have C4 := Lib.hid c4
  have C5 := Lib.hid c5
  have C6 := Lib.hid c6
  have HV := Lib.hid hv
  have HDL := Lib.hid hdl
  clear c1 c2 c3 c4 c5 c6 hX hR hv hdl
  go_enter Tryz.func3, Tryz.ntmps3
  go_wp2_with fail
  refine ca.mono ?_
  rintro e w1 ⟨rfl, b1⟩
  go_wp2_with fail
  refine (C1.out _).mono ?_
  rintro e w2 ⟨rfl, b2⟩
  have q2 := b1.then b2
  go_wp2_with fail
  refine (C2.out _ (HV.out.below q2).tb).mono ?_
  rintro e w3 ⟨rfl, b3⟩
  have q3 := q2.then b3
  go_wp2_with fail
  refine (C3.out _ (HV.out.below q3).ev).mono ?_
  rintro e w4 ⟨rfl, b4⟩
  have q4 := (q3.then b4).alloc (q3.then b4).size (.cells #[.string ⟨d.nm.toArray⟩, .string ⟨d.url.toArray⟩, .string ⟨d.ttl.toArray⟩, .string ⟨d.txt.toArray⟩, .bool d.nt] 26)
  have hz4 := dfAt_new w4 d
  have HQ4 := Lib.hid q4
  have HZ4 := Lib.hid hz4
  have hs4 := alloc_size w4 (.cells #[.string ⟨d.nm.toArray⟩, .string ⟨d.url.toArray⟩, .string ⟨d.ttl.toArray⟩, .string ⟨d.txt.toArray⟩, .bool d.nt] 26)
  clear q4 hz4 b1 b2 b3 b4 q2 q3
  go_wp2_with fail
  refine (C4.out _ (HV.out.below HQ4.out).tb).mono ?_
  rintro e w5 ⟨rfl, b5⟩
  have hz5 := HZ4.out.below b5
  have hz6 := hz5.below ((Below.refl _ w5).alloc (Nat.le_refl _) (.cells #[.string ⟨d.nm.toArray⟩, .string ⟨d.url.toArray⟩, .string ⟨d.ttl.toArray⟩, .string ⟨d.txt.toArray⟩, .bool d.nt] 26))
  obtain ⟨k0, k1, k2, k3, k4, kf⟩ := hz6.cells
  have hz7 := dfAt_new w5 d
  obtain ⟨l0, l1, l2, l3, l4, lf⟩ := hz7.cells
  have q5 := HQ4.out.then b5
  have HQ5 := Lib.hid (q5.alloc q5.size (.cells #[.string ⟨d.nm.toArray⟩, .string ⟨d.url.toArray⟩, .string ⟨d.ttl.toArray⟩, .string ⟨d.txt.toArray⟩, .bool d.nt] 26))
  clear hz5 hz6 hz7 b5 q5
  go_wp2_with fail
  generalize w5.alloc (.cells #[.string ⟨d.nm.toArray⟩, .string ⟨d.url.toArray⟩, .string ⟨d.ttl.toArray⟩, .string ⟨d.txt.toArray⟩, .bool d.nt] 26) = W at *
  go_loopw [15, 16] (fun lf i wr => LfRel a1 W lf i wr) (fun _ i _ => a1.size - (intOf i).toNat)
  case atStart => exact ⟨0, false, rfl, rfl, Nat.zero_le _, rfl⟩
  case round =>
    obtain ⟨k, b, rfl, rfl, hk, rfl⟩ := hrel
    by_cases hp : k < a1.size
    · have hix := index_str a1 k k rfl hp
      generalize a1[k] = c at *
      cases b
      all_goals
        go_wp2
        go_roundw
        case rel => exact ⟨k + 1, _, by go_num, rfl, by omega, rfl⟩
        case measure => simp [intOf]; omega
    · clear C1 C2 C3 C4
      cases b
      all_goals
        go_wp2_with fail
        have hblk0 : (wr.alloc (Obj.cells (dbookCells (.slice none 0 0) (.slice none 0 0)) 39)).heap[wr.heap.size]? = some (.cells (dbookCells (.slice none 0 0) (.slice none 0 0)) 39 (0, 0)) := heap_alloc_new wr _
        have hbk0 := DBookIs.new (B := w.heap.size) hblk0 HQ5.out.size
        have hq0 : Below w.heap.size w (wr.alloc (Obj.cells (dbookCells (.slice none 0 0) (.slice none 0 0)) 39)) := HQ5.out.alloc HQ5.out.size _
        have HB0 := Lib.hid hbk0
        have HQ0 := Lib.hid hq0
        clear hblk0 hbk0 hq0
        refine (C5.out _ (HV.out.below HQ0.out).ev).mono ?_
        rintro e w6 ⟨v1, rfl, hown1, b6⟩
        obtain ⟨A1, n1, rfl, _⟩ := own_form hown1
        have HB6 := Lib.hid (HB0.out.below b6)
        have HQ6 := Lib.hid (HQ0.out.then b6)
        have HO1 := Lib.hid (own_low hown1 HQ0.out.size)
        clear hown1 b6
        go_wp2_with fail
        refine (C6.out _ (HV.out.below HQ6.out).tb).mono ?_
        rintro e w7 ⟨v2, rfl, hown2, b7⟩
        obtain ⟨A2, n2, rfl, _⟩ := own_form hown2
        have HB7 := Lib.hid (HB6.out.below b7)
        have HQ7 := Lib.hid (HQ6.out.then b7)
        have HO17 := Lib.hid (ownsRow_below HO1.out b7)
        have HO2 := Lib.hid (own_low hown2 HQ6.out.size)
        clear hown2 b7
        go_wp2_with fail
        refine (C5.out _ (HV.out.below HQ7.out).ev).mono ?_
        rintro e w8 ⟨v3, rfl, hown3, b8⟩
        obtain ⟨A3, n3, rfl, _⟩ := own_form hown3
        have HB8 := Lib.hid (HB7.out.below b8)
        have HQ8 := Lib.hid (HQ7.out.then b8)
        have HO18 := Lib.hid (ownsRow_below HO17.out b8)
        have HO28 := Lib.hid (ownsRow_below HO2.out b8)
        have HAP := Lib.hid (own_new HO17.out hown3 (Nat.le_refl _))
        have HO3 := Lib.hid (own_low hown3 HQ7.out.size)
        have HO3b := Lib.hid hown3
        clear hown3 b8
        go_wp2_with fail
        refine (defs_any w.heap.size wr.heap.size _ _ [] [] [] A1 n1 D w8 HQ8.out.size HB8.out HO18.out (fun u hu => by simp at hu) (by simp) (by have := HDL.out; omega)).mono ?_
        rintro e w9 ⟨rfl, ⟨tv4, uv4, u1, hbk4, hu1⟩, hsk4, bb4⟩
        have HB9 := Lib.hid hbk4
        have HQ9 := Lib.hid (HQ8.out.trans bb4)
        have HO39 := Lib.hid (hsk4.row HO3.out)
        have HO29 := Lib.hid (hsk4.row HO28.out)
        have HU1 := Lib.hid (show Apart (Value.slice A3 D.length n3) u1 from fun g hg hu => by have h1 := hu1 g hu; have h2 := (HO3b.out.lt g hg).2; omega)
        clear hbk4 hsk4 bb4 hu1
        go_wp2_with fail
        refine (defs_any w.heap.size wr.heap.size tv4 uv4 [.slice A1 D.length n1] [u1] [D] A3 n3 D w9 HQ9.out.size HB9.out HO39.out (fun u hu => by
          simp at hu
          rcases hu with rfl | rfl
          · exact HAP.out.symm
          · exact HU1.out) (by simp) (by have := HDL.out; omega)).mono ?_
        rintro e w10 ⟨rfl, ⟨tv5, uv5, u2, hbk5, _⟩, hsk5, bb5⟩
        have HB10 := Lib.hid hbk5
        have HQ10 := Lib.hid (HQ9.out.trans bb5)
        have hr1 : DefsAt w10 A1 n1 D := by
          obtain ⟨Ax, cx, ex, hr⟩ := EltsAt.own dfC_length (hbk5.tl.2 0 (.slice A1 D.length n1) D rfl rfl)
          cases ex; exact hr
        have hr2 : DefsAt w10 A2 n2 D := by
          obtain ⟨Ax, cx, ex, hr⟩ := EltsAt.own dfC_length (hsk5.row HO29.out)
          cases ex; exact hr
        have CS := Lib.hid (sameDefs_same A1 A2 n1 n2 D w10 hr1 hr2)
        clear hbk5 bb5 hr1 hr2 hsk5
        go_wp2_with fail
        refine CS.out.mono ?_
        rintro e w11 ⟨rfl, nq, hw11⟩
        have q11 : Below w10.heap.size w10 w11 := by rw [hw11]; exact below_drewN' (Below.refl _ _) nq
        clear hw11
        go_wp2_with fail
        refine (dapart_any w.heap.size wr.heap.size tv5 uv5 _ _ _ w11 (Nat.le_trans HQ10.out.size q11.size) (HB10.out.below q11) (by simp) (fun ls hls => by
          have h9 := HDL.out
          simp at hls
          rw [hls]; omega)).mono ?_
        rintro e w12 ⟨rfl, b12⟩
        go_wp2
        go_ret
        exact ⟨rfl, (HQ10.out.trans (q11.mono HQ10.out.size)).trans b12⟩

set_option maxHeartbeats 2000000 in
theorem defineTells_walk (w : World) (hv : Elz w) (a0 : ByteArray) (w0 : a0.size ≤ maxLen) (a1 : ByteArray) (w1 : a1.size ≤ maxLen) (a2 : ByteArray) (w2 : a2.size ≤ maxLen) :
    Calls Tryz.prog 3 #[.string a0, .string a1, .string a2] w fun e w' => e = .returned (.bool true) ∧ Below w.heap.size w w' := by
  unfold maxLen at w0 w1 w2
  by_cases h : a0.size ≤ 100 ∧ a1.size ≤ 200 ∧ a2.size ≤ 400
  · exact defineTells_in w hv a0 a1 a2 h.1 h.2.1 h.2.2
  · have ca := alive11_any w hv.ev
    have hcase : 100 < a0.size ∨ a0.size ≤ 100 ∧ (200 < a1.size ∨ a1.size ≤ 200 ∧ 400 < a2.size) := by omega
    clear h hv
    rcases hcase with h | ⟨h, h | ⟨h, h2⟩⟩
    all_goals
      go_enter Tryz.func3, Tryz.ntmps3
      go_wp2_with (go_at_call 5; refine ca.mono ?_; rintro e w1 ⟨rfl, b1⟩)
      go_ret
      exact ⟨rfl, b1⟩

end Go.Proofs.YtioolcnoiaoflaaGreatDoor
