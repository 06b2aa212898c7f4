/-
  Package veil: emptied: a document's parts, emptied.
  Package veil: Veil: a document, emptied.
-/
import Derived.Test.YtkcmhdkhdjmjeaaGreatDoorSerC
import Derived.Test.YtkcmhdkhdjmjeaaGreatDoorFrmC
import Derived.Test.YtkcmhdkhdjmjeaaGreatDoorPla
import Derived.Test.YtkcmhdkhdjmjeaaGreatDoorRgtA
import Derived.Test.YtkcmhdkhdjmjeaaGreatDoorVelS
import Derived.Test.YtkcmhdkhdjmjeaaGreatDoorLineS
namespace Go.Proofs.YtkcmhdkhdjmjeaaGreatDoor
open Go.RowKit
set_option linter.unusedSimpArgs false
set_option linter.unusedVariables false
set_option maxRecDepth 100000

theorem box5_cells {w : World} {g : Nat} {u0 u1 u2 u3 u4 : Value} {t : TypeId} {fz : Nat × Nat} (h : w.heap[g]? = some (.cells #[u0, u1, u2, u3, u4] t fz)) :
    w.cell? ⟨g, 0, none⟩ = some u0 ∧ w.cell? ⟨g, 1, none⟩ = some u1 ∧ w.cell? ⟨g, 2, none⟩ = some u2 ∧ w.cell? ⟨g, 3, none⟩ = some u3 ∧ w.cell? ⟨g, 4, none⟩ = some u4 := by
  refine ⟨?_, ?_, ?_, ?_, ?_⟩ <;> rw [cell_of_row w g _ _ t fz h] <;> rfl
theorem box5_set {w : World} {g : Nat} {u0 u1 u2 u3 u4 z : Value} {t : TypeId} {fz : Nat × Nat} (h : w.heap[g]? = some (.cells #[u0, u1, u2, u3, u4] t fz)) :
    (w.setCell ⟨g, 4, none⟩ z).heap[g]? = some (.cells #[u0, u1, u2, u3, z] t fz) := by
  simp [World.setCell, Array.getElem?_modify, h]

def hidV : Option Int → Int
  | none => 9223372036854775807
  | some d => d
def EmRel (p : Sv) (ps : List Prt) (w : World) (v dp i : Value) (wr : World) : Prop :=
  ∃ (k : Nat) (h : Option Int) (Y : List (Prt × Value)), i = .int .i64 k ∧ k ≤ ps.length ∧ dp = .int .i64 (hidV h) ∧ PartsOwn wr w.heap.size v Y ∧ Y.map Prod.fst ++ hideF p h (ps.drop k) = hideP p ps ∧ Y.length ≤ k ∧ Below w.heap.size w wr
theorem hid_gtr (h : Option Int) (d : Int) (hd : d ≤ 1000000) : decide (d > hidV h) = hidB h d := by
  cases h with
  | none => simp [hidV, hidB]; omega
  | some x => simp [hidV, hidB]

section
variable {w w' : World} {b ca lb me : Nat} {A : Option Addr} {ns : List Txt} {R : Rel}
set_option maxHeartbeats 8000000 in
theorem emptied_any (h : SeerAt w b A ca lb ns R me) (hml : MaxL w) (A0 : Option Addr) (c0 : Nat) (X : List (Prt × Value)) (hX : PartsAt w A0 c0 X) (hm : X.length ≤ 1000000)
    (hd : ∀ x ∈ X, 0 ≤ x.1.depth ∧ x.1.depth ≤ 1000000) (hz : ∀ x ∈ X, x.1.ls.length ≤ 1000000 ∧ ∀ y ∈ x.1.ls, y.length ≤ 100000) :
    Calls Tryz.prog 34 #[.pointer (some ⟨b, 0, none⟩), .slice A0 X.length c0] w fun e w' =>
      ∃ v Y, e = .returned v ∧ PartsOwn w' w.heap.size v Y ∧ Y.map Prod.fst = hideP (svL ns R me) (X.map Prod.fst) ∧ Below w.heap.size w w' := by
  obtain ⟨i1, hi1, hw0, hw1, hw2⟩ := info_parts infoPart
  have hle := hX.le
  have hcm := hX.cap
  unfold maxLen at hcm
  have hXl : (X.map Prod.fst).length = X.length := by simp
  generalize hps : X.map Prod.fst = ps at *
  have HPS := Lib.hid hps
  have HD := Lib.hid hd
  have HZ := Lib.hid hz
  have HS := Lib.hid h
  have HM := Lib.hid hml
  generalize hsv : svL ns R me = p at *
  have HSV := Lib.hid hsv
  clear hps hd hz h hml hsv
  go_enter Tryz.func34, Tryz.ntmps34
  go_wp2_with fail
  go_loopw [5, 6, 11] (fun v dp i wr => EmRel p ps w v dp i wr) (fun _ _ i _ => ps.length - (intOf i).toNat)
  case atStart => exact ⟨0, none, [], rfl, Nat.zero_le _, rfl, PartsOwn.nil _ _, rfl, Nat.zero_le _, Below.refl _ _⟩
  case round =>
    obtain ⟨k, hh, Y, rfl, hk, rfl, hown, hY, hYl, hbw⟩ := hrel
    by_cases hp : k < ps.length
    · have hpx : k < X.length := by omega
      have hX2 := hX.below hbw
      obtain ⟨g0, off, rfl, hb, y0, y1, y2, y3, y4⟩ := hX2.at hpx
      obtain ⟨A9, c9, e9, hr9⟩ := hX2.ls X[k] (List.getElem_mem hpx)
      have hpk : X[k].1 = ps[k] := by
        have h1 : ps[k]? = some X[k].1 := by rw [← HPS.out, List.getElem?_map, List.getElem?_eq_getElem hpx]; rfl
        rw [List.getElem?_eq_getElem hp] at h1
        exact (Option.some.inj h1).symm
      have hdx := HD.out X[k] (List.getElem_mem hpx)
      have hzx := HZ.out X[k] (List.getElem_mem hpx)
      rw [List.drop_eq_getElem_cons hp, ← hpk] at hY
      rw [e9] at y4
      clear hX2 hpk
      generalize X[k] = x at *
      obtain ⟨⟨d, dv, lab, opn, ls⟩, xv⟩ := x
      simp only at e9 hr9 hdx hzx y0 y1 y2 y3 y4
      subst e9
      obtain ⟨A3, c3, rfl, _⟩ := hown.at
      have hgt := hid_gtr hh d hdx.2
      have HY := Lib.hid hY
      have HBw := Lib.hid hbw
      have hbs := hbw.size
      have hown0 := hown.alloc (.cells #[.int .i64 d, .bool dv, .string ⟨lab.toArray⟩, .bool opn, .slice A9 ls.length c9] 94)
      have hblk := heap_alloc_new wr (.cells #[.int .i64 d, .bool dv, .string ⟨lab.toArray⟩, .bool opn, .slice A9 ls.length c9] 94)
      have hbr : Below wr.heap.size wr (wr.alloc (.cells #[.int .i64 d, .bool dv, .string ⟨lab.toArray⟩, .bool opn, .slice A9 ls.length c9] 94)) := (Below.refl _ wr).alloc (Nat.le_refl _) _
      have hsz := alloc_size wr (.cells #[.int .i64 d, .bool dv, .string ⟨lab.toArray⟩, .bool opn, .slice A9 ls.length c9] 94)
      have HO := Lib.hid hown
      have HO0 := Lib.hid hown0
      have HBlk := Lib.hid hblk
      have HBr := Lib.hid hbr
      have HR9 := Lib.hid hr9
      have HSz := Lib.hid hsz
      clear hown0 hblk hbr hown hY hbw hr9 hsz
      cases hhx : hidB hh d with
      | true =>
        rw [hhx] at hgt
        have HYn := Lib.hid (show Y.map Prod.fst ++ hideF p hh (ps.drop (k + 1)) = hideP p ps from by
          rw [← HY.out]
          show _ = _ ++ hideF p hh (⟨d, dv, lab, opn, ls⟩ :: ps.drop (k + 1))
          rw [hideF, if_pos hhx])
        clear hhx
        generalize hhv : hidV hh = hv at *
        have HHv := Lib.hid hhv
        clear hhv
        go_wp2_with fail
        exact ⟨⟨k + 1, hh, Y, by go_num, by omega, by rw [HHv.out], HO0.out, HYn.out, by omega, HBw.out.then HBr.out⟩, by simp [intOf]; omega⟩
      | false =>
        rw [hhx] at hgt
        have HYn := Lib.hid (show Y.map Prod.fst ++ (linesL p ⟨d, dv, lab, opn, ls⟩ :: hideF p (nextH p ⟨d, dv, lab, opn, ls⟩) (ps.drop (k + 1))) = hideP p ps from by
          rw [← HY.out]
          show _ = _ ++ hideF p hh (⟨d, dv, lab, opn, ls⟩ :: ps.drop (k + 1))
          rw [hideF, if_neg (by rw [show (⟨d, dv, lab, opn, ls⟩ : Prt).depth = d from rfl, hhx]; simp)])
        clear hhx
        generalize hidV hh = hv at *
        cases dv with
        | false =>
          have HSl := Lib.hid (show True from trivial)
          have HNx := Lib.hid (show nextH p ⟨d, false, lab, opn, ls⟩ = none from rfl)
          have HBlkW := HBlk
          have HSW := Lib.hid ((HS.out.below HBw.out).below HBr.out)
          have HMW := Lib.hid ((HM.out.below HBw.out).below HBr.out)
          have HRW := Lib.hid (HR9.out.below HBr.out)
          have HBrW := HBr
          have HBwW := Lib.hid (HBw.out.then HBr.out)
          have hsl := HSl.out
          obtain ⟨q0, q1, q2, q3, q4⟩ := box5_cells HBlkW.out
          have hf := own_frozen HBlkW.out 4
          have hlt : wr.heap.size < (wr.alloc (.cells #[.int .i64 d, .bool false, .string ⟨lab.toArray⟩, .bool opn, .slice A9 ls.length c9] 94)).heap.size := (Array.getElem?_eq_some_iff.1 HBlkW.out).1
          have ce := emptiedLines_any HSW.out HMW.out A9 c9 ls HRW.out hzx.2 hzx.1
          rw [HSV.out] at ce
          go_wp2_with fail
          refine ce.mono ?_
          rintro e w5 ⟨v5, rfl, hown5, b5⟩
          obtain ⟨A5, c5, rfl, _, _, _⟩ := RowOf.own hown5
          generalize hL5 : ls.map (lineL p) = L5 at *
          have HL5 := Lib.hid hL5
          clear hL5
          have hblk5 := (b5.block wr.heap.size hlt).trans HBlkW.out
          obtain ⟨q0, q1, q2, q3, q4⟩ := box5_cells hblk5
          have hf5 := own_frozen hblk5 4
          have hblk6 := box5_set (z := .slice A5 L5.length c5) hblk5
          obtain ⟨p0, p1, p2, p3, p4⟩ := box5_cells hblk6
          have hbr6 := (HBrW.out.then b5).setCell (p := ⟨wr.heap.size, 4, none⟩) (Nat.le_refl _) (.slice A5 L5.length c5)
          have hbw6 := (HBwW.out.then b5).setCell (p := ⟨wr.heap.size, 4, none⟩) hbs (.slice A5 L5.length c5)
          have hP6 := HO.out.below hbr6
          have hown6 := own_set (own_low hown5 (B' := w.heap.size) HBwW.out.size) hblk5 (by decide) 4 (.slice A5 L5.length c5)
          have hap6 : ∀ (i : Nat) (y : Prt × Value), Y[i]? = some y → Apart y.2 (.slice A5 L5.length c5) := fun i y hy => own_new (HO.out.ls i y hy) hown5 (by omega)
          have HBr6 := Lib.hid hbr6
          have HBw6 := Lib.hid hbw6
          have HP6 := Lib.hid hP6
          have HOw6 := Lib.hid hown6
          have HAp6 := Lib.hid hap6
          have hs6 := hbw6.size
          have hss : (w5.setCell ⟨wr.heap.size, 4, none⟩ (.slice A5 L5.length c5)).heap.size = w5.heap.size := by simp [World.setCell]
          have hP7 := HP6.out.alloc (.cells (ptC (⟨d, false, lab, opn, L5⟩, .slice A5 L5.length c5)).toArray 94)
          have hn7 := part_cells (w5.setCell ⟨wr.heap.size, 4, none⟩ (.slice A5 L5.length c5)) (⟨d, false, lab, opn, L5⟩, .slice A5 L5.length c5) 94
          rw [hss] at hn7
          clear hbr6 hbw6 hP6 hown6 hap6 hblk6 hblk5 hown5 b5 ce
          go_wp2_with (at_builtin; refine wpList_append_own _ rfl _ _ 63 rfl w.heap.size 94 i1 (.agg #[.int .i64 0, .bool false, .string ByteArray.empty, .bool false, .slice none 0 0]) 5 64 Tryz.underlying63 hi1 hw0 hw1 hw2 rfl (by decide) _ _ _ rfl hP7.row ⟨w5.heap.size, 0, none⟩ 1 1 (ptC (⟨d, false, lab, opn, L5⟩, .slice A5 L5.length c5)) rfl rfl hn7 (ptC_one _ rfl) (by unfold maxLen; omega) (by omega) (by simp; omega) ?_)
          intro v' w7 hown7 hgrow7 _
          have b67 : Below (w5.setCell ⟨wr.heap.size, 4, none⟩ (.slice A5 L5.length c5)).heap.size (w5.setCell ⟨wr.heap.size, 4, none⟩ (.slice A5 L5.length c5)) ((w5.setCell ⟨wr.heap.size, 4, none⟩ (.slice A5 L5.length c5)).alloc (.cells (ptC (⟨d, false, lab, opn, L5⟩, .slice A5 L5.length c5)).toArray 94)) := (Below.refl _ _).alloc (Nat.le_refl _) _
          have hPF := hP7.snoc (x := (⟨d, false, lab, opn, L5⟩, .slice A5 L5.length c5)) hgrow7 hown7 (HOw6.out.alloc _) HAp6.out
          have hBF := (HBw6.out.then b67).trans (below_of_grown hgrow7 (fun g hg => (hP7.row.lt g hg).1) (by have := b67.size; omega))
          have HPF := Lib.hid hPF
          have HBF := Lib.hid hBF
          clear hPF hBF hown7 hgrow7 hP7 hn7 b67
          go_wp2
          go_roundw
          case rel =>
            refine ⟨k + 1, none, _, by go_num, by omega, rfl, HPF.out, ?_, by simp; omega, HBF.out⟩
            rw [← HYn.out, HNx.out, List.map_append, List.append_assoc, ← HL5.out]
            rfl
          case measure => simp [intOf]; omega
        | true =>
          have co := sees_one ((HS.out.below HBw.out).below HBr.out) lab
          rw [alloc_size wr, HSV.out] at co
          cases hpl : p lab with
          | true =>
              rw [hpl] at co
              have HSl := Lib.hid (show True from trivial)
              have HNx := Lib.hid (show nextH p ⟨d, true, lab, opn, ls⟩ = none from by unfold nextH; simp [hpl])
              clear hpl
              go_wp2_with fail
              refine co.mono ?_
              rintro e w4 ⟨rfl, b4⟩
              rw [← alloc_size wr (.cells #[.int .i64 d, .bool true, .string ⟨lab.toArray⟩, .bool opn, .slice A9 ls.length c9] 94)] at b4
              have HBlkW := Lib.hid ((b4.block wr.heap.size (Array.getElem?_eq_some_iff.1 HBlk.out).1).trans HBlk.out)
              have HSW := Lib.hid (((HS.out.below HBw.out).below HBr.out).below b4)
              have HMW := Lib.hid (((HM.out.below HBw.out).below HBr.out).below b4)
              have HRW := Lib.hid ((HR9.out.below HBr.out).below b4)
              have HBrW := Lib.hid (HBr.out.then b4)
              have HBwW := Lib.hid ((HBw.out.then HBr.out).then b4)
              obtain ⟨r0, r1, r2, r3, r4⟩ := box5_cells HBlkW.out
              clear b4 co
              have hsl := HSl.out
              obtain ⟨q0, q1, q2, q3, q4⟩ := box5_cells HBlkW.out
              have hf := own_frozen HBlkW.out 4
              have hlt : wr.heap.size < w4.heap.size := (Array.getElem?_eq_some_iff.1 HBlkW.out).1
              have ce := emptiedLines_any HSW.out HMW.out A9 c9 ls HRW.out hzx.2 hzx.1
              rw [HSV.out] at ce
              go_wp2_with fail
              refine ce.mono ?_
              rintro e w5 ⟨v5, rfl, hown5, b5⟩
              obtain ⟨A5, c5, rfl, _, _, _⟩ := RowOf.own hown5
              generalize hL5 : ls.map (lineL p) = L5 at *
              have HL5 := Lib.hid hL5
              clear hL5
              have hblk5 := (b5.block wr.heap.size hlt).trans HBlkW.out
              obtain ⟨q0, q1, q2, q3, q4⟩ := box5_cells hblk5
              have hf5 := own_frozen hblk5 4
              have hblk6 := box5_set (z := .slice A5 L5.length c5) hblk5
              obtain ⟨p0, p1, p2, p3, p4⟩ := box5_cells hblk6
              have hbr6 := (HBrW.out.then b5).setCell (p := ⟨wr.heap.size, 4, none⟩) (Nat.le_refl _) (.slice A5 L5.length c5)
              have hbw6 := (HBwW.out.then b5).setCell (p := ⟨wr.heap.size, 4, none⟩) hbs (.slice A5 L5.length c5)
              have hP6 := HO.out.below hbr6
              have hown6 := own_set (own_low hown5 (B' := w.heap.size) HBwW.out.size) hblk5 (by decide) 4 (.slice A5 L5.length c5)
              have hap6 : ∀ (i : Nat) (y : Prt × Value), Y[i]? = some y → Apart y.2 (.slice A5 L5.length c5) := fun i y hy => own_new (HO.out.ls i y hy) hown5 (by omega)
              have HBr6 := Lib.hid hbr6
              have HBw6 := Lib.hid hbw6
              have HP6 := Lib.hid hP6
              have HOw6 := Lib.hid hown6
              have HAp6 := Lib.hid hap6
              have hs6 := hbw6.size
              have hss : (w5.setCell ⟨wr.heap.size, 4, none⟩ (.slice A5 L5.length c5)).heap.size = w5.heap.size := by simp [World.setCell]
              have hP7 := HP6.out.alloc (.cells (ptC (⟨d, true, lab, opn, L5⟩, .slice A5 L5.length c5)).toArray 94)
              have hn7 := part_cells (w5.setCell ⟨wr.heap.size, 4, none⟩ (.slice A5 L5.length c5)) (⟨d, true, lab, opn, L5⟩, .slice A5 L5.length c5) 94
              rw [hss] at hn7
              clear hbr6 hbw6 hP6 hown6 hap6 hblk6 hblk5 hown5 b5 ce
              go_wp2_with (at_builtin; refine wpList_append_own _ rfl _ _ 63 rfl w.heap.size 94 i1 (.agg #[.int .i64 0, .bool false, .string ByteArray.empty, .bool false, .slice none 0 0]) 5 64 Tryz.underlying63 hi1 hw0 hw1 hw2 rfl (by decide) _ _ _ rfl hP7.row ⟨w5.heap.size, 0, none⟩ 1 1 (ptC (⟨d, true, lab, opn, L5⟩, .slice A5 L5.length c5)) rfl rfl hn7 (ptC_one _ rfl) (by unfold maxLen; omega) (by omega) (by simp; omega) ?_)
              intro v' w7 hown7 hgrow7 _
              have b67 : Below (w5.setCell ⟨wr.heap.size, 4, none⟩ (.slice A5 L5.length c5)).heap.size (w5.setCell ⟨wr.heap.size, 4, none⟩ (.slice A5 L5.length c5)) ((w5.setCell ⟨wr.heap.size, 4, none⟩ (.slice A5 L5.length c5)).alloc (.cells (ptC (⟨d, true, lab, opn, L5⟩, .slice A5 L5.length c5)).toArray 94)) := (Below.refl _ _).alloc (Nat.le_refl _) _
              have hPF := hP7.snoc (x := (⟨d, true, lab, opn, L5⟩, .slice A5 L5.length c5)) hgrow7 hown7 (HOw6.out.alloc _) HAp6.out
              have hBF := (HBw6.out.then b67).trans (below_of_grown hgrow7 (fun g hg => (hP7.row.lt g hg).1) (by have := b67.size; omega))
              have HPF := Lib.hid hPF
              have HBF := Lib.hid hBF
              clear hPF hBF hown7 hgrow7 hP7 hn7 b67
              go_wp2
              go_roundw
              case rel =>
                refine ⟨k + 1, none, _, by go_num, by omega, rfl, HPF.out, ?_, by simp; omega, HBF.out⟩
                rw [← HYn.out, HNx.out, List.map_append, List.append_assoc, ← HL5.out]
                rfl
              case measure => simp [intOf]; omega
          | false =>
              rw [hpl] at co
              have HSl := Lib.hid (show True from trivial)
              have HNx := Lib.hid (show nextH p ⟨d, true, lab, opn, ls⟩ = (some d) from by unfold nextH; simp [hpl])
              clear hpl
              go_wp2_with fail
              refine co.mono ?_
              rintro e w4 ⟨rfl, b4⟩
              rw [← alloc_size wr (.cells #[.int .i64 d, .bool true, .string ⟨lab.toArray⟩, .bool opn, .slice A9 ls.length c9] 94)] at b4
              have HBlkW := Lib.hid ((b4.block wr.heap.size (Array.getElem?_eq_some_iff.1 HBlk.out).1).trans HBlk.out)
              have HSW := Lib.hid (((HS.out.below HBw.out).below HBr.out).below b4)
              have HMW := Lib.hid (((HM.out.below HBw.out).below HBr.out).below b4)
              have HRW := Lib.hid ((HR9.out.below HBr.out).below b4)
              have HBrW := Lib.hid (HBr.out.then b4)
              have HBwW := Lib.hid ((HBw.out.then HBr.out).then b4)
              obtain ⟨r0, r1, r2, r3, r4⟩ := box5_cells HBlkW.out
              clear b4 co
              have hsl := HSl.out
              obtain ⟨q0, q1, q2, q3, q4⟩ := box5_cells HBlkW.out
              have hf := own_frozen HBlkW.out 4
              have hlt : wr.heap.size < w4.heap.size := (Array.getElem?_eq_some_iff.1 HBlkW.out).1
              have ce := emptiedLines_any HSW.out HMW.out A9 c9 ls HRW.out hzx.2 hzx.1
              rw [HSV.out] at ce
              go_wp2_with fail
              refine ce.mono ?_
              rintro e w5 ⟨v5, rfl, hown5, b5⟩
              obtain ⟨A5, c5, rfl, _, _, _⟩ := RowOf.own hown5
              generalize hL5 : ls.map (lineL p) = L5 at *
              have HL5 := Lib.hid hL5
              clear hL5
              have hblk5 := (b5.block wr.heap.size hlt).trans HBlkW.out
              obtain ⟨q0, q1, q2, q3, q4⟩ := box5_cells hblk5
              have hf5 := own_frozen hblk5 4
              have hblk6 := box5_set (z := .slice A5 L5.length c5) hblk5
              obtain ⟨p0, p1, p2, p3, p4⟩ := box5_cells hblk6
              have hbr6 := (HBrW.out.then b5).setCell (p := ⟨wr.heap.size, 4, none⟩) (Nat.le_refl _) (.slice A5 L5.length c5)
              have hbw6 := (HBwW.out.then b5).setCell (p := ⟨wr.heap.size, 4, none⟩) hbs (.slice A5 L5.length c5)
              have hP6 := HO.out.below hbr6
              have hown6 := own_set (own_low hown5 (B' := w.heap.size) HBwW.out.size) hblk5 (by decide) 4 (.slice A5 L5.length c5)
              have hap6 : ∀ (i : Nat) (y : Prt × Value), Y[i]? = some y → Apart y.2 (.slice A5 L5.length c5) := fun i y hy => own_new (HO.out.ls i y hy) hown5 (by omega)
              have HBr6 := Lib.hid hbr6
              have HBw6 := Lib.hid hbw6
              have HP6 := Lib.hid hP6
              have HOw6 := Lib.hid hown6
              have HAp6 := Lib.hid hap6
              have hs6 := hbw6.size
              have hss : (w5.setCell ⟨wr.heap.size, 4, none⟩ (.slice A5 L5.length c5)).heap.size = w5.heap.size := by simp [World.setCell]
              have hP7 := HP6.out.alloc (.cells (ptC (⟨d, true, lab, opn, L5⟩, .slice A5 L5.length c5)).toArray 94)
              have hn7 := part_cells (w5.setCell ⟨wr.heap.size, 4, none⟩ (.slice A5 L5.length c5)) (⟨d, true, lab, opn, L5⟩, .slice A5 L5.length c5) 94
              rw [hss] at hn7
              clear hbr6 hbw6 hP6 hown6 hap6 hblk6 hblk5 hown5 b5 ce
              go_wp2_with (at_builtin; refine wpList_append_own _ rfl _ _ 63 rfl w.heap.size 94 i1 (.agg #[.int .i64 0, .bool false, .string ByteArray.empty, .bool false, .slice none 0 0]) 5 64 Tryz.underlying63 hi1 hw0 hw1 hw2 rfl (by decide) _ _ _ rfl hP7.row ⟨w5.heap.size, 0, none⟩ 1 1 (ptC (⟨d, true, lab, opn, L5⟩, .slice A5 L5.length c5)) rfl rfl hn7 (ptC_one _ rfl) (by unfold maxLen; omega) (by omega) (by simp; omega) ?_)
              intro v' w7 hown7 hgrow7 _
              have b67 : Below (w5.setCell ⟨wr.heap.size, 4, none⟩ (.slice A5 L5.length c5)).heap.size (w5.setCell ⟨wr.heap.size, 4, none⟩ (.slice A5 L5.length c5)) ((w5.setCell ⟨wr.heap.size, 4, none⟩ (.slice A5 L5.length c5)).alloc (.cells (ptC (⟨d, true, lab, opn, L5⟩, .slice A5 L5.length c5)).toArray 94)) := (Below.refl _ _).alloc (Nat.le_refl _) _
              have hPF := hP7.snoc (x := (⟨d, true, lab, opn, L5⟩, .slice A5 L5.length c5)) hgrow7 hown7 (HOw6.out.alloc _) HAp6.out
              have hBF := (HBw6.out.then b67).trans (below_of_grown hgrow7 (fun g hg => (hP7.row.lt g hg).1) (by have := b67.size; omega))
              have HPF := Lib.hid hPF
              have HBF := Lib.hid hBF
              clear hPF hBF hown7 hgrow7 hP7 hn7 b67
              go_wp2
              go_roundw
              case rel =>
                refine ⟨k + 1, (some d), _, by go_num, by omega, rfl, HPF.out, ?_, by simp; omega, HBF.out⟩
                rw [← HYn.out, HNx.out, List.map_append, List.append_assoc, ← HL5.out]
                rfl
              case measure => simp [intOf]; omega
    · obtain rfl : k = ps.length := by omega
      have HF := Lib.hid (show Y.map Prod.fst = hideP p ps from by
        rw [List.drop_length] at hY
        rw [← hY]; simp [hideF])
      go_wp2
      go_ret
      exact ⟨_, Y, rfl, hown, HF.out, hbw⟩
end

end Go.Proofs.YtkcmhdkhdjmjeaaGreatDoor

namespace Go.Proofs.YtkcmhdkhdjmjeaaGreatDoor
open Go.RowKit
set_option linter.unusedSimpArgs false
set_option linter.unusedVariables false
set_option maxRecDepth 100000

/-! ### What stands in a document's parts -/
theorem step_mem (Q : Txt → Prop) {st : List Prt × List Nat} {s : Txt} (h : ∀ x ∈ st.1, ∀ l ∈ x.ls, Q l) (hs : Q s) : ∀ x ∈ (stepP st s).1, ∀ l ∈ x.ls, Q l := by
  unfold stepP
  split
  · intro x hx
    rw [List.mem_append, List.mem_singleton] at hx
    rcases hx with hx | rfl
    · exact h x hx
    · simp
  · split
    · intro x hx
      unfold shut at hx
      obtain ⟨j, hj⟩ := List.getElem?_of_mem hx
      rw [List.getElem?_modify] at hj
      split at hj
      · cases hq : st.1[j]? with
        | none => rw [hq] at hj; cases hj
        | some y =>
          rw [hq] at hj
          cases hj
          exact h y (List.mem_of_getElem? hq)
      · have : st.1[j]? = some x := by simpa using hj
        exact h x (List.mem_of_getElem? this)
    · intro x hx
      unfold addLn at hx
      have new : ∀ x ∈ st.1 ++ [(⟨st.2.length, false, [], false, [s]⟩ : Prt)], ∀ l ∈ x.ls, Q l := by
        intro x hx
        rw [List.mem_append, List.mem_singleton] at hx
        rcases hx with hx | rfl
        · exact h x hx
        · intro l hl; rw [List.mem_singleton] at hl; subst hl; exact hs
      split at hx
      · rename_i q hq
        split at hx
        · exact new x hx
        · rw [List.mem_append, List.mem_singleton] at hx
          rcases hx with hx | rfl
          · exact h x (List.dropLast_subset _ hx)
          · have hqm := h q (List.mem_of_getLast? hq)
            intro l hl
            rw [List.mem_append, List.mem_singleton] at hl
            rcases hl with hl | rfl
            · exact hqm l hl
            · exact hs
      · exact new x (List.mem_append.2 (Or.inr hx))
theorem parse_mem (Q : Txt → Prop) : ∀ (ls : List Txt) (st : List Prt × List Nat), (∀ x ∈ st.1, ∀ l ∈ x.ls, Q l) → (∀ s ∈ ls, Q s) → ∀ x ∈ (parseF st ls).1, ∀ l ∈ x.ls, Q l
  | [], st, h, _ => h
  | s :: ls, st, h, hs => parse_mem Q ls (stepP st s) (step_mem Q h (hs s (by simp))) fun x hx => hs x (by simp [hx])
theorem parse_small {ls : List Txt} (n : Nat) (hn : ls.length ≤ n) : (parseL ls).length ≤ n ∧ ∀ x ∈ parseL ls, x.ls.length ≤ n := by
  have h := parse_bound ls ls.length (Nat.le_refl _)
  rw [List.take_length] at h
  exact ⟨by have := h.a; unfold parseL; omega, fun x hx => by have := h.d x hx; omega⟩
theorem hide_mem (p : Sv) : ∀ (xs : List Prt) (h : Option Int), ∀ y ∈ hideF p h xs, ∃ x ∈ xs, y = linesL p x
  | [], _, _, hy => by cases hy
  | x :: xs, h, y, hy => by
    simp only [hideF] at hy
    split at hy
    · obtain ⟨z, hz, e⟩ := hide_mem p xs h y hy
      exact ⟨z, by simp [hz], e⟩
    · rw [List.mem_cons] at hy
      rcases hy with rfl | hy
      · exact ⟨x, by simp, rfl⟩
      · obtain ⟨z, hz, e⟩ := hide_mem p xs _ y hy
        exact ⟨z, by simp [hz], e⟩
theorem hide_len (p : Sv) : ∀ (xs : List Prt) (h : Option Int), (hideF p h xs).length ≤ xs.length
  | [], _ => Nat.le_refl _
  | x :: xs, h => by
    simp only [hideF]
    split
    · have := hide_len p xs h; rw [List.length_cons]; omega
    · have := hide_len p xs (nextH p x); rw [List.length_cons, List.length_cons]; omega
theorem right_lab {P : List Prt} (h : rightP P = true) : ∀ x ∈ P, x.lab.length ≤ 40 := by
  intro x hx
  have hp := rightF_part P none 0 h x hx
  unfold rightPart at hp
  split at hp
  · simp only [Bool.and_eq_true] at hp
    have := hp.1.2
    unfold isLab labOk at this
    simp at this
    exact this.2.2
  · simp only [Bool.and_eq_true, List.isEmpty_iff] at hp
    rw [hp.1.1.2]; simp
theorem right_depth {P : List Prt} (h : rightP P = true) (n : Nat) (hn : P.length ≤ n) : ∀ x ∈ P, 0 ≤ x.depth ∧ x.depth ≤ n := by
  intro x hx
  obtain ⟨i, hi⟩ := List.getElem?_of_mem hx
  have h1 := depth_le h i x hi
  have h2 := (List.getElem?_eq_some_iff.1 hi).1
  omega

section
variable {w w' : World} {b ca lb me : Nat} {A : Option Addr} {ns : List Txt} {R : Rel}
set_option maxHeartbeats 8000000 in
theorem veil_any (h : SeerAt w b A ca lb ns R me) (hml : MaxL w) (doc : ByteArray) (hs : doc.size ≤ 20000) :
    Calls Tryz.prog 10 #[.pointer (some ⟨b, 0, none⟩), .string doc] w fun e w' => e = .returned (.string ⟨(veilL (svL ns R me) doc.data.toList).toArray⟩) ∧ Below w.heap.size w w' := by
  have cn := isNone_any h
  have ct := text_any doc w (by omega)
  rw [textB_segs] at ct
  have hl : doc.data.toList.length = doc.size := by simp
  have hTl := textL_len doc.data.toList
  have HV := Lib.hid (show veilL (svL ns R me) doc.data.toList = joinL (writeP (hideP (svL ns R me) (parseL (splitL (textL doc.data.toList))))) from rfl)
  have HVl := Lib.hid (veil_len (svL ns R me) doc.data.toList).1
  generalize textL doc.data.toList = T at *
  have hTl2 : T.length ≤ 80000 := by omega
  have hsl := split_len T []
  have hLl : (splitL T).length ≤ 100000 := by have : (splitL T).length ≤ T.length + 1 := hsl; omega
  have hL1 : ∀ y ∈ splitL T, y.length ≤ 100000 := fun y hy => by have := split_one T y hy; omega
  have hPR := (parse_right (splitL T) (split_lf T)).1
  have hPs := parse_small 100000 hLl
  have hPm := parse_mem (fun l => l.length ≤ 100000) (splitL T) ([], []) (by simp) hL1
  have hPm2 : ∀ x ∈ parseL (splitL T), ∀ l ∈ x.ls, l.length ≤ 100000 := hPm
  have csp := fun w1 => split_any ⟨T.toArray⟩ w1 (by rw [str_size]; omega)
  rw [show (⟨T.toArray⟩ : ByteArray).data.toList = T from rfl] at csp
  generalize splitL T = Ls at *
  generalize hP : parseL Ls = P at *
  have HP := Lib.hid hP
  have HS := Lib.hid h
  have HM := Lib.hid hml
  clear hP h hml hPm hsl hTl
  go_enter Tryz.func10, Tryz.ntmps10
  go_wp2_with fail
  refine cn.mono ?_
  rintro e w1 ⟨rfl, hw1⟩
  have hw1 := hw1.symm
  subst hw1
  go_wp2_with fail
  refine ct.mono ?_
  rintro e w1 ⟨rfl, b1⟩
  have HB1 := Lib.hid b1
  clear b1 ct cn
  go_wp2_with fail
  refine (csp _).mono ?_
  rintro e w2 ⟨v2, rfl, hown2, b2⟩
  obtain ⟨A2, c2, rfl, hr2, _⟩ := RowOf.own hown2
  have HB2 := Lib.hid (HB1.out.then b2)
  have cp := parse_any A2 c2 Ls w2 hr2 hLl (fun y hy => by have := hL1 y hy; omega)
  clear b2 hown2 hr2 csp
  go_wp2_with fail
  refine cp.mono ?_
  rintro e w3 ⟨v3, X, rfl, hX, hXe, b3⟩
  rw [HP.out] at hXe
  have HB3 := Lib.hid (HB2.out.then b3)
  obtain ⟨A3, c3, rfl, hX3⟩ := hX.at
  have hXl : X.length ≤ P.length := Nat.le_of_eq (by rw [← hXe]; simp)
  have hin : ∀ x ∈ X, x.1 ∈ P := fun x hx => by rw [← hXe]; exact List.mem_map.2 ⟨x, hx, rfl⟩
  have ce := emptied_any (HS.out.below HB3.out) (HM.out.below HB3.out) A3 c3 X hX3 (by omega)
    (fun x hx => by have := right_depth hPR 100000 hPs.1 x.1 (hin x hx); omega) (fun x hx => ⟨by have := hPs.2 x.1 (hin x hx); omega, hPm2 x.1 (hin x hx)⟩)
  rw [hXe] at ce
  clear b3 hX hX3 cp
  go_wp2_with fail
  refine ce.mono ?_
  rintro e w4 ⟨v4, Y, rfl, hY, hYe, b4⟩
  have HB4 := Lib.hid (HB3.out.then b4)
  obtain ⟨A4, c4, rfl, hY4⟩ := hY.at
  have hYl : Y.length = (hideP (svL ns R me) P).length := by rw [← hYe]; simp
  have hYl2 := hide_len (svL ns R me) P none
  have hYl3 : Y.length ≤ 100000 := by have : (hideP (svL ns R me) P).length ≤ P.length := hYl2; omega
  have hYin : ∀ y ∈ Y, ∃ x ∈ P, y.1 = linesL (svL ns R me) x := fun y hy => hide_mem (svL ns R me) P none y.1 (by
    have : y.1 ∈ hideP (svL ns R me) P := by rw [← hYe]; exact List.mem_map.2 ⟨y, hy, rfl⟩
    exact this)
  have hYR := hideP_right (svL ns R me) hPR
  have hsm : PartsSmall Y := fun y hy => by
    obtain ⟨x, hx, e⟩ := hYin y hy
    rw [e]
    refine ⟨by have h1 := right_lab hPR x hx; have h2 : (linesL (svL ns R me) x).lab = x.lab := rfl; rw [h2]; omega, fun l hl => ?_⟩
    obtain ⟨l0, h0, rfl⟩ := List.mem_map.1 hl
    have h1 := hPm2 x hx l0 h0
    have h2 := lineL_len (svL ns R me) l0
    omega
  have hln : PartsLent Y := fun y hy => by
    obtain ⟨x, hx, e⟩ := hYin y hy
    refine ⟨?_, fun n c e2 => ?_⟩
    · rw [e]
      have h1 := hPs.2 x hx
      show (x.ls.map (lineL (svL ns R me))).length ≤ 100000
      rw [List.length_map]; exact h1
    · obtain ⟨j, hj⟩ := List.getElem?_of_mem hy
      have ho := hY.ls j y hj
      rw [e2] at ho
      rcases ho.2 with ⟨e3, _⟩ | ⟨g, cap, cur, e3, _⟩
      · cases e3; exact ⟨rfl, rfl⟩
      · cases e3
  have cw := write_yes A4 c4 Y w4 hY4 hYl3 hsm hln (by rw [hYe]; exact hYR)
  rw [hYe] at cw
  have HVl2 := Lib.hid (show (joinL (writeP (hideP (svL ns R me) P))).length ≤ T.length + 1 from by
    have := HVl.out
    rw [HV.out] at this
    exact this)
  have HW := Lib.hid (show veilL (svL ns R me) doc.data.toList = joinL (writeP (hideP (svL ns R me) P)) from HV.out)
  clear b4 hY hY4 ce hYin hsm hln hin hPm2 hYl hYl2
  generalize writeP (hideP (svL ns R me) P) = Ws at *
  go_wp2_with fail
  refine cw.mono ?_
  rintro e w5 ⟨v5, rfl, hown5, b5⟩
  obtain ⟨A5, c5, rfl, hr5, _⟩ := RowOf.own hown5
  have HB5 := Lib.hid (HB4.out.then b5)
  have cj := join_any A5 c5 Ws w5 hr5 (by have := HVl2.out; omega)
  clear b5 hown5 hr5 cw
  go_wp2_with fail
  refine cj.mono ?_
  rintro e w6 ⟨rfl, b6⟩
  go_wp2
  go_ret
  exact ⟨by rw [HW.out]; rfl, HB5.out.then b6⟩
theorem veil_nil (w : World) (doc : ByteArray) : Calls Tryz.prog 10 #[.pointer none, .string doc] w fun e w' => e = .returned (.string ⟨#[]⟩) ∧ Below w.heap.size w w' := by
  have cn := isNone_nil w
  go_enter Tryz.func10, Tryz.ntmps10
  go_wp2_with fail
  refine cn.mono ?_
  rintro e w1 ⟨rfl, rfl⟩
  go_wp2
  go_ret
  exact ⟨rfl, Below.refl _ _⟩
theorem line_nil (w : World) (l : ByteArray) (v : Value) : Calls Tryz.prog 11 #[.pointer none, .string l, v] w fun e w' => e = .returned (.string ⟨#[]⟩) ∧ Below w.heap.size w w' := by
  have cn := isNone_nil w
  go_enter Tryz.func11, Tryz.ntmps11
  go_wp2_with fail
  refine cn.mono ?_
  rintro e w1 ⟨rfl, rfl⟩
  go_wp2
  go_ret
  exact ⟨rfl, Below.refl _ _⟩
end

end Go.Proofs.YtkcmhdkhdjmjeaaGreatDoor
