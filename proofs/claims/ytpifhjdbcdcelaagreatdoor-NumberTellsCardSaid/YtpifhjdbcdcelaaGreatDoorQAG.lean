/- Texts joined: BkTS NuY. -/
import Derived.Test.YtpifhjdbcdcelaaGreatDoorQAF
import Derived.Test.YtpifhjdbcdcelaaGreatDoorQAE
import Derived.Test.YtpifhjdbcdcelaaGreatDoorQAD
import Derived.Test.YtpifhjdbcdcelaaGreatDoorRows
import Derived.LaidMore
import Derived.Lay
import Derived.SevenTiedAt
import Derived.Stop.Joined
import Derived.PinnedBridge
import Derived.Lib.LaidU8
namespace Go.Proofs.YtpifhjdbcdcelaaGreatDoor
open Go.RowKit
set_option linter.unusedSimpArgs false
set_option linter.unusedVariables false
variable {r r' : Nat → Value}
def rS (stv suv : Value) : Nat → Value := fun i => if i = 12 then stv else if i = 13 then suv else .slice none 0 0
def rT (tv uv : Value) : Nat → Value := fun i => if i = 0 then tv else if i = 1 then uv else .slice none 0 0
theorem two_cells (tv uv stv suv : Value) : sbookCells stv suv (rT tv uv) = bookCells tv uv (rS stv suv) := rfl
theorem nil_cells (tv uv : Value) : sbookCells (.slice none 0 0) (.slice none 0 0) (rT tv uv) = bookCells tv uv := rfl
theorem BookIs.reblk {w w' : World} {B b : Nat} {tv uv : Value} {vs us : List Value} {lss : List (List (List UInt8))} (h : BookIs w B b tv uv vs us lss r) (hk : TKept stkL w w') (hb : w'.heap[b]? = some (.cells (bookCells tv uv r') 36 (0, 0))) : BookIs w' B b tv uv vs us lss r' :=
  ⟨hb, h.base, hk.row h.tvs (by decide), hk.row h.uvs (by decide), h.ne, ⟨h.tl.1, fun i v ls hv hl => hk.row (h.tl.2 i v ls hv hl) (by decide)⟩, ⟨h.ul.1, fun i v ls hv hl => hk.row (h.ul.2 i v ls hv hl) (by decide)⟩, h.dist⟩
theorem BookV.reblk {w w' : World} {B b : Nat} {tv uv : Value} {vs : List Value} {f : Nat → List (List UInt8)} (h : BookV w B b tv uv vs f r) (hk : TKept stkE w w') (hb : w'.heap[b]? = some (.cells (bookCells tv uv r') 36 (0, 0))) : BookV w' B b tv uv vs f r' :=
  ⟨hb, h.base, hk.row h.tvs (by decide), fun i v hv => hk.row (h.tl i v hv) (by decide), h.dist⟩
theorem SBookV.reblk {w w' : World} {B b : Nat} {tv uv : Value} {vs : List Value} {f : Nat → List Sctn} (h : SBookV w B b tv uv vs f r) (hk : TKept tkE w w') (hb : w'.heap[b]? = some (.cells (sbookCells tv uv r') 36 (0, 0))) : SBookV w' B b tv uv vs f r' :=
  ⟨hb, h.base, hk.row h.tvs (by decide), fun i v hv => hk.row (h.tl i v hv) (by decide), h.dist⟩
theorem GrowSt.marked2 {w0 w w' : World} {B b : Nat} {tv uv ov : Value} {vs gs : List Value} {f : Nat → List (List UInt8)} {m : Nat} (h : GrowSt w0 w B b tv uv ov vs gs f m r) (hk : TKept stkE w w') (hf : ∀ i, i < vs.length → f i = marks i 0 (f i).length ∧ (f i).length ≤ 100000) (hm : m = vs.length) :
    Marked w' vs ∧ Marked w' gs := by
  have hs : StrKept w w' := fun g cs fz hg => hk g cs _ fz hg (by decide)
  constructor
  · intro i v hv
    have hi := (List.getElem?_eq_some_iff.1 hv).1
    obtain ⟨e, hl⟩ := hf i hi
    obtain ⟨A, c, rfl, hr⟩ := ((h.seen i v hv).str hs).row
    rw [e, strs_length, marks_length]
    rw [e] at hr
    exact ⟨A, _, c, rfl, by omega, hr⟩
  · intro i v hv
    have hi := (List.getElem?_eq_some_iff.1 hv).1
    have hgl : gs.length = m := by have := h.ovs.1; omega
    obtain ⟨e, hl⟩ := hf i (by omega)
    obtain ⟨A, c, rfl, hr⟩ := ((h.outs i v hv).str hs).row
    rw [strs_length, marks_length]
    exact ⟨A, _, c, rfl, by omega, hr⟩
set_option maxHeartbeats 8000000 in
set_option maxRecDepth 100000 in
theorem apartTS_any (B b : Nat) (tv uv stv suv : Value) (vs us svs sus : List Value) (lss : List (List (List UInt8))) (slss : List (List Sctn)) (w : World) (hB : B ≤ w.heap.size) (h : BookIs w B b tv uv vs us lss (rS stv suv)) (hs : SBookIs w B b stv suv svs sus slss (rT tv uv)) (hm : vs.length ≤ 1000) (hsm : svs.length ≤ 1000) (hl : ∀ ls ∈ lss, ls.length ≤ 100000) (hsl : ∀ ls ∈ slss, ls.length ≤ 100000) :
    Calls Tryz.prog 15 #[.pointer (some ⟨b, 0, none⟩)] w fun e w' => e = .returned (.bool true) ∧ Below B w w' := by
  have c1 := stillTexts_any B b tv uv vs us lss w h hm
  have C1 := Lib.hid c1
  have HV0 := Lib.hid h.toV
  have HS0 := Lib.hid hs
  have hfl : ∀ i, (lss.getD i []).length ≤ 100000 := by
    intro i
    rw [List.getD_eq_getElem?_getD]
    cases hi : lss[i]? with
    | none => simp
    | some x => exact hl x (List.mem_of_getElem? hi)
  have hsfl : ∀ i, (slss.getD i []).length ≤ 100000 := by
    intro i
    rw [List.getD_eq_getElem?_getD]
    cases hi : slss[i]? with
    | none => simp
    | some x => exact hsl x (List.mem_of_getElem? hi)
  have HFL := Lib.hid hfl
  have HSFL := Lib.hid hsfl
  clear c1 h hs hfl hsfl hl hsl
  go_enter Tryz.func15, Tryz.ntmps15
  go_wp2_with fail
  refine C1.out.mono ?_
  rintro e w' ⟨rfl, n, rfl⟩
  have HV1 := Lib.hid (HV0.out.below (w' := w.drewN n) (below_drewN' (Below.refl _ _) n))
  have HS1 := Lib.hid (HS0.out.heap (w := w) (w' := w.drewN n) rfl)
  have HB1 := Lib.hid (below_drewN' (Below.refl B w) n)
  have hB1 : B ≤ (w.drewN n).heap.size := hB
  clear HV0 HS0 C1
  generalize w.drewN n = w1 at *
  have hc2 : w1.cell? ⟨b, 2, none⟩ = some (.slice none 0 0) := (cell_of_row w1 b 2 _ _ (0, 0) HV1.out.blk).trans rfl
  have hc4 : w1.cell? ⟨b, 4, none⟩ = some (.slice none 0 0) := (cell_of_row w1 b 4 _ _ (0, 0) HV1.out.blk).trans rfl
  have hc6 : w1.cell? ⟨b, 6, none⟩ = some (.slice none 0 0) := (cell_of_row w1 b 6 _ _ (0, 0) HV1.out.blk).trans rfl
  have hc8 : w1.cell? ⟨b, 8, none⟩ = some (.slice none 0 0) := (cell_of_row w1 b 8 _ _ (0, 0) HV1.out.blk).trans rfl
  have hc10 : w1.cell? ⟨b, 10, none⟩ = some (.slice none 0 0) := (cell_of_row w1 b 10 _ _ (0, 0) HV1.out.blk).trans rfl
  have hc14 : w1.cell? ⟨b, 14, none⟩ = some (.slice none 0 0) := (cell_of_row w1 b 14 _ _ (0, 0) HV1.out.blk).trans rfl
  go_wp2_with (first | (go_at_call 27; refine (stillInts_none b _ (by assumption)).mono ?_; rintro e w' ⟨rfl, rfl⟩) | (go_at_call 28; refine (stillBlocks_none b _ (by assumption)).mono ?_; rintro e w' ⟨rfl, rfl⟩) | (go_at_call 29; refine (stillInls_none b _ (by assumption)).mono ?_; rintro e w' ⟨rfl, rfl⟩) | (go_at_call 30; refine (stillParts_none b _ (by assumption)).mono ?_; rintro e w' ⟨rfl, rfl⟩) | (go_at_call 31; refine (stillDefs_none b _ (by assumption)).mono ?_; rintro e w' ⟨rfl, rfl⟩))
  clear hc2 hc4 hc6 hc8 hc10 hc14
  refine (stillSecs_any B b stv suv svs sus slss w1 HS1.out hsm).mono ?_
  rintro e w' ⟨rfl, n, rfl⟩
  have HV2 := Lib.hid (HV1.out.below (w' := w1.drewN n) (below_drewN' (Below.refl _ _) n))
  have HS2 := Lib.hid (HS1.out.heap (w := w1) (w' := w1.drewN n) rfl).toV
  have HB2 := Lib.hid (below_drewN' HB1.out n)
  have hB2 : B ≤ (w1.drewN n).heap.size := hB1
  clear HV1 HS1 HB1
  generalize w1.drewN n = w2 at *
  have hc2 : w2.cell? ⟨b, 2, none⟩ = some (.slice none 0 0) := (cell_of_row w2 b 2 _ _ (0, 0) HV2.out.blk).trans rfl
  have hc4 : w2.cell? ⟨b, 4, none⟩ = some (.slice none 0 0) := (cell_of_row w2 b 4 _ _ (0, 0) HV2.out.blk).trans rfl
  have hc6 : w2.cell? ⟨b, 6, none⟩ = some (.slice none 0 0) := (cell_of_row w2 b 6 _ _ (0, 0) HV2.out.blk).trans rfl
  have hc8 : w2.cell? ⟨b, 8, none⟩ = some (.slice none 0 0) := (cell_of_row w2 b 8 _ _ (0, 0) HV2.out.blk).trans rfl
  have hc10 : w2.cell? ⟨b, 10, none⟩ = some (.slice none 0 0) := (cell_of_row w2 b 10 _ _ (0, 0) HV2.out.blk).trans rfl
  have hc14 : w2.cell? ⟨b, 14, none⟩ = some (.slice none 0 0) := (cell_of_row w2 b 14 _ _ (0, 0) HV2.out.blk).trans rfl
  go_wp2_with (first | (go_at_call 33; refine (stillDiags_none b _ (by assumption)).mono ?_; rintro e w' ⟨rfl, rfl⟩) | (go_at_call 34; refine (putParts_none b _ (by assumption)).mono ?_; rintro e w' ⟨rfl, rfl⟩))
  clear hc2 hc4 hc6 hc8 hc10 hc14
  refine (putTexts_anyK B b tv uv vs _ w2 hB2 HV2.out hm HFL.out).mono ?_
  rintro e w3 ⟨rfl, hv3, hb3, ht3⟩
  have HV3 := Lib.hid hv3
  have HS3 := Lib.hid (HS2.out.reblk ht3 (hv3.blk.trans (by rw [two_cells])))
  have HB3 := Lib.hid (HB2.out.trans hb3)
  have hB3 : B ≤ w3.heap.size := by have := hb3.size; omega
  clear hv3 hb3 ht3 HV2 HS2
  have hc2 : w3.cell? ⟨b, 2, none⟩ = some (.slice none 0 0) := (cell_of_row w3 b 2 _ _ (0, 0) HV3.out.blk).trans rfl
  have hc4 : w3.cell? ⟨b, 4, none⟩ = some (.slice none 0 0) := (cell_of_row w3 b 4 _ _ (0, 0) HV3.out.blk).trans rfl
  have hc6 : w3.cell? ⟨b, 6, none⟩ = some (.slice none 0 0) := (cell_of_row w3 b 6 _ _ (0, 0) HV3.out.blk).trans rfl
  have hc8 : w3.cell? ⟨b, 8, none⟩ = some (.slice none 0 0) := (cell_of_row w3 b 8 _ _ (0, 0) HV3.out.blk).trans rfl
  have hc10 : w3.cell? ⟨b, 10, none⟩ = some (.slice none 0 0) := (cell_of_row w3 b 10 _ _ (0, 0) HV3.out.blk).trans rfl
  have hc14 : w3.cell? ⟨b, 14, none⟩ = some (.slice none 0 0) := (cell_of_row w3 b 14 _ _ (0, 0) HV3.out.blk).trans rfl
  go_wp2_with (first | (go_at_call 36; refine (putInts_none b _ (by assumption)).mono ?_; rintro e w' ⟨rfl, rfl⟩) | (go_at_call 37; refine (putBlocks_none b _ (by assumption)).mono ?_; rintro e w' ⟨rfl, rfl⟩) | (go_at_call 38; refine (putInls_none b _ (by assumption)).mono ?_; rintro e w' ⟨rfl, rfl⟩) | (go_at_call 39; refine (putDefs_none b _ (by assumption)).mono ?_; rintro e w' ⟨rfl, rfl⟩))
  clear hc2 hc4 hc6 hc8 hc10 hc14
  refine (putSecs_anyK B b stv suv svs _ w3 hB3 HS3.out hsm HSFL.out).mono ?_
  rintro e w4 ⟨rfl, hv4, hb4, ht4⟩
  have HS4 := Lib.hid hv4
  have HV4 := Lib.hid (HV3.out.reblk ht4 (hv4.blk.trans (by rw [two_cells])))
  have HB4 := Lib.hid (HB3.out.trans hb4)
  have hB4 : B ≤ w4.heap.size := by have := hb4.size; omega
  clear hv4 hb4 ht4 HV3 HS3
  have hc2 : w4.cell? ⟨b, 2, none⟩ = some (.slice none 0 0) := (cell_of_row w4 b 2 _ _ (0, 0) HV4.out.blk).trans rfl
  have hc4 : w4.cell? ⟨b, 4, none⟩ = some (.slice none 0 0) := (cell_of_row w4 b 4 _ _ (0, 0) HV4.out.blk).trans rfl
  have hc6 : w4.cell? ⟨b, 6, none⟩ = some (.slice none 0 0) := (cell_of_row w4 b 6 _ _ (0, 0) HV4.out.blk).trans rfl
  have hc8 : w4.cell? ⟨b, 8, none⟩ = some (.slice none 0 0) := (cell_of_row w4 b 8 _ _ (0, 0) HV4.out.blk).trans rfl
  have hc10 : w4.cell? ⟨b, 10, none⟩ = some (.slice none 0 0) := (cell_of_row w4 b 10 _ _ (0, 0) HV4.out.blk).trans rfl
  have hc14 : w4.cell? ⟨b, 14, none⟩ = some (.slice none 0 0) := (cell_of_row w4 b 14 _ _ (0, 0) HV4.out.blk).trans rfl
  go_wp2_with (first | (go_at_call 41; refine (putDiags_none b _ (by assumption)).mono ?_; rintro e w' ⟨rfl, rfl⟩))
  clear hc2 hc4 hc6 hc8 hc10 hc14
  have hfm : ∀ i, i < vs.length → (if i < vs.length then marks i 0 (lss.getD i []).length else lss.getD i []) = marks i 0 (if i < vs.length then marks i 0 (lss.getD i []).length else lss.getD i []).length ∧ (if i < vs.length then marks i 0 (lss.getD i []).length else lss.getD i []).length ≤ 100000 := by
    intro i hi
    rw [if_pos hi, marks_length]
    exact ⟨rfl, HFL.out i⟩
  have hsfm : ∀ i, i < svs.length → (if i < svs.length then smarks i 0 (slss.getD i []).length else slss.getD i []) = smarks i 0 (if i < svs.length then smarks i 0 (slss.getD i []).length else slss.getD i []).length ∧ (if i < svs.length then smarks i 0 (slss.getD i []).length else slss.getD i []).length ≤ 100000 := by
    intro i hi
    rw [if_pos hi, smarks_length]
    exact ⟨rfl, HSFL.out i⟩
  have HFM := Lib.hid hfm
  have HSFM := Lib.hid hsfm
  clear hfm hsfm
  refine (growTexts_any B b tv uv vs _ w4 hB4 HV4.out hm HFM.out).mono ?_
  rintro e w5 ⟨ov, gs, rfl, hst⟩
  have HST := Lib.hid hst
  have HS5 := Lib.hid (HS4.out.reblk hst.tk (hst.blk.trans (by rw [two_cells])))
  have hB5 : B ≤ w5.heap.size := by have := hst.bel.size; omega
  have HB5 := Lib.hid (HB4.out.trans hst.bel)
  clear hst HS4 HV4
  have hc2 : w5.cell? ⟨b, 2, none⟩ = some (.slice none 0 0) := (cell_of_row w5 b 2 _ _ (0, 0) HST.out.blk).trans rfl
  have hc4 : w5.cell? ⟨b, 4, none⟩ = some (.slice none 0 0) := (cell_of_row w5 b 4 _ _ (0, 0) HST.out.blk).trans rfl
  have hc6 : w5.cell? ⟨b, 6, none⟩ = some (.slice none 0 0) := (cell_of_row w5 b 6 _ _ (0, 0) HST.out.blk).trans rfl
  have hc8 : w5.cell? ⟨b, 8, none⟩ = some (.slice none 0 0) := (cell_of_row w5 b 8 _ _ (0, 0) HST.out.blk).trans rfl
  have hc10 : w5.cell? ⟨b, 10, none⟩ = some (.slice none 0 0) := (cell_of_row w5 b 10 _ _ (0, 0) HST.out.blk).trans rfl
  have hc14 : w5.cell? ⟨b, 14, none⟩ = some (.slice none 0 0) := (cell_of_row w5 b 14 _ _ (0, 0) HST.out.blk).trans rfl
  go_wp2_with (first | (go_at_call 43; refine (growInts_none b _ (by assumption)).mono ?_; rintro e w' ⟨rfl, rfl⟩) | (go_at_call 44; refine (growBlocks_none b _ (by assumption)).mono ?_; rintro e w' ⟨rfl, rfl⟩) | (go_at_call 45; refine (growInls_none b _ (by assumption)).mono ?_; rintro e w' ⟨rfl, rfl⟩) | (go_at_call 46; refine (growParts_none b _ (by assumption)).mono ?_; rintro e w' ⟨rfl, rfl⟩) | (go_at_call 47; refine (growDefs_none b _ (by assumption)).mono ?_; rintro e w' ⟨rfl, rfl⟩))
  clear hc2 hc4 hc6 hc8 hc10 hc14
  refine (growSecs_any B b stv suv svs _ w5 hB5 HS5.out hsm HSFM.out).mono ?_
  rintro e w6 ⟨sov, sgs, rfl, hsst⟩
  have hblk6 : w6.heap[b]? = some (.cells (bookCells tv uv (rS stv suv)) 36 (0, 0)) := hsst.blk.trans (by rw [two_cells])
  have HMK := Lib.hid (HST.out.marked2 hsst.tk HFM.out rfl)
  have HSMK := Lib.hid (hsst.marked HSFM.out rfl)
  have hgl : gs.length = vs.length := by have := HST.out.ovs.1; omega
  have hsgl : sgs.length = svs.length := by have := hsst.ovs.1; omega
  have hov := hsst.tk.row HST.out.ovs (by decide)
  have htv := hsst.tk.row HST.out.tvs (by decide)
  have hsov := hsst.ovs
  have hstv := hsst.tvs
  rw [← hgl] at hov
  rw [← hsgl] at hsov
  obtain ⟨Ao, co, rfl, hro, _⟩ := RowOf.own hov
  obtain ⟨At, ct, rfl, hrt, _⟩ := RowOf.own htv
  obtain ⟨Aso, cso, rfl, hrso, _⟩ := RowOf.own hsov
  obtain ⟨Ast, cst, rfl, hrst, _⟩ := RowOf.own hstv
  have hgs : gs.length ≤ 1000 := by omega
  have hsgs : sgs.length ≤ 1000 := by omega
  have HB6 := Lib.hid (HB5.out.trans hsst.bel)
  have hs6 : B ≤ w6.heap.size := by have := HB6.out.size; omega
  clear hsst hgl hsgl hov htv hsov hstv HST HS5
  have hc2 : w6.cell? ⟨b, 2, none⟩ = some (.slice none 0 0) := (cell_of_row w6 b 2 _ _ (0, 0) hblk6).trans rfl
  have hc4 : w6.cell? ⟨b, 4, none⟩ = some (.slice none 0 0) := (cell_of_row w6 b 4 _ _ (0, 0) hblk6).trans rfl
  have hc6 : w6.cell? ⟨b, 6, none⟩ = some (.slice none 0 0) := (cell_of_row w6 b 6 _ _ (0, 0) hblk6).trans rfl
  have hc8 : w6.cell? ⟨b, 8, none⟩ = some (.slice none 0 0) := (cell_of_row w6 b 8 _ _ (0, 0) hblk6).trans rfl
  have hc10 : w6.cell? ⟨b, 10, none⟩ = some (.slice none 0 0) := (cell_of_row w6 b 10 _ _ (0, 0) hblk6).trans rfl
  have hc14 : w6.cell? ⟨b, 14, none⟩ = some (.slice none 0 0) := (cell_of_row w6 b 14 _ _ (0, 0) hblk6).trans rfl
  go_wp2_with (first | (go_at_call 49; refine (growDiags_none b _ (by assumption)).mono ?_; rintro e w' ⟨rfl, rfl⟩))
  clear hc2 hc4 hc6 hc8 hc10 hc14
  refine (markedTexts_any Ao co gs w6 hro HMK.out.2 hgs).mono ?_
  rintro e w7 ⟨rfl, b7⟩
  have hblk7 := (b7.block b (Array.getElem?_eq_some_iff.1 hblk6).1).trans hblk6
  have hc0 : w7.cell? ⟨b, 0, none⟩ = some (.slice At vs.length ct) := (cell_of_row w7 b 0 _ _ (0, 0) hblk7).trans rfl
  go_wp2_with fail
  refine (markedTexts_any At ct vs w7 (hrt.below b7) (HMK.out.1.below b7) hm).mono ?_
  rintro e w8 ⟨rfl, b8⟩
  have HB8 := Lib.hid (b7.then b8)
  have hblk8 := (HB8.out.block b (Array.getElem?_eq_some_iff.1 hblk6).1).trans hblk6
  clear hc0 b7 b8 hblk7
  have hc2 : w8.cell? ⟨b, 2, none⟩ = some (.slice none 0 0) := (cell_of_row w8 b 2 _ _ (0, 0) hblk8).trans rfl
  have hc4 : w8.cell? ⟨b, 4, none⟩ = some (.slice none 0 0) := (cell_of_row w8 b 4 _ _ (0, 0) hblk8).trans rfl
  have hc6 : w8.cell? ⟨b, 6, none⟩ = some (.slice none 0 0) := (cell_of_row w8 b 6 _ _ (0, 0) hblk8).trans rfl
  have hc8 : w8.cell? ⟨b, 8, none⟩ = some (.slice none 0 0) := (cell_of_row w8 b 8 _ _ (0, 0) hblk8).trans rfl
  have hc10 : w8.cell? ⟨b, 10, none⟩ = some (.slice none 0 0) := (cell_of_row w8 b 10 _ _ (0, 0) hblk8).trans rfl
  have hc14 : w8.cell? ⟨b, 14, none⟩ = some (.slice none 0 0) := (cell_of_row w8 b 14 _ _ (0, 0) hblk8).trans rfl
  go_wp2_with (first | (go_at_call 51; refine (markedInts_none _).mono ?_; rintro e w' ⟨rfl, rfl⟩) | (go_at_call 52; refine (markedBlocks_none _).mono ?_; rintro e w' ⟨rfl, rfl⟩) | (go_at_call 53; refine (markedInls_none _).mono ?_; rintro e w' ⟨rfl, rfl⟩) | (go_at_call 54; refine (markedParts_none _).mono ?_; rintro e w' ⟨rfl, rfl⟩) | (go_at_call 55; refine (markedDefs_none _).mono ?_; rintro e w' ⟨rfl, rfl⟩))
  clear hc2 hc4 hc6 hc8 hc10 hc14
  refine (markedSecs_any Aso cso sgs w8 (hrso.below HB8.out) (HSMK.out.2.below HB8.out) hsgs).mono ?_
  rintro e w9 ⟨rfl, b9⟩
  have HB9 := Lib.hid (HB8.out.then b9)
  have hblk9 := (b9.block b (Array.getElem?_eq_some_iff.1 hblk8).1).trans hblk8
  have hc12 : w9.cell? ⟨b, 12, none⟩ = some (.slice Ast svs.length cst) := (cell_of_row w9 b 12 _ _ (0, 0) hblk9).trans rfl
  clear b9 hblk8
  go_wp2_with fail
  refine (markedSecs_any Ast cst svs w9 (hrst.below HB9.out) (HSMK.out.1.below HB9.out) hsm).mono ?_
  rintro e w10 ⟨rfl, b10⟩
  have HB10 := Lib.hid (HB9.out.then b10)
  have hblk10 := (b10.block b (Array.getElem?_eq_some_iff.1 hblk9).1).trans hblk9
  clear b10 hblk9 hc12
  have hc2 : w10.cell? ⟨b, 2, none⟩ = some (.slice none 0 0) := (cell_of_row w10 b 2 _ _ (0, 0) hblk10).trans rfl
  have hc4 : w10.cell? ⟨b, 4, none⟩ = some (.slice none 0 0) := (cell_of_row w10 b 4 _ _ (0, 0) hblk10).trans rfl
  have hc6 : w10.cell? ⟨b, 6, none⟩ = some (.slice none 0 0) := (cell_of_row w10 b 6 _ _ (0, 0) hblk10).trans rfl
  have hc8 : w10.cell? ⟨b, 8, none⟩ = some (.slice none 0 0) := (cell_of_row w10 b 8 _ _ (0, 0) hblk10).trans rfl
  have hc10 : w10.cell? ⟨b, 10, none⟩ = some (.slice none 0 0) := (cell_of_row w10 b 10 _ _ (0, 0) hblk10).trans rfl
  have hc14 : w10.cell? ⟨b, 14, none⟩ = some (.slice none 0 0) := (cell_of_row w10 b 14 _ _ (0, 0) hblk10).trans rfl
  go_wp2_with (first | (go_at_call 57; refine (markedDiags_none _).mono ?_; rintro e w' ⟨rfl, rfl⟩))
  go_ret
  exact ⟨rfl, HB6.out.trans (HB10.out.mono hs6)⟩
end Go.Proofs.YtpifhjdbcdcelaaGreatDoor

namespace Go.Proofs.YtpifhjdbcdcelaaGreatDoor
open Go.ChangeShapes Go.WideShapes Go.ChangeAt Go.RowKit
set_option linter.unusedSimpArgs false
set_option linter.unusedVariables false
theorem u8extraN : U8Extra Tryz.prog Tryz.lays260_ren := { n3 := by kernel_rfl, n4 := by kernel_rfl, y3 := by kernel_rfl, y4 := by kernel_rfl, c5 := by kernel_rfl, c119 := by kernel_rfl, c138 := by kernel_rfl }
theorem accept_eqN : (Rows.laid_unicode_utf8_acceptRanges : DataW Unit) = Lib.acceptData := by kernel_rfl
theorem nut_of {W : World} (h : laidMetH Tryz.prog Rows.numberTellsRow.laid W) (hs : W.ShapedOpen Tryz.prog) : Tabs W := by
  rw [MakeChecks.laidMetH_plain _ _ _ (by kernel_rfl)] at h
  have h3 := Lib.laidMet.reads h (n := "unicode/utf8.first") (d := Rows.laid_unicode_utf8_first) (by simp [Rows.numberTellsRow])
  have h4 := Lib.laidMet.reads h (n := "unicode/utf8.acceptRanges") (d := Rows.laid_unicode_utf8_acceptRanges) (by simp [Rows.numberTellsRow])
  rw [accept_eqN] at h4
  rw [show Rows.laid_unicode_utf8_first = Lib.firstData from Pinned.utf8First_eq] at h3
  exact utf8Tabs_of_reads Tryz.lays260 u8extraN h3 h4
end Go.Proofs.YtpifhjdbcdcelaaGreatDoor
