/-
  The statements' book of lists: Apart, where it holds texts alone.
-/
import Derived.Test.YtggfllbaomfjhaaDoorBookI
namespace Go.Proofs.YtggfllbaomfjhaaDoor
open Go.RowKit
set_option linter.unusedSimpArgs false
set_option linter.unusedVariables false

theorem GrowSt.marked {w0 w : World} {B b : Nat} {tv uv ov : Value} {vs gs : List Value} {f : Nat → List (List UInt8)} {m : Nat} (h : GrowSt w0 w B b tv uv ov vs gs f m) (hf : ∀ i, i < vs.length → f i = marks i 0 (f i).length ∧ (f i).length ≤ 100000) (hm : m = vs.length) :
    Marked w vs ∧ Marked w gs := by
  constructor
  · intro i v hv
    have hi := (List.getElem?_eq_some_iff.1 hv).1
    obtain ⟨e, hl⟩ := hf i hi
    obtain ⟨A, c, rfl, hr⟩ := (h.seen i v hv).row
    rw [e, strs_length, marks_length]
    rw [e] at hr
    exact ⟨A, _, c, rfl, by omega, hr⟩
  · intro i v hv
    have hi := (List.getElem?_eq_some_iff.1 hv).1
    have hgl : gs.length = m := by have := h.ovs.1; omega
    obtain ⟨e, hl⟩ := hf i (by omega)
    obtain ⟨A, c, rfl, hr⟩ := (h.outs i v hv).row
    rw [strs_length, marks_length]
    exact ⟨A, _, c, rfl, by omega, hr⟩

set_option maxHeartbeats 4000000 in
set_option maxRecDepth 100000 in
theorem apart_any (B b : Nat) (tv uv : Value) (vs us : List Value) (lss : List (List (List UInt8))) (w : World) (hB : B ≤ w.heap.size) (h : BookIs w B b tv uv vs us lss) (hm : vs.length ≤ 1000) (hl : ∀ ls ∈ lss, ls.length ≤ 100000) :
    Calls Tryd.prog 17 #[.pointer (some ⟨b, 0, none⟩)] w fun e w' => e = .returned (.bool true) ∧ Below B w w' := by
  have c1 := stillTexts_any B b tv uv vs us lss w h hm
  have hv0 := h.toV
  have C1 := Lib.hid c1
  have HV0 := Lib.hid hv0
  clear c1 hv0
  go_enter Tryd.func17, Tryd.ntmps17
  go_wp2_with fail
  refine C1.out.mono ?_
  rintro e w' ⟨rfl, n, rfl⟩
  have HV1 := Lib.hid (HV0.out.below (w' := w.drewN n) (below_drewN' (Below.refl _ _) n))
  have HB1 := Lib.hid (below_drewN' (Below.refl B w) n)
  have hB1 : B ≤ (w.drewN n).heap.size := hB
  generalize w.drewN n = w1 at *
  have hc2 : w1.cell? ⟨b, 2, none⟩ = some (.slice none 0 0) := (cell_of_row w1 b 2 _ _ (0, 0) HV1.out.blk).trans rfl
  have hc4 : w1.cell? ⟨b, 4, none⟩ = some (.slice none 0 0) := (cell_of_row w1 b 4 _ _ (0, 0) HV1.out.blk).trans rfl
  have hc6 : w1.cell? ⟨b, 6, none⟩ = some (.slice none 0 0) := (cell_of_row w1 b 6 _ _ (0, 0) HV1.out.blk).trans rfl
  have hc8 : w1.cell? ⟨b, 8, none⟩ = some (.slice none 0 0) := (cell_of_row w1 b 8 _ _ (0, 0) HV1.out.blk).trans rfl
  have hc10 : w1.cell? ⟨b, 10, none⟩ = some (.slice none 0 0) := (cell_of_row w1 b 10 _ _ (0, 0) HV1.out.blk).trans rfl
  have hc12 : w1.cell? ⟨b, 12, none⟩ = some (.slice none 0 0) := (cell_of_row w1 b 12 _ _ (0, 0) HV1.out.blk).trans rfl
  have hc14 : w1.cell? ⟨b, 14, none⟩ = some (.slice none 0 0) := (cell_of_row w1 b 14 _ _ (0, 0) HV1.out.blk).trans rfl
  go_wp2_with (first | (go_at_call 24; refine (stillInts_none b _ (by assumption)).mono ?_; rintro e w' ⟨rfl, rfl⟩) | (go_at_call 25; refine (stillBlocks_none b _ (by assumption)).mono ?_; rintro e w' ⟨rfl, rfl⟩) | (go_at_call 26; refine (stillInls_none b _ (by assumption)).mono ?_; rintro e w' ⟨rfl, rfl⟩) | (go_at_call 27; refine (stillParts_none b _ (by assumption)).mono ?_; rintro e w' ⟨rfl, rfl⟩) | (go_at_call 28; refine (stillDefs_none b _ (by assumption)).mono ?_; rintro e w' ⟨rfl, rfl⟩) | (go_at_call 29; refine (stillSecs_none b _ (by assumption)).mono ?_; rintro e w' ⟨rfl, rfl⟩) | (go_at_call 30; refine (stillDiags_none b _ (by assumption)).mono ?_; rintro e w' ⟨rfl, rfl⟩) | (go_at_call 31; refine (putParts_none b _ (by assumption)).mono ?_; rintro e w' ⟨rfl, rfl⟩))
  have hfl : ∀ i, (lss.getD i []).length ≤ 100000 := by
    intro i
    rw [List.getD_eq_getElem?_getD]
    cases hi : lss[i]? with
    | none => simp
    | some x => exact hl x (List.mem_of_getElem? hi)
  have HFL := Lib.hid hfl
  clear hc2 hc4 hc6 hc8 hc10 hc12 hc14 hfl
  refine (putTexts_any B b tv uv vs _ w1 hB1 HV1.out hm HFL.out).mono ?_
  rintro e w2 ⟨rfl, hv2, hb2⟩
  have HV2 := Lib.hid hv2
  have HB2 := Lib.hid (HB1.out.trans hb2)
  have hB2 : B ≤ w2.heap.size := by have := hb2.size; omega
  clear hv2 hb2
  have hc2 : w2.cell? ⟨b, 2, none⟩ = some (.slice none 0 0) := (cell_of_row w2 b 2 _ _ (0, 0) HV2.out.blk).trans rfl
  have hc4 : w2.cell? ⟨b, 4, none⟩ = some (.slice none 0 0) := (cell_of_row w2 b 4 _ _ (0, 0) HV2.out.blk).trans rfl
  have hc6 : w2.cell? ⟨b, 6, none⟩ = some (.slice none 0 0) := (cell_of_row w2 b 6 _ _ (0, 0) HV2.out.blk).trans rfl
  have hc8 : w2.cell? ⟨b, 8, none⟩ = some (.slice none 0 0) := (cell_of_row w2 b 8 _ _ (0, 0) HV2.out.blk).trans rfl
  have hc10 : w2.cell? ⟨b, 10, none⟩ = some (.slice none 0 0) := (cell_of_row w2 b 10 _ _ (0, 0) HV2.out.blk).trans rfl
  have hc12 : w2.cell? ⟨b, 12, none⟩ = some (.slice none 0 0) := (cell_of_row w2 b 12 _ _ (0, 0) HV2.out.blk).trans rfl
  have hc14 : w2.cell? ⟨b, 14, none⟩ = some (.slice none 0 0) := (cell_of_row w2 b 14 _ _ (0, 0) HV2.out.blk).trans rfl
  go_wp2_with (first | (go_at_call 33; refine (putInts_none b _ (by assumption)).mono ?_; rintro e w' ⟨rfl, rfl⟩) | (go_at_call 34; refine (putBlocks_none b _ (by assumption)).mono ?_; rintro e w' ⟨rfl, rfl⟩) | (go_at_call 35; refine (putInls_none b _ (by assumption)).mono ?_; rintro e w' ⟨rfl, rfl⟩) | (go_at_call 31; refine (putParts_none b _ (by assumption)).mono ?_; rintro e w' ⟨rfl, rfl⟩) | (go_at_call 36; refine (putDefs_none b _ (by assumption)).mono ?_; rintro e w' ⟨rfl, rfl⟩) | (go_at_call 37; refine (putSecs_none b _ (by assumption)).mono ?_; rintro e w' ⟨rfl, rfl⟩) | (go_at_call 38; refine (putDiags_none b _ (by assumption)).mono ?_; rintro e w' ⟨rfl, rfl⟩))
  have hfm : ∀ i, i < vs.length → (if i < vs.length then marks i 0 (lss.getD i []).length else lss.getD i []) = marks i 0 (if i < vs.length then marks i 0 (lss.getD i []).length else lss.getD i []).length ∧ (if i < vs.length then marks i 0 (lss.getD i []).length else lss.getD i []).length ≤ 100000 := by
    intro i hi
    rw [if_pos hi, marks_length]
    exact ⟨rfl, HFL.out i⟩
  have HFM := Lib.hid hfm
  clear hc2 hc4 hc6 hc8 hc10 hc12 hc14 hfm
  refine (growTexts_any B b tv uv vs _ w2 hB2 HV2.out hm HFM.out).mono ?_
  rintro e w3 ⟨ov, gs, rfl, hst⟩
  have HST := Lib.hid hst
  have HMK := Lib.hid (hst.marked HFM.out rfl)
  have hgl : gs.length = vs.length := by have := hst.ovs.1; omega
  rw [← hgl] at hst
  obtain ⟨Ao, co, rfl, hro, _⟩ := RowOf.own hst.ovs
  have HGL := Lib.hid hgl
  have hgs : gs.length ≤ 1000 := by omega
  clear hst hgl
  have hc2 : w3.cell? ⟨b, 2, none⟩ = some (.slice none 0 0) := (cell_of_row w3 b 2 _ _ (0, 0) HST.out.blk).trans rfl
  have hc4 : w3.cell? ⟨b, 4, none⟩ = some (.slice none 0 0) := (cell_of_row w3 b 4 _ _ (0, 0) HST.out.blk).trans rfl
  have hc6 : w3.cell? ⟨b, 6, none⟩ = some (.slice none 0 0) := (cell_of_row w3 b 6 _ _ (0, 0) HST.out.blk).trans rfl
  have hc8 : w3.cell? ⟨b, 8, none⟩ = some (.slice none 0 0) := (cell_of_row w3 b 8 _ _ (0, 0) HST.out.blk).trans rfl
  have hc10 : w3.cell? ⟨b, 10, none⟩ = some (.slice none 0 0) := (cell_of_row w3 b 10 _ _ (0, 0) HST.out.blk).trans rfl
  have hc12 : w3.cell? ⟨b, 12, none⟩ = some (.slice none 0 0) := (cell_of_row w3 b 12 _ _ (0, 0) HST.out.blk).trans rfl
  have hc14 : w3.cell? ⟨b, 14, none⟩ = some (.slice none 0 0) := (cell_of_row w3 b 14 _ _ (0, 0) HST.out.blk).trans rfl
  go_wp2_with (first | (go_at_call 40; refine (growInts_none b _ (by assumption)).mono ?_; rintro e w' ⟨rfl, rfl⟩) | (go_at_call 41; refine (growBlocks_none b _ (by assumption)).mono ?_; rintro e w' ⟨rfl, rfl⟩) | (go_at_call 42; refine (growInls_none b _ (by assumption)).mono ?_; rintro e w' ⟨rfl, rfl⟩) | (go_at_call 43; refine (growParts_none b _ (by assumption)).mono ?_; rintro e w' ⟨rfl, rfl⟩) | (go_at_call 44; refine (growDefs_none b _ (by assumption)).mono ?_; rintro e w' ⟨rfl, rfl⟩) | (go_at_call 45; refine (growSecs_none b _ (by assumption)).mono ?_; rintro e w' ⟨rfl, rfl⟩) | (go_at_call 46; refine (growDiags_none b _ (by assumption)).mono ?_; rintro e w' ⟨rfl, rfl⟩))
  clear hc2 hc4 hc6 hc8 hc10 hc12 hc14
  refine (markedTexts_any Ao co gs w3 hro HMK.out.2 hgs).mono ?_
  rintro e w4 ⟨rfl, b4⟩
  have hblk4 := (b4.block b (Array.getElem?_eq_some_iff.1 HST.out.blk).1).trans HST.out.blk
  obtain ⟨At, ct, rfl, hrt, _⟩ := RowOf.own HST.out.tvs
  have hc0 : w4.cell? ⟨b, 0, none⟩ = some (.slice At vs.length ct) := (cell_of_row w4 b 0 _ _ (0, 0) hblk4).trans rfl
  have HK4 := Lib.hid hblk4
  clear hblk4
  go_wp2_with fail
  refine (markedTexts_any At ct vs w4 (hrt.below b4) (HMK.out.1.below b4) hm).mono ?_
  rintro e w5 ⟨rfl, b5⟩
  have HK5 := Lib.hid ((b5.block b (Array.getElem?_eq_some_iff.1 HK4.out).1).trans HK4.out)
  clear hc0
  have hc2 : w5.cell? ⟨b, 2, none⟩ = some (.slice none 0 0) := (cell_of_row w5 b 2 _ _ (0, 0) HK5.out).trans rfl
  have hc4 : w5.cell? ⟨b, 4, none⟩ = some (.slice none 0 0) := (cell_of_row w5 b 4 _ _ (0, 0) HK5.out).trans rfl
  have hc6 : w5.cell? ⟨b, 6, none⟩ = some (.slice none 0 0) := (cell_of_row w5 b 6 _ _ (0, 0) HK5.out).trans rfl
  have hc8 : w5.cell? ⟨b, 8, none⟩ = some (.slice none 0 0) := (cell_of_row w5 b 8 _ _ (0, 0) HK5.out).trans rfl
  have hc10 : w5.cell? ⟨b, 10, none⟩ = some (.slice none 0 0) := (cell_of_row w5 b 10 _ _ (0, 0) HK5.out).trans rfl
  have hc12 : w5.cell? ⟨b, 12, none⟩ = some (.slice none 0 0) := (cell_of_row w5 b 12 _ _ (0, 0) HK5.out).trans rfl
  have hc14 : w5.cell? ⟨b, 14, none⟩ = some (.slice none 0 0) := (cell_of_row w5 b 14 _ _ (0, 0) HK5.out).trans rfl
  go_wp2_with (first | (go_at_call 48; refine (markedInts_none _).mono ?_; rintro e w' ⟨rfl, rfl⟩) | (go_at_call 49; refine (markedBlocks_none _).mono ?_; rintro e w' ⟨rfl, rfl⟩) | (go_at_call 50; refine (markedInls_none _).mono ?_; rintro e w' ⟨rfl, rfl⟩) | (go_at_call 51; refine (markedParts_none _).mono ?_; rintro e w' ⟨rfl, rfl⟩) | (go_at_call 52; refine (markedDefs_none _).mono ?_; rintro e w' ⟨rfl, rfl⟩) | (go_at_call 53; refine (markedSecs_none _).mono ?_; rintro e w' ⟨rfl, rfl⟩) | (go_at_call 54; refine (markedDiags_none _).mono ?_; rintro e w' ⟨rfl, rfl⟩))
  go_ret
  have s1 := HST.out.bel.size
  have s4 := b4.size
  exact ⟨rfl, ((HB2.out.trans HST.out.bel).trans (b4.mono (by omega))).trans (b5.mono (by omega))⟩

end Go.Proofs.YtggfllbaomfjhaaDoor
