/-
  The statements' book of lists: Apart, where it holds one kind alone (Defs).
  The statements' book of definitions: copyDefs; Defs: one list more.
-/
import Derived.Test.YtioolcnoiaoflaaGreatDoorDfA
import Derived.Test.YtioolcnoiaoflaaGreatDoorDfZ
import Derived.Laws.AppendOwnNone
import Derived.Deep.AppendLies
import Derived.Deep.RegionLaw
namespace Go.Proofs.YtioolcnoiaoflaaGreatDoor
open Go.RowKit
set_option linter.unusedSimpArgs false
set_option linter.unusedVariables false

theorem DGrowSt.marked {w0 w : World} {B b : Nat} {tv uv ov : Value} {vs gs : List Value} {f : Nat → List Dfn} {m : Nat} (h : DGrowSt w0 w B b tv uv ov vs gs f m) (hf : ∀ i, i < vs.length → f i = dmarks i 0 (f i).length ∧ (f i).length ≤ 100000) (hm : m = vs.length) :
    DMarked w vs ∧ DMarked w gs := by
  constructor
  · intro i v hv
    have hi := (List.getElem?_eq_some_iff.1 hv).1
    obtain ⟨e, hl⟩ := hf i hi
    obtain ⟨A, c, rfl, hr⟩ := (h.seen i v hv).row
    rw [e, dmarks_length]
    rw [e] at hr
    exact ⟨A, _, c, rfl, by omega, hr⟩
  · intro i v hv
    have hi := (List.getElem?_eq_some_iff.1 hv).1
    have hgl : gs.length = m := by have := h.ovs.1; omega
    obtain ⟨e, hl⟩ := hf i (by omega)
    obtain ⟨A, c, rfl, hr⟩ := (h.outs i v hv).row
    rw [dmarks_length]
    exact ⟨A, _, c, rfl, by omega, hr⟩

set_option maxHeartbeats 4000000 in
set_option maxRecDepth 100000 in
theorem dapart_any (B b : Nat) (tv uv : Value) (vs us : List Value) (lss : List (List Dfn)) (w : World) (hB : B ≤ w.heap.size) (h : DBookIs w B b tv uv vs us lss) (hm : vs.length ≤ 1000) (hl : ∀ ls ∈ lss, ls.length ≤ 100000) :
    Calls Tryz.prog 14 #[.pointer (some ⟨b, 0, none⟩)] w fun e w' => e = .returned (.bool true) ∧ Below B w w' := by
  have c1 := stillDefs_any B b tv uv vs us lss w h hm
  have hv0 := h.toV
  have C1 := Lib.hid c1
  have HV0 := Lib.hid hv0
  have hc0 : w.cell? ⟨b, 0, none⟩ = some (.slice none 0 0) := (cell_of_row w b 0 _ _ (0, 0) h.blk).trans rfl
  have hc2 : w.cell? ⟨b, 2, none⟩ = some (.slice none 0 0) := (cell_of_row w b 2 _ _ (0, 0) h.blk).trans rfl
  have hc4 : w.cell? ⟨b, 4, none⟩ = some (.slice none 0 0) := (cell_of_row w b 4 _ _ (0, 0) h.blk).trans rfl
  have hc6 : w.cell? ⟨b, 6, none⟩ = some (.slice none 0 0) := (cell_of_row w b 6 _ _ (0, 0) h.blk).trans rfl
  have hc8 : w.cell? ⟨b, 8, none⟩ = some (.slice none 0 0) := (cell_of_row w b 8 _ _ (0, 0) h.blk).trans rfl
  have hc12 : w.cell? ⟨b, 12, none⟩ = some (.slice none 0 0) := (cell_of_row w b 12 _ _ (0, 0) h.blk).trans rfl
  have hc14 : w.cell? ⟨b, 14, none⟩ = some (.slice none 0 0) := (cell_of_row w b 14 _ _ (0, 0) h.blk).trans rfl
  clear c1 hv0
  go_enter Tryz.func14, Tryz.ntmps14
  go_wp2_with (first | (go_at_call 33; refine (stillTexts_none b _ (by assumption)).mono ?_; rintro e w' ⟨rfl, rfl⟩) | (go_at_call 34; refine (stillInts_none b _ (by assumption)).mono ?_; rintro e w' ⟨rfl, rfl⟩) | (go_at_call 35; refine (stillBlocks_none b _ (by assumption)).mono ?_; rintro e w' ⟨rfl, rfl⟩) | (go_at_call 36; refine (stillInls_none b _ (by assumption)).mono ?_; rintro e w' ⟨rfl, rfl⟩) | (go_at_call 37; refine (stillParts_none b _ (by assumption)).mono ?_; rintro e w' ⟨rfl, rfl⟩) | (go_at_call 39; refine (stillSecs_none b _ (by assumption)).mono ?_; rintro e w' ⟨rfl, rfl⟩) | (go_at_call 40; refine (stillDiags_none b _ (by assumption)).mono ?_; rintro e w' ⟨rfl, rfl⟩))
  clear hc0 hc2 hc4 hc6 hc8 hc12 hc14
  refine C1.out.mono ?_
  rintro e w' ⟨rfl, n, rfl⟩
  have HV1 := Lib.hid (HV0.out.below (w' := w.drewN n) (below_drewN' (Below.refl _ _) n))
  have HB1 := Lib.hid (below_drewN' (Below.refl B w) n)
  have hB1 : B ≤ (w.drewN n).heap.size := hB
  generalize w.drewN n = w1 at *
  have hc0 : w1.cell? ⟨b, 0, none⟩ = some (.slice none 0 0) := (cell_of_row w1 b 0 _ _ (0, 0) HV1.out.blk).trans rfl
  have hc2 : w1.cell? ⟨b, 2, none⟩ = some (.slice none 0 0) := (cell_of_row w1 b 2 _ _ (0, 0) HV1.out.blk).trans rfl
  have hc4 : w1.cell? ⟨b, 4, none⟩ = some (.slice none 0 0) := (cell_of_row w1 b 4 _ _ (0, 0) HV1.out.blk).trans rfl
  have hc6 : w1.cell? ⟨b, 6, none⟩ = some (.slice none 0 0) := (cell_of_row w1 b 6 _ _ (0, 0) HV1.out.blk).trans rfl
  have hc8 : w1.cell? ⟨b, 8, none⟩ = some (.slice none 0 0) := (cell_of_row w1 b 8 _ _ (0, 0) HV1.out.blk).trans rfl
  have hc12 : w1.cell? ⟨b, 12, none⟩ = some (.slice none 0 0) := (cell_of_row w1 b 12 _ _ (0, 0) HV1.out.blk).trans rfl
  have hc14 : w1.cell? ⟨b, 14, none⟩ = some (.slice none 0 0) := (cell_of_row w1 b 14 _ _ (0, 0) HV1.out.blk).trans rfl
  go_wp2_with (first | (go_at_call 33; refine (stillTexts_none b _ (by assumption)).mono ?_; rintro e w' ⟨rfl, rfl⟩) | (go_at_call 34; refine (stillInts_none b _ (by assumption)).mono ?_; rintro e w' ⟨rfl, rfl⟩) | (go_at_call 35; refine (stillBlocks_none b _ (by assumption)).mono ?_; rintro e w' ⟨rfl, rfl⟩) | (go_at_call 36; refine (stillInls_none b _ (by assumption)).mono ?_; rintro e w' ⟨rfl, rfl⟩) | (go_at_call 37; refine (stillParts_none b _ (by assumption)).mono ?_; rintro e w' ⟨rfl, rfl⟩) | (go_at_call 39; refine (stillSecs_none b _ (by assumption)).mono ?_; rintro e w' ⟨rfl, rfl⟩) | (go_at_call 40; refine (stillDiags_none b _ (by assumption)).mono ?_; rintro e w' ⟨rfl, rfl⟩) | (go_at_call 42; refine (putTexts_none b _ (by assumption)).mono ?_; rintro e w' ⟨rfl, rfl⟩) | (go_at_call 43; refine (putInts_none b _ (by assumption)).mono ?_; rintro e w' ⟨rfl, rfl⟩) | (go_at_call 44; refine (putBlocks_none b _ (by assumption)).mono ?_; rintro e w' ⟨rfl, rfl⟩) | (go_at_call 45; refine (putInls_none b _ (by assumption)).mono ?_; rintro e w' ⟨rfl, rfl⟩) | (go_at_call 41; refine (putParts_none b _ (by assumption)).mono ?_; rintro e w' ⟨rfl, rfl⟩) | (go_at_call 47; refine (putSecs_none b _ (by assumption)).mono ?_; rintro e w' ⟨rfl, rfl⟩) | (go_at_call 48; refine (putDiags_none b _ (by assumption)).mono ?_; rintro e w' ⟨rfl, rfl⟩))
  have hfl : ∀ i, (lss.getD i []).length ≤ 100000 := by
    intro i
    rw [List.getD_eq_getElem?_getD]
    cases hi : lss[i]? with
    | none => simp
    | some x => exact hl x (List.mem_of_getElem? hi)
  have HFL := Lib.hid hfl
  clear hc0 hc2 hc4 hc6 hc8 hc12 hc14 hfl
  refine (putDefs_any B b tv uv vs _ w1 hB1 HV1.out hm HFL.out).mono ?_
  rintro e w2 ⟨rfl, hv2, hb2⟩
  have HV2 := Lib.hid hv2
  have HB2 := Lib.hid (HB1.out.trans hb2)
  have hB2 : B ≤ w2.heap.size := by have := hb2.size; omega
  clear hv2 hb2
  have hc0 : w2.cell? ⟨b, 0, none⟩ = some (.slice none 0 0) := (cell_of_row w2 b 0 _ _ (0, 0) HV2.out.blk).trans rfl
  have hc2 : w2.cell? ⟨b, 2, none⟩ = some (.slice none 0 0) := (cell_of_row w2 b 2 _ _ (0, 0) HV2.out.blk).trans rfl
  have hc4 : w2.cell? ⟨b, 4, none⟩ = some (.slice none 0 0) := (cell_of_row w2 b 4 _ _ (0, 0) HV2.out.blk).trans rfl
  have hc6 : w2.cell? ⟨b, 6, none⟩ = some (.slice none 0 0) := (cell_of_row w2 b 6 _ _ (0, 0) HV2.out.blk).trans rfl
  have hc8 : w2.cell? ⟨b, 8, none⟩ = some (.slice none 0 0) := (cell_of_row w2 b 8 _ _ (0, 0) HV2.out.blk).trans rfl
  have hc12 : w2.cell? ⟨b, 12, none⟩ = some (.slice none 0 0) := (cell_of_row w2 b 12 _ _ (0, 0) HV2.out.blk).trans rfl
  have hc14 : w2.cell? ⟨b, 14, none⟩ = some (.slice none 0 0) := (cell_of_row w2 b 14 _ _ (0, 0) HV2.out.blk).trans rfl
  go_wp2_with (first | (go_at_call 42; refine (putTexts_none b _ (by assumption)).mono ?_; rintro e w' ⟨rfl, rfl⟩) | (go_at_call 43; refine (putInts_none b _ (by assumption)).mono ?_; rintro e w' ⟨rfl, rfl⟩) | (go_at_call 44; refine (putBlocks_none b _ (by assumption)).mono ?_; rintro e w' ⟨rfl, rfl⟩) | (go_at_call 45; refine (putInls_none b _ (by assumption)).mono ?_; rintro e w' ⟨rfl, rfl⟩) | (go_at_call 41; refine (putParts_none b _ (by assumption)).mono ?_; rintro e w' ⟨rfl, rfl⟩) | (go_at_call 47; refine (putSecs_none b _ (by assumption)).mono ?_; rintro e w' ⟨rfl, rfl⟩) | (go_at_call 48; refine (putDiags_none b _ (by assumption)).mono ?_; rintro e w' ⟨rfl, rfl⟩) | (go_at_call 49; refine (growTexts_none b _ (by assumption)).mono ?_; rintro e w' ⟨rfl, rfl⟩) | (go_at_call 50; refine (growInts_none b _ (by assumption)).mono ?_; rintro e w' ⟨rfl, rfl⟩) | (go_at_call 51; refine (growBlocks_none b _ (by assumption)).mono ?_; rintro e w' ⟨rfl, rfl⟩) | (go_at_call 52; refine (growInls_none b _ (by assumption)).mono ?_; rintro e w' ⟨rfl, rfl⟩) | (go_at_call 53; refine (growParts_none b _ (by assumption)).mono ?_; rintro e w' ⟨rfl, rfl⟩) | (go_at_call 55; refine (growSecs_none b _ (by assumption)).mono ?_; rintro e w' ⟨rfl, rfl⟩) | (go_at_call 56; refine (growDiags_none b _ (by assumption)).mono ?_; rintro e w' ⟨rfl, rfl⟩))
  have hfm : ∀ i, i < vs.length → (if i < vs.length then dmarks i 0 (lss.getD i []).length else lss.getD i []) = dmarks i 0 (if i < vs.length then dmarks i 0 (lss.getD i []).length else lss.getD i []).length ∧ (if i < vs.length then dmarks i 0 (lss.getD i []).length else lss.getD i []).length ≤ 100000 := by
    intro i hi
    rw [if_pos hi, dmarks_length]
    exact ⟨rfl, HFL.out i⟩
  have HFM := Lib.hid hfm
  clear hc0 hc2 hc4 hc6 hc8 hc12 hc14 hfm
  refine (growDefs_any B b tv uv vs _ w2 hB2 HV2.out hm HFM.out).mono ?_
  rintro e w3 ⟨ov, gs, rfl, hst⟩
  have HST := Lib.hid hst
  have HMK := Lib.hid (hst.marked HFM.out rfl)
  have hgl : gs.length = vs.length := by have := hst.ovs.1; omega
  rw [← hgl] at hst
  obtain ⟨Ao, co, rfl, hro, _⟩ := RowOf.own hst.ovs
  have HGL := Lib.hid hgl
  have hgs : gs.length ≤ 1000 := by omega
  clear hst hgl
  have hc0 : w3.cell? ⟨b, 0, none⟩ = some (.slice none 0 0) := (cell_of_row w3 b 0 _ _ (0, 0) HST.out.blk).trans rfl
  have hc2 : w3.cell? ⟨b, 2, none⟩ = some (.slice none 0 0) := (cell_of_row w3 b 2 _ _ (0, 0) HST.out.blk).trans rfl
  have hc4 : w3.cell? ⟨b, 4, none⟩ = some (.slice none 0 0) := (cell_of_row w3 b 4 _ _ (0, 0) HST.out.blk).trans rfl
  have hc6 : w3.cell? ⟨b, 6, none⟩ = some (.slice none 0 0) := (cell_of_row w3 b 6 _ _ (0, 0) HST.out.blk).trans rfl
  have hc8 : w3.cell? ⟨b, 8, none⟩ = some (.slice none 0 0) := (cell_of_row w3 b 8 _ _ (0, 0) HST.out.blk).trans rfl
  have hc12 : w3.cell? ⟨b, 12, none⟩ = some (.slice none 0 0) := (cell_of_row w3 b 12 _ _ (0, 0) HST.out.blk).trans rfl
  have hc14 : w3.cell? ⟨b, 14, none⟩ = some (.slice none 0 0) := (cell_of_row w3 b 14 _ _ (0, 0) HST.out.blk).trans rfl
  go_wp2_with (first | (go_at_call 49; refine (growTexts_none b _ (by assumption)).mono ?_; rintro e w' ⟨rfl, rfl⟩) | (go_at_call 50; refine (growInts_none b _ (by assumption)).mono ?_; rintro e w' ⟨rfl, rfl⟩) | (go_at_call 51; refine (growBlocks_none b _ (by assumption)).mono ?_; rintro e w' ⟨rfl, rfl⟩) | (go_at_call 52; refine (growInls_none b _ (by assumption)).mono ?_; rintro e w' ⟨rfl, rfl⟩) | (go_at_call 53; refine (growParts_none b _ (by assumption)).mono ?_; rintro e w' ⟨rfl, rfl⟩) | (go_at_call 55; refine (growSecs_none b _ (by assumption)).mono ?_; rintro e w' ⟨rfl, rfl⟩) | (go_at_call 56; refine (growDiags_none b _ (by assumption)).mono ?_; rintro e w' ⟨rfl, rfl⟩) | (go_at_call 57; refine (markedTexts_none _).mono ?_; rintro e w' ⟨rfl, rfl⟩) | (go_at_call 58; refine (markedInts_none _).mono ?_; rintro e w' ⟨rfl, rfl⟩) | (go_at_call 59; refine (markedBlocks_none _).mono ?_; rintro e w' ⟨rfl, rfl⟩) | (go_at_call 60; refine (markedInls_none _).mono ?_; rintro e w' ⟨rfl, rfl⟩) | (go_at_call 61; refine (markedParts_none _).mono ?_; rintro e w' ⟨rfl, rfl⟩) | (go_at_call 63; refine (markedSecs_none _).mono ?_; rintro e w' ⟨rfl, rfl⟩) | (go_at_call 64; refine (markedDiags_none _).mono ?_; rintro e w' ⟨rfl, rfl⟩))
  clear hc0 hc2 hc4 hc6 hc8 hc12 hc14
  refine (markedDefs_any Ao co gs w3 hro HMK.out.2 hgs).mono ?_
  rintro e w4 ⟨rfl, b4⟩
  have hblk4 := (b4.block b (Array.getElem?_eq_some_iff.1 HST.out.blk).1).trans HST.out.blk
  obtain ⟨At, ct, rfl, hrt, _⟩ := RowOf.own HST.out.tvs
  have hc10 : w4.cell? ⟨b, 10, none⟩ = some (.slice At vs.length ct) := (cell_of_row w4 b 10 _ _ (0, 0) hblk4).trans rfl
  have HK4 := Lib.hid hblk4
  clear hblk4
  go_wp2_with fail
  refine (markedDefs_any At ct vs w4 (hrt.below b4) (HMK.out.1.below b4) hm).mono ?_
  rintro e w5 ⟨rfl, b5⟩
  have HK5 := Lib.hid ((b5.block b (Array.getElem?_eq_some_iff.1 HK4.out).1).trans HK4.out)
  clear hc10
  have hc0 : w5.cell? ⟨b, 0, none⟩ = some (.slice none 0 0) := (cell_of_row w5 b 0 _ _ (0, 0) HK5.out).trans rfl
  have hc2 : w5.cell? ⟨b, 2, none⟩ = some (.slice none 0 0) := (cell_of_row w5 b 2 _ _ (0, 0) HK5.out).trans rfl
  have hc4 : w5.cell? ⟨b, 4, none⟩ = some (.slice none 0 0) := (cell_of_row w5 b 4 _ _ (0, 0) HK5.out).trans rfl
  have hc6 : w5.cell? ⟨b, 6, none⟩ = some (.slice none 0 0) := (cell_of_row w5 b 6 _ _ (0, 0) HK5.out).trans rfl
  have hc8 : w5.cell? ⟨b, 8, none⟩ = some (.slice none 0 0) := (cell_of_row w5 b 8 _ _ (0, 0) HK5.out).trans rfl
  have hc12 : w5.cell? ⟨b, 12, none⟩ = some (.slice none 0 0) := (cell_of_row w5 b 12 _ _ (0, 0) HK5.out).trans rfl
  have hc14 : w5.cell? ⟨b, 14, none⟩ = some (.slice none 0 0) := (cell_of_row w5 b 14 _ _ (0, 0) HK5.out).trans rfl
  go_wp2_with (first | (go_at_call 57; refine (markedTexts_none _).mono ?_; rintro e w' ⟨rfl, rfl⟩) | (go_at_call 58; refine (markedInts_none _).mono ?_; rintro e w' ⟨rfl, rfl⟩) | (go_at_call 59; refine (markedBlocks_none _).mono ?_; rintro e w' ⟨rfl, rfl⟩) | (go_at_call 60; refine (markedInls_none _).mono ?_; rintro e w' ⟨rfl, rfl⟩) | (go_at_call 61; refine (markedParts_none _).mono ?_; rintro e w' ⟨rfl, rfl⟩) | (go_at_call 63; refine (markedSecs_none _).mono ?_; rintro e w' ⟨rfl, rfl⟩) | (go_at_call 64; refine (markedDiags_none _).mono ?_; rintro e w' ⟨rfl, rfl⟩))
  go_ret
  have s1 := HST.out.bel.size
  have s4 := b4.size
  exact ⟨rfl, ((HB2.out.trans HST.out.bel).trans (b4.mono (by omega))).trans (b5.mono (by omega))⟩

end Go.Proofs.YtioolcnoiaoflaaGreatDoor

namespace Go.Proofs.YtioolcnoiaoflaaGreatDoor
open Go.RowKit
set_option linter.unusedSimpArgs false
set_option linter.unusedVariables false

theorem copyDefs_any (A : Option Addr) (cap : Nat) (ls : List Dfn) (w : World) (hrow : DefsAt w A cap ls) (hn : ls.length ≤ 1000000) :
    Calls Tryz.prog 32 #[.slice A ls.length cap] w fun e w' => ∃ v, e = .returned v ∧ w'.ownsRow w.heap.size 26 5 v ls.length (flt dfC ls) ∧ Below w.heap.size w w' := by
  obtain ⟨i0, hi, hz0, hz1, hz2⟩ := info_parts infoDef
  have hl := flt_length dfC_length ls
  have h1 := dfs_one ls
  rcases A with _ | ad
  · have h0 : ls = [] := by
      rcases hrow.cells with h | ⟨b, off, e, _⟩
      · exact h
      · cases e
    subst h0
    go_enter Tryz.func32, Tryz.ntmps32
    go_wp2
    go_ret
    exact ⟨_, rfl, World.ownsRow_nil _ _ _ _, Below.refl _ _⟩
  · have hc := hrow.flat dfC_length (by decide)
    have HL := Lib.hid hl
    clear hl
    go_enter Tryz.func32, Tryz.ntmps32
    go_wp2_with (at_builtin; refine wpList_append_own _ rfl _ _ 40 rfl w.heap.size 26 i0 (.agg #[.string ByteArray.empty, .string ByteArray.empty, .string ByteArray.empty, .string ByteArray.empty, .bool false]) 5 72 Tryz.underlying40 hi hz0 hz1 hz2 rfl (by decide) _ 0 [] rfl (World.ownsRow_nil _ _ _ _) ad ls.length cap (flt dfC ls) rfl HL.out hc h1 (by unfold maxLen; omega) (by omega) (Nat.le_refl _) ?_)
    intro v' w2 hown' hgrow _
    have hb := (Below.refl w.heap.size w).grown hgrow (Nat.le_refl _) (fun k hk => by simp [Value.ownBlock] at hk)
    have HO := Lib.hid hown'
    clear hown' hgrow
    go_wp2
    go_ret
    exact ⟨_, rfl, HO.out, hb⟩

theorem dcopy_at (B b : Nat) (A : Option Addr) (cap : Nat) (ls : List Dfn) (tv uv : Value) (us : List Value) (W : World) (hrow : DefsAt W A cap ls) (hl : ls.length ≤ 1000000)
    (hb : W.heap[b]? = some (.cells (dbookCells tv uv) 39 (0, 0))) (huv : W.ownsRow B 40 1 uv us.length us) :
    Calls Tryz.prog 32 #[.slice A ls.length cap] W.drew fun e w' => ∃ Au cu, e = .returned (.slice Au ls.length cu) ∧ w'.cell? ⟨b, 11, none⟩ = some uv ∧ (∀ o, (w'.alloc o).cell? ⟨b, 11, none⟩ = some uv) ∧ DCopyPost B b ls tv uv us W Au cu w' := by
  refine (copyDefs_any A cap ls W.drew (EltsAt.heap (w := W) (w' := W.drew) rfl hrow) hl).mono ?_
  rintro e w3 ⟨v, rfl, hown, hb3⟩
  obtain ⟨Au, cu, rfl, _⟩ := own_form hown
  have hb4 : Below W.heap.size W w3 := ⟨hb3.os, hb3.tape, hb3.output, hb3.size, hb3.block⟩
  have e1 := (hb4.block b (Array.getElem?_eq_some_iff.1 hb).1).trans hb
  exact ⟨Au, cu, rfl, (dbook_cell e1).1, fun o => (dbook_cell ((Below.heap_alloc w3 o b (Array.getElem?_eq_some_iff.1 e1).1).trans e1)).1, hb4, e1, ownsRow_below huv hb4, hown⟩



set_option maxHeartbeats 1000000 in
set_option maxRecDepth 100000 in
theorem defs_any (B b : Nat) (tv uv : Value) (vs us : List Value) (lss : List (List Dfn)) (A : Option Addr) (cap : Nat) (ls : List Dfn) (w : World) (hB : B ≤ w.heap.size)
    (h : DBookIs w B b tv uv vs us lss) (hown : w.ownsRow B 26 5 (.slice A ls.length cap) ls.length (flt dfC ls)) (hd : ∀ u ∈ vs ++ us, Apart (.slice A ls.length cap) u)
    (hm : vs.length < 250) (hl : ls.length ≤ 1000000) :
    Calls Tryz.prog 12 #[.pointer (some ⟨b, 0, none⟩), .slice A ls.length cap] w fun e w' => e = .returned (.tuple #[]) ∧
      (∃ tv' uv' u, DBookIs w' B b tv' uv' (vs ++ [.slice A ls.length cap]) (us ++ [u]) (lss ++ [ls]) ∧ ∀ g, u.ownBlock = some g → w.heap.size ≤ g) ∧ DStrKept w w' ∧ Below B w w' := by
  obtain ⟨i0, hi, hz0, hz1, hz2⟩ := info_parts dinfoSlice
  obtain ⟨At, ct, rfl, hrowt, _⟩ := RowOf.own h.tvs
  have hc0 : w.cell? ⟨b, 10, none⟩ = some (.slice At vs.length ct) := (h.cell 10).trans rfl
  have hbl := h.lt
  have htv := h.tvs
  have H := Lib.hid h
  have HD := Lib.hid hd
  have HO := Lib.hid hown
  clear h hd hown
  go_enter Tryz.func12, Tryz.ntmps12
  go_wp2_with (at_builtin; refine wpList_append_lies _ rfl _ _ 35 rfl B 40 i0 (.slice none 0 0) 1 24 Tryz.underlying35 hi hz0 hz1 hz2 rfl (by decide) _ _ _ rfl (htv.alloc _) ⟨w.heap.size, 0, none⟩ 1 1 [.slice A ls.length cap] rfl rfl ?c1 ?c2 (by omega) ?c3 ?c4 ?c5 _ rfl ?_)
  case c1 =>
    intro j u hj
    match j, hj with
    | 0, hj => simp at hj; subst hj; simp [Addr.add]
  case c2 => intro u hu; simp at hu; subst hu; rfl
  case c3 => unfold maxLen; omega
  case c4 => omega
  case c5 => simp; omega
  · intro g1 cap1 w1 hown1 hgrow hat hlt
    have hblk1 := dgrow_book H.out.blk htv hgrow
    have hc1 : w1.cell? ⟨b, 10, none⟩ = some (.slice At vs.length ct) := (cell_of_row w1 b 10 _ _ (0, 0) hblk1).trans rfl
    have hf1 : w1.frozen? ⟨b, 10, none⟩ = false := by simp [World.frozen?, hblk1]
    have hblk2 := dbook_set0 hblk1 (Value.slice (some ⟨g1, 0, none⟩) (vs.length + 1) cap1)
    have hs1 := hgrow.size
    have hsw : (w.alloc (.cells #[.slice A ls.length cap] 40)).heap.size = w.heap.size + 1 := by show (w.heap.push _).size = _; simp
    have hB2 : B ≤ w1.heap.size := by omega
    have hsk : DStrKept w (w1.setCell ⟨b, 10, none⟩ (Value.slice (some ⟨g1, 0, none⟩) (vs.length + 1) cap1)) := ((DStrKept.alloc w _).trans (DStrKept.grown (htv.alloc _) hgrow (by decide))).trans (DStrKept.setCell hblk1 (by decide) 10 _)
    have huv2 : (w1.setCell ⟨b, 10, none⟩ (Value.slice (some ⟨g1, 0, none⟩) (vs.length + 1) cap1)).ownsRow B 40 1 uv us.length us :=
      own_set ((H.out.uvs.alloc _).kept hgrow H.out.ne.symm.ne) hblk1 (by decide) 10 _
    have HG := Lib.hid hgrow
    have HW := Lib.hid hown1
    have HA := Lib.hid hat
    have HL := Lib.hid hlt
    clear hblk1 hgrow hown1 hat hlt hs1 hsw
    go_wp2
    obtain ⟨w2, hw2⟩ : ∃ w2, w2 = w1.setCell ⟨b, 10, none⟩ (Value.slice (some ⟨g1, 0, none⟩) (vs.length + 1) cap1) := ⟨_, rfl⟩
    rw [← hw2] at hblk2 hsk huv2 ⊢
    have hB3 : B ≤ w2.heap.size := by rw [hw2]; simp [World.setCell]; omega
    have hc2 := (dbook_cell hblk2).1
    have hf2 : w2.frozen? ⟨b, 11, none⟩ = false := by simp [World.frozen?, hblk2]
    have hus : us.length < 250 := by have h1 := H.out.tl.1; have h2 := H.out.ul.1; omega
    obtain ⟨Ar, cr, hlr, hrow⟩ := EltsAt.own dfC_length (hsk.row HO.out)
    cases hlr
    have HC := Lib.hid (dcopy_at B b A cap ls _ uv us w2 hrow hl hblk2 huv2)
    have HW2 := Lib.hid hw2
    clear hblk2 hsk huv2 hrow hw2
    go_region_law (first | (go_simp; go_at_call 32; refine HC.out.mono ?_; rintro e w3 ⟨Au, cu, rfl, hc3, hc5, hp3⟩) | (refine step_append_lies _ rfl (.tmp 24) (.tmp 27) _ rfl B 40 i0 (.slice none 0 0) 1 24 Tryz.underlying35 hi hz0 hz1 hz2 rfl (by decide) uv us.length us rfl (hp3.own.alloc _) ⟨w3.heap.size, 0, none⟩ 1 1 [.slice Au ls.length cu] rfl rfl (cells_one w3 _ _) (one_slice _ _ _) (by omega) (by unfold maxLen; omega) (by omega) (by have hs3 := hp3.below.size; simp; omega) _ rfl ?_; intro g4 cap4 w4 hown4 hgrow4 hat4 hlt4; have hblk4 := dgrow_book hp3.blk hp3.own hgrow4; have hc4 := (dbook_cell hblk4).1; have hf4 : w4.frozen? ⟨b, 11, none⟩ = false := by simp [World.frozen?, hblk4]))
    all_goals
      go_wp2
      go_end0
      exact ⟨rfl, dtexts_end B b _ uv vs us lss A cap ls w hB H.out HO.out HD.out _ w1 g1 cap1 HW.out HG.out HA.out HL.out w2 HW2.out w3 Au cu hp3 _ w4 g4 cap4 hown4 hgrow4 hat4⟩

end Go.Proofs.YtioolcnoiaoflaaGreatDoor
