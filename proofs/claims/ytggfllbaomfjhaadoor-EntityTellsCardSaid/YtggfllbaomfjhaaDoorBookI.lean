/-
  The statements' book of lists: growTexts: the walk.
-/
import Derived.Test.YtggfllbaomfjhaaDoorBookH
import Derived.Maps.Range
namespace Go.Proofs.YtggfllbaomfjhaaDoor
open Go.RowKit
set_option linter.unusedSimpArgs false
set_option linter.unusedVariables false

/-- One list while it is grown: it has N marks now. -/
structure GrowMid (w1 wr : World) (B : Nat) (v : Value) (k n N : Nat) (l : Value) : Prop where
  own : wr.ownsRow B 9 1 l N (strs (marks k 0 N))
  seen : Seen wr v (strs (marks k 0 n))
  grown : w1.grownBy wr v.ownBlock
  at_ : l.ownBlock = v.ownBlock ∨ ∃ g, l.ownBlock = some g ∧ w1.heap.size ≤ g
  ge : n ≤ N
  low : B ≤ wr.heap.size

theorem GrowMid.step {w1 wr w2 w3 : World} {B k n N m : Nat} {v l l' : Value} (h : GrowMid w1 wr B v k n N l) (hv : ∀ g, v.ownBlock = some g → g < w1.heap.size) (hb : Below wr.heap.size wr w2)
    (ho : w3.ownsRow B 9 1 l' (N + m) (strs (marks k 0 N) ++ strs (marks k N m))) (hg : Grew w2 w3 l l') : GrowMid w1 w3 B v k n (N + m) l' := by
  have s1 := h.grown.size
  have s2 := hb.size
  have hge := h.ge
  rw [← strs_append, marks_add] at ho
  have sv := h.seen.below hb
  have g12 : w1.grownBy w2 v.ownBlock := h.grown.trans (grownBy_of_below hb _)
  rcases hg with ⟨e, hg⟩ | ⟨hg, g, e, hge2⟩
  · refine ⟨ho, ?_, ?_, ?_, by omega, by have := hg.size; have := h.low; omega⟩
    · rcases h.at_ with e2 | ⟨g, e2, hg2⟩
      · have e3 : strs (marks k 0 (N + m)) = strs (marks k 0 n) ++ strs (marks k n (N + m - n)) := by
          rw [← strs_append, marks_add, show n + (N + m - n) = N + m from by omega]
        rw [e3] at ho
        exact sv.in_place ho (by rw [e, e2])
      · refine sv.kept hg (fun g' hg' e4 => ?_)
        rw [e2] at e4
        cases e4
        have := hv _ hg'
        omega
    · exact g12.andThen hg (fun j hj => by
        rcases h.at_ with e2 | ⟨g, e2, hg2⟩
        · exact Or.inr (by rw [← e2]; exact hj)
        · rw [e2] at hj; cases hj; exact Or.inl hg2)
    · rcases h.at_ with e2 | ⟨g, e2, hg2⟩
      · exact Or.inl (by rw [e, e2])
      · exact Or.inr ⟨g, by rw [e, e2], hg2⟩
  · exact ⟨ho, sv.kept hg (fun _ _ e4 => by cases e4), g12.andThen hg (fun j hj => by cases hj), Or.inr ⟨g, e, by omega⟩, by omega, by have := hg.size; have := h.low; omega⟩

def GrowIn (w1 : World) (B : Nat) (v : Value) (k n : Nat) (l q : Value) (wr : World) : Prop := ∃ j : Nat, q = .int .i64 j ∧ j ≤ 12 ∧ GrowMid w1 wr B v k n (n + j) l
def GrowRel (w0 : World) (B b : Nat) (tv uv : Value) (vs : List Value) (f : Nat → List (List UInt8)) (ov i : Value) (wr : World) : Prop :=
  ∃ (k : Nat) (gs : List Value), i = .int .i64 k ∧ k ≤ vs.length ∧ GrowSt w0 wr B b tv uv ov vs gs f k

set_option maxHeartbeats 4000000 in
set_option maxRecDepth 100000 in
theorem growTexts_any (B b : Nat) (tv uv : Value) (vs : List Value) (f : Nat → List (List UInt8)) (w : World) (hB : B ≤ w.heap.size) (h : BookV w B b tv uv vs f) (hm : vs.length ≤ 1000) (hf : ∀ i, i < vs.length → f i = marks i 0 (f i).length ∧ (f i).length ≤ 100000) :
    Calls Tryd.prog 39 #[.pointer (some ⟨b, 0, none⟩)] w fun e w' => ∃ ov gs, e = .returned ov ∧ GrowSt w w' B b tv uv ov vs gs f vs.length := by
  obtain ⟨i0, hi, hz0, hz1, hz2⟩ := info_parts infoString
  obtain ⟨j0, hj, hy0, hy1, hy2⟩ := info_parts infoSlice
  have H := Lib.hid h
  have HF := Lib.hid hf
  clear h hf
  go_enter Tryd.func39, Tryd.ntmps39
  go_wp2_with fail
  go_loopw [3, 4] (fun ov i wr => GrowRel w B b tv uv vs f ov i wr) (fun _ i _ => vs.length - (intOf i).toNat)
  case atStart => exact ⟨0, [], rfl, Nat.zero_le _, GrowSt.start H.out hB⟩
  case round =>
    obtain ⟨k, gs, rfl, hk, hst⟩ := hrel
    obtain ⟨At, ct, rfl, _, _⟩ := RowOf.own hst.tvs
    have hc0 : wr.cell? ⟨b, 0, none⟩ = some (.slice At vs.length ct) := (cell_of_row wr b 0 _ _ (0, 0) hst.blk).trans rfl
    by_cases hp : k < vs.length
    · obtain ⟨gt, rfl, hgt, hct⟩ := row_cell hst.tvs hp
      have hv := List.getElem?_eq_getElem hp
      have hrow := hst.rows k _ hv (Nat.le_refl _)
      obtain ⟨hfk, hfn⟩ := HF.out k hp
      generalize hvk : vs[k] = v at *
      obtain ⟨A1, c1, rfl, hr1, _⟩ := RowOf.own hrow
      generalize hn : (f k).length = n at *
      rw [hfk] at hrow
      have hvl : ∀ g, (Value.slice A1 n c1).ownBlock = some g → g < wr.heap.size := fun g hg => (hrow.lt g hg).2
      have hlow : B ≤ wr.heap.size := by have := hst.bel.size; omega
      have hmid : GrowMid wr wr B (.slice A1 n c1) k n (n + 0) (.slice A1 n c1) := ⟨hrow, Seen.of_own hrow, World.grownBy.refl _ _, Or.inl rfl, by omega, hlow⟩
      have HST := Lib.hid hst
      have HV := Lib.hid hv
      have HFK := Lib.hid hfk
      have HN := Lib.hid hn
      have HVL := Lib.hid hvl
      have HM := Lib.hid hmid
      clear hst hv hvk hrow hfk hn hvl hmid hr1
      obtain ⟨wo, rfl⟩ : ∃ wo : World, wo = wr := ⟨_, rfl⟩
      go_wp2_with fail
      go_loopw [5, 6] (fun l q w' => GrowIn wo B (.slice A1 n c1) k n l q w') (fun _ q _ => 12 - (intOf q).toNat)
      case atStart => exact ⟨0, rfl, by omega, HM.out⟩
      case round =>
        obtain ⟨j, rfl, hj12, hgm⟩ := hrel
        obtain ⟨A2, c2, rfl, _, _⟩ := RowOf.own hgm.own
        by_cases hp2 : j < 12
        · have hlo := hgm.low
          have HG := Lib.hid hgm
          clear hgm
          go_wp2_with fail
          refine (markTexts_any k (n + j) 1 wr (by omega) (by omega) (by omega) (by omega)).mono ?_
          rintro e w2 ⟨mv, rfl, hownm, b2⟩
          obtain ⟨gm, cm, rfl, _, _⟩ := hownm.form (by omega)
          have hnews := hownm.cells (g := gm) rfl
          have hs2 := b2.size
          have hl1 : (strs (marks k (n + j) 1)).length = 1 * 1 := by rw [strs_length, marks_length]
          have h1c := strs_one' (marks k (n + j) 1)
          have hown2 := ownsRow_below HG.out.own b2
          have HL1 := Lib.hid hl1
          clear hownm hl1
          go_wp2_with (at_builtin; refine wpList_append_two _ rfl _ _ 25 rfl B 9 i0 (.string ByteArray.empty) 1 16 Tryd.underlying25 hi hz0 hz1 hz2 rfl (by decide) A2 (n + j) c2 _ rfl hown2 (by omega) ⟨gm, 0, none⟩ 1 cm (strs (marks k (n + j) 1)) rfl HL1.out hnews h1c (by omega) (by unfold maxLen; omega) (by omega) ?_)
          intro l' w3 hown3 hgrew
          have HMid := Lib.hid (HG.out.step HVL.out b2 hown3 hgrew)
          clear hown3 hgrew hnews hown2 h1c
          go_wp2
          go_roundw
          case rel => exact ⟨j + 1, by go_num, by omega, HMid.out⟩
          case measure => simp [intOf]; omega
        · obtain rfl : j = 12 := by omega
          have hlo := hgm.low
          have HG := Lib.hid hgm
          clear hgm
          go_wp2_with fail
          refine (markTexts_any k (n + 12) 60 wr (by omega) (by omega) (by omega) (by omega)).mono ?_
          rintro e w2 ⟨mv, rfl, hownm, b2⟩
          obtain ⟨gm, cm, rfl, _, _⟩ := hownm.form (by omega)
          have hnews := hownm.cells (g := gm) rfl
          have hs2 := b2.size
          have hl1 : (strs (marks k (n + 12) 60)).length = 60 * 1 := by rw [strs_length, marks_length]
          have h1c := strs_one' (marks k (n + 12) 60)
          have hown2 := ownsRow_below HG.out.own b2
          have HL1 := Lib.hid hl1
          clear hownm hl1
          go_wp2_with (at_builtin; refine wpList_append_two _ rfl (.tmp 34) (.tmp 38) 25 rfl B 9 i0 (.string ByteArray.empty) 1 16 Tryd.underlying25 hi hz0 hz1 hz2 rfl (by decide) A2 (n + 12) c2 _ rfl hown2 (by omega) ⟨gm, 0, none⟩ 60 cm (strs (marks k (n + 12) 60)) rfl HL1.out hnews h1c (by omega) (by unfold maxLen; omega) (by omega) ?_)
          intro l' w3 hown3 hgrew
          obtain ⟨A3, c3, rfl, _, _⟩ := RowOf.own hown3
          have hmd := HG.out.step HVL.out b2 hown3 hgrew
          have hov3 := HST.out.ovs.kept hmd.grown (own_apart HST.out.ovs (HST.out.rows k _ HV.out (Nat.le_refl _)) (by decide)).ne
          have hs3 := hmd.grown.size
          have hbl := HST.out.bel.size
          have HMid := Lib.hid hmd
          clear hown3 hgrew hnews hown2 h1c hmd
          go_wp2_with (at_builtin; refine wpList_append_own _ rfl (.tmp 33) (.tmp 40) 33 rfl w.heap.size 25 j0 (.slice none 0 0) 1 24 Tryd.underlying33 hj hy0 hy1 hy2 rfl (by decide) _ k gs rfl (hov3.alloc _) ⟨w3.heap.size, 0, none⟩ 1 1 [.slice A3 (n + 12 + 60) c3] rfl rfl ?c1 ?c2 ?c3 ?c4 ?c5 ?_)
          case c1 => exact cells_one w3 _ _
          case c2 => exact one_slice _ _ _
          case c3 => unfold maxLen; omega
          case c4 => omega
          case c5 => simp; omega
          · intro ov' w4 hown4 hgrow4 _
            have HR := Lib.hid (HST.out.round HV.out HMid.out.grown (by rw [HFK.out]; exact HMid.out.seen) (by rw [HN.out]; exact HMid.out.own) HMid.out.at_ hown4 hgrow4)
            clear hown4 hgrow4
            go_wp2
            go_roundw
            case rel => exact ⟨k + 1, _, by go_num, by omega, HR.out⟩
            case measure => simp [intOf]; omega
    · obtain rfl : k = vs.length := by omega
      have HST := Lib.hid hst
      clear hst
      go_wp2
      go_ret
      exact ⟨_, gs, rfl, HST.out⟩

end Go.Proofs.YtggfllbaomfjhaaDoor
