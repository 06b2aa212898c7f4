/-
  The laws of package veil: who sees what in the diamond; a reader whose name is reckoned; what is emptied twice.
-/
import Derived.Test.YtneiheifjgffaaaGreatDoorVlaA
import Derived.Test.YtneiheifjgffaaaGreatDoorReg
import Derived.Laws.BitsLemmas
namespace Go.Proofs.YtneiheifjgffaaaGreatDoor
open Go.RowKit
set_option linter.unusedSimpArgs false
set_option linter.unusedVariables false
set_option maxRecDepth 100000

theorem lvD_lt (x : Txt) : lvN dN dR x < 4 := (lvN_spec (ns := dN) dLat (by decide) x).1
theorem sv_three : svD 3 = fun _ => true := by
  funext x
  exact (by decide +kernel : ∀ a, a < 4 → dR a 3 = true) _ (lvD_lt x)
theorem sv_zero {j : Nat} (hj : j < 4) {x : Txt} (h : svD 0 x = true) : svD j x = true :=
  dLat.trans _ _ 0 (lvD_lt x) hj (by decide) h ((by decide +kernel : ∀ a, a < 4 → dR 0 a = true) j hj)
theorem sv_low {j : Nat} (hj : j < 4) : svD j nLow = true := (by decide +kernel : ∀ a, a < 4 → svD a nLow = true) j hj
theorem sv_out (j : Nat) {x : Txt} (hx : idxL dN x < 0) : svD j x = svD j nHigh := by
  have e : lvN dN dR x = lvN dN dR nHigh := by
    have h1 : lvN dN dR nHigh = 3 := by decide +kernel
    have h2 : topR dN.length dR = 3 := same4.top.trans (by decide +kernel)
    rw [h1]
    unfold lvN
    rw [if_neg (by omega), h2]; rfl
  unfold svD svL
  rw [e]
theorem andS_self (p : Sv) : andS p p = p := by funext x; simp [andS]
theorem andS_comm (p q : Sv) : andS p q = andS q p := by funext x; simp [andS, Bool.and_comm]
theorem andS_true (p : Sv) : andS p (fun _ => true) = p := by funext x; simp [andS]
theorem andS_low {j : Nat} (hj : j < 4) : andS (svD j) (svD 0) = svD 0 := by
  funext x
  unfold andS
  cases h : svD 0 x with
  | false => simp
  | true => rw [sv_zero hj h]; rfl
theorem andS_three (p q : Sv) : andS (andS p q) p = andS p q := by
  funext x
  unfold andS
  cases p x <;> cases q x <;> rfl
theorem veil_size (p : Sv) (D : Txt) (h : D.length ≤ 1000) : (veilL p D).length ≤ 4001 := by
  have h1 := (veil_len p D).1
  have h2 := textL_len D
  omega
theorem veilD_two {w : World} {b j : Nat} (h : SeerD w b j) (p : Sv) (D : Txt) (hD : D.length ≤ 1000) :
    Calls Tryz.prog 17 #[.pointer (some ⟨b, 0, none⟩), .string ⟨(veilL p D).toArray⟩] w fun e w' => e = .returned (.string ⟨(veilL (andS p (svD j)) D).toArray⟩) ∧ Below w.heap.size w w' := by
  have := veilD_any h ⟨(veilL p D).toArray⟩ (by rw [str_size]; have := veil_size p D hD; omega)
  rw [show (⟨(veilL p D).toArray⟩ : ByteArray).data.toList = veilL p D from rfl, veil_two] at this
  exact this

abbrev RdS (w1 : World) (n g off j : Nat) (a2 : Option Addr) (W : World) : Prop :=
  W.cell? ⟨n, 0, none⟩ = some (.slice (some ⟨g, off, none⟩) 4 4) ∧ W.cell? ⟨n, 1, none⟩ = some (.slice a2 4 4) ∧ W.cell? ⟨g, off + j, none⟩ = some (.string ⟨(dNm j).toArray⟩) ∧ Below w1.heap.size w1 W
theorem newD_held {w1 : World} {n g off j : Nat} {a2 : Option Addr} (h7 : W7 w1) (hd : DiaAt w1 (some ⟨g, off, none⟩) 4 a2 4) (hj : j < 4) (hn : n < w1.heap.size) (hg : g < w1.heap.size) (W : World) (hW : RdS w1 n g off j a2 W) :
    Calls Tryz.prog 12 #[.agg #[.slice (some ⟨g, off, none⟩) 4 4, .slice a2 4 4], .string ⟨(dNm j).toArray⟩] W fun e w' => ∃ b, e = .returned (.tuple #[.pointer (some ⟨b, 0, none⟩), .int .i64 0]) ∧ SeerD w' b j ∧ RdS w1 n g off j a2 w' := by
  have hs := hW.2.2.2.size
  refine (newD_any (h7.below hW.2.2.2) (hd.below hW.2.2.2) j hj).mono ?_
  rintro e w' ⟨b, rfl, _, hS, hB⟩
  exact ⟨b, rfl, hS, (hB.cell (p := ⟨n, 0, none⟩) (by show n < _; omega)).trans hW.1, (hB.cell (p := ⟨n, 1, none⟩) (by show n < _; omega)).trans hW.2.1,
    (hB.cell (p := ⟨g, off + j, none⟩) (by show g < _; omega)).trans hW.2.2.1, hW.2.2.2.then hB⟩
theorem mod4 (a : Int) : ∃ j : Nat, j < 4 ∧ (IntKind.i64.wrap (a.tmod 4 + 4)).tmod 4 = (j : Int) := by
  obtain ⟨j, h1, h2⟩ := mod_place a (n := 4) (by decide) (by decide)
  have e : ∀ z : Int, IntKind.i64.wrap z = wrap64 z := fun z => by rw [IntKind.wrap_i64]; unfold wrap64; rfl
  rw [e]
  exact ⟨j, h1, h2⟩
theorem dia_cell {w : World} {A B : Option Addr} {ca cb : Nat} (h : DiaAt w A ca B cb) (j : Nat) (hj : j < 4) : ∃ g off, A = some ⟨g, off, none⟩ ∧ g < w.heap.size ∧ w.cell? ⟨g, off + j, none⟩ = some (.string ⟨(dNm j).toArray⟩) := by
  obtain ⟨g, off, e, hg, hc⟩ := h.1.cellAt (k := j) (show j < dN.length from hj)
  rw [dN_at] at hc
  exact ⟨g, off, e, hg, hc⟩

def UnRel (x : Txt) (w : World) (i : Value) (wr : World) : Prop := ∃ k : Nat, i = .int .i64 k ∧ k ≤ 4 ∧ (∀ m, m < k → dNm m ≠ x) ∧ wr = w
theorem idx_none {x : Txt} (h : ∀ m, m < 4 → dNm m ≠ x) : idxL dN x < 0 := by
  rw [idxL_none]
  · decide
  · intro hx
    obtain ⟨m, hm, e⟩ := List.mem_iff_getElem.1 hx
    rw [dN_at] at e
    exact h m hm e
set_option maxHeartbeats 8000000 in
theorem veilUnknowns_walk (w : World) (h7 : W7 w) (a0 : Int) (w0 : (Lit.int .i64 a0).wf = true) (a1 : ByteArray) (w1 : a1.size ≤ maxLen) :
    Calls Tryz.prog 8 #[.int .i64 a0, .string a1] w fun e w' => e = .returned (.bool true) ∧ Below w.heap.size w w' := by
  have ca := alive7_any w h7
  by_cases h60 : 60 < a1.size
  · go_enter Tryz.func8, Tryz.ntmps8
    go_wp2_with fail
    refine ca.mono ?_
    rintro e w1 ⟨rfl, b1⟩
    go_wp2
    go_ret
    exact ⟨rfl, b1⟩
  have hs60 : a1.size ≤ 60 := by omega
  clear h60
  obtain ⟨j, hj, hm⟩ := mod4 a0
  go_enter Tryz.func8, Tryz.ntmps8
  go_wp2_with fail
  refine ca.mono ?_
  rintro e w1 ⟨rfl, b1⟩
  have HB1 := Lib.hid b1
  have HW1 := Lib.hid (h7.below b1)
  clear b1 ca h7
  go_wp2_with fail
  refine (diamond_any _).mono ?_
  rintro e w2 ⟨d1, d2, rfl, hd, b2⟩
  obtain ⟨g, off, rfl, hg, hcell⟩ := dia_cell hd j hj
  have HB2 := Lib.hid (HB1.out.then b2)
  have HW2 := Lib.hid (HW1.out.below b2)
  have hb0 : Below w2.heap.size w2 (w2.alloc (.cells #[.slice (some ⟨g, off, none⟩) 4 4, .slice d2 4 4] 26)) := (Below.refl _ w2).alloc (Nat.le_refl _) _
  have hbx := box_cell w2 (.slice (some ⟨g, off, none⟩) 4 4) (.slice d2 4 4) 26
  have hs0 := alloc_size w2 (.cells #[.slice (some ⟨g, off, none⟩) 4 4, .slice d2 4 4] 26)
  have hc0 := (hb0.cell (p := ⟨g, off + j, none⟩) hg).trans hcell
  have HD3 := Lib.hid (hd.below hb0)
  have HW3 := Lib.hid (HW2.out.below hb0)
  have HB3 := Lib.hid (HB2.out.then hb0)
  clear b2 hd hb0 hcell
  go_wp2_with fail
  generalize w2.alloc (.cells #[.slice (some ⟨g, off, none⟩) 4 4, .slice d2 4 4] 26) = w3 at *
  obtain ⟨hx0, hx1⟩ := hbx
  have hn3 := World.block_lt_of_cell? _ _ hx0
  have hI3 : ((j : Nat) : Int) < 4 := by omega
  have hg3 := World.block_lt_of_cell? _ _ hc0
  have HC := Lib.hid (fun W hW => newD_held (n := w2.heap.size) HW3.out HD3.out hj hn3 hg3 W hW)
  have hS : w3.drew.cell? ⟨w2.heap.size, 0, none⟩ = some (.slice (some ⟨g, off, none⟩) 4 4) ∧ w3.drew.cell? ⟨w2.heap.size, 1, none⟩ = some (.slice d2 4 4) ∧ w3.drew.cell? ⟨g, off + j, none⟩ = some (.string ⟨(dNm j).toArray⟩) ∧ Below w3.heap.size w3 w3.drew := ⟨hx0, hx1, hc0, (Below.refl _ _).drew⟩
  clear hx0 hx1 hc0 hn3 hg3
  refine wp_region_N (fun W => W.cell? ⟨w2.heap.size, 0, none⟩ = some (.slice (some ⟨g, off, none⟩) 4 4) ∧ W.cell? ⟨w2.heap.size, 1, none⟩ = some (.slice d2 4 4) ∧ W.cell? ⟨g, off + j, none⟩ = some (.string ⟨(dNm j).toArray⟩) ∧ Below w3.heap.size w3 W) (fun _ => true) (by kernel_rfl) ?_
  refine wpAnyN_take_at 0 20 (v := ?_) rfl rfl (by kernel_rfl) (by kernel_rfl) (by kernel_rfl) (by kernel_rfl) (by kernel_rfl) (fun _ _ _ h => h) (by rfl) ?_ hS ?_
  rotate_left
  · intro w hSw; (try dsimp only at hSw); obtain ⟨s0, s1, s2, s3⟩ := hSw; go_simp; (try with_reducible rfl)
  simp only [Act.put, List.setIfInBounds_toArray, List.set_cons_zero, List.set_cons_succ]
  refine wpAnyN_take_at 1 21 (v := ?_) rfl rfl (by kernel_rfl) (by kernel_rfl) (by kernel_rfl) (by kernel_rfl) (by kernel_rfl) (fun _ _ _ h => h) (by rfl) ?_ hS ?_
  rotate_left
  · intro w hSw; (try dsimp only at hSw); obtain ⟨s0, s1, s2, s3⟩ := hSw; go_simp; (try with_reducible rfl)
  simp only [Act.put, List.setIfInBounds_toArray, List.set_cons_zero, List.set_cons_succ]
  refine wpAnyN_take_at 2 22 (v := ?_) rfl rfl (by kernel_rfl) (by kernel_rfl) (by kernel_rfl) (by kernel_rfl) (by kernel_rfl) (fun _ _ _ h => h) (by rfl) ?_ hS ?_
  rotate_left
  · intro w hSw; (try dsimp only at hSw); obtain ⟨s0, s1, s2, s3⟩ := hSw; go_simp; (try with_reducible rfl)
  simp only [Act.put, List.setIfInBounds_toArray, List.set_cons_zero, List.set_cons_succ]
  refine wpAnyN_take_at 3 23 (v := ?_) rfl rfl (by kernel_rfl) (by kernel_rfl) (by kernel_rfl) (by kernel_rfl) (by kernel_rfl) (fun _ _ _ h => h) (by rfl) ?_ hS ?_
  rotate_left
  · intro w hSw; (try dsimp only at hSw); obtain ⟨s0, s1, s2, s3⟩ := hSw; go_simp; (try with_reducible rfl)
  simp only [Act.put, List.setIfInBounds_toArray, List.set_cons_zero, List.set_cons_succ]
  refine wpAnyN_take_at 4 24 (v := ?_) rfl rfl (by kernel_rfl) (by kernel_rfl) (by kernel_rfl) (by kernel_rfl) (by kernel_rfl) (fun _ _ _ h => h) (by rfl) ?_ hS ?_
  rotate_left
  · intro w hSw; (try dsimp only at hSw); obtain ⟨s0, s1, s2, s3⟩ := hSw; go_simp; (try with_reducible rfl)
  simp only [Act.put, List.setIfInBounds_toArray, List.set_cons_zero, List.set_cons_succ]
  refine wpAnyN_take_at 5 25 (v := ?_) rfl rfl (by kernel_rfl) (by kernel_rfl) (by kernel_rfl) (by kernel_rfl) (by kernel_rfl) (fun _ _ _ h => h) (by rfl) ?_ hS ?_
  rotate_left
  · intro w hSw; (try dsimp only at hSw); obtain ⟨s0, s1, s2, s3⟩ := hSw; go_simp; (try with_reducible rfl)
  simp only [Act.put, List.setIfInBounds_toArray, List.set_cons_zero, List.set_cons_succ]
  refine wpAnyN_take_at 6 26 (v := .int .i64 ((j : Nat) : Int)) rfl rfl (by kernel_rfl) (by kernel_rfl) (by kernel_rfl) (by kernel_rfl) (by kernel_rfl) (fun _ _ _ h => h) (by rfl) ?_ hS ?_
  · intro w hSw; (try dsimp only at hSw); obtain ⟨s0, s1, s2, s3⟩ := hSw; go_simp; (try rw [hm]); (try with_reducible rfl)
  simp only [Act.put, List.setIfInBounds_toArray, List.set_cons_zero, List.set_cons_succ]
  refine wpAnyN_take_at 7 27 (v := ?_) rfl rfl (by kernel_rfl) (by kernel_rfl) (by kernel_rfl) (by kernel_rfl) (by kernel_rfl) (fun _ _ _ h => h) (by rfl) ?_ hS ?_
  rotate_left
  · intro w hSw; (try dsimp only at hSw); obtain ⟨s0, s1, s2, s3⟩ := hSw; go_simp; (try with_reducible rfl)
  simp only [Act.put, List.setIfInBounds_toArray, List.set_cons_zero, List.set_cons_succ]
  refine wpAnyN_take_at 8 28 (v := ?_) rfl rfl (by kernel_rfl) (by kernel_rfl) (by kernel_rfl) (by kernel_rfl) (by kernel_rfl) (fun _ _ _ h => h) (by rfl) ?_ hS ?_
  rotate_left
  · intro w hSw; (try dsimp only at hSw); obtain ⟨s0, s1, s2, s3⟩ := hSw; go_simp; (try with_reducible rfl)
  simp only [Act.put, List.setIfInBounds_toArray, List.set_cons_zero, List.set_cons_succ]
  refine wpAnyN_one (i := 9) rfl (by kernel_rfl) (fun K hK => ?_)
  go_simp
  refine (HC.out _ hS).mono ?_
  rintro e w5 ⟨b, rfl, hSd, hS5⟩
  refine hK _ _ (fun _ => hS5) ?_
  clear hK hS HC
  have hS := hS5
  refine wpAnyN_take_at 10 19 (v := ?_) rfl rfl (by kernel_rfl) (by kernel_rfl) (by kernel_rfl) (by kernel_rfl) (by kernel_rfl) (fun _ _ _ h => h) (by rfl) ?_ hS ?_
  rotate_left
  · intro w hSw; (try dsimp only at hSw); obtain ⟨s0, s1, s2, s3⟩ := hSw; go_simp; (try with_reducible rfl)
  simp only [Act.put, List.setIfInBounds_toArray, List.set_cons_zero, List.set_cons_succ]
  refine wpAnyN_take_at 11 30 (v := ?_) rfl rfl (by kernel_rfl) (by kernel_rfl) (by kernel_rfl) (by kernel_rfl) (by kernel_rfl) (fun _ _ _ h => h) (by rfl) ?_ hS ?_
  rotate_left
  · intro w hSw; (try dsimp only at hSw); obtain ⟨s0, s1, s2, s3⟩ := hSw; go_simp; (try with_reducible rfl)
  simp only [Act.put, List.setIfInBounds_toArray, List.set_cons_zero, List.set_cons_succ]
  refine wpAnyN_take_at 12 31 (v := ?_) rfl rfl (by kernel_rfl) (by kernel_rfl) (by kernel_rfl) (by kernel_rfl) (by kernel_rfl) (fun _ _ _ h => h) (by rfl) ?_ hS ?_
  rotate_left
  · intro w hSw; (try dsimp only at hSw); obtain ⟨s0, s1, s2, s3⟩ := hSw; go_simp; (try with_reducible rfl)
  simp only [Act.put, List.setIfInBounds_toArray, List.set_cons_zero, List.set_cons_succ]
  refine wpAnyN_take_at 13 6 (v := ?_) rfl rfl (by kernel_rfl) (by kernel_rfl) (by kernel_rfl) (by kernel_rfl) (by kernel_rfl) (fun _ _ _ h => h) (by rfl) ?_ hS ?_
  rotate_left
  · intro w hSw; (try dsimp only at hSw); obtain ⟨s0, s1, s2, s3⟩ := hSw; go_simp; (try with_reducible rfl)
  simp only [Act.put, List.setIfInBounds_toArray, List.set_cons_zero, List.set_cons_succ]
  refine wpAnyN_take_at 14 7 (v := ?_) rfl rfl (by kernel_rfl) (by kernel_rfl) (by kernel_rfl) (by kernel_rfl) (by kernel_rfl) (fun _ _ _ h => h) (by rfl) ?_ hS ?_
  rotate_left
  · intro w hSw; (try dsimp only at hSw); obtain ⟨s0, s1, s2, s3⟩ := hSw; go_simp; (try with_reducible rfl)
  simp only [Act.put, List.setIfInBounds_toArray, List.set_cons_zero, List.set_cons_succ]
  refine wpAnyN_rest 15 [] rfl (by kernel_rfl) (by kernel_rfl) ?_
  have HB5 := Lib.hid (HB3.out.then hS5.2.2.2)
  have HD5 := Lib.hid (HD3.out.below hS5.2.2.2)
  have HW5 := Lib.hid (HW3.out.below hS5.2.2.2)
  have HSb5 := Lib.hid hS5.2.2.2
  obtain ⟨hx0, hx1, _, _⟩ := hS5
  have HSb := Lib.hid hSd
  clear hSd hS hm
  go_wp2_with fail
  go_loopw [37] (fun i wr => UnRel a1.data.toList w5 i wr) (fun i _ => 4 - (intOf i).toNat)
  case atStart => exact ⟨0, rfl, Nat.zero_le _, fun m hm => absurd hm (Nat.not_lt_zero _), rfl⟩
  case round =>
    obtain ⟨k, rfl, hk, hno, hwe⟩ := hrel
    have hwe := hwe.symm
    subst hwe
    have HNo := Lib.hid hno
    clear hno
    by_cases hp : k < 4
    · obtain ⟨g2, o2, e2, hg2, hc2⟩ := dia_cell HD5.out k hp
      cases e2
      by_cases he : dNm k = a1.data.toList
      · have fe : (@BEq.beq (List UInt8) (@List.instBEq UInt8 (@instBEqOfDecidableEq UInt8 instDecidableEqUInt8)) (dNm k) a1.toList) = true := by rw [ByteArray.toList_eq, he]; simp
        have cu := unknownD_any HSb.out a1
        rw [← he, dN_idx k hp, decide_eq_false (by omega)] at cu
        clear he
        go_wp2_with fail
        refine cu.mono ?_
        rintro e w6 ⟨rfl, b6⟩
        go_wp2
        go_ret
        exact ⟨rfl, HB5.out.then b6⟩
      · have fe : (@BEq.beq (List UInt8) (@List.instBEq UInt8 (@instBEqOfDecidableEq UInt8 instDecidableEqUInt8)) (dNm k) a1.toList) = false := by rw [ByteArray.toList_eq]; simpa using he
        have HE := Lib.hid he
        clear he
        go_wp2
        go_roundw
        case rel =>
          refine ⟨k + 1, by go_num, by omega, fun m hm => ?_, rfl⟩
          by_cases e : m = k
          · subst e; exact HE.out
          · exact HNo.out m (by omega)
        case measure => simp [intOf]; omega
    · obtain rfl : k = 4 := by omega
      have hout := idx_none HNo.out
      have hv := sv_out j hout
      obtain ⟨v, hv2⟩ : ∃ v, svD j nHigh = v := ⟨_, rfl⟩
      rw [hv2] at hv
      have HV := Lib.hid hv
      have HH := Lib.hid hv2
      clear hv hv2
      have HLow := Lib.hid (sv_low hj)
      have cu := unknownD_any HSb.out a1
      rw [decide_eq_true hout] at cu
      clear hout
      go_wp2_with fail
      refine cu.mono ?_
      rintro e w6 ⟨rfl, b6⟩
      have HS6 := Lib.hid (HSb.out.below b6)
      have HB6 := Lib.hid (HB5.out.then b6)
      have c1 := seesD_one HS6.out a1.data.toList
      rw [HV.out] at c1
      clear b6 cu
      go_wp2_with fail
      refine c1.mono ?_
      rintro e w7 ⟨rfl, b7⟩
      have HS7 := Lib.hid (HS6.out.below b7)
      have HB7 := Lib.hid (HB6.out.then b7)
      have c2 := seesD_one HS7.out nHigh
      rw [HH.out, show (⟨nHigh.toArray⟩ : ByteArray) = ⟨#[104, 105, 103, 104]⟩ from rfl] at c2
      clear b7 c1
      go_wp2_with fail
      refine c2.mono ?_
      rintro e w8 ⟨rfl, b8⟩
      have HS8 := Lib.hid (HS7.out.below b8)
      have HB8 := Lib.hid (HB7.out.then b8)
      have c3 := seesD_two HS8.out nLow a1.data.toList
      rw [HLow.out, HV.out, Bool.true_and, show (⟨nLow.toArray⟩ : ByteArray) = ⟨#[108, 111, 119]⟩ from rfl] at c3
      clear b8 c2
      go_wp2_with fail
      refine c3.mono ?_
      rintro e w9 ⟨rfl, b9⟩
      have HS9 := Lib.hid (HS8.out.below b9)
      have HB9 := Lib.hid (HB8.out.then b9)
      have c4 := seesD_one HS9.out nHigh
      rw [HH.out, show (⟨nHigh.toArray⟩ : ByteArray) = ⟨#[104, 105, 103, 104]⟩ from rfl] at c4
      clear b9 c3
      go_wp2_with fail
      refine c4.mono ?_
      rintro e w10 ⟨rfl, b10⟩
      go_wp2
      go_ret
      exact ⟨ret_bool (by simp), HB9.out.then b10⟩

end Go.Proofs.YtneiheifjgffaaaGreatDoor
