/- Texts joined: EmJ EmK CvB EmM EmN EmO. -/
import Derived.Test.YtfbaknkmpilllaaGreatDoorQAC
import Derived.Maps.AppendAt
import Derived.Test.YtfbaknkmpilllaaGreatDoorQAA
import Derived.Laws.BytesArg
import Derived.Laws.IdiomStrings
import Derived.RangeFuncNested
import Derived.RangeFuncBound
import Derived.RangeFuncCalls
import Derived.RangeFuncLeaves
import Derived.Shelf.Abstract
import Derived.Shelf.RegionOpen
import Derived.WalkKit
import Derived.OwnWalkIn
import Derived.TacticsInMore
import Derived.LoopNIn
import Derived.LoopIn
namespace Go.Proofs.YtfbaknkmpilllaaGreatDoor
open Go.RowKit Go.Maps Go.ChangeShapes
set_option linter.unusedSimpArgs false
set_option linter.unusedVariables false
set_option maxRecDepth 100000
theorem infoInt : (Tryz.prog.info? 3).map (fun i => (i.zero, i.size, i.bytes)) = some (some (.int .i64 0), 1, 8) := by kernel_rfl
theorem set_four {α : Type} (l : List α) (j a : Nat) (h : j ≠ a) (x1 y1 x2 y2 : α) : ((((l.set j x1).set a y1).set j x2).set a y2) = (l.set j x2).set a y2 := by
  rw [List.set_comm y1 x2 (Ne.symm h), List.set_set, List.set_set]
/-- What pairing makes of the two pieces. -/
def pairX (x : Pm) (k : Int) (bv : Value) : Pm := ({ x.1 with it := lessI x.1.it k, bg := x.1.bg ++ [if k = 2 then 4 else 3] }, x.2.1, bv)
def pairY (y : Pm) (k : Int) : Pm := ({ y.1 with it := lessI y.1.it k, en := y.1.en + 1 }, y.2)
def PairEnd (M b bp bm cap B : Nat) (Ps : List Pm) (o1 : List Nat) (j a : Nat) (x y : Pm) (w : World) (e : Ending) (w' : World) : Prop :=
  e = .returned (.tuple #[]) ∧ (∃ n' D' ov' bv', PrSt w' b bp bm cap n' D' ((Ps.set j (pairX x (kOf x.1.it y.1.it) bv')).set a (pairY y (kOf x.1.it y.1.it))) (if 0 < x.1.it.n - kOf x.1.it y.1.it then o1 ++ [j] else o1) (if 0 < x.1.it.n - kOf x.1.it y.1.it then o1 ++ [j] else o1) ov' ∧ n' + (if 0 < x.1.it.n - kOf x.1.it y.1.it then o1 ++ [j] else o1).length ≤ M) ∧ KB B w w'
set_option maxHeartbeats 8000000 in
theorem pair_any {w : World} {b bp bm cap n B : Nat} {D : DU} {Ps : List Pm} {o1 o2 : List Nat} {j a : Nat} {ov : Value} {x y : Pm} (h : PrSt w b bp bm cap n D Ps (o1 ++ j :: o2) (o1 ++ j :: o2) ov) (hB : B ≤ bm ∧ B ≤ b ∧ B ≤ w.heap.size ∧ B ≤ bp)
    (hops : ∀ i ∈ o1 ++ j :: o2, i < Ps.length) (hasc : (o1 ++ j :: o2).Pairwise (· < ·)) (hx : Ps[j]? = some x) (hy : Ps[a]? = some y) (hja : j < a)
    (hxn : 0 < x.1.it.n ∧ x.1.it.n ≤ 4294967296) (hyn : 0 < y.1.it.n ∧ y.1.it.n ≤ 4294967296) (hen : y.1.en ≤ 4294967296) (hbg : x.1.bg.length ≤ 4294967296) :
    Calls Tryz.prog 99 #[.pointer (some ⟨b, 0, none⟩), .int .i64 j, .int .i64 a] w (PairEnd (n + (o1 ++ j :: o2).length) b bp bm cap B Ps o1 j a x y w) := by
  obtain ⟨i0, hi, hz0, hz1, hz2⟩ := info_parts infoInt
  have hsm := h.small
  have hln := h.len
  have hja2 : a < Ps.length := (List.getElem?_eq_some_iff.1 hy).1
  have e1 : o1 ++ j :: o2 = (o1 ++ [j]) ++ o2 := by simp
  rw [e1] at h hops hasc
  have hp := List.pairwise_append.1 hasc
  have hp1 := List.pairwise_append.1 hp.1
  have cs := shut_any h ⟨hB.1, hB.2.1, hB.2.2.1⟩ hops (j + 1) (by omega) (fun i hi => by
    rcases List.mem_append.1 hi with hi | hi
    · have := hp1.2.2 i hi j (by simp); omega
    · rw [List.mem_singleton] at hi; omega) (fun i hi => hp.2.2 j (by simp) i hi)
  have hkk := kOf_is x.1.it y.1.it hxn.1 hyn.1
  have hkd : kOf x.1.it y.1.it = if 2 ≤ x.1.it.n ∧ 2 ≤ y.1.it.n then 2 else 1 := rfl
  unfold PairEnd
  generalize hk : kOf x.1.it y.1.it = k at *
  have HA := Lib.hid hasc
  have HX := Lib.hid hx
  have HY := Lib.hid hy
  have HP1 := Lib.hid hp1
  have HOPS := Lib.hid hops
  clear h hops hasc hp hp1 hx hy hk e1
  go_enter Tryz.func99, Tryz.ntmps99
  go_wp2_with fail
  refine cs.mono ?_
  rintro e w1 ⟨rfl, ⟨n1, D1, ov1, h1, hM1⟩, b1⟩
  have HM1 := Lib.hid hM1
  clear hM1
  have hs1 := b1.size
  obtain ⟨c0, c1, c2, bfz, hbl⟩ := h1.bcells
  obtain ⟨⟨p0, p1, p2, p3, p4, p5, p6, p7⟩, pfz, hbpl, hjl⟩ := h1.pcells HX.out
  obtain ⟨⟨r0, r1, r2, r3, r4, r5, r6, r7⟩, _, _, hal⟩ := h1.pcells HY.out
  have hjlt : (j : Int) < (Ps.length : Int) := by omega
  have halt : (a : Int) < (Ps.length : Int) := by omega
  have HH1 := Lib.hid h1
  clear h1 cs
  go_wp2_with fail
  go_quiet (fail)
  have b1' : KB B w (w1.drewN nq) := b1.thenB (below_drewN' (Below.refl _ w1) nq) (by omega)
  have h2 := HH1.out.below (below_drewN' (Below.refl _ w1) nq)
  obtain ⟨w2, hw2⟩ : ∃ w2, w2 = w1.drewN nq := ⟨_, rfl⟩
  rw [← hw2] at b1' h2 ⊢
  have hs2 := b1'.size
  clear c0 c1 c2 bfz hbl p0 p1 p2 p3 p4 p5 p6 p7 pfz hbpl r0 r1 r2 r3 r4 r5 r6 r7 HH1 b1 hs1 hw2
  obtain ⟨⟨p0, p1, p2, p3, p4, p5, p6, p7⟩, pfz, hbpl, hjl⟩ := h2.pcells HX.out
  obtain ⟨⟨r0, r1, r2, r3, r4, r5, r6, r7⟩, _, _, hal⟩ := h2.pcells HY.out
  have HH2 := Lib.hid h2
  have HB2 := Lib.hid b1'
  clear h2 b1'
  go_upto_region 3 with fail
  go_cut [37] from 26 to 36 (fun s wx => s = .bool (decide (k = 2)) ∧ wx = w2)
  case first =>
    by_cases h1 : 2 ≤ x.1.it.n
    · by_cases h2 : 2 ≤ y.1.it.n
      · have hk2 : k = 2 := by rw [hkd, if_pos ⟨h1, h2⟩]
        go_wp2
        go_meet
        exact ⟨by rw [hk2]; rfl, rfl⟩
      · have hk1 : k = 1 := by rw [hkd, if_neg (fun h => h2 h.2)]
        go_wp2
        go_meet
        exact ⟨by rw [hk1]; rfl, rfl⟩
    · have hk1 : k = 1 := by rw [hkd, if_neg (fun h => h1 h.1)]
      go_wp2
      go_meet
      exact ⟨by rw [hk1]; rfl, rfl⟩
  case rest =>
  obtain ⟨rfl, hwc⟩ := hcut
  subst hwc
  obtain ⟨kd, hkd2⟩ : ∃ kd : Int, kd = if k = 2 then 4 else 3 := ⟨_, rfl⟩
  have HKD := Lib.hid hkd2
  have hkw : (Lit.int .i64 kd).wf = true := by rw [hkd2]; split <;> decide
  clear hkd2
  generalize hq : decide (k = 2) = q at *
  go_upto_if 37 with fail
  go_cut [8, 9] from 38 to 38 (fun s t wx => s = .int .i64 kd ∧ t = .int .i64 k ∧ wx = wc)
  case first =>
    have HKK := Lib.hid hkk
    clear hkd hkk
    have HQ := Lib.hid hq
    clear hq
    cases q with
    | true =>
      go_wp2
      go_meet
      have := of_decide_eq_true HQ.out
      exact ⟨by rw [HKD.out, if_pos this], by rw [this], rfl⟩
    | false =>
      go_wp2
      go_meet
      have := of_decide_eq_false HQ.out
      have h2 : k = 1 := HKK.out.1.resolve_right this
      exact ⟨by rw [HKD.out, if_neg this], by rw [h2], rfl⟩
  case rest =>
  obtain ⟨rfl, rfl, hwc⟩ := hcut
  subst hwc
  obtain ⟨h3, g3⟩ := HH2.out.setCell HX.out 5 (by omega) (.int .i64 (x.1.it.n - k)) ({ x.1 with it := lessI x.1.it k }, x.2) rfl rfl rfl rfl rfl rfl
  have hwn1 : IntKind.i64.wrap (x.1.it.n - k) = x.1.it.n - k := IntWalk.i64_in _ (by omega)
  have hwn2 : IntKind.i64.wrap (y.1.it.n - k) = y.1.it.n - k := IntWalk.i64_in _ (by omega)
  have hp5 := pfz (j * 8 + 5)
  clear hkd hq
  go_upto_region 6 with fail
  obtain ⟨w3, hw3⟩ : ∃ w3, w3 = wc.setCell ⟨bp, j * 8 + 5, none⟩ (.int .i64 (x.1.it.n - k)) := ⟨_, rfl⟩
  rw [← hw3] at h3 g3 ⊢
  have hb3 : KB B w w3 := HB2.out.grown g3 (by omega) (HH2.out.row_bp hB.2.2.2)
  clear p0 p1 p2 p3 p4 p5 p6 p7 r0 r1 r2 r3 r4 r5 r6 r7 pfz hp5 hw3 g3
  have hya : (Ps.set j ({ x.1 with it := lessI x.1.it k }, x.2))[a]? = some y := by rw [List.getElem?_set, if_neg (by omega)]; exact HY.out
  obtain ⟨⟨r0, r1, r2, r3, r4, r5, r6, r7⟩, pfz, _, _⟩ := h3.pcells hya
  obtain ⟨h4, g4⟩ := h3.setCell hya 5 (by omega) (.int .i64 (y.1.it.n - k)) ({ y.1 with it := lessI y.1.it k }, y.2) rfl rfl rfl rfl rfl rfl
  have hp5 := pfz (a * 8 + 5)
  have hs3 := hb3.size
  have HB3 := Lib.hid hb3
  have HH3 := Lib.hid h3
  have HH4 := Lib.hid h4
  have HG4 := Lib.hid g4
  clear h3 h4 g4 hb3
  go_upto_region 7 with fail
  obtain ⟨w4, hw4⟩ : ∃ w4, w4 = w3.setCell ⟨bp, a * 8 + 5, none⟩ (.int .i64 (y.1.it.n - k)) := ⟨_, rfl⟩
  rw [← hw4] at HH4 HG4 ⊢
  have hb4 : KB B w w4 := HB3.out.grown HG4.out (by omega) (HH3.out.row_bp hB.2.2.2)
  have hs4 := hb4.size
  clear r0 r1 r2 r3 r4 r5 r6 r7 pfz hp5 hw4 HG4 HB3 HH3
  have hxa : ((Ps.set j ({ x.1 with it := lessI x.1.it k }, x.2)).set a ({ y.1 with it := lessI y.1.it k }, y.2))[j]? = some ({ x.1 with it := lessI x.1.it k }, x.2) := by
    rw [List.getElem?_set, if_neg (by omega), List.getElem?_set, if_pos rfl, if_pos hjl]
  obtain ⟨⟨p0, p1, p2, p3, p4, p5, p6, p7⟩, pfz, hbp4, _⟩ := HH4.out.pcells hxa
  have hox := HH4.out.own_at hxa
  dsimp only at p0 p1 p2 p3 p4 p5 p6 p7 hox
  have HOX := Lib.hid hox
  have hp7 := pfz (j * 8 + 7)
  clear hox
  obtain ⟨cur, hcur⟩ := HH4.out.rowObj
  have HC := Lib.hid hcur
  have hbase : bm + 1 ≤ w4.heap.size := by have := fam_lt HH4.out.fam; omega
  have HN := Lib.hid (ints_ne HOX.out HC.out (by decide))
  have HB4 := Lib.hid hb4
  have h31 : x.1.bg.length + 1 ≤ 4294967297 := by omega
  clear hcur hb4
  go_wp2_with (at_builtin; refine wpList_append_own_at _ rfl _ _ 35 rfl (bm + 1) 3 i0 (.int .i64 0) 1 8 Tryz.underlying35 hi hz0 hz1 hz2 rfl (by decide) x.2.2 x.1.bg.length (x.1.bg.map (Value.int .i64)) rfl (HOX.out.alloc _).1 ⟨w4.heap.size, 0, none⟩ 1 1 [.int .i64 kd] rfl rfl (cell_one_new _ _ _) (by simp [Value.oneCell']) (by unfold maxLen; omega) (by omega) (by simp; omega) ?_)
  intro v' w5 hown' hgrow _ hat
  obtain ⟨gq, cq, rfl, _, _⟩ := hown'.form (by omega)
  have hg45 : w4.grownBy w5 x.2.2.ownBlock := (World.grownBy_alloc w4 _ _).trans hgrow
  have ho5 : w5.ownsInts (bm + 1) 3 .i64 (.slice (some ⟨gq, 0, none⟩) (x.1.bg.length + 1) cq) (x.1.bg ++ [if k = 2 then 4 else 3]) := by
    rw [← HKD.out]
    exact HOX.out.appended hown' hkw
  have hloc : (Value.slice (some ⟨gq, 0, none⟩) (x.1.bg.length + 1) cq).ownBlock = x.2.2.ownBlock ∨ ∃ g, (Value.slice (some ⟨gq, 0, none⟩) (x.1.bg.length + 1) cq).ownBlock = some g ∧ w4.heap.size ≤ g := by
    rcases hat with h | h
    · exact Or.inl h
    · exact Or.inr ⟨_, h, by simp⟩
  obtain ⟨h5, g5⟩ := HH4.out.begins hxa hg45 ho5 hloc
  have hb5 : KB B w w5 := HB4.out.grown hg45 (by omega) (fun r e => ⟨by have := (HOX.out.1.lt r e).1; omega, not_item_ints HOX.out e⟩)
  have hs5 := hb5.size
  have hcell5 := (hg45.block bp (Array.getElem?_eq_some_iff.1 HC.out).1 (fun e => HN.out e.symm)).trans HC.out
  have q7 : w5.cell? ⟨bp, j * 8 + 7, none⟩ = some x.2.2 := (World.cell?_of_block (w := w4) (w' := w5) (a := ⟨bp, j * 8 + 7, none⟩) (by rw [hcell5]; exact HC.out.symm)).trans p7
  have qf : w5.frozen? ⟨bp, j * 8 + 7, none⟩ = false := (World.frozen?_of_block (w := w4) (w' := w5) (a := ⟨bp, j * 8 + 7, none⟩) (by rw [hcell5]; exact HC.out.symm)).trans hp7
  have HH5 := Lib.hid h5
  have HG5 := Lib.hid g5
  have HB5 := Lib.hid hb5
  have HCU5 := Lib.hid hcell5
  clear hown' hgrow hat hg45 ho5 hloc h5 g5 hb5 hcell5 p0 p1 p2 p3 p4 p5 p6 p7 pfz hp7
  go_upto_region 8 with fail
  obtain ⟨w6, hw6⟩ : ∃ w6, w6 = w5.setCell ⟨bp, j * 8 + 7, none⟩ (.slice (some ⟨gq, 0, none⟩) (x.1.bg.length + 1) cq) := ⟨_, rfl⟩
  rw [← hw6] at HH5 HG5 ⊢
  have hb6 : KB B w w6 := HB5.out.grown HG5.out (by omega) (fun r e => by cases e; exact ⟨hB.2.2.2, not_item_cells HCU5.out (by decide)⟩)
  have hs6 := hb6.size
  clear q7 qf hw6
  have hya6 : (((Ps.set j ({ x.1 with it := lessI x.1.it k }, x.2)).set a ({ y.1 with it := lessI y.1.it k }, y.2)).set j (pairX x k (.slice (some ⟨gq, 0, none⟩) (x.1.bg.length + 1) cq)))[a]? = some ({ y.1 with it := lessI y.1.it k }, y.2) := by
    rw [List.getElem?_set, if_neg (by omega), List.getElem?_set, if_pos rfl, if_pos (by rw [List.length_set]; exact hal)]
  obtain ⟨⟨r0, r1, r2, r3, r4, r5, r6, r7⟩, pfz, _, _⟩ := PrSt.pcells HH5.out hya6
  obtain ⟨h7, g7⟩ := PrSt.setCell HH5.out hya6 6 (by omega) (.int .i64 ((y.1.en : Int) + 1)) (pairY y k) rfl rfl rfl rfl rfl rfl
  rw [set_four _ _ _ (by omega)] at h7
  have hq6 := pfz (a * 8 + 6)
  have hwe : IntKind.i64.wrap ((y.1.en : Int) + 1) = (y.1.en : Int) + 1 := IntWalk.i64_in _ (by omega)
  have HH7 := Lib.hid h7
  have HG7 := Lib.hid g7
  have HB6 := Lib.hid hb6
  clear h7 g7 HG5 hb6
  go_upto_region 9 with fail
  obtain ⟨w7, hw7⟩ : ∃ w7, w7 = w6.setCell ⟨bp, a * 8 + 6, none⟩ (.int .i64 ((y.1.en : Int) + 1)) := ⟨_, rfl⟩
  rw [← hw7] at HH7 HG7 ⊢
  have hb7 : KB B w w7 := HB6.out.grown HG7.out (by omega) (HH5.out.row_bp hB.2.2.2)
  have hs7 := hb7.size
  clear r0 r1 r2 r3 r4 r5 r6 r7 pfz hq6 hw7 HG7
  have hxa7 : ((Ps.set j (pairX x k (.slice (some ⟨gq, 0, none⟩) (x.1.bg.length + 1) cq))).set a (pairY y k))[j]? = some (pairX x k (.slice (some ⟨gq, 0, none⟩) (x.1.bg.length + 1) cq)) := by
    rw [List.getElem?_set, if_neg (by omega), List.getElem?_set, if_pos rfl, if_pos hjl]
  obtain ⟨⟨p0, p1, p2, p3, p4, p5, p6, p7⟩, pfz, hbp7, _⟩ := HH7.out.pcells hxa7
  have p5' : w7.cell? ⟨bp, j * 8 + 5, none⟩ = some (.int .i64 (x.1.it.n - k)) := p5
  have HB7 := Lib.hid hb7
  clear p0 p1 p2 p3 p4 p5 p6 p7 hb7
  by_cases hz : x.1.it.n - k = 0
  · have cs2 := shut_any (B := B) (o1 := o1) (o2 := [j]) HH7.out ⟨hB.1, hB.2.1, by omega⟩ (fun i hi => by rw [List.length_set, List.length_set]; exact HOPS.out i (List.mem_append_left _ hi)) j (by omega) (fun i hi => HP1.out.2.2 i hi j (by simp)) (fun i hi => by rw [List.mem_singleton] at hi; omega)
    rw [hz] at p5'
    clear HH7
    go_wp2_with fail
    refine cs2.mono ?_
    rintro e w8 ⟨rfl, ⟨n8, D8, ov8, h8, hM8⟩, b8⟩
    have HM8 := Lib.hid hM8
    clear hM8
    have HH8 := Lib.hid h8
    clear h8
    go_wp2
    go_end0
    exact ⟨rfl, ⟨n8, ⟨D8, ov8, _, HH8.out⟩, by have h1 := HM1.out; have h8 := HM8.out; simp only [List.length_append, List.length_cons, List.length_nil] at h1 h8 ⊢; omega⟩, HB7.out.trans b8⟩
  · have hz1 : (x.1.it.n - k == 0) = false := by simpa using hz
    go_wp2
    go_end0
    exact ⟨rfl, ⟨n1, ⟨D1, ov1, _, HH7.out⟩, by have h1 := HM1.out; simp only [List.length_append, List.length_cons, List.length_nil] at h1 ⊢; omega⟩, HB7.out⟩
end Go.Proofs.YtfbaknkmpilllaaGreatDoor

namespace Go.Proofs.YtfbaknkmpilllaaGreatDoor
open Go.RowKit Go.Maps Go.ChangeShapes
set_option linter.unusedSimpArgs false
set_option linter.unusedVariables false
set_option maxRecDepth 100000
/-- What is so of every piece: numbers that fit; its nodes lie where its slice says (w0: an elder world). -/
structure PmB (w0 : World) (x : Pm) : Prop where
  n1 : x.1.it.n ≤ 4294967296
  n2 : 0 < x.1.it.n → x.1.it.n ≤ x.1.it.ff
  en : (x.1.en : Int) + max x.1.it.n 0 ≤ 4294967296
  bg : (x.1.bg.length : Int) + max x.1.it.n 0 ≤ 4294967296
  ff : x.1.it.ff ≤ 4294967296
  lv : ∃ A c, x.2.1 = .slice A x.1.it.nd.length c ∧ InlsAt w0 A c x.1.it.nd
  kd : ∀ z ∈ x.1.bg, z = 3 ∨ z = 4
theorem PmB.pairX {w0 : World} {x : Pm} (h : PmB w0 x) {k : Int} (hk : k = 1 ∨ k = 2) (hn : k ≤ x.1.it.n) (bv : Value) : PmB w0 (pairX x k bv) := by
  obtain ⟨h1, h2, h3, h4, h5, h6, h7⟩ := h
  refine ⟨?_, ?_, ?_, ?_, h5, h6, ?_⟩
  · show x.1.it.n - k ≤ _; omega
  · show 0 < x.1.it.n - k → x.1.it.n - k ≤ x.1.it.ff; intro _; have := h2 (by omega); omega
  · show (x.1.en : Int) + max (x.1.it.n - k) 0 ≤ _; omega
  · show ((x.1.bg ++ [if k = 2 then 4 else 3]).length : Int) + max (x.1.it.n - k) 0 ≤ _
    rw [List.length_append, List.length_singleton]
    omega
  · intro z hz
    rcases List.mem_append.1 hz with hz | hz
    · exact h7 z hz
    · rw [List.mem_singleton] at hz
      subst hz
      split <;> simp
theorem PmB.pairY {w0 : World} {x : Pm} (h : PmB w0 x) {k : Int} (hk : k = 1 ∨ k = 2) (hn : k ≤ x.1.it.n) : PmB w0 (pairY x k) := by
  obtain ⟨h1, h2, h3, h4, h5, h6, h7⟩ := h
  refine ⟨?_, ?_, ?_, ?_, h5, h6, h7⟩
  · show x.1.it.n - k ≤ _; omega
  · show 0 < x.1.it.n - k → x.1.it.n - k ≤ x.1.it.ff; intro _; have := h2 (by omega); omega
  · show ((x.1.en + 1 : Nat) : Int) + max (x.1.it.n - k) 0 ≤ _; omega
  · show (x.1.bg.length : Int) + max (x.1.it.n - k) 0 ≤ _; omega
/-- Kinds that go together, and rows that do. -/
theorem fit_is {o c : Itm} (ho : 0 < o.ff) (hc : 0 < c.ff) (hs : o.sg = c.sg) : fitK c.sg (o.op && o.cl) (o.ff.tmod 3) (c.op && c.cl) (c.ff.tmod 3) = fitI o c := by
  have e : (o.ff.tmod 3 + c.ff.tmod 3).tmod 3 = (o.ff + c.ff).tmod 3 := by
    rw [Int.tmod_eq_emod_of_nonneg (by omega : 0 ≤ o.ff), Int.tmod_eq_emod_of_nonneg (by omega : 0 ≤ c.ff), Int.tmod_eq_emod_of_nonneg (by omega : 0 ≤ o.ff + c.ff), Int.tmod_eq_emod_of_nonneg (by omega)]
    omega
  unfold fitK fitI
  rw [e, hs]
  cases h1 : (o.op && o.cl) <;> cases h2 : (c.op && c.cl) <;> simp [bne] <;> (by_cases h3 : o.ff.tmod 3 = 0 <;> by_cases h4 : c.ff.tmod 3 = 0 <;> simp [h3, h4])
theorem tmod_lo {f : Int} (h : 0 < f) : 0 ≤ f.tmod 3 ∧ f.tmod 3 < 3 := by
  rw [Int.tmod_eq_emod_of_nonneg (by omega : 0 ≤ f)]; omega
theorem sat_fit {ps : List Pc} {ops : List Nat} {c : Itm} (hc : 0 < c.ff) {i : Nat} {p : Pc} (hi : i ∈ ops) (hp : ps[i]? = some p) (hf : 0 < p.it.ff) :
    SAt ps ops c.sg (c.op && c.cl) (c.ff.tmod 3) 2 0 i ↔ fitI p.it c = true := by
  unfold SAt proc
  constructor
  · rintro ⟨_, b, r, _, h1, h2⟩
    simp only [kAt, hp, kB] at h1
    simp at h1
    obtain ⟨⟨h3, h4⟩, h5⟩ := h1
    subst h4 h5
    rw [← fit_is hf hc h3]
    exact h2
  · intro h
    have hs : p.it.sg = c.sg := by
      unfold fitI at h
      simp at h
      exact h.1
    refine ⟨hi, (p.it.op && p.it.cl), p.it.ff.tmod 3, ⟨(tmod_lo hf).1, (tmod_lo hf).2, Or.inl ?_⟩, ?_, ?_⟩
    · cases (p.it.op && p.it.cl) <;> simp
    · simp [kAt, hp, kB, hs]
    · rw [fit_is hf hc hs]; exact h
/-- Ascending places, split at one of them. -/
theorem split_at {l : List Nat} (h : l.Pairwise (· < ·)) {i : Nat} (hi : i ∈ l) : ∃ o1 o2, l = o1 ++ i :: o2 ∧ ∀ j ∈ o2, i < j := by
  obtain ⟨o1, o2, rfl⟩ := List.append_of_mem hi
  exact ⟨o1, o2, rfl, fun j hj => (List.pairwise_cons.1 (List.pairwise_append.1 h).2.1).1 j hj⟩
def cellN (w : World) (bp a : Nat) : Nat := match w.cell? ⟨bp, a * 8 + 5, none⟩ with
  | some (.int _ n) => n.toNat
  | _ => 0
/-- Between two pairings: what is done ahead, the closer, which may open. -/
structure ClSt (S : List Itm) (r : List Itm) (w0 : World) (b bp bm cap : Nat) (a : Nat) (Qs : List Pm) (y : Pm) (ops : List Nat) (w : World) : Prop where
  st : ∃ n D ov, PrSt w b bp bm cap n D (Qs ++ [y]) ops ops ov ∧ n + ops.length ≤ 2 * a
  run : Run S (Qs.map Prod.fst) y.1.en ops (y.1.it :: r)
  bds : ∀ x ∈ Qs ++ [y], PmB w0 x
  bg : y.1.bg = [] ∧ y.2.2 = .slice none 0 0
  len : Qs.length = a
theorem run_ops {S : List Itm} {ps : List Pc} {e : Nat} {ops : List Nat} {r : List Itm} (h : Run S ps e ops r) : ops.Pairwise (· < ·) ∧ ∀ k ∈ ops, ∃ p, ps[k]? = some p ∧ mayOpen p.it = true := by
  obtain ⟨l, h1, _⟩ := h.ex
  exact ⟨sim_ops h1, sim_at h1⟩
theorem map_fst_get {Qs : List Pm} {k : Nat} {p : Pc} (h : (Qs.map Prod.fst)[k]? = some p) : ∃ x, Qs[k]? = some x ∧ x.1 = p := by
  rw [List.getElem?_map] at h
  cases hx : Qs[k]? with
  | none => rw [hx] at h; cases h
  | some x => rw [hx] at h; exact ⟨x, rfl, Option.some.inj h⟩
def ClEnd (S r : List Itm) (w0 : World) (b bp bm cap B a : Nat) (sg : UInt8) (ff : Int) (op cl : Bool) (nd : List Iln) (w : World) (e : Ending) (w' : World) : Prop :=
  e = .returned (.tuple #[]) ∧ (∃ Qs y ops, ClSt S r w0 b bp bm cap a Qs y ops w' ∧ (y.1.it.sg = sg ∧ y.1.it.ff = ff ∧ y.1.it.op = op ∧ y.1.it.cl = cl ∧ y.1.it.nd = nd) ∧
    (canClose y.1.it = true → ∀ k ∈ ops, ∀ p, (Qs.map Prod.fst)[k]? = some p → fitI p.it y.1.it = false)) ∧ KB B w w'
set_option maxHeartbeats 8000000 in
theorem close_any {S r : List Itm} {w0 w : World} {b bp bm cap B a : Nat} {Qs : List Pm} {y : Pm} {ops : List Nat} {sg : UInt8} {ff : Int} {op cl : Bool} {nd : List Iln} (h : ClSt S r w0 b bp bm cap a Qs y ops w)
    (hstat : y.1.it.sg = sg ∧ y.1.it.ff = ff ∧ y.1.it.op = op ∧ y.1.it.cl = cl ∧ y.1.it.nd = nd) (hsg : sg ≠ 0) (hcl : cl = true) (hB : B ≤ bm ∧ B ≤ b ∧ B ≤ w.heap.size ∧ B ≤ bp) :
    Calls Tryz.prog 63 #[.pointer (some ⟨b, 0, none⟩), .int .i64 a] w (ClEnd S r w0 b bp bm cap B a sg ff op cl nd w) := by
  subst hcl
  have HH := Lib.hid h
  have HST := Lib.hid hstat
  clear h hstat
  go_enter Tryz.func63, Tryz.ntmps63
  go_wp2_with fail
  go_loopw [4] (fun _ wr => (∃ Qs y ops, ClSt S r w0 b bp bm cap a Qs y ops wr ∧ (y.1.it.sg = sg ∧ y.1.it.ff = ff ∧ y.1.it.op = op ∧ y.1.it.cl = true ∧ y.1.it.nd = nd)) ∧ KB B w wr) (fun _ wr => cellN wr bp a)
  case atStart => exact ⟨⟨Qs, y, ops, HH.out, HST.out⟩, KB.refl _ _⟩
  case round =>
    clear HH HST
    obtain ⟨⟨Qs, y, ops, hC, hst⟩, hbw⟩ := hrel
    obtain ⟨n, D, ov, hP, hM⟩ := hC.st
    have HMM := Lib.hid hM
    clear hM
    have hya : (Qs ++ [y])[a]? = some y := by rw [List.getElem?_append_right (by rw [hC.len]; exact Nat.le_refl _), hC.len, Nat.sub_self]; rfl
    have hlen : (Qs ++ [y]).length = a + 1 := by rw [List.length_append, hC.len]; rfl
    obtain ⟨c0, c1, c2, bfz, hbl⟩ := hP.bcells
    obtain ⟨⟨r0, r1, r2, r3, r4, r5, r6, r7⟩, pfz, hbpl, hal⟩ := hP.pcells hya
    have hyb := hC.bds y (by simp)
    rw [hlen] at c0
    have hsm := hP.small
    have hln := hP.len
    rw [hlen] at hln
    have hbs := hbw.size
    have halt : (a : Int) < (a : Int) + 1 := by omega
    have HN : cellN wr bp a = y.1.it.n.toNat := by unfold cellN; rw [r5]
    have HNN := Lib.hid HN
    clear HN
    by_cases hn : 0 < y.1.it.n
    · have hff := hyb.n2 hn
      have hcan : canClose y.1.it = true := by simp [canClose, hst.1, hst.2.2.2.1, hsg, hn]
      obtain ⟨hasc, hops⟩ := run_ops hC.run
      have hops' : ∀ i ∈ ops, i < (Qs ++ [y]).length := fun i hi => by
        obtain ⟨p, hp, _⟩ := hops i hi
        have := (List.getElem?_eq_some_iff.1 hp).1
        rw [List.length_map] at this
        rw [List.length_append]; omega
      have hSat : ∀ i ∈ ops, ∀ p, (Qs.map Prod.fst)[i]? = some p → (SAt ((Qs ++ [y]).map Prod.fst) ops y.1.it.sg (y.1.it.op && y.1.it.cl) (y.1.it.ff.tmod 3) 2 0 i ↔ fitI p.it y.1.it = true) := fun i hi p hp => by
        obtain ⟨x, hx, rfl⟩ := map_fst_get hp
        have hx2 := (hC.bds x (List.mem_append_left _ (List.mem_of_getElem? hx))).n2
        obtain ⟨p2, hp2, hm⟩ := hops i hi
        rw [hp] at hp2
        cases hp2
        simp [mayOpen] at hm
        refine sat_fit (by omega) hi ?_ (by have := hx2 hm.2; omega)
        rw [List.map_append, List.getElem?_append_left (List.getElem?_eq_some_iff.1 hp).1]
        exact hp
      have hop := fun W (hb : Below wr.heap.size wr W) => opener_any (hP.below hb) hasc hops' y.1.it.sg (y.1.it.op && y.1.it.cl) (y.1.it.ff.tmod 3) (em_tmod _)
      have hki := fun W => kindOf_any y.1.it y.2.1 W
      unfold itV kV at hki
      have HOP := Lib.hid hop
      have HSA := Lib.hid hSat
      have HCC := Lib.hid hC
      have HPP := Lib.hid hP
      have HST := Lib.hid hst
      have HYB := Lib.hid hyb
      have HKI := Lib.hid hki
      have HA := Lib.hid (And.intro hasc hops)
      clear hop hSat hC hP hst hyb hki hasc hops
      unfold kindV at HOP HKI
      generalize y.1.it.ff.tmod 3 = rr at *
      go_wp2_with fail
      refine (HKI.out _).mono ?_
      rintro e w1 ⟨rfl, b1⟩
      have b1' : Below wr.heap.size wr w1 := b1
      clear b1
      go_wp2_with fail
      refine (HOP.out w1 b1').mono ?_
      rintro e w2 ⟨⟨v, rfl, hbest⟩, b2⟩
      have b2' : Below wr.heap.size wr w2 := b1'.then b2
      have HB2 := Lib.hid b2'
      have hs2 := b2'.size
      clear b2 b1' b2'
      rcases hbest with ⟨rfl, hno⟩ | ⟨i, rfl, hSi, hmx⟩
      · have HNO := Lib.hid hno
        clear hno
        go_wp2
        go_end0
        exact ⟨rfl, ⟨Qs, y, ops, ⟨⟨n, D, ov, HPP.out.below HB2.out, HMM.out⟩, HCC.out.run, HCC.out.bds, HCC.out.bg, HCC.out.len⟩, HST.out, fun _ k hk p hp => by
          cases hf : fitI p.it y.1.it with
          | false => rfl
          | true => exact absurd ((HSA.out k hk p hp).2 hf) (HNO.out k)⟩, hbw.thenB HB2.out (by omega)⟩
      · have hio : i ∈ ops := hSi.1
        obtain ⟨p, hp, hmo⟩ := HA.out.2 i hio
        obtain ⟨x, hx, rfl⟩ := map_fst_get hp
        have hxl := (List.getElem?_eq_some_iff.1 hx).1
        have hxb := HCC.out.bds x (List.mem_append_left _ (List.mem_of_getElem? hx))
        have hfit := (HSA.out i hio x.1 hp).1 hSi
        obtain ⟨o1, o2, hoo, ho2⟩ := split_at HA.out.1 hio
        have hxn : 0 < x.1.it.n := by simp [mayOpen] at hmo; exact hmo.2
        have hx' : (Qs ++ [y])[i]? = some x := by rw [List.getElem?_append_left hxl]; exact hx
        have hPw := HPP.out.below HB2.out
        have hrun := HCC.out.run
        have hasc := HA.out.1
        rw [hoo] at hPw hrun hops' hasc
        have hia : i < a := by have := HCC.out.len; omega
        have hrp := run_pair hrun hcan hp hfit (fun k hk q hq => by
          have hko : k ∈ ops := by rw [hoo]; simp [hk]
          cases hf : fitI q.it y.1.it with
          | false => rfl
          | true =>
            have h1 := hmx k ((HSA.out k hko q hq).2 hf)
            have h2 := ho2 k hk
            omega)
        have hpair := pair_any (B := B) hPw ⟨hB.1, hB.2.1, by omega, hB.2.2.2⟩ hops' hasc hx' hya hia ⟨hxn, hxb.n1⟩ ⟨hn, HYB.out.n1⟩ (by have := HYB.out.en; omega) (by have := hxb.bg; omega)
        have hkk := kOf_is x.1.it y.1.it hxn hn
        have HRP := Lib.hid hrp
        have HPA := Lib.hid hpair
        have HXB := Lib.hid hxb
        have hcn : ((i : Int) < 0) = False := by simp
        have HOO := Lib.hid hoo
        clear hSi hmx hp hfit hoo ho2 hPw hrun hops' hasc hrp hpair hxb hio hmo
        go_wp2_with fail
        refine HPA.out.mono ?_
        rintro e w3 ⟨rfl, ⟨n3, D3, ov3, bv3, h3, hM3⟩, b3⟩
        have HM3 := Lib.hid hM3
        clear hM3
        have hset : ((Qs ++ [y]).set i (pairX x (kOf x.1.it y.1.it) bv3)).set a (pairY y (kOf x.1.it y.1.it)) = Qs.set i (pairX x (kOf x.1.it y.1.it) bv3) ++ [pairY y (kOf x.1.it y.1.it)] := by
          rw [List.set_append_left _ _ hxl, List.set_append_right _ _ (by rw [List.length_set, HCC.out.len]; exact Nat.le_refl _), List.length_set, HCC.out.len, Nat.sub_self]
          rfl
        rw [hset] at h3
        have hcell := (h3.pcells (k := a) (x := pairY y (kOf x.1.it y.1.it)) (by rw [List.getElem?_append_right (by rw [List.length_set, HCC.out.len]; exact Nat.le_refl _), List.length_set, HCC.out.len, Nat.sub_self]; rfl)).1.2.2.2.2.2.1
        have HC3 := Lib.hid hcell
        have HH3 := Lib.hid h3
        have HB3 := Lib.hid ((hbw.thenB HB2.out (show B ≤ _ by omega)).trans b3)
        clear h3 hcell hset b3
        go_wp2
        go_roundw
        case rel =>
          refine ⟨⟨_, _, _, ⟨⟨n3, D3, ov3, HH3.out, Nat.le_trans HM3.out (by rw [← HOO.out]; exact HMM.out)⟩, ?_, ?_, HCC.out.bg, by rw [List.length_set]; exact HCC.out.len⟩, HST.out⟩, HB3.out⟩
          · rw [List.map_set]
            exact HRP.out
          · intro z hz
            rcases List.mem_append.1 hz with hz | hz
            · rcases mem_set_ne hz with rfl | ⟨m, _, hz⟩
              · exact HXB.out.pairX hkk.1 hkk.2.1 _
              · exact HCC.out.bds z (List.mem_append_left _ (List.mem_of_getElem? hz))
            · rw [List.mem_singleton] at hz
              subst hz
              exact HYB.out.pairY hkk.1 hkk.2.2
        case measure =>
          rw [HNN.out]
          have h1 : cellN w3 bp a = (y.1.it.n - kOf x.1.it y.1.it).toNat := by unfold cellN; rw [HC3.out]; rfl
          rw [h1]
          omega
    · have hn0 : y.1.it.n ≤ 0 := by omega
      have HCC := Lib.hid hC
      have HST := Lib.hid hst
      clear hC hst hP hyb
      go_wp2
      go_end0
      exact ⟨rfl, ⟨Qs, y, ops, HCC.out, HST.out, fun h => absurd (canClose_pos h).1 (by omega)⟩, hbw⟩
end Go.Proofs.YtfbaknkmpilllaaGreatDoor

namespace Go.Proofs.YtfbaknkmpilllaaGreatDoor
open Go.RowKit
set_option linter.unusedVariables false
theorem tgConv_byte (w : World) (v : Int) (h0 : 0 ≤ v) (h1 : v ≤ 255) :
    (convert 44 9 (.slice (some ⟨w.heap.size, 0, none⟩) 1 1)).run Tryz.prog (w.alloc (.cells #[.int .u8 v] 5)) = .ok (.string ⟨#[v.toNat.toUInt8]⟩) (w.alloc (.cells #[.int .u8 v] 5)) := by
  exact run_convert_bytes_back (w.alloc (.cells #[.int .u8 v] 5)) 44 9 5 ⟨w.heap.size, 0, none⟩ 1 [v.toNat.toUInt8] Tryz.underlying44 Tryz.underlying5 Tryz.underlying9 (fun j hj => by
    simp only [List.length_cons, List.length_nil] at hj
    obtain rfl : j = 0 := by omega
    have e : ((v.toNat.toUInt8).toNat : Int) = v := by
      rw [Nat.toUInt8_eq, UInt8.toNat_ofNat']
      omega
    show _ = some (Value.int .u8 ((v.toNat.toUInt8).toNat : Int))
    rw [e]
    simp [Addr.add])
theorem conv_u8 (q : UInt8) (w : World) :
    (convert 44 9 (.slice (some ⟨w.heap.size, 0, none⟩) 1 1)).run Tryz.prog (w.alloc (.cells #[.int .u8 q.toNat] 5)) = .ok (.string ⟨#[q]⟩) (w.alloc (.cells #[.int .u8 q.toNat] 5)) := by
  have h := tgConv_byte w q.toNat (by omega) (by have := q.toNat_lt; omega)
  rw [show ((q.toNat : Int)).toNat.toUInt8 = q from by simp] at h
  exact h
end Go.Proofs.YtfbaknkmpilllaaGreatDoor

namespace Go.Proofs.YtfbaknkmpilllaaGreatDoor
open Go.RowKit
set_option linter.unusedSimpArgs false
set_option linter.unusedVariables false
set_option maxRecDepth 100000
def deepX (d : Int) (x : Iln) : Iln := { x with dp := IntKind.i64.wrap (x.dp + d) }
theorem deepBy_is (d : Int) (l : List Iln) : deepBy d l = l.map (deepX d) := rfl
set_option maxHeartbeats 4000000 in
theorem deeper_any (d : Int) (A : Option Addr) (cap : Nat) (X : List Iln) (w : World) (hrow : InlsAt w A cap X) (hn : X.length ≤ 100000000) :
    Calls Tryz.prog 70 #[.int .i64 d, .slice A X.length cap] w fun e w' => ∃ v, e = .returned v ∧ w'.ownsRow w.heap.size 30 5 v X.length (flt ilC (deepBy d X)) ∧ Below w.heap.size w w' := by
  have cc := clone_inls A cap X w hrow hn
  clear hrow
  go_enter Tryz.func70, Tryz.ntmps70
  go_wp2_with fail
  refine cc.mono ?_
  rintro e w1 ⟨v, rfl, ho, b1⟩
  obtain ⟨A1, c1, rfl, hr1⟩ := EltsAt.own ilC_length ho
  have HO := Lib.hid ho
  have hs1 := b1.size
  clear ho hr1
  go_wp2_with fail
  go_loopw [11] (fun i wr => ∃ k : Nat, i = .int .i64 k ∧ k ≤ X.length ∧ wr.ownsRow w.heap.size 30 5 (.slice A1 X.length c1) X.length (flt ilC (deepBy d (X.take k) ++ X.drop k)) ∧ Below w.heap.size w wr) (fun i _ => X.length - (intOf i).toNat)
  case atStart => exact ⟨0, rfl, Nat.zero_le _, HO.out, b1⟩
  case round =>
    obtain ⟨k, rfl, hk, hown, hbw⟩ := hrel
    by_cases hp : k < X.length
    · obtain ⟨g, c, e, hg, hgl⟩ := hown.form (by omega)
      cases e
      have hll : (deepBy d (X.take k) ++ X.drop k).length = X.length := by rw [List.length_append, deepBy_is, List.length_map, List.length_take, List.length_drop]; omega
      have hget : (deepBy d (X.take k) ++ X.drop k)[k]? = some X[k] := by
        rw [List.getElem?_append_right (by rw [deepBy_is, List.length_map, List.length_take]; omega), List.getElem?_drop, deepBy_is, List.length_map, List.length_take, Nat.min_eq_left hk, Nat.sub_self, Nat.add_zero, List.getElem?_eq_getElem hp]
      have c1' : wr.cell? ⟨g, k * 5 + 1, none⟩ = some (.int .i64 X[k].dp) := own_elt ilC_length hown (k := k) (by omega) 1 _ (by rw [(List.getElem?_eq_some_iff.1 hget).2]; rfl)
      have f1 := hown.frozenAt (k * 5 + 1)
      obtain ⟨s1, g1⟩ := hown.stored (k * 5 + 1) (.int .i64 (IntKind.i64.wrap (X[k].dp + d)))
      have hfs := flt_set1 ilC_length 1 (.int .i64 (IntKind.i64.wrap (X[k].dp + d))) (deepX d X[k]) (by omega) _ k X[k] hget rfl
      rw [hfs] at s1
      have hset : (deepBy d (X.take k) ++ X.drop k).set k (deepX d X[k]) = deepBy d (X.take (k + 1)) ++ X.drop (k + 1) := by
        rw [List.set_append_right _ _ (by rw [deepBy_is, List.length_map, List.length_take]; omega), deepBy_is, List.length_map, List.length_take, Nat.min_eq_left hk, Nat.sub_self, List.drop_eq_getElem_cons hp, List.set_cons_zero, List.take_succ_eq_append_getElem hp, deepBy_is, List.map_append, List.append_assoc]
        rfl
      rw [hset] at s1
      have hww : wrap64 (X[k].dp + d) = IntKind.i64.wrap (X[k].dp + d) := by first | rfl | simp only [wrap64, IntKind.wrap_i64]
      rw [← hww] at s1 g1
      clear hww
      have HS := Lib.hid s1
      have HG := Lib.hid g1
      clear s1 g1 hown hset hget
      generalize hx : X[k].dp = xd at *
      clear hx
      go_wp2
      go_roundw
      case rel => exact ⟨k + 1, by go_num, by omega, HS.out, hbw.setCell (p := ⟨g, k * 5 + 1, none⟩) hg _⟩
      case measure => simp [intOf]; omega
    · obtain rfl : k = X.length := by omega
      rw [List.take_length, List.drop_length, List.append_nil] at hown
      have HE := Lib.hid hown
      clear hown
      go_wp2
      go_ret
      exact ⟨_, rfl, HE.out, hbw⟩
theorem repeatL_one (b : UInt8) (n : Nat) : Lib.repeatL [b] n = List.replicate n b := by
  induction n with
  | zero => rfl
  | succ n ih => rw [Lib.repeatL, ih]; rfl
theorem row_emph (sg : UInt8) (n : Nat) (w : World) (hn : n ≤ 4294967296) :
    Calls Tryz.prog 71 #[.int .u8 sg.toNat, .int .i64 n] w fun e w' => e = .returned (.string ⟨(List.replicate n sg).toArray⟩) ∧ Below w.heap.size w w' := by
  have hcv := conv_u8 sg
  have cr := fun W => Tryz.strings_Repeat ⟨#[sg]⟩ n W (by omega) (by show 1 * n ≤ _; omega)
  have bA := (Below.refl _ w).alloc (Nat.le_refl _) (.cells #[.int .u8 sg.toNat] 5)
  have HB := Lib.hid bA
  clear bA
  go_enter Tryz.func71, Tryz.ntmps71
  go_wp2_with fail
  refine (cr _).mono ?_
  rintro e w1 ⟨rfl, b1⟩
  go_wp2
  go_ret
  exact ⟨by rw [← repeatL_one]; rfl, HB.out.then b1⟩
end Go.Proofs.YtfbaknkmpilllaaGreatDoor

namespace Go.Proofs.YtfbaknkmpilllaaGreatDoor
open Go.RowKit Go.Shelf
attribute [local go_sem] Oper.semAt_some
set_option linter.unusedSimpArgs false
set_option linter.unusedVariables false
set_option maxRecDepth 100000
/-- What a round must keep: the box with the slice, the slice's block. -/
def BwKp (bx : Nat) (v : Value) (W W' : World) : Prop := W'.heap[bx]? = W.heap[bx]? ∧ ∀ g, v.ownBlock = some g → W'.heap[g]? = W.heap[g]?
abbrev bwE (x : Int × Int) : Array Value := #[.int .i64 x.1, .int .i64 x.2]
def bwS (zs : List Int) (xs : List (Int × Int)) : Prop := xs.map Prod.snd = zs.reverse
theorem bw_rest {zs r : List Int} {pre : List (Int × Int)} {z : Int} (h : zs = r ++ [z] ++ (pre.map Prod.snd).reverse) (i : Int) : zs = r ++ ((pre ++ [(i, z)]).map Prod.snd).reverse := by
  rw [h]; simp
set_option maxHeartbeats 2000000 in
theorem backward_stops (bx B : Nat) (v : Value) (zs : List Int) (w0 : World) (hbx : w0.heap[bx]? = some (.cells #[v] 35 (0, 0))) (hv : w0.ownsRow B 3 1 v zs.length (zs.map (Value.int .i64))) (hl : zs.length ≤ 4294967297) (n : Nat) (hn : 1 ≤ n) :
    SeqStopsK Fence.wide n Tryz.prog 103 #[.pointer (some ⟨bx, 0, none⟩)] bwE (BwKp bx v) (bwS zs) (fun _ => True) zs.length w0 := by
  intro l J Jx W hW hJ hJx hY h0
  have hbxW := (hW.block bx (Array.getElem?_eq_some_iff.1 hbx).1).trans hbx
  have hvW := ownsRow_below hv hW
  refine callsIn_of_wp Tryz.func103 rfl trivial ?_ rfl
  simp only [Tryz.ntmps103, List.size_toArray, List.length_cons, List.length_nil, Nat.reduceAdd, Nat.reduceSub, Array.replicate_succ, Array.replicate_zero, List.push_toArray, List.append_toArray, List.nil_append, List.cons_append]
  obtain ⟨A, c, rfl, _⟩ : ∃ A c, v = .slice A zs.length c ∧ zs.length ≤ c := by
    rcases hvW.2 with ⟨rfl, h0⟩ | ⟨g, cap, cur, rfl, hb, hg, hnc, hcm, hcs, ht⟩
    · exact ⟨none, 0, by rw [h0], by omega⟩
    · exact ⟨_, cap, rfl, hnc⟩
  have c0 : W.cell? ⟨bx, 0, none⟩ = some (.slice A zs.length c) := (cell_of_row W bx 0 _ _ (0, 0) hbxW).trans rfl
  have HY := Lib.hid hY
  have HBX := Lib.hid hbxW
  have HV := Lib.hid hvW
  have H0 := Lib.hid h0
  clear hY hbxW hvW hbx hv h0
  gi_wp2
  gi_loopw [3] (fun i wr => ∃ (pre : List (Int × Int)) (r : List Int), zs = r ++ (pre.map Prod.snd).reverse ∧ i = .int .i64 ((r.length : Int) - 1) ∧ J pre wr ∧ BwKp bx (.slice A zs.length c) W wr) (fun i _ => (intOf i + 1).toNat)
  case atStart => exact ⟨[], zs, by simp, by go_num, H0.out, rfl, fun g _ => rfl⟩
  case round =>
    obtain ⟨pre, r, hz, rfl, hJr, hkp⟩ := hrel
    have c1 : wr.cell? ⟨bx, 0, none⟩ = some (.slice A zs.length c) := (World.cell?_of_block (a := ⟨bx, 0, none⟩) hkp.1).trans c0
    have hrl : r.length ≤ zs.length := by rw [hz, List.length_append]; omega
    rcases List.eq_nil_or_concat r with rfl | ⟨r', z, rfl⟩
    · have hs : bwS zs pre := by unfold bwS; rw [hz]; simp
      gi_wp2
      go_end0
      exact ⟨⟨_, rfl⟩, .inl ⟨pre, hs, hJr⟩⟩
    · rw [List.concat_eq_append] at hz hrl
      have hlen : (r'.concat z).length = r'.length + 1 := by simp
      rw [hlen]
      have hzl : r'.length < zs.length := by rw [List.length_append, List.length_singleton] at hrl; omega
      obtain ⟨g, cap, e, hbg, hgl⟩ := HV.out.form (by omega)
      cases e
      have hcz := HV.out.cellAt r'.length (by omega)
      have hzz : zs[r'.length]? = some z := by
        rw [hz, List.append_assoc, List.getElem?_append_right (Nat.le_refl _), Nat.sub_self]
        rfl
      rw [List.getElem?_map, hzz] at hcz
      have c2 : wr.cell? ⟨g, r'.length, none⟩ = some (.int .i64 z) := (World.cell?_of_block (a := ⟨g, r'.length, none⟩) (hkp.2 g rfl)).trans hcz
      obtain ⟨fn, tmps, assign, body, hy, hR⟩ := HY.out pre ((r'.length : Int), z) wr hJr (by have := congrArg List.length hz; simp at this; omega)
      dsimp only [bwE] at hy
      have hi1 : ((r'.length : Int) < (zs.length : Int)) := by omega
      have HK := Lib.hid hkp
      have HZ := Lib.hid hz
      have HRR := Lib.hid hR
      clear hkp hcz hzz hR hJr hlen hz
      gi_wp2
      refine HRR.out.mono ?_
      rintro e W3 (⟨rfl, hJ3, hk3⟩ | ⟨rfl, hJx3⟩)
      · have HJ3 := Lib.hid hJ3
        have HK3 := Lib.hid (show BwKp bx (.slice (some ⟨g, 0, none⟩) zs.length c) W W3 from ⟨hk3.1.trans HK.out.1, fun g' h => (hk3.2 g' h).trans (HK.out.2 g' h)⟩)
        clear hJ3 hk3
        gi_wp2
        go_roundw
        case rel => exact ⟨pre ++ [((r'.length : Int), z)], r', bw_rest HZ.out _, rfl, HJ3.out, HK3.out⟩
        case measure => simp [intOf]
      · have HJ3 := Lib.hid hJx3
        clear hJx3
        gi_wp2
        refine bodyPost_ret (results_none rfl _ _ _) rfl ?_
        exact ⟨⟨_, rfl⟩, .inr ⟨_, trivial, HJ3.out⟩⟩
end Go.Proofs.YtfbaknkmpilllaaGreatDoor

namespace Go.Proofs.YtfbaknkmpilllaaGreatDoor
open Go.RowKit Go.Maps Go.ChangeShapes
set_option linter.unusedSimpArgs false
set_option linter.unusedVariables false
set_option maxRecDepth 100000
def downs : Int → List Int → List Iln
  | _, [] => []
  | d, k :: ks => ⟨k, IntKind.i64.wrap d, [], [], []⟩ :: downs (d + 1) ks
theorem downs_snoc (d : Int) (ks : List Int) (k : Int) : downs d (ks ++ [k]) = downs d ks ++ [⟨k, IntKind.i64.wrap (d + ks.length), [], [], []⟩] := by
  induction ks generalizing d with
  | nil => simp [downs]
  | cons x ks ih => simp [downs, ih, Int.add_assoc, Int.add_comm 1]
theorem ren_downs (ks : List Int) (r : List Ev) : ∀ d, ren d (ks.map Ev.dn ++ r) = downs d ks ++ ren (d + ks.length) r := by
  induction ks with
  | nil => intro d; simp [downs]
  | cons k ks ih => intro d; simp [ren, downs, ih, Int.add_assoc, Int.add_comm 1]
theorem ren_ups (n : Nat) (r : List Ev) : ∀ d, ren d (List.replicate n Ev.up ++ r) = ren (d - n) r := by
  induction n with
  | zero => intro d; simp
  | succ n ih => intro d; rw [List.replicate_succ, List.cons_append]; simp only [ren]; rw [ih]; congr 1; omega
theorem ren_nodes {p : Pc} (h : p.it.sg = 0) (i : Nat) (ps : List Pc) (d : Int) : ren d (evF i (p :: ps)) = deepBy d p.it.nd ++ ren d (evF (i + 1) ps) := by
  simp [evF, evP, h, ren]
theorem ren_row {p : Pc} (h : p.it.sg ≠ 0) (i : Nat) (ps : List Pc) (d : Int) :
    ren d (evF i (p :: ps)) = rowW (d - p.en) p.it ++ downs (d - p.en) p.bg.reverse ++ ren (d - p.en + p.bg.length) (evF (i + 1) ps) := by
  simp only [evF, evP, if_neg h, List.append_assoc, List.cons_append]
  rw [ren_ups]
  simp only [ren]
  rw [ren_downs, List.length_reverse]
theorem wrapS (a b : Int) : IntKind.i64.wrap (IntKind.i64.wrap a - b) = IntKind.i64.wrap (a - b) := by
  simp only [IntKind.wrap_i64]
  omega
theorem deepBy_wrap (d : Int) (l : List Iln) : deepBy (IntKind.i64.wrap d) l = deepBy d l := by
  unfold deepBy
  refine List.map_congr_left fun x _ => ?_
  have : IntKind.i64.wrap (x.dp + IntKind.i64.wrap d) = IntKind.i64.wrap (x.dp + d) := by simp only [IntKind.wrap_i64]; omega
  rw [this]
def Marks (n0 : Nat) (W : World) (ds : List Deferred) : Prop := ∃ Ds : List Nat, ds = Ds.map (fun D => ({ target := .collected D, args := #[] } : Deferred)) ∧ Ds.Nodup ∧ ∀ D ∈ Ds, n0 ≤ D ∧ W.heap[D]? = some (.deferred (some []))
theorem Marks.nil (n0 : Nat) (W : World) : Marks n0 W [] := ⟨[], rfl, by simp, by simp⟩
theorem Marks.keep {n0 : Nat} {W W' : World} {ds : List Deferred} (h : Marks n0 W ds) (k : ∀ (g : Nat) (o : Obj), W.heap[g]? = some o → o.isCells = false → W'.heap[g]? = some o) : Marks n0 W' ds := by
  obtain ⟨Ds, h1, h2, h3⟩ := h
  exact ⟨Ds, h1, h2, fun D hD => ⟨(h3 D hD).1, k D _ (h3 D hD).2 rfl⟩⟩
theorem Marks.push {n0 : Nat} {W W' : World} {ds : List Deferred} (h : Marks n0 W ds) (h' : Marks n0 W' ds) {D : Nat} (hD : W.heap.size ≤ D) (hn : n0 ≤ D) (hk : W'.heap[D]? = some (.deferred (some []))) : Marks n0 W' ({ target := .collected D, args := #[] } :: ds) := by
  obtain ⟨Ds, h1, h2, h3⟩ := h
  obtain ⟨Ds', h1', h2', h3'⟩ := h'
  refine ⟨D :: Ds, by rw [h1]; rfl, List.nodup_cons.2 ⟨fun hm => ?_, h2⟩, fun E hE => ?_⟩
  · have := (Array.getElem?_eq_some_iff.1 (h3 D hm).2).1
    omega
  · rcases List.mem_cons.1 hE with rfl | hE
    · exact ⟨hn, hk⟩
    · have e : Ds = Ds' := by
        have h5 := h1.symm.trans h1'
        exact (List.map_inj_right (fun a b hab => by cases hab; rfl)).1 h5
      rw [e] at hE
      exact h3' E hE
theorem step_append_inls {ops : Array Oper} {o : Oper} {a : Act} {w : World} {K : Act → World → Prop} {Q : Exit → Act → World → Prop} {E : Prop} (hg : o.guard = none) (s x : Operand)
    (ho : o.op = .call { callee := .builtin .append, args := #[s, x], argTypes := #[27, 27] }) (base B2 : Nat) (v : Value) (X Y : List Iln) (hs : a.eval s = v) (hown : w.ownsRow base 30 5 v X.length (flt ilC X))
    (u : Value) (hx : a.eval x = u) (hu : w.ownsRow B2 30 5 u Y.length (flt ilC Y)) (hb : X.length + Y.length ≤ 200000000) (hbase : base ≤ w.heap.size)
    (hK : ∀ A c w', w'.ownsRow base 30 5 (.slice A (X ++ Y).length c) (X ++ Y).length (flt ilC (X ++ Y)) → w.grownBy w' v.ownBlock → K (a.put o.dst (.slice A (X ++ Y).length c)) w') :
    if Region.wanted o (yielded ops a.tmps) = true then Oper.wp Tryz.prog o a w K Q else E := by
  have hw : Region.wanted o (yielded ops a.tmps) = true := by simp [Region.wanted, hg]
  rw [if_pos hw]
  obtain ⟨i0, hi, hz0, hz1, hz2⟩ := info_parts infoInl
  obtain ⟨v', w', hr, r1, r2⟩ : ∃ v' w', (Builtin.append_ #[27, 27] o.type #[v, u]).run Tryz.prog w = .ok v' w' ∧ w'.ownsRow base 30 5 v' (X ++ Y).length (flt ilC (X ++ Y)) ∧ w.grownBy w' v.ownBlock := by
    rcases hu.2 with ⟨rfl, h0⟩ | ⟨g, cap, cur, rfl, hbg, hgg, hnc, hcm, hcs, ht⟩
    · have hY : Y = [] := List.eq_nil_of_length_eq_zero h0
      subst hY
      refine ⟨v, w, run_append_owned_none (P := Tryz.prog) (w := w) base 27 o.type 30 i0 5 Tryz.underlying27 hi v X.length (flt ilC X) hown, by rw [List.append_nil]; exact hown, World.grownBy.refl _ _⟩
    · obtain ⟨v', w', hr, h2, h3, _, _⟩ := run_append_own_at (P := Tryz.prog) w base 27 o.type 30 i0 (.agg #[.int .i64 0, .int .i64 0, .string ByteArray.empty, .string ByteArray.empty, .string ByteArray.empty]) 5 64 Tryz.underlying27 hi hz0 hz1 hz2 rfl (by decide) v X.length (flt ilC X) hown ⟨g, 0, none⟩ Y.length cap (flt ilC Y) (flt_length ilC_length Y) (hu.cells (g := g) rfl) (ils_one' Y) (by unfold maxLen; omega) (by omega) hbase
      exact ⟨v', w', hr, by rw [List.length_append, flt_append]; exact h2, h3⟩
  obtain ⟨A, c, rfl, _⟩ := own_form r1
  unfold Oper.wp execOp
  simp only [ho, resolve, invoke, builtin, Sem.run_bind, Sem.run_pure, Result.andThen_ok, List.map_toArray, List.map_cons, List.map_nil, hs, hx, hr]
  exact hK A c w' r1 r2
structure NdMem (w : World) (out : List Iln) (d : Int) (v : Value) (ds : List Deferred) (wr : World) : Prop where
  b3 : wr.heap[w.heap.size]? = some (.cells #[v] 27 (0, 0))
  b4 : wr.heap[w.heap.size + 1]? = some (.cells #[.int .i64 (IntKind.i64.wrap d)] 3 (0, 0))
  own : wr.ownsRow w.heap.size 30 5 v out.length (flt ilC out)
  below : Below w.heap.size w wr
  marks : Marks w.heap.size wr ds
theorem NdMem.keep {w : World} {out : List Iln} {d : Int} {v : Value} {ds : List Deferred} {wr wr' : World} (h : NdMem w out d v ds wr) (hb : Below wr.heap.size wr wr') : NdMem w out d v ds wr' :=
  ⟨(hb.block _ (Array.getElem?_eq_some_iff.1 h.b3).1).trans h.b3, (hb.block _ (Array.getElem?_eq_some_iff.1 h.b4).1).trans h.b4, ownsRow_below h.own hb, h.below.then hb, h.marks.keep fun g o hg _ => (hb.block g (Array.getElem?_eq_some_iff.1 hg).1).trans hg⟩
theorem NdMem.cells {w : World} {out : List Iln} {d : Int} {v : Value} {ds : List Deferred} {wr : World} (h : NdMem w out d v ds wr) : wr.cell? ⟨w.heap.size, 0, none⟩ = some v ∧ wr.frozen? ⟨w.heap.size, 0, none⟩ = false ∧ wr.cell? ⟨w.heap.size + 1, 0, none⟩ = some (.int .i64 (IntKind.i64.wrap d)) ∧ wr.frozen? ⟨w.heap.size + 1, 0, none⟩ = false :=
  ⟨(cell_of_row _ _ 0 _ _ (0, 0) h.b3).trans rfl, by simp [World.frozen?, h.b3], (cell_of_row _ _ 0 _ _ (0, 0) h.b4).trans rfl, by simp [World.frozen?, h.b4]⟩
/-- An append, and its slice's store. -/
theorem NdMem.append {w : World} {out Y : List Iln} {d : Int} {v : Value} {ds : List Deferred} {wr w1 : World} {v' : Value} (h : NdMem w out d v ds wr) (hg : wr.grownBy w1 v.ownBlock) (ho : w1.ownsRow w.heap.size 30 5 v' (out ++ Y).length (flt ilC (out ++ Y))) :
    NdMem w (out ++ Y) d v' ds (w1.setCell ⟨w.heap.size, 0, none⟩ v') := by
  have n1 := own_ne h.own h.b3 (by decide)
  have n2 := own_ne h.own h.b4 (by decide)
  have h3 := (hg.block _ (Array.getElem?_eq_some_iff.1 h.b3).1 (fun e => n1 e.symm)).trans h.b3
  have h4 := (hg.block _ (Array.getElem?_eq_some_iff.1 h.b4).1 (fun e => n2 e.symm)).trans h.b4
  have hs := setc_grown w1 w.heap.size 0 v'
  refine ⟨by simp [World.setCell, Array.getElem?_modify, h3], (hs.block _ (Array.getElem?_eq_some_iff.1 h4).1 (fun e => by have := Option.some.inj e; omega)).trans h4, own_set ho h3 (by decide) 0 _, (h.below.grown hg h.below.size (fun r e => (h.own.lt r e).1)).setCell (p := ⟨w.heap.size, 0, none⟩) (Nat.le_refl _) _, h.marks.keep fun g o hgo hoc => ?_⟩
  have e1 : some g ≠ v.ownBlock := fun e => by
    rcases h.own.2 with ⟨rfl, _⟩ | ⟨g', cap, cur, rfl, _, hh, _⟩
    · cases e
    · cases e
      rw [hh] at hgo
      cases hgo
      cases hoc
  have h5 := (hg.block g (Array.getElem?_eq_some_iff.1 hgo).1 e1).trans hgo
  refine (hs.block g (Array.getElem?_eq_some_iff.1 h5).1 (fun e => ?_)).trans h5
  rw [Option.some.inj e, h3] at h5
  cases h5
  cases hoc
theorem NdMem.depth {w : World} {out : List Iln} {d : Int} {v : Value} {ds : List Deferred} {wr : World} (h : NdMem w out d v ds wr) (d' : Int) : NdMem w out d' v ds (wr.setCell ⟨w.heap.size + 1, 0, none⟩ (.int .i64 (IntKind.i64.wrap d'))) := by
  have hs := setc_grown wr (w.heap.size + 1) 0 (.int .i64 (IntKind.i64.wrap d'))
  refine ⟨(hs.block _ (Array.getElem?_eq_some_iff.1 h.b3).1 (fun e => by have := Option.some.inj e; omega)).trans h.b3, by simp [World.setCell, Array.getElem?_modify, h.b4], own_set h.own h.b4 (by decide) 0 _, h.below.setCell (p := ⟨w.heap.size + 1, 0, none⟩) (by show w.heap.size ≤ w.heap.size + 1; omega) _, h.marks.keep fun g o hgo hoc => ?_⟩
  refine (hs.block g (Array.getElem?_eq_some_iff.1 hgo).1 (fun e => ?_)).trans hgo
  rw [Option.some.inj e, h.b4] at hgo
  cases hgo
  cases hoc
theorem cells8 {W : World} {g : Nat} {c0 c1 c2 c3 c4 c5 c6 c7 : Value} {t : TypeId} (h : W.heap[g]? = some (.cells #[c0, c1, c2, c3, c4, c5, c6, c7] t (0, 0))) :
    W.cell? ⟨g, 0, none⟩ = some c0 ∧ W.cell? ⟨g, 1, none⟩ = some c1 ∧ W.cell? ⟨g, 2, none⟩ = some c2 ∧ W.cell? ⟨g, 3, none⟩ = some c3 ∧ W.cell? ⟨g, 4, none⟩ = some c4 ∧ W.cell? ⟨g, 5, none⟩ = some c5 ∧ W.cell? ⟨g, 6, none⟩ = some c6 ∧ W.cell? ⟨g, 7, none⟩ = some c7 :=
  ⟨(cell_of_row W g 0 _ _ (0, 0) h).trans rfl, (cell_of_row W g 1 _ _ (0, 0) h).trans rfl, (cell_of_row W g 2 _ _ (0, 0) h).trans rfl, (cell_of_row W g 3 _ _ (0, 0) h).trans rfl, (cell_of_row W g 4 _ _ (0, 0) h).trans rfl, (cell_of_row W g 5 _ _ (0, 0) h).trans rfl, (cell_of_row W g 6 _ _ (0, 0) h).trans rfl, (cell_of_row W g 7 _ _ (0, 0) h).trans rfl⟩
/-- Behind an append, ahead of its store: the boxes are as they were. -/
theorem NdMem.boxes {w : World} {out : List Iln} {d : Int} {v : Value} {ds : List Deferred} {wr w1 : World} (h : NdMem w out d v ds wr) (hg : wr.grownBy w1 v.ownBlock) : (w1.cell? ⟨w.heap.size, 0, none⟩ = some v ∧ w1.frozen? ⟨w.heap.size, 0, none⟩ = false) ∧ w1.cell? ⟨w.heap.size + 1, 0, none⟩ = some (.int .i64 (IntKind.i64.wrap d)) ∧ w1.frozen? ⟨w.heap.size + 1, 0, none⟩ = false := by
  have n1 := own_ne h.own h.b3 (by decide)
  have n2 := own_ne h.own h.b4 (by decide)
  have h3 := (hg.block _ (Array.getElem?_eq_some_iff.1 h.b3).1 (fun e => n1 e.symm)).trans h.b3
  have h4 := (hg.block _ (Array.getElem?_eq_some_iff.1 h.b4).1 (fun e => n2 e.symm)).trans h.b4
  exact ⟨⟨(cell_of_row _ _ 0 _ _ (0, 0) h3).trans rfl, by simp [World.frozen?, h3]⟩, (cell_of_row _ _ 0 _ _ (0, 0) h4).trans rfl, by simp [World.frozen?, h4]⟩
theorem NdMem.turn {w : World} {out : List Iln} {d : Int} {v : Value} {ds : List Deferred} {W W' : World} {row : Option Nat} {B : Nat} (h : NdMem w out d v ds W) (hg : W.grownBy W' row)
    (hr : ∀ r, row = some r → B ≤ r ∧ ∃ o : Obj, W.heap[r]? = some o ∧ o.isCells = false) (hB : w.heap.size ≤ B) (hd : ∀ D : Nat, ({ target := .collected D, args := #[] } : Deferred) ∈ ds → D < B) : NdMem w out d v ds W' := by
  have hne : ∀ (g : Nat) (cs : Array Value) (t : TypeId) (fz : Nat × Nat), W.heap[g]? = some (.cells cs t fz) → some g ≠ row := fun g cs t fz hc e => by
    obtain ⟨_, o, ho, hoc⟩ := hr g e.symm
    rw [hc] at ho
    cases ho
    cases hoc
  have hk : ∀ (g : Nat) (cs : Array Value) (t : TypeId) (fz : Nat × Nat), W.heap[g]? = some (.cells cs t fz) → W'.heap[g]? = some (.cells cs t fz) := fun g cs t fz hc => (hg.block g (Array.getElem?_eq_some_iff.1 hc).1 (hne g cs t fz hc)).trans hc
  refine ⟨hk _ _ _ _ h.b3, hk _ _ _ _ h.b4, ?_, h.below.grown hg h.below.size (fun r e => Nat.le_trans hB (hr r e).1), ?_⟩
  · refine h.own.kept hg ?_
    rcases h.own.2 with ⟨rfl, _⟩ | ⟨g, cap, cur, rfl, _, hgb, _⟩
    · exact .inl rfl
    · exact .inr (hne g _ _ _ hgb)
  · obtain ⟨Ds, h1, h2, h3⟩ := h.marks
    refine ⟨Ds, h1, h2, fun D hD => ⟨(h3 D hD).1, (hg.block D (Array.getElem?_eq_some_iff.1 (h3 D hD).2).1 (fun e => ?_)).trans (h3 D hD).2⟩⟩
    have := hd D (by rw [h1]; exact List.mem_map.2 ⟨D, hD, rfl⟩)
    have := (hr D e.symm).1
    omega
theorem NdMem.lt {w : World} {out : List Iln} {d : Int} {v : Value} {ds : List Deferred} {W : World} (h : NdMem w out d v ds W) : ∀ D : Nat, ({ target := .collected D, args := #[] } : Deferred) ∈ ds → D < W.heap.size := by
  intro D hD
  obtain ⟨Ds, h1, h2, h3⟩ := h.marks
  rw [h1] at hD
  obtain ⟨E, hE, e⟩ := List.mem_map.1 hD
  cases e
  exact (Array.getElem?_eq_some_iff.1 (h3 _ hE).2).1
theorem leave_marks {F : Fence} {n : Nat} {fn : Func} {tmps : Array Value} {R : Ending → World → Prop} {v : Value} {n0 : Nat} (G : World → Prop)
    (hres : ∀ W, (results fn tmps).run Tryz.prog W = .ok v W) (hG : ∀ W D, G W → n0 ≤ D → W.heap[D]? = some (.deferred (some [])) → G (W.putObj D (.deferred none))) (hR : ∀ W, G W → R (.returned v) W) :
    ∀ (Ds : List Nat), Ds.Nodup → ∀ W, G W → (∀ D ∈ Ds, n0 ≤ D ∧ W.heap[D]? = some (.deferred (some []))) → LeavesInM F n Tryz.prog fn tmps R (Ds.map fun D => ({ target := .collected D, args := #[] } : Deferred)) .returning W
  | [], _, W, h, _ => ⟨v, hres W, hR W h⟩
  | D :: Ds, hn, W, h, hk => by
    obtain ⟨hd1, hd2⟩ := List.nodup_cons.1 hn
    obtain ⟨h1, h2⟩ := hk D (List.mem_cons_self ..)
    refine ⟨by simp, .inl ⟨_, _, rfl, run_takeDeferred h2, leave_marks G hres hG hR Ds hd2 _ (hG W D h h1 h2) fun E hE => ?_⟩⟩
    obtain ⟨k1, k2⟩ := hk E (List.mem_cons_of_mem _ hE)
    exact ⟨k1, (World.putObj_heap_other (by rintro rfl; exact hd1 hE)).trans k2⟩
theorem leavesM_tmps {F : Fence} {n : Nat} {fn : Func} {tmps tmps' : Array Value} {R : Ending → World → Prop} (hr : ∀ W, (results fn tmps').run Tryz.prog W = (results fn tmps).run Tryz.prog W) :
    ∀ (ds : List Deferred) (u : FrameMode) (w : World), LeavesInM F n Tryz.prog fn tmps R ds u w → LeavesInM F n Tryz.prog fn tmps' R ds u w
  | [], .returning, w, h => by obtain ⟨v, h1, h2⟩ := h; exact ⟨v, (hr w).trans h1, h2⟩
  | [], .panicking c, w, h => h
  | [], .run, w, h => h
  | d :: ds, u, w, h => by
    refine ⟨h.1, ?_⟩
    rcases h.2 with ⟨r, w', h1, h2, h3⟩ | ⟨h1, fv, cap, f, args, h2, h3, h4, h5⟩
    · exact .inl ⟨r, w', h1, h2, leavesM_tmps hr ds u w' h3⟩
    · refine .inr ⟨h1, fv, cap, f, args, h2, h3, h4, h5.mono ?_⟩
      intro e u' w' he
      cases e with
      | returned _ => exact leavesM_tmps hr ds _ _ he
      | panicked _ => exact leavesM_tmps hr ds _ _ he
      | outgrown => exact he
theorem panicM {R : Ending → World → Prop} (s : Nat) (hs : s ≠ 2) (v : Value) (c : List PanicEntry) (a : Act) (w : World) (h : bodyPostM Fence.wide 6 Tryz.prog Tryz.f41 R (.panic c) (a.put (some s) v) w) : bodyPostM Fence.wide 6 Tryz.prog Tryz.f41 R (.panic c) a w := by
  refine leavesM_tmps (fun W => ?_) _ _ _ h
  rw [results_tmp rfl, results_tmp rfl]
  simp [Act.put, Array.getD_eq_getD_getElem?, Array.getElem?_setIfInBounds, hs]
theorem ko_grown {W W' : World} {row : Option Nat} (hg : W.grownBy W' row) (hr : ∀ r o, row = some r → W.heap[r]? = some o → o.isCells = true) : KeepsOthers W W' :=
  ⟨hg.size, fun k o hk ho => (hg.block k (Array.getElem?_eq_some_iff.1 hk).1 (fun e => by have := hr k o e.symm hk; rw [ho] at this; cases this)).trans hk⟩
theorem own_cells {w : World} {B : Nat} {e : TypeId} {size n : Nat} {v : Value} {xs : List Value} (h : w.ownsRow B e size v n xs) : ∀ r o, v.ownBlock = some r → w.heap[r]? = some o → o.isCells = true := by
  intro r o hr ho
  rcases h.2 with ⟨rfl, _⟩ | ⟨g, cap, cur, rfl, _, hg, _⟩
  · cases hr
  · cases hr
    rw [hg] at ho
    cases ho
    rfl
theorem downs_length (ks : List Int) : ∀ d, (downs d ks).length = ks.length := by
  induction ks with
  | nil => intro d; rfl
  | cons k ks ih => intro d; simp [downs, ih]
theorem back_any (A : Option Addr) (n c : Nat) (w : World) : Calls Tryz.prog 72 #[.slice A n c] w fun e w' => e = .returned (.func (.func 103) #[] #[.pointer (some ⟨w.heap.size, 0, none⟩)]) ∧ w'.heap[w.heap.size]? = some (.cells #[.slice A n c] 35 (0, 0)) ∧ Below w.heap.size w w' := by
  go_enter Tryz.func72, Tryz.ntmps72
  go_wp2
  go_ret
  refine ⟨rfl, ?_, ?_⟩
  · exact heap_alloc_new _ _
  · exact (Below.refl _ w).alloc (Nat.le_refl _) _
def NdRel (Qs : List Pc) (w : World) (s : Value) (ds : List Deferred) (wr : World) : Prop :=
  ∃ (k : Nat) (out : List Iln) (d : Int) (A : Option Addr) (c : Nat), s = .int .i64 k ∧ k ≤ Qs.length ∧ NdMem w out d (.slice A out.length c) ds wr ∧ out ++ ren d (evF k (Qs.drop k)) = ren 0 (evF 0 Qs)
attribute [local go_sem] Oper.semAt_some
set_option maxHeartbeats 8000000 in
theorem nodes_any {w0 w : World} {b bp bm cap n : Nat} {D : DU} {Ps : List Pm} {ops opsM : List Nat} {ov : Value} (h : PrSt w b bp bm cap n D Ps ops opsM ov) (hbd : ∀ x ∈ Ps, PmB w0 x) (hw0 : Below w0.heap.size w0 w)
    (hL : (ren 0 (evF 0 (Ps.map Prod.fst))).length ≤ 100000000) (hnd : ∀ x ∈ Ps, x.1.it.sg = 0 → x.1.it.nd.length ≤ 100000000) :
    Calls Tryz.prog 41 #[.pointer (some ⟨b, 0, none⟩)] w fun e w' => (∃ v, e = .returned v ∧ w'.ownsRow w.heap.size 30 5 v (ren 0 (evF 0 (Ps.map Prod.fst))).length (flt ilC (ren 0 (evF 0 (Ps.map Prod.fst))))) ∧ Below w.heap.size w w' := by
  obtain ⟨c0, c1, c2, bfz, hbl⟩ := h.bcells
  have hsm := h.small
  have hln := h.len
  have HH := Lib.hid h
  clear h
  refine (callsIn_wide (n := 6)).1 (callsIn_of_wp_marks Tryz.func41 rfl trivial ?_ rfl)
  simp only [Tryz.ntmps41, List.size_toArray, List.length_cons, List.length_nil, Nat.reduceAdd, Nat.reduceSub, Array.replicate_succ, Array.replicate_zero, List.push_toArray, List.append_toArray, List.nil_append, List.cons_append]
  refine wpIn_wide.2 ?_
  go_wp2_with fail
  refine wp_loop (fun a' w' => ∃ u6 u8 u14 u15 u16 u17 u18 u19 u20 u21 u22 u23 u24 u25 u26 u27 u28 u29 u30 u31 u32 u33 u34 u35 u36 u37 u38 u39 u40 u41 u42 u43 u44 u45 u46 u47 u48 u49 u50 u51 u52 u53 u54 u55 u56 u57 u58 u59 u60 ds, NdRel (Ps.map Prod.fst) w u14 ds w' ∧ a' = ({ tmps := #[.pointer (some ⟨b, 0, none⟩), undef, .slice none 0 0, .pointer (some ⟨w.heap.size, 0, none⟩), .pointer (some ⟨w.heap.size + 1, 0, none⟩), undef, u6, undef, u8, .pointer (some ⟨b, 0, none⟩), .pointer (some ⟨b, 0, none⟩), .pointer (some ⟨b, 0, none⟩), .slice (some ⟨bp, 0, none⟩) Ps.length cap, .int .i64 (Ps.length : Int), u14, u15, u16, u17, u18, u19, u20, u21, u22, u23, u24, u25, u26, u27, u28, u29, u30, u31, u32, u33, u34, u35, u36, u37, u38, u39, u40, u41, u42, u43, u44, u45, u46, u47, u48, u49, u50, u51, u52, u53, u54, u55, u56, u57, u58, u59, u60, undef], defers := ds } : Act)) (fun a' _ => Ps.length - (intOf (a'.tmps.getD 14 undef)).toNat) ?_ ?_
  · (repeat apply Exists.intro)
    refine ⟨?_, rfl⟩
    refine ⟨0, [], 0, none, 0, rfl, Nat.zero_le _, ⟨?_, ?_, World.ownsRow_nil _ _ _ _, ((Below.refl _ w).alloc (Nat.le_refl _) _).alloc (by simp) _, Marks.nil _ _⟩, rfl⟩
    · rw [Below.heap_alloc _ _ _ (by simp)]; exact heap_alloc_new _ _
    · exact heap_alloc2_new _ _ _
  · rintro _ wr ⟨u6, u8, u14, u15, u16, u17, u18, u19, u20, u21, u22, u23, u24, u25, u26, u27, u28, u29, u30, u31, u32, u33, u34, u35, u36, u37, u38, u39, u40, u41, u42, u43, u44, u45, u46, u47, u48, u49, u50, u51, u52, u53, u54, u55, u56, u57, u58, u59, u60, ds, ⟨k, out, d, A, c, rfl, hk, hM, hren⟩, rfl⟩
    rw [List.length_map] at hk
    clear c0 c1 c2 bfz
    have hP := HH.out.below hM.below
    have hsw := hM.below.size
    by_cases hkl : k < Ps.length
    · have hx : Ps[k]? = some Ps[k] := List.getElem?_eq_getElem hkl
      obtain ⟨⟨p0, p1, p2, p3, p4, p5, p6, p7⟩, pf, pl, _⟩ := hP.pcells hx
      have hpm := hbd _ (List.mem_of_getElem? hx)
      have hoi := hP.own_at hx
      have hnn := hnd _ (List.mem_of_getElem? hx)
      have hdr : (Ps.map Prod.fst).drop k = Ps[k].1 :: (Ps.map Prod.fst).drop (k + 1) := by
        rw [List.drop_eq_getElem_cons (by rw [List.length_map]; exact hkl), List.getElem_map]
      rw [hdr] at hren
      clear hdr
      generalize Ps[k] = x at *
      obtain ⟨⟨⟨sg, nn, ff, op, cl, nd⟩, en, bg⟩, lv, bv⟩ := x
      dsimp only at *
      have HNN := Lib.hid hnn
      clear hnn
      obtain ⟨Al, ca, elv, hil⟩ := hpm.lv
      dsimp only at elv hil
      subst elv
      obtain ⟨Ab, cb, rfl, _⟩ := own_form hoi.1
      have hen : (en : Int) ≤ 4294967296 := by have h1 : (en : Int) + max nn 0 ≤ 4294967296 := hpm.en; omega
      have hbl2 : (bg.length : Int) ≤ 4294967296 := by have h1 : (bg.length : Int) + max nn 0 ≤ 4294967296 := hpm.bg; omega
      have hn1 : nn ≤ 4294967296 := hpm.n1
      have bA : Below wr.heap.size wr _ := (Below.refl _ wr).alloc (Nat.le_refl _) (.cells #[.int .u8 sg.toNat, .int .i64 ff, .bool op, .bool cl, .slice Al nd.length ca, .int .i64 nn, .int .i64 en, .slice Ab bg.length cb] 144)
      have hsA := alloc_size wr (.cells #[.int .u8 sg.toNat, .int .i64 ff, .bool op, .bool cl, .slice Al nd.length ca, .int .i64 nn, .int .i64 en, .slice Ab bg.length cb] 144)
      have hbx := heap_alloc_new wr (.cells #[.int .u8 sg.toNat, .int .i64 ff, .bool op, .bool cl, .slice Al nd.length ca, .int .i64 nn, .int .i64 en, .slice Ab bg.length cb] 144)
      obtain ⟨q0, q1, q2, q3, q4, q5, q6, q7⟩ := cells8 hbx
      have hMA := hM.keep bA
      have HOI := Lib.hid (ownsRow_below hoi.1 bA)
      have HIL := Lib.hid (EltsAt.below hil hw0)
      have hILr : InlsAt w Al ca nd := EltsAt.below hil hw0
      have HW2 := Lib.hid (show w.heap.size + 1 < wr.heap.size from (Array.getElem?_eq_some_iff.1 hM.b4).1)
      have HHB := Lib.hid hM.below
      obtain ⟨z0, z1, z2, z3⟩ := hMA.cells
      have hol : out.length ≤ 100000000 := by
        have h1 := congrArg List.length hren
        rw [List.length_append] at h1
        omega
      have HREN := Lib.hid hren
      have HMA := Lib.hid hMA
      have HBX := Lib.hid hbx
      have HBA := Lib.hid bA
      have HIL2 := Lib.hid (EltsAt.below hILr (hM.below.then bA))
      clear hren hMA hbx bA hil hM hP hpm hILr hoi HIL
      by_cases hs : sg = 0
      · subst hs
        have hnn := HNN.out rfl
        have e0 : ((UInt8.toNat 0 : Nat) : Int) = 0 := rfl
        rw [e0] at HOI HMA HBX HBA HIL2 hsA
        go_wp2_with fail
        clear p0 p1 p2 p3 p4 p5 p6 p7 pf q0 q1 q2 q3 q4 q5 q6 q7 z0 z1 z2 z3
        generalize hwA : wr.alloc (.cells #[.int .u8 0, .int .i64 ff, .bool op, .bool cl, .slice Al nd.length ca, .int .i64 nn, .int .i64 en, .slice Ab bg.length cb] 144) = wA at *
        have hbd0 : Below wA.heap.size wA wA.drew := (Below.refl _ wA).drew
        have hgx : wr.heap.size < wA.heap.size := by omega
        generalize hgxe : wr.heap.size = gx at *
        have hSB : ∀ W : World, Below wA.heap.size wA W → W.cell? ⟨w.heap.size, 0, none⟩ = some (.slice A out.length c) ∧ W.cell? ⟨w.heap.size + 1, 0, none⟩ = some (.int .i64 (IntKind.i64.wrap d)) ∧ W.cell? ⟨gx, 4, none⟩ = some (.slice Al nd.length ca) := fun W hb =>
          ⟨((HMA.out.keep hb).cells).1, ((HMA.out.keep hb).cells).2.2.1, (hb.cell (p := ⟨gx, 4, none⟩) hgx).trans (cells8 HBX.out).2.2.2.2.1⟩
        have HSB := Lib.hid hSB
        have HS := Lib.hid (hSB wA.drew hbd0)
        have HMD := Lib.hid (HMA.out.keep hbd0)
        have HILD := Lib.hid (EltsAt.below HIL2.out hbd0)
        have HBD := Lib.hid hbd0
        have hwsz : w.heap.size ≤ wA.drew.heap.size := HMD.out.below.size
        have hsz0 : wA.heap.size ≤ wA.drew.heap.size := hbd0.size
        have HGX := Lib.hid hgx
        clear hSB hbd0 hwA hgxe
        refine wp_region_N (fun W => W.cell? ⟨w.heap.size, 0, none⟩ = some (.slice A out.length c) ∧ W.cell? ⟨w.heap.size + 1, 0, none⟩ = some (.int .i64 (IntKind.i64.wrap d)) ∧ W.cell? ⟨gx, 4, none⟩ = some (.slice Al nd.length ca)) (fun i => decide (i < 6)) (by kernel_rfl) ?_
        generalize hwd : wA.drew = wd at *
        refine wpAnyN_take_at 0 22 (v := ?_) rfl rfl (by kernel_rfl) (by kernel_rfl) (by kernel_rfl) (by kernel_rfl) (by kernel_rfl) (fun c a w h => panicM 22 (by decide) _ c a w h) (by rfl) ?_ HS.out ?_
        rotate_left
        · intro W hSw; (try dsimp only at hSw); obtain ⟨q0, q1, q2⟩ := hSw; go_simp; (try with_reducible rfl)
        simp only [Act.put, List.setIfInBounds_toArray, List.set_cons_zero, List.set_cons_succ]
        refine wpAnyN_take_at 1 23 (v := ?_) rfl rfl (by kernel_rfl) (by kernel_rfl) (by kernel_rfl) (by kernel_rfl) (by kernel_rfl) (fun c a w h => panicM 23 (by decide) _ c a w h) (by rfl) ?_ HS.out ?_
        rotate_left
        · intro W hSw; (try dsimp only at hSw); obtain ⟨q0, q1, q2⟩ := hSw; go_simp; (try with_reducible rfl)
        simp only [Act.put, List.setIfInBounds_toArray, List.set_cons_zero, List.set_cons_succ]
        refine wpAnyN_take_at 2 24 (v := ?_) rfl rfl (by kernel_rfl) (by kernel_rfl) (by kernel_rfl) (by kernel_rfl) (by kernel_rfl) (fun c a w h => panicM 24 (by decide) _ c a w h) (by rfl) ?_ HS.out ?_
        rotate_left
        · intro W hSw; (try dsimp only at hSw); obtain ⟨q0, q1, q2⟩ := hSw; go_simp; (try with_reducible rfl)
        simp only [Act.put, List.setIfInBounds_toArray, List.set_cons_zero, List.set_cons_succ]
        refine wpAnyN_take_at 3 25 (v := ?_) rfl rfl (by kernel_rfl) (by kernel_rfl) (by kernel_rfl) (by kernel_rfl) (by kernel_rfl) (fun c a w h => panicM 25 (by decide) _ c a w h) (by rfl) ?_ HS.out ?_
        rotate_left
        · intro W hSw; (try dsimp only at hSw); obtain ⟨q0, q1, q2⟩ := hSw; go_simp; (try with_reducible rfl)
        simp only [Act.put, List.setIfInBounds_toArray, List.set_cons_zero, List.set_cons_succ]
        refine wpAnyN_take_at 4 26 (v := ?_) rfl rfl (by kernel_rfl) (by kernel_rfl) (by kernel_rfl) (by kernel_rfl) (by kernel_rfl) (fun c a w h => panicM 26 (by decide) _ c a w h) (by rfl) ?_ HS.out ?_
        rotate_left
        · intro W hSw; (try dsimp only at hSw); obtain ⟨q0, q1, q2⟩ := hSw; go_simp; (try with_reducible rfl)
        simp only [Act.put, List.setIfInBounds_toArray, List.set_cons_zero, List.set_cons_succ]
        refine wpAnyN_one (i := 5) rfl (by kernel_rfl) (fun K hK => ?_)
        go_simp
        refine (deeper_any (IntKind.i64.wrap d) Al ca nd _ HILD.out hnn).mono ?_
        rintro e w5 ⟨v5, rfl, ho5, b5⟩
        rw [deepBy_wrap] at ho5
        have hM5 := HMD.out.keep b5
        have hs5 := b5.size
        refine hK _ _ (fun _ => HSB.out _ (HBD.out.trans (b5.mono hsz0))) ?_
        clear hK
        (try simp only [Act.put, List.setIfInBounds_toArray, List.set_cons_zero, List.set_cons_succ])
        refine wpAnyN_one (i := 6) rfl (by kernel_rfl) (fun K hK => ?_)
        have hdl : (deepBy d nd).length = nd.length := by rw [deepBy_is, List.length_map]
        rw [← hdl] at ho5
        refine step_append_inls rfl (.tmp 22) (.tmp 27) rfl w.heap.size wd.heap.size _ out (deepBy d nd) rfl hM5.own _ rfl ho5 (by omega) (by omega) ?_
        intro A7 c7 w7 ho7 hg7
        have hM7 := hM5.append hg7 ho7
        obtain ⟨⟨r1, r2⟩, _⟩ := hM5.boxes hg7
        refine hK _ _ (fun h => absurd h (by decide)) ?_
        have HM7 := Lib.hid hM7
        have HE := Lib.hid (show (out ++ deepBy d nd) ++ ren d (evF (k + 1) ((Ps.map Prod.fst).drop (k + 1))) = ren 0 (evF 0 (Ps.map Prod.fst)) by rw [List.append_assoc, ← ren_nodes (p := ⟨⟨0, nn, ff, op, cl, nd⟩, en, bg⟩) rfl k]; exact HREN.out)
        clear hK hM7 hM5 ho7 hg7 ho5 b5 hwd HSB HS HMD HILD HBD
        (try simp only [Act.put, List.setIfInBounds_toArray, List.set_cons_zero, List.set_cons_succ])
        refine wpAnyN_rest 7 [_] rfl (by kernel_rfl) (by rfl) ?_
        clear hdl
        generalize hO : out ++ deepBy d nd = O at *
        clear hO
        go_wp2
        refine ⟨?_, ?_⟩
        · (repeat apply Exists.intro)
          refine ⟨?_, rfl⟩
          exact ⟨k + 1, O, d, A7, c7, by go_num, by rw [List.length_map]; omega, HM7.out, HE.out⟩
        · simp [intOf]
          omega
      · have hsn : ¬ ((sg.toNat : Int) = 0) := fun h => hs (UInt8.toNat_inj.1 (by simpa using h))
        have hoiw := HH.out.own_at hx
        have HOIW := Lib.hid hoiw.1
        clear hoiw
        have hwd : IntKind.i64.wrap (d - en) = wrap64 (wrap64 d - en) := by
          have e : ∀ x : Int, wrap64 x = IntKind.i64.wrap x := fun x => by first | rfl | simp only [wrap64, IntKind.wrap_i64]
          rw [e, e]
          exact (wrapS d en).symm
        go_upto_region 9 with fail
        have hw2 := HW2.out
        obtain ⟨w8, hw8⟩ : ∃ w8, w8 = (wr.alloc (.cells #[.int .u8 sg.toNat, .int .i64 ff, .bool op, .bool cl, .slice Al nd.length ca, .int .i64 nn, .int .i64 en, .slice Ab bg.length cb] 144)).setCell ⟨w.heap.size + 1, 0, none⟩ (.int .i64 (wrap64 (wrap64 d - en))) := ⟨_, rfl⟩
        rw [← hw8]
        have hM8 := HMA.out.depth (d - en)
        rw [hwd, ← hw8] at hM8
        have hg8 := setc_grown (wr.alloc (.cells #[.int .u8 sg.toNat, .int .i64 ff, .bool op, .bool cl, .slice Al nd.length ca, .int .i64 nn, .int .i64 en, .slice Ab bg.length cb] 144)) (w.heap.size + 1) 0 (.int .i64 (wrap64 (wrap64 d - en)))
        rw [← hw8] at hg8
        have hbx8 := (hg8.block wr.heap.size (by omega) (fun e => by have := Option.some.inj e; omega)).trans HBX.out
        have hgx8 : wr.heap.size < w8.heap.size := (Array.getElem?_eq_some_iff.1 hbx8).1
        clear p0 p1 p2 p3 p4 p5 p6 p7 pf q0 q1 q2 q3 q4 q5 q6 q7 z0 z1 z2 z3 hsA HMA HBA HOI HBX hg8 hw8 HIL2
        generalize hgxe : wr.heap.size = gx at *
        clear hgxe
        obtain ⟨z0, z1, z2, z3⟩ := hM8.cells
        obtain ⟨q0, q1, q2, q3, q4, q5, q6, q7⟩ := cells8 hbx8
        have HM8 := Lib.hid hM8
        have HBX8 := Lib.hid hbx8
        have HWD := Lib.hid hwd
        clear hM8 hbx8
        rw [hwd] at z2
        clear hwd
        go_upto_if 35 with fail
        have hsb : ((sg.toNat : Int) == 0) = false := by simpa using hsn
        (try rw [hsb])
        generalize hq : decide (0 < nn) = q
        have HQ := Lib.hid hq
        clear hq
        go_cut [36] from 36 to 46 (fun s wx => ∃ out' A' c', NdMem w out' (d - en) (.slice A' out'.length c') ds wx ∧ out' = out ++ rowW (d - en) ⟨sg, nn, ff, op, cl, nd⟩ ∧ wx.heap[gx]? = some (.cells #[.int .u8 sg.toNat, .int .i64 ff, .bool op, .bool cl, .slice Al nd.length ca, .int .i64 nn, .int .i64 en, .slice Ab bg.length cb] 144 (0, 0)))
        case first =>
          cases q with
          | true =>
            have hn0 : 0 < nn := of_decide_eq_true HQ.out
            clear HQ
            obtain ⟨m, rfl⟩ : ∃ m : Nat, nn = m := ⟨nn.toNat, by omega⟩
            go_wp2_with fail
            have hbd0 : Below w8.heap.size w8 w8.drew := (Below.refl _ w8).drew
            have hSB : ∀ W : World, Below w8.heap.size w8 W → W.cell? ⟨w.heap.size, 0, none⟩ = some (.slice A out.length c) ∧ W.cell? ⟨w.heap.size + 1, 0, none⟩ = some (.int .i64 (IntKind.i64.wrap (d - en))) ∧ W.cell? ⟨gx, 0, none⟩ = some (.int .u8 sg.toNat) ∧ W.cell? ⟨gx, 5, none⟩ = some (.int .i64 (m : Int)) := fun W hb =>
              ⟨((HM8.out.keep hb).cells).1, (((HM8.out.keep hb).cells).2.2.1).trans (by rw [HWD.out]), (hb.cell (p := ⟨gx, 0, none⟩) hgx8).trans q0, (hb.cell (p := ⟨gx, 5, none⟩) hgx8).trans q5⟩
            have HSB := Lib.hid hSB
            have HS := Lib.hid (hSB w8.drew hbd0)
            have HMD := Lib.hid (HM8.out.keep hbd0)
            have HBD := Lib.hid hbd0
            have hwsz : w.heap.size ≤ w8.drew.heap.size := HMD.out.below.size
            have hsz0 : w8.heap.size ≤ w8.drew.heap.size := hbd0.size
            have HGX := Lib.hid hgx8
            clear hSB hbd0 q0 q1 q2 q3 q4 q5 q6 q7 z0 z1 z2 z3
            obtain ⟨i0, hi, hz0, hz1, hz2⟩ := info_parts infoInl
            refine wp_region_N (fun W => W.cell? ⟨w.heap.size, 0, none⟩ = some (.slice A out.length c) ∧ W.cell? ⟨w.heap.size + 1, 0, none⟩ = some (.int .i64 (IntKind.i64.wrap (d - en))) ∧ W.cell? ⟨gx, 0, none⟩ = some (.int .u8 sg.toNat) ∧ W.cell? ⟨gx, 5, none⟩ = some (.int .i64 (m : Int))) (fun i => decide (i < 10)) (by kernel_rfl) ?_
            generalize hwd : w8.drew = wd at *
            refine wpAnyN_take_at 0 36 (v := ?_) rfl rfl (by kernel_rfl) (by kernel_rfl) (by kernel_rfl) (by kernel_rfl) (by kernel_rfl) (fun c a w h => panicM 36 (by decide) _ c a w h) (by rfl) ?_ HS.out ?_
            rotate_left
            · intro W hSw; (try dsimp only at hSw); obtain ⟨q0, q1, q2, q3⟩ := hSw; go_simp; (try with_reducible rfl)
            simp only [Act.put, List.setIfInBounds_toArray, List.set_cons_zero, List.set_cons_succ]
            refine wpAnyN_take_at 1 37 (v := ?_) rfl rfl (by kernel_rfl) (by kernel_rfl) (by kernel_rfl) (by kernel_rfl) (by kernel_rfl) (fun c a w h => panicM 37 (by decide) _ c a w h) (by rfl) ?_ HS.out ?_
            rotate_left
            · intro W hSw; (try dsimp only at hSw); obtain ⟨q0, q1, q2, q3⟩ := hSw; go_simp; (try with_reducible rfl)
            simp only [Act.put, List.setIfInBounds_toArray, List.set_cons_zero, List.set_cons_succ]
            refine wpAnyN_take_at 2 38 (v := ?_) rfl rfl (by kernel_rfl) (by kernel_rfl) (by kernel_rfl) (by kernel_rfl) (by kernel_rfl) (fun c a w h => panicM 38 (by decide) _ c a w h) (by rfl) ?_ HS.out ?_
            rotate_left
            · intro W hSw; (try dsimp only at hSw); obtain ⟨q0, q1, q2, q3⟩ := hSw; go_simp; (try with_reducible rfl)
            simp only [Act.put, List.setIfInBounds_toArray, List.set_cons_zero, List.set_cons_succ]
            refine wpAnyN_take_at 3 39 (v := ?_) rfl rfl (by kernel_rfl) (by kernel_rfl) (by kernel_rfl) (by kernel_rfl) (by kernel_rfl) (fun c a w h => panicM 39 (by decide) _ c a w h) (by rfl) ?_ HS.out ?_
            rotate_left
            · intro W hSw; (try dsimp only at hSw); obtain ⟨q0, q1, q2, q3⟩ := hSw; go_simp; (try with_reducible rfl)
            simp only [Act.put, List.setIfInBounds_toArray, List.set_cons_zero, List.set_cons_succ]
            refine wpAnyN_take_at 4 40 (v := ?_) rfl rfl (by kernel_rfl) (by kernel_rfl) (by kernel_rfl) (by kernel_rfl) (by kernel_rfl) (fun c a w h => panicM 40 (by decide) _ c a w h) (by rfl) ?_ HS.out ?_
            rotate_left
            · intro W hSw; (try dsimp only at hSw); obtain ⟨q0, q1, q2, q3⟩ := hSw; go_simp; (try with_reducible rfl)
            simp only [Act.put, List.setIfInBounds_toArray, List.set_cons_zero, List.set_cons_succ]
            refine wpAnyN_take_at 5 41 (v := ?_) rfl rfl (by kernel_rfl) (by kernel_rfl) (by kernel_rfl) (by kernel_rfl) (by kernel_rfl) (fun c a w h => panicM 41 (by decide) _ c a w h) (by rfl) ?_ HS.out ?_
            rotate_left
            · intro W hSw; (try dsimp only at hSw); obtain ⟨q0, q1, q2, q3⟩ := hSw; go_simp; (try with_reducible rfl)
            simp only [Act.put, List.setIfInBounds_toArray, List.set_cons_zero, List.set_cons_succ]
            refine wpAnyN_take_at 6 42 (v := ?_) rfl rfl (by kernel_rfl) (by kernel_rfl) (by kernel_rfl) (by kernel_rfl) (by kernel_rfl) (fun c a w h => panicM 42 (by decide) _ c a w h) (by rfl) ?_ HS.out ?_
            rotate_left
            · intro W hSw; (try dsimp only at hSw); obtain ⟨q0, q1, q2, q3⟩ := hSw; go_simp; (try with_reducible rfl)
            simp only [Act.put, List.setIfInBounds_toArray, List.set_cons_zero, List.set_cons_succ]
            refine wpAnyN_one (i := 7) rfl (by kernel_rfl) (fun K hK => ?_)
            go_simp
            refine (row_emph sg m _ (by omega)).mono ?_
            rintro e w5 ⟨rfl, b5⟩
            have hs5 := b5.size
            refine hK _ _ (fun _ => HSB.out _ (HBD.out.trans (b5.mono hsz0))) ?_
            clear hK
            (try simp only [Act.put, List.setIfInBounds_toArray, List.set_cons_zero, List.set_cons_succ])
            refine wpAnyN_one (i := 8) rfl (by kernel_rfl) (fun K hK => ?_)
            go_simp
            refine (words_agg _ _ _).mono ?_
            rintro e w6 ⟨rfl, b6⟩
            have hs6 := b6.size
            have b56 : Below wd.heap.size wd w6 := b5.trans (b6.mono hs5)
            refine hK _ _ (fun _ => HSB.out _ (HBD.out.trans (b56.mono hsz0))) ?_
            clear hK
            (try simp only [Act.put, List.setIfInBounds_toArray, List.set_cons_zero, List.set_cons_succ])
            refine wpAnyN_one (i := 9) rfl (by kernel_rfl) (fun K hK => ?_)
            go_simp
            have e9 : (ilC (wordsI (IntKind.i64.wrap (d - en)) (List.replicate m sg))).toArray = #[.int .i64 1, .int .i64 (IntKind.i64.wrap (d - en)), .string ⟨Array.replicate m sg⟩, .string ⟨#[]⟩, .string ⟨#[]⟩] := by simp [ilC, wordsI]
            have hnc := elt_cells w6 (ilC (wordsI (IntKind.i64.wrap (d - en)) (List.replicate m sg))) 30
            rw [e9] at hnc
            have hb9 := b56.alloc b56.size (.cells #[.int .i64 1, .int .i64 (IntKind.i64.wrap (d - en)), .string ⟨Array.replicate m sg⟩, .string ⟨#[]⟩, .string ⟨#[]⟩] 30)
            have hs9 := hb9.size
            refine hK _ _ (fun _ => HSB.out _ (HBD.out.trans (hb9.mono hsz0))) ?_
            clear hK
            (try simp only [Act.put, List.setIfInBounds_toArray, List.set_cons_zero, List.set_cons_succ])
            have hM9 := HMD.out.keep hb9
            have hbx9 := ((HBD.out.trans (hb9.mono hsz0)).block gx HGX.out).trans HBX8.out
            refine wpAnyN_one (i := 10) rfl (by kernel_rfl) (fun K hK => ?_)
            refine step_append_lies _ rfl (.tmp 36) (.tmp 45) 27 rfl w.heap.size 30 i0 (.agg #[.int .i64 0, .int .i64 0, .string ByteArray.empty, .string ByteArray.empty, .string ByteArray.empty]) 5 64 Tryz.underlying27 hi hz0 hz1 hz2 rfl (by decide) _ out.length (flt ilC out) rfl hM9.own ⟨w6.heap.size, 0, none⟩ 1 1 (ilC (wordsI (IntKind.i64.wrap (d - en)) (List.replicate m sg))) rfl rfl hnc (ilC_one _) (by omega) (by unfold maxLen; omega) (by omega) (by omega) _ rfl ?_
            intro g7 c7 w7 ho7 hg7 hat7 hlt7
            obtain ⟨⟨r1, r2⟩, _⟩ := hM9.boxes hg7
            have hM7 := hM9.append (Y := [wordsI (IntKind.i64.wrap (d - en)) (List.replicate m sg)]) hg7 (by rw [List.length_append, flt_append, flt_one]; exact ho7)
            have n7 := own_ne hM9.own hbx9 (by decide)
            have hbx7 := (hg7.block gx (Array.getElem?_eq_some_iff.1 hbx9).1 (fun e => n7 e.symm)).trans hbx9
            have hbx7' := ((setc_grown w7 w.heap.size 0 (.slice (some ⟨g7, 0, none⟩) (out.length + 1) c7)).block gx (Array.getElem?_eq_some_iff.1 hbx7).1 (fun e => by have := Option.some.inj e; have := HW2.out; omega)).trans hbx7
            refine hK _ _ (fun h => absurd h (by decide)) ?_
            have HM7 := Lib.hid hM7
            have HBX7 := Lib.hid hbx7'
            clear hK hM7 hM9 hbx9 hbx7 hbx7' ho7 hg7 hat7 hlt7 n7 hb9 hs9 hnc b56 b5 b6 hwd HSB HS HMD HBD
            (try simp only [Act.put, List.setIfInBounds_toArray, List.set_cons_zero, List.set_cons_succ])
            refine wpAnyN_rest 11 [_] rfl (by kernel_rfl) (by rfl) ?_
            go_wp2
            go_meet
            refine ⟨out ++ [wordsI (IntKind.i64.wrap (d - en)) (List.replicate m sg)], some ⟨g7, 0, none⟩, c7, ?_, ?_, HBX7.out⟩
            · rw [List.length_append, List.length_singleton]
              exact HM7.out
            · unfold rowW
              rw [if_pos hn0, Int.toNat_natCast]
          | false =>
            go_wp2
            go_meet
            have hn0 : ¬ 0 < nn := of_decide_eq_false HQ.out
            exact ⟨out, A, c, HM8.out, by simp [rowW, hn0], HBX8.out⟩
        case rest =>
          obtain ⟨out', A', c', hMc, ho', hbxc⟩ := hcut
          clear q0 q1 q2 q3 q4 q5 q6 q7 z0 z1 z2 z3 HM8 HBX8
          obtain ⟨z0, z1, z2, z3⟩ := hMc.cells
          obtain ⟨q0, q1, q2, q3, q4, q5, q6, q7⟩ := cells8 hbxc
          have hoic := ownsRow_below HOIW.out hMc.below
          have HGXC := Lib.hid (Array.getElem?_eq_some_iff.1 hbxc).1
          have HMC := Lib.hid hMc
          have HOC := Lib.hid hoic
          have HO' := Lib.hid ho'
          clear hMc hoic ho' hbxc
          go_wp2_with fail
          refine (back_any _ _ _ _).mono ?_
          rintro e wb ⟨rfl, hbb, b9⟩
          have hMb := HMC.out.keep b9
          have hob := ownsRow_below HOC.out b9
          have HMB := Lib.hid hMb
          have HOB := Lib.hid hob
          have HBB := Lib.hid hbb
          have HB9 := Lib.hid b9
          have hgxc : gx < wc.heap.size := HGXC.out
          clear hMb hob hbb b9 q0 q1 q2 q3 q4 q5 q6 q7 z0 z1 z2 z3 HMC HOC
          go_wp2_with fail
          obtain ⟨i0, hi, hz0, hz1, hz2⟩ := info_parts infoInl
          have HDS := Lib.hid HMB.out.lt
          have hwb : wc.heap.size < wb.heap.size := (Array.getElem?_eq_some_iff.1 HBB.out).1
          have hwwb : w.heap.size ≤ wb.heap.size := HMB.out.below.size
          have hol' : out'.length ≤ 100000000 := by
            have h1 := congrArg List.length HREN.out
            rw [ren_row (p := ⟨⟨sg, nn, ff, op, cl, nd⟩, en, bg⟩) hs] at h1
            have h2 := HO'.out
            have h3 := congrArg List.length h2
            simp only [List.length_append] at h1 h3
            omega
          generalize hbxe : wc.heap.size = bx at *
          clear hbxe
          refine (wpIn_wide (n := 6)).1 (wpIn_rangeFunc_ownG (F := Fence.wide) (n := 6) rfl (by decide) (gf := 103) (lb := #[.pointer (some ⟨bx, 0, none⟩)]) rfl trivial (enters_of Tryz.func103 (by kernel_rfl) rfl) (encs := bwE) (Kp := BwKp bx (.slice Ab bg.length cb)) (S := bwS bg) (Sp := fun _ => True) (N := bg.length) (w0 := wb)
            (backward_stops bx (bm + 1) (.slice Ab bg.length cb) bg wb HBB.out HOB.out (by omega) 5 (by omega)) ?hKt ?hKb (Below.refl _ _) (fun _ => rfl)
            (fun pre W => (∃ v, NdMem w (out' ++ downs (d - en) (pre.map Prod.snd)) (d - en + pre.length) v ds W) ∧ W.heap[bx]? = some (.cells #[.slice Ab bg.length cb] 35 (0, 0)))
            (fun _ _ _ => False) ?hI ?hIx ?h0 (fun x => { tmps := #[.pointer (some ⟨b, 0, none⟩), undef, .slice none 0 0, .pointer (some ⟨w.heap.size, 0, none⟩), .pointer (some ⟨w.heap.size + 1, 0, none⟩), undef, .pointer (some ⟨gx, 0, none⟩), undef, .int .i64 x.2, .pointer (some ⟨b, 0, none⟩), .pointer (some ⟨b, 0, none⟩), .pointer (some ⟨b, 0, none⟩), .slice (some ⟨bp, 0, none⟩) Ps.length cap, .int .i64 Ps.length, .int .i64 k, .bool true, .pointer (some ⟨bp, k * 8, none⟩), .agg #[.int .u8 sg.toNat, .int .i64 ff, .bool op, .bool cl, .slice Al nd.length ca, .int .i64 nn, .int .i64 en, .slice Ab bg.length cb], .pointer (some ⟨gx, 0, none⟩), .pointer (some ⟨gx, 0, none⟩), .int .u8 sg.toNat, .bool false, u22, u23, u24, u25, u26, u27, u28, .int .i64 (wrap64 d), .pointer (some ⟨gx, 6, none⟩), .int .i64 en, .int .i64 (wrap64 (wrap64 d - en)), .pointer (some ⟨gx, 5, none⟩), .int .i64 nn, .bool q, u36, u37, u38, u39, u40, u41, u42, u43, u44, u45, u46, .pointer (some ⟨gx, 7, none⟩), .slice Ab bg.length cb, .func (.func 103) #[] #[.pointer (some ⟨bx, 0, none⟩)], .int .i64 x.1, .int .i64 x.2, u52, u53, u54, u55, u56, u57, u58, u59, u60, undef], defers := [] }) ?assign ?body ?done ?stop)
          case hKt =>
            intro A B C h1 h2
            exact ⟨h2.1.trans h1.1, fun g hg => (h2.2 g hg).trans (h1.2 g hg)⟩
          case hKb =>
            intro W l o o' hl ho hc hw
            refine ⟨World.putObj_heap_other (by omega), fun g hg => World.putObj_heap_other ?_⟩
            have := (HOB.out.lt g hg).2
            omega
          case hI =>
            rintro s W W' row ⟨⟨v, hs⟩, hb⟩ hg hr
            refine ⟨⟨v, hs.turn hg hr hwwb HDS.out⟩, (hg.block bx (Array.getElem?_eq_some_iff.1 hb).1 (fun e => ?_)).trans hb⟩
            have := (hr bx e.symm).1
            omega
          case hIx => exact fun c s W W' row h _ _ => h
          case h0 => exact ⟨⟨_, by simpa [downs] using HMB.out⟩, HBB.out⟩
          case assign =>
            intro l x W K hK
            gi_wp2
            exact hK
          case body =>
            rintro l pre x W ⟨⟨v, hM⟩, hbx⟩ hlen
            obtain ⟨Av, cv, rfl, _⟩ := own_form hM.own
            obtain ⟨i, z⟩ := x
            have hOl : (out' ++ downs (d - en) (pre.map Prod.snd)).length ≤ 4500000000 := by
              rw [List.length_append, downs_length, List.length_map]
              omega
            have hnw : w.heap.size ≤ W.heap.size := hM.below.size
            have hds : out' ++ downs (d - en) ((pre ++ [(i, z)]).map Prod.snd) = (out' ++ downs (d - en) (pre.map Prod.snd)) ++ [⟨z, IntKind.i64.wrap (d - en + pre.length), [], [], []⟩] := by
              rw [List.map_append, List.map_cons, List.map_nil, downs_snoc, List.append_assoc, List.length_map]
            have hdl : d - en + ((pre ++ [(i, z)]).length : Int) = d - en + pre.length + 1 := by
              rw [List.length_append, List.length_singleton]
              omega
            generalize out' ++ downs (d - en) (pre.map Prod.snd) = O at *
            generalize hdd : d - en + (pre.length : Int) = dd at *
            obtain ⟨z0, z1, z2, z3⟩ := hM.cells
            have HM := Lib.hid hM
            have HBX := Lib.hid hbx
            have hw1 : IntKind.i64.wrap (dd + 1) = wrap64 (IntKind.i64.wrap dd + 1) := by
              have e : ∀ x : Int, wrap64 x = IntKind.i64.wrap x := fun x => by first | rfl | simp only [wrap64, IntKind.wrap_i64]
              rw [e]
              exact (wrap64_add dd 1).symm
            obtain ⟨dw, hdw⟩ : ∃ dw, dw = IntKind.i64.wrap dd := ⟨_, rfl⟩
            rw [← hdw] at z2 hw1 hds
            have HDL := Lib.hid hdl
            have HDT := Lib.hid hds
            clear hdl hds
            have HDW := Lib.hid hdw
            have HW1 := Lib.hid hw1
            have bA := (Below.refl _ W).alloc (Nat.le_refl _) (.cells #[.int .i64 z, .int .i64 dw, .string ⟨#[]⟩, .string ⟨#[]⟩, .string ⟨#[]⟩] 30)
            have HMA := Lib.hid (hM.keep bA)
            have HBA := Lib.hid bA
            have HSA := Lib.hid (alloc_size W (.cells #[.int .i64 z, .int .i64 dw, .string ⟨#[]⟩, .string ⟨#[]⟩, .string ⟨#[]⟩] 30))
            clear hM hbx hdd hdw hw1 bA
            gi_wp2_with (gi_at_builtin; refine wpListIn_append_own _ rfl _ _ 27 rfl w.heap.size 30 i0 (.agg #[.int .i64 0, .int .i64 0, .string ByteArray.empty, .string ByteArray.empty, .string ByteArray.empty]) 5 64 Tryz.underlying27 hi hz0 hz1 hz2 rfl (by decide) _ O.length (flt ilC O) rfl HMA.out.own ⟨W.heap.size, 0, none⟩ 1 1 (ilC ⟨z, dw, [], [], []⟩) rfl rfl (elt_cells W (ilC ⟨z, dw, [], [], []⟩) 30) (ilC_one _) (by unfold maxLen; omega) (by omega) (by have := HSA.out; omega) ?_; intro v' w1 hown' hgrow _; obtain ⟨g7, c7, rfl⟩ := ownsRow_succ hown'; obtain ⟨⟨r1, r2⟩, r3, r4⟩ := HMA.out.boxes hgrow; rw [← HDW.out] at r3; have HG7 := Lib.hid hgrow; have HO7 := Lib.hid hown'; clear hgrow hown')
            have hM7 := HMA.out.append (Y := [⟨z, dw, [], [], []⟩]) HG7.out (by rw [List.length_append, flt_append, flt_one]; exact HO7.out)
            have hM8 := hM7.depth (dd + 1)
            rw [HW1.out] at hM8
            have hgA : W.grownBy (W.alloc (.cells #[.int .i64 z, .int .i64 dw, .string ⟨#[]⟩, .string ⟨#[]⟩, .string ⟨#[]⟩] 30)) none := World.grownBy_alloc W _ none
            have hko := (((ko_grown hgA (fun r o h => by cases h)).trans (ko_grown HG7.out (own_cells HMA.out.own))).trans (KeepsOthers.setCell w1 ⟨w.heap.size, 0, none⟩ (.slice (some ⟨g7, 0, none⟩) (O.length + 1) c7))).trans (KeepsOthers.setCell _ ⟨w.heap.size + 1, 0, none⟩ (.int .i64 (wrap64 (dw + 1))))
            have hbxA := (HBA.out.block bx (Array.getElem?_eq_some_iff.1 HBX.out).1).trans HBX.out
            have n7 := own_ne HMA.out.own hbxA (by decide)
            have hbx7 := (HG7.out.block bx (Array.getElem?_eq_some_iff.1 hbxA).1 (fun e => n7 e.symm)).trans hbxA
            have hbx8 := ((setc_grown w1 w.heap.size 0 (.slice (some ⟨g7, 0, none⟩) (O.length + 1) c7)).block bx (Array.getElem?_eq_some_iff.1 hbx7).1 (fun e => by have := Option.some.inj e; have := HW2.out; omega)).trans hbx7
            have hbx9 := ((setc_grown (w1.setCell ⟨w.heap.size, 0, none⟩ (.slice (some ⟨g7, 0, none⟩) (O.length + 1) c7)) (w.heap.size + 1) 0 (.int .i64 (wrap64 (dw + 1)))).block bx (Array.getElem?_eq_some_iff.1 hbx8).1 (fun e => by have := Option.some.inj e; have := HW2.out; omega)).trans hbx8
            refine ⟨hko.from _, ⟨hbx9.trans HBX.out.symm, fun g hg => ?_⟩, ⟨.slice (some ⟨g7, 0, none⟩) (O.length + 1) c7, ?_⟩, hbx9⟩
            · have h1 := (HOIW.out.lt g hg).2
              exact (hM8.below.block g h1).trans (HM.out.below.block g h1).symm
            · rw [HDT.out, HDL.out]
              exact hM8
          case done =>
            rintro D xs W hD hS ⟨⟨v, hM⟩, hbx⟩ hk
            obtain ⟨Av, cv, rfl, _⟩ := own_form hM.own
            have hxl : xs.length = bg.length := by
              have := congrArg List.length hS
              rwa [List.length_map, List.length_reverse] at this
            unfold bwS at hS
            rw [hS, hxl] at hM
            have hE : (out' ++ downs (d - en) bg.reverse) ++ ren (d - en + bg.length) (evF (k + 1) ((Ps.map Prod.fst).drop (k + 1))) = ren 0 (evF 0 (Ps.map Prod.fst)) := by
              have h1 := HREN.out
              rw [ren_row (p := ⟨⟨sg, nn, ff, op, cl, nd⟩, en, bg⟩) hs] at h1
              rw [HO'.out, ← h1]
              simp only [List.append_assoc]
            have hM' : NdMem w (out' ++ downs (d - en) bg.reverse) (d - en + bg.length) (.slice Av (out' ++ downs (d - en) bg.reverse).length cv) ({ target := .collected D, args := #[] } :: ds) W := ⟨hM.b3, hM.b4, hM.own, hM.below, HMB.out.marks.push hM.marks hD (by omega) hk⟩
            generalize out' ++ downs (d - en) bg.reverse = O at *
            have HE := Lib.hid hE
            have HM := Lib.hid hM'
            clear hE hM' hM hS hxl hbx hk
            simp only [Exit.inBlock, Exit.then]
            go_wp2
            refine ⟨?_, ?_⟩
            · (repeat apply Exists.intro)
              refine ⟨?_, rfl⟩
              exact ⟨k + 1, O, d - en + bg.length, Av, cv, by go_num, by rw [List.length_map]; omega, HM.out, HE.out⟩
            · simp [intOf]
              omega
          case stop => exact fun _ _ _ _ _ _ h _ => h.elim
    · obtain rfl : k = Ps.length := by omega
      have HMM := Lib.hid hM
      have HR := Lib.hid hren
      obtain ⟨z0, z1, z2, z3⟩ := hM.cells
      clear hM hren hP
      go_wp2
      obtain ⟨Ds, rfl, hnd, hmk⟩ := HMM.out.marks
      refine leave_marks (fun W => W.ownsRow w.heap.size 30 5 (.slice A out.length c) out.length (flt ilC out) ∧ Below w.heap.size w W) (fun W => results_tmp rfl _ _ _) (fun W D hG hD hk => ⟨ownsRow_putObj hG.1 _ hk rfl, hG.2.grown (grownBy_putObj' W D _) hG.2.size (fun r e => by cases e; exact hD)⟩) (fun W hG => ⟨⟨_, rfl, ?_⟩, hG.2⟩) Ds hnd _ ⟨HMM.out.own, HMM.out.below⟩ hmk
      have hr := HR.out
      rw [show (Ps.map Prod.fst).drop Ps.length = [] from List.drop_eq_nil_of_le (by simp)] at hr
      have hr' : out = ren 0 (evF 0 (Ps.map Prod.fst)) := by rw [← hr]; simp [evF, ren]
      rw [← hr']
      exact hG.1
end Go.Proofs.YtfbaknkmpilllaaGreatDoor
