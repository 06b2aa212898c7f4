/-
  Package emph: pair: one node of what lies between two rows.
-/
import Derived.Test.YtoomkhmmgjiniaaEmI
import Derived.Maps.AppendAt
namespace Go.Proofs.Ytoomkhmmgjiniaa
open Go.RowKit Go.Maps Go.ChangeShapes
set_option linter.unusedSimpArgs false
set_option linter.unusedVariables false
set_option maxRecDepth 100000

theorem infoInt : (Try.prog.info? 3).map (fun i => (i.zero, i.size, i.bytes)) = some (some (.int .i64 0), 1, 8) := by kernel_rfl
theorem set_four {α : Type} (l : List α) (j a : Nat) (h : j ≠ a) (x1 y1 x2 y2 : α) : ((((l.set j x1).set a y1).set j x2).set a y2) = (l.set j x2).set a y2 := by
  rw [List.set_comm y1 x2 (Ne.symm h), List.set_set, List.set_set]
/-- What pairing makes of the two pieces. -/
def pairX (x : Pm) (k : Int) (bv : Value) : Pm := ({ x.1 with it := lessI x.1.it k, bg := x.1.bg ++ [if k = 2 then 4 else 3] }, x.2.1, bv)
def pairY (y : Pm) (k : Int) : Pm := ({ y.1 with it := lessI y.1.it k, en := y.1.en + 1 }, y.2)
def PairEnd (M b bp bm cap B : Nat) (Ps : List Pm) (o1 : List Nat) (j a : Nat) (x y : Pm) (w : World) (e : Ending) (w' : World) : Prop :=
  e = .returned (.tuple #[]) ∧ (∃ n' D' ov' bv', PrSt w' b bp bm cap n' D' ((Ps.set j (pairX x (kOf x.1.it y.1.it) bv')).set a (pairY y (kOf x.1.it y.1.it))) (if 0 < x.1.it.n - kOf x.1.it y.1.it then o1 ++ [j] else o1) (if 0 < x.1.it.n - kOf x.1.it y.1.it then o1 ++ [j] else o1) ov' ∧ n' + (if 0 < x.1.it.n - kOf x.1.it y.1.it then o1 ++ [j] else o1).length ≤ M) ∧ KB B w w'
set_option maxHeartbeats 8000000 in
theorem pair_any {w : World} {b bp bm cap n B : Nat} {D : DU} {Ps : List Pm} {o1 o2 : List Nat} {j a : Nat} {ov : Value} {x y : Pm} (h : PrSt w b bp bm cap n D Ps (o1 ++ j :: o2) (o1 ++ j :: o2) ov) (hB : B ≤ bm ∧ B ≤ b ∧ B ≤ w.heap.size ∧ B ≤ bp)
    (hops : ∀ i ∈ o1 ++ j :: o2, i < Ps.length) (hasc : (o1 ++ j :: o2).Pairwise (· < ·)) (hx : Ps[j]? = some x) (hy : Ps[a]? = some y) (hja : j < a)
    (hxn : 0 < x.1.it.n ∧ x.1.it.n ≤ 4294967296) (hyn : 0 < y.1.it.n ∧ y.1.it.n ≤ 4294967296) (hen : y.1.en ≤ 4294967296) (hbg : x.1.bg.length ≤ 4294967296) :
    Calls Try.prog 31 #[.pointer (some ⟨b, 0, none⟩), .int .i64 j, .int .i64 a] w (PairEnd (n + (o1 ++ j :: o2).length) b bp bm cap B Ps o1 j a x y w) := by
  obtain ⟨i0, hi, hz0, hz1, hz2⟩ := info_parts infoInt
  have hsm := h.small
  have hln := h.len
  have hja2 : a < Ps.length := (List.getElem?_eq_some_iff.1 hy).1
  have e1 : o1 ++ j :: o2 = (o1 ++ [j]) ++ o2 := by simp
  rw [e1] at h hops hasc
  have hp := List.pairwise_append.1 hasc
  have hp1 := List.pairwise_append.1 hp.1
  have cs := shut_any h ⟨hB.1, hB.2.1, hB.2.2.1⟩ hops (j + 1) (by omega) (fun i hi => by
    rcases List.mem_append.1 hi with hi | hi
    · have := hp1.2.2 i hi j (by simp); omega
    · rw [List.mem_singleton] at hi; omega) (fun i hi => hp.2.2 j (by simp) i hi)
  have hkk := kOf_is x.1.it y.1.it hxn.1 hyn.1
  have hkd : kOf x.1.it y.1.it = if 2 ≤ x.1.it.n ∧ 2 ≤ y.1.it.n then 2 else 1 := rfl
  unfold PairEnd
  generalize hk : kOf x.1.it y.1.it = k at *
  have HA := Lib.hid hasc
  have HX := Lib.hid hx
  have HY := Lib.hid hy
  have HP1 := Lib.hid hp1
  have HOPS := Lib.hid hops
  clear h hops hasc hp hp1 hx hy hk e1
  go_enter Try.func31, Try.ntmps31
  go_wp2_with fail
  refine cs.mono ?_
  rintro e w1 ⟨rfl, ⟨n1, D1, ov1, h1, hM1⟩, b1⟩
  have HM1 := Lib.hid hM1
  clear hM1
  have hs1 := b1.size
  obtain ⟨c0, c1, c2, bfz, hbl⟩ := h1.bcells
  obtain ⟨⟨p0, p1, p2, p3, p4, p5, p6, p7⟩, pfz, hbpl, hjl⟩ := h1.pcells HX.out
  obtain ⟨⟨r0, r1, r2, r3, r4, r5, r6, r7⟩, _, _, hal⟩ := h1.pcells HY.out
  have hjlt : (j : Int) < (Ps.length : Int) := by omega
  have halt : (a : Int) < (Ps.length : Int) := by omega
  have HH1 := Lib.hid h1
  clear h1 cs
  go_wp2_with fail
  go_quiet (fail)
  have b1' : KB B w (w1.drewN nq) := b1.thenB (below_drewN' (Below.refl _ w1) nq) (by omega)
  have h2 := HH1.out.below (below_drewN' (Below.refl _ w1) nq)
  obtain ⟨w2, hw2⟩ : ∃ w2, w2 = w1.drewN nq := ⟨_, rfl⟩
  rw [← hw2] at b1' h2 ⊢
  have hs2 := b1'.size
  clear c0 c1 c2 bfz hbl p0 p1 p2 p3 p4 p5 p6 p7 pfz hbpl r0 r1 r2 r3 r4 r5 r6 r7 HH1 b1 hs1 hw2
  obtain ⟨⟨p0, p1, p2, p3, p4, p5, p6, p7⟩, pfz, hbpl, hjl⟩ := h2.pcells HX.out
  obtain ⟨⟨r0, r1, r2, r3, r4, r5, r6, r7⟩, _, _, hal⟩ := h2.pcells HY.out
  have HH2 := Lib.hid h2
  have HB2 := Lib.hid b1'
  clear h2 b1'
  go_upto_region 3 with fail
  go_cut [37] from 26 to 36 (fun s wx => s = .bool (decide (k = 2)) ∧ wx = w2)
  case first =>
    by_cases h1 : 2 ≤ x.1.it.n
    · by_cases h2 : 2 ≤ y.1.it.n
      · have hk2 : k = 2 := by rw [hkd, if_pos ⟨h1, h2⟩]
        go_wp2
        go_meet
        exact ⟨by rw [hk2]; rfl, rfl⟩
      · have hk1 : k = 1 := by rw [hkd, if_neg (fun h => h2 h.2)]
        go_wp2
        go_meet
        exact ⟨by rw [hk1]; rfl, rfl⟩
    · have hk1 : k = 1 := by rw [hkd, if_neg (fun h => h1 h.1)]
      go_wp2
      go_meet
      exact ⟨by rw [hk1]; rfl, rfl⟩
  case rest =>
  obtain ⟨rfl, hwc⟩ := hcut
  subst hwc
  obtain ⟨kd, hkd2⟩ : ∃ kd : Int, kd = if k = 2 then 4 else 3 := ⟨_, rfl⟩
  have HKD := Lib.hid hkd2
  have hkw : (Lit.int .i64 kd).wf = true := by rw [hkd2]; split <;> decide
  clear hkd2
  generalize hq : decide (k = 2) = q at *
  go_upto_if 37 with fail
  go_cut [8, 9] from 38 to 38 (fun s t wx => s = .int .i64 kd ∧ t = .int .i64 k ∧ wx = wc)
  case first =>
    have HKK := Lib.hid hkk
    clear hkd hkk
    have HQ := Lib.hid hq
    clear hq
    cases q with
    | true =>
      go_wp2
      go_meet
      have := of_decide_eq_true HQ.out
      exact ⟨by rw [HKD.out, if_pos this], by rw [this], rfl⟩
    | false =>
      go_wp2
      go_meet
      have := of_decide_eq_false HQ.out
      have h2 : k = 1 := HKK.out.1.resolve_right this
      exact ⟨by rw [HKD.out, if_neg this], by rw [h2], rfl⟩
  case rest =>
  obtain ⟨rfl, rfl, hwc⟩ := hcut
  subst hwc
  obtain ⟨h3, g3⟩ := HH2.out.setCell HX.out 5 (by omega) (.int .i64 (x.1.it.n - k)) ({ x.1 with it := lessI x.1.it k }, x.2) rfl rfl rfl rfl rfl rfl
  have hwn1 : IntKind.i64.wrap (x.1.it.n - k) = x.1.it.n - k := IntWalk.i64_in _ (by omega)
  have hwn2 : IntKind.i64.wrap (y.1.it.n - k) = y.1.it.n - k := IntWalk.i64_in _ (by omega)
  have hp5 := pfz (j * 8 + 5)
  clear hkd hq
  go_upto_region 6 with fail
  obtain ⟨w3, hw3⟩ : ∃ w3, w3 = wc.setCell ⟨bp, j * 8 + 5, none⟩ (.int .i64 (x.1.it.n - k)) := ⟨_, rfl⟩
  rw [← hw3] at h3 g3 ⊢
  have hb3 : KB B w w3 := HB2.out.grown g3 (by omega) (HH2.out.row_bp hB.2.2.2)
  clear p0 p1 p2 p3 p4 p5 p6 p7 r0 r1 r2 r3 r4 r5 r6 r7 pfz hp5 hw3 g3
  have hya : (Ps.set j ({ x.1 with it := lessI x.1.it k }, x.2))[a]? = some y := by rw [List.getElem?_set, if_neg (by omega)]; exact HY.out
  obtain ⟨⟨r0, r1, r2, r3, r4, r5, r6, r7⟩, pfz, _, _⟩ := h3.pcells hya
  obtain ⟨h4, g4⟩ := h3.setCell hya 5 (by omega) (.int .i64 (y.1.it.n - k)) ({ y.1 with it := lessI y.1.it k }, y.2) rfl rfl rfl rfl rfl rfl
  have hp5 := pfz (a * 8 + 5)
  have hs3 := hb3.size
  have HB3 := Lib.hid hb3
  have HH3 := Lib.hid h3
  have HH4 := Lib.hid h4
  have HG4 := Lib.hid g4
  clear h3 h4 g4 hb3
  go_upto_region 7 with fail
  obtain ⟨w4, hw4⟩ : ∃ w4, w4 = w3.setCell ⟨bp, a * 8 + 5, none⟩ (.int .i64 (y.1.it.n - k)) := ⟨_, rfl⟩
  rw [← hw4] at HH4 HG4 ⊢
  have hb4 : KB B w w4 := HB3.out.grown HG4.out (by omega) (HH3.out.row_bp hB.2.2.2)
  have hs4 := hb4.size
  clear r0 r1 r2 r3 r4 r5 r6 r7 pfz hp5 hw4 HG4 HB3 HH3
  have hxa : ((Ps.set j ({ x.1 with it := lessI x.1.it k }, x.2)).set a ({ y.1 with it := lessI y.1.it k }, y.2))[j]? = some ({ x.1 with it := lessI x.1.it k }, x.2) := by
    rw [List.getElem?_set, if_neg (by omega), List.getElem?_set, if_pos rfl, if_pos hjl]
  obtain ⟨⟨p0, p1, p2, p3, p4, p5, p6, p7⟩, pfz, hbp4, _⟩ := HH4.out.pcells hxa
  have hox := HH4.out.own_at hxa
  dsimp only at p0 p1 p2 p3 p4 p5 p6 p7 hox
  have HOX := Lib.hid hox
  have hp7 := pfz (j * 8 + 7)
  clear hox
  obtain ⟨cur, hcur⟩ := HH4.out.rowObj
  have HC := Lib.hid hcur
  have hbase : bm + 1 ≤ w4.heap.size := by have := fam_lt HH4.out.fam; omega
  have HN := Lib.hid (ints_ne HOX.out HC.out (by decide))
  have HB4 := Lib.hid hb4
  have h31 : x.1.bg.length + 1 ≤ 4294967297 := by omega
  clear hcur hb4
  go_wp2_with (at_builtin; refine wpList_append_own_at _ rfl _ _ 39 rfl (bm + 1) 3 i0 (.int .i64 0) 1 8 Try.underlying39 hi hz0 hz1 hz2 rfl (by decide) x.2.2 x.1.bg.length (x.1.bg.map (Value.int .i64)) rfl (HOX.out.alloc _).1 ⟨w4.heap.size, 0, none⟩ 1 1 [.int .i64 kd] rfl rfl (cell_one_new _ _ _) (by simp [Value.oneCell']) (by unfold maxLen; omega) (by omega) (by simp; omega) ?_)
  intro v' w5 hown' hgrow _ hat
  obtain ⟨gq, cq, rfl, _, _⟩ := hown'.form (by omega)
  have hg45 : w4.grownBy w5 x.2.2.ownBlock := (World.grownBy_alloc w4 _ _).trans hgrow
  have ho5 : w5.ownsInts (bm + 1) 3 .i64 (.slice (some ⟨gq, 0, none⟩) (x.1.bg.length + 1) cq) (x.1.bg ++ [if k = 2 then 4 else 3]) := by
    rw [← HKD.out]
    exact HOX.out.appended hown' hkw
  have hloc : (Value.slice (some ⟨gq, 0, none⟩) (x.1.bg.length + 1) cq).ownBlock = x.2.2.ownBlock ∨ ∃ g, (Value.slice (some ⟨gq, 0, none⟩) (x.1.bg.length + 1) cq).ownBlock = some g ∧ w4.heap.size ≤ g := by
    rcases hat with h | h
    · exact Or.inl h
    · exact Or.inr ⟨_, h, by simp⟩
  obtain ⟨h5, g5⟩ := HH4.out.begins hxa hg45 ho5 hloc
  have hb5 : KB B w w5 := HB4.out.grown hg45 (by omega) (fun r e => ⟨by have := (HOX.out.1.lt r e).1; omega, not_item_ints HOX.out e⟩)
  have hs5 := hb5.size
  have hcell5 := (hg45.block bp (Array.getElem?_eq_some_iff.1 HC.out).1 (fun e => HN.out e.symm)).trans HC.out
  have q7 : w5.cell? ⟨bp, j * 8 + 7, none⟩ = some x.2.2 := (World.cell?_of_block (w := w4) (w' := w5) (a := ⟨bp, j * 8 + 7, none⟩) (by rw [hcell5]; exact HC.out.symm)).trans p7
  have qf : w5.frozen? ⟨bp, j * 8 + 7, none⟩ = false := (World.frozen?_of_block (w := w4) (w' := w5) (a := ⟨bp, j * 8 + 7, none⟩) (by rw [hcell5]; exact HC.out.symm)).trans hp7
  have HH5 := Lib.hid h5
  have HG5 := Lib.hid g5
  have HB5 := Lib.hid hb5
  have HCU5 := Lib.hid hcell5
  clear hown' hgrow hat hg45 ho5 hloc h5 g5 hb5 hcell5 p0 p1 p2 p3 p4 p5 p6 p7 pfz hp7
  go_upto_region 8 with fail
  obtain ⟨w6, hw6⟩ : ∃ w6, w6 = w5.setCell ⟨bp, j * 8 + 7, none⟩ (.slice (some ⟨gq, 0, none⟩) (x.1.bg.length + 1) cq) := ⟨_, rfl⟩
  rw [← hw6] at HH5 HG5 ⊢
  have hb6 : KB B w w6 := HB5.out.grown HG5.out (by omega) (fun r e => by cases e; exact ⟨hB.2.2.2, not_item_cells HCU5.out (by decide)⟩)
  have hs6 := hb6.size
  clear q7 qf hw6
  have hya6 : (((Ps.set j ({ x.1 with it := lessI x.1.it k }, x.2)).set a ({ y.1 with it := lessI y.1.it k }, y.2)).set j (pairX x k (.slice (some ⟨gq, 0, none⟩) (x.1.bg.length + 1) cq)))[a]? = some ({ y.1 with it := lessI y.1.it k }, y.2) := by
    rw [List.getElem?_set, if_neg (by omega), List.getElem?_set, if_pos rfl, if_pos (by rw [List.length_set]; exact hal)]
  obtain ⟨⟨r0, r1, r2, r3, r4, r5, r6, r7⟩, pfz, _, _⟩ := PrSt.pcells HH5.out hya6
  obtain ⟨h7, g7⟩ := PrSt.setCell HH5.out hya6 6 (by omega) (.int .i64 ((y.1.en : Int) + 1)) (pairY y k) rfl rfl rfl rfl rfl rfl
  rw [set_four _ _ _ (by omega)] at h7
  have hq6 := pfz (a * 8 + 6)
  have hwe : IntKind.i64.wrap ((y.1.en : Int) + 1) = (y.1.en : Int) + 1 := IntWalk.i64_in _ (by omega)
  have HH7 := Lib.hid h7
  have HG7 := Lib.hid g7
  have HB6 := Lib.hid hb6
  clear h7 g7 HG5 hb6
  go_upto_region 9 with fail
  obtain ⟨w7, hw7⟩ : ∃ w7, w7 = w6.setCell ⟨bp, a * 8 + 6, none⟩ (.int .i64 ((y.1.en : Int) + 1)) := ⟨_, rfl⟩
  rw [← hw7] at HH7 HG7 ⊢
  have hb7 : KB B w w7 := HB6.out.grown HG7.out (by omega) (HH5.out.row_bp hB.2.2.2)
  have hs7 := hb7.size
  clear r0 r1 r2 r3 r4 r5 r6 r7 pfz hq6 hw7 HG7
  have hxa7 : ((Ps.set j (pairX x k (.slice (some ⟨gq, 0, none⟩) (x.1.bg.length + 1) cq))).set a (pairY y k))[j]? = some (pairX x k (.slice (some ⟨gq, 0, none⟩) (x.1.bg.length + 1) cq)) := by
    rw [List.getElem?_set, if_neg (by omega), List.getElem?_set, if_pos rfl, if_pos hjl]
  obtain ⟨⟨p0, p1, p2, p3, p4, p5, p6, p7⟩, pfz, hbp7, _⟩ := HH7.out.pcells hxa7
  have p5' : w7.cell? ⟨bp, j * 8 + 5, none⟩ = some (.int .i64 (x.1.it.n - k)) := p5
  have HB7 := Lib.hid hb7
  clear p0 p1 p2 p3 p4 p5 p6 p7 hb7
  by_cases hz : x.1.it.n - k = 0
  · have cs2 := shut_any (B := B) (o1 := o1) (o2 := [j]) HH7.out ⟨hB.1, hB.2.1, by omega⟩ (fun i hi => by rw [List.length_set, List.length_set]; exact HOPS.out i (List.mem_append_left _ hi)) j (by omega) (fun i hi => HP1.out.2.2 i hi j (by simp)) (fun i hi => by rw [List.mem_singleton] at hi; omega)
    rw [hz] at p5'
    clear HH7
    go_wp2_with fail
    refine cs2.mono ?_
    rintro e w8 ⟨rfl, ⟨n8, D8, ov8, h8, hM8⟩, b8⟩
    have HM8 := Lib.hid hM8
    clear hM8
    have HH8 := Lib.hid h8
    clear h8
    go_wp2
    go_end0
    exact ⟨rfl, ⟨n8, ⟨D8, ov8, _, HH8.out⟩, by have h1 := HM1.out; have h8 := HM8.out; simp only [List.length_append, List.length_cons, List.length_nil] at h1 h8 ⊢; omega⟩, HB7.out.trans b8⟩
  · have hz1 : (x.1.it.n - k == 0) = false := by simpa using hz
    go_wp2
    go_end0
    exact ⟨rfl, ⟨n1, ⟨D1, ov1, _, HH7.out⟩, by have h1 := HM1.out; simp only [List.length_append, List.length_cons, List.length_nil] at h1 ⊢; omega⟩, HB7.out⟩

end Go.Proofs.Ytoomkhmmgjiniaa
