/- Texts joined: EmL EmS InZ. -/
import Derived.Test.YteihmgcphbijhaaGreatDoorQAF
import Derived.Test.YteihmgcphbijhaaGreatDoorQAG
import Derived.Test.YteihmgcphbijhaaGreatDoorQAC
import Derived.Test.YteihmgcphbijhaaGreatDoorQAD
namespace Go.Proofs.YteihmgcphbijhaaGreatDoor
open Go.RowKit Go.Maps Go.ChangeShapes
set_option linter.unusedSimpArgs false
set_option linter.unusedVariables false
set_option maxRecDepth 100000
theorem step_append_fits {P : Program} {ops : Array Oper} {o : Oper} {a : Act} {w : World} {K : Act → World → Prop} {Q : Exit → Act → World → Prop} {E : Prop}
    (hg : o.guard = none) (s x : Operand) (t : TypeId) (hop : o.op = Op.call { callee := Callee.builtin Builtin.append, args := #[s, x], argTypes := #[t, t] })
    (base : Nat) (e : TypeId) (i : TypeInfo) (size : Nat) (h1 : P.underlying t = some (.slice e)) (h2 : P.info? e = some i) (h4 : i.size = size)
    (g n cap : Nat) (xs : List Value) (hs : a.eval s = .slice (some ⟨g, 0, none⟩) n cap) (hown : w.ownsRow base e size (.slice (some ⟨g, 0, none⟩) n cap) n xs)
    (ad : Addr) (m c : Nat) (news : List Value) (hx : a.eval x = .slice (some ad) m c) (hn : news.length = m * size) (hc : ∀ j u, news[j]? = some u → w.cell? (ad.add j) = some u) (h1c : ∀ u ∈ news, u.oneCell' = true)
    (hroom : n + m ≤ cap)
    (hK : ∀ w', w'.ownsRow base e size (.slice (some ⟨g, 0, none⟩) (n + m) cap) (n + m) (xs ++ news) → w.grownBy w' (some g) → K (a.put o.dst (.slice (some ⟨g, 0, none⟩) (n + m) cap)) w') :
    if Region.wanted o (yielded ops a.tmps) = true then Oper.wp P o a w K Q else E := by
  have hw : Region.wanted o (yielded ops a.tmps) = true := by simp [Region.wanted, hg]
  rw [if_pos hw]
  obtain ⟨w', hrun, r1, r2⟩ := run_append_fits (P := P) w base t o.type e i size h1 h2 h4 g n cap xs hown ad m c news hn hc h1c hroom
  unfold Oper.wp
  simp [execOp, hop, resolve, invoke, builtin, hs, hx, hrun, Result.andThen]
  exact hK _ r1 r2
theorem infoPiece : (Tryz.prog.info? 121).map (fun i => i.size) = some 8 := by kernel_rfl
/-- Between two items: what is done, what comes. -/
structure PtSt (S : List Itm) (r : List Itm) (w0 : World) (b bp bm cap : Nat) (Qs : List Pm) (ops : List Nat) (w : World) : Prop where
  st : ∃ n D ov, PrSt w b bp bm cap n D Qs ops ops ov ∧ n + ops.length ≤ 2 * Qs.length
  run : Run S (Qs.map Prod.fst) 0 ops r
  bds : ∀ x ∈ Qs, PmB w0 x
theorem PtSt.below {S r : List Itm} {w0 : World} {b bp bm cap : Nat} {Qs : List Pm} {ops : List Nat} {w w' : World} (h : PtSt S r w0 b bp bm cap Qs ops w) (hb : Below w.heap.size w w') : PtSt S r w0 b bp bm cap Qs ops w' := by
  obtain ⟨n, D, ov, hp, hM⟩ := h.st
  exact ⟨⟨n, D, ov, hp.below hb, hM⟩, h.run, h.bds⟩
def PtEnd (S r : List Itm) (w0 : World) (b bp bm cap B m : Nat) (w : World) (e : Ending) (w' : World) : Prop :=
  e = .returned (.tuple #[]) ∧ (∃ Qs ops, PtSt S r w0 b bp bm cap Qs ops w' ∧ Qs.length = m + 1) ∧ KB B w w'
theorem run_lt {S r : List Itm} {Qs : List Pm} {e : Nat} {ops : List Nat} (h : Run S (Qs.map Prod.fst) e ops r) : ∀ i ∈ ops, i < Qs.length := fun i hi => by
  obtain ⟨p, hp, _⟩ := (run_ops h).2 i hi
  have := (List.getElem?_eq_some_iff.1 hp).1
  rwa [List.length_map] at this
set_option maxHeartbeats 8000000 in
theorem put_any {S r : List Itm} {w0 w : World} {b bp bm cap B : Nat} {Qs : List Pm} {ops : List Nat} {sg : UInt8} {ff : Int} {op cl : Bool} {nd : List Iln} {Al : Option Addr} {cl4 : Nat}
    (h : PtSt S (⟨sg, ff, ff, op, cl, nd⟩ :: r) w0 b bp bm cap Qs ops w) (hff : ff ≤ 2147483647) (hlv : InlsAt w0 Al cl4 nd) (hroom : Qs.length + 1 ≤ cap) (hB : B ≤ bm ∧ B ≤ b ∧ B ≤ w.heap.size ∧ B ≤ bp) :
    Calls Tryz.prog 27 #[.pointer (some ⟨b, 0, none⟩), .agg #[.int .u8 sg.toNat, .int .i64 ff, .bool op, .bool cl, .slice Al nd.length cl4]] w (PtEnd S r w0 b bp bm cap B Qs.length w) := by
  obtain ⟨n, D, ov, hP, hM⟩ := h.st
  have HMM := Lib.hid hM
  clear hM
  obtain ⟨i0, hi, hz1⟩ : ∃ i0, Tryz.prog.info? 121 = some i0 ∧ i0.size = 8 := by
    have := infoPiece
    cases hi : Tryz.prog.info? 121 with
    | none => rw [hi] at this; cases this
    | some i0 => rw [hi] at this; exact ⟨i0, rfl, Option.some.inj this⟩
  have hsm := hP.small
  have bA : Below w.heap.size w _ := (Below.refl _ w).alloc (Nat.le_refl _) (.cells #[.int .u8 sg.toNat, .int .i64 ff, .bool op, .bool cl, .slice Al nd.length cl4] 75)
  have hsA := alloc_size w (.cells #[.int .u8 sg.toNat, .int .i64 ff, .bool op, .bool cl, .slice Al nd.length cl4] 75)
  have hbx := heap_alloc_new w (.cells #[.int .u8 sg.toNat, .int .i64 ff, .bool op, .bool cl, .slice Al nd.length cl4] 75)
  obtain ⟨⟨x0, x1, x2, x3, x4⟩, _⟩ := inl_box hbx
  have hPA := hP.below bA
  have HKA := Lib.hid (KB.of bA hB.2.2.1)
  obtain ⟨c0, c1, c2, bfz, hbl⟩ := hPA.bcells
  have HP := Lib.hid hPA
  have HH := Lib.hid h
  have HA := Lib.hid bA
  have HBX := Lib.hid hbx
  clear h hP hPA bA hbx
  go_enter Tryz.func27, Tryz.ntmps27
  go_wp2_with fail
  generalize hwA : w.alloc (.cells #[.int .u8 sg.toNat, .int .i64 ff, .bool op, .bool cl, .slice Al nd.length cl4] 75) = wA at *
  have hbd : Below wA.heap.size wA wA.drew := (Below.refl _ wA).drew
  have hPd := HP.out.below hbd
  have hgx : w.heap.size < wA.heap.size := by omega
  generalize hgxe : w.heap.size = gx at *
  have hSB : ∀ W : World, Below wA.heap.size wA W → (W.cell? ⟨b, 0, none⟩ = some (.slice (some ⟨bp, 0, none⟩) Qs.length cap) ∧ W.cell? ⟨gx, 0, none⟩ = some (.int .u8 sg.toNat) ∧ W.cell? ⟨gx, 1, none⟩ = some (.int .i64 ff) ∧ W.cell? ⟨gx, 2, none⟩ = some (.bool op) ∧ W.cell? ⟨gx, 3, none⟩ = some (.bool cl) ∧ W.cell? ⟨gx, 4, none⟩ = some (.slice Al nd.length cl4)) := fun W hb =>
    ⟨(hb.cell (p := ⟨b, 0, none⟩) hbl).trans c0, (hb.cell (p := ⟨gx, 0, none⟩) hgx).trans x0, (hb.cell (p := ⟨gx, 1, none⟩) hgx).trans x1, (hb.cell (p := ⟨gx, 2, none⟩) hgx).trans x2, (hb.cell (p := ⟨gx, 3, none⟩) hgx).trans x3, (hb.cell (p := ⟨gx, 4, none⟩) hgx).trans x4⟩
  have HGX := Lib.hid hgx
  have HSB := Lib.hid hSB
  have HS := Lib.hid (hSB wA.drew hbd)
  clear hSB c0 c1 c2 bfz x0 x1 x2 x3 x4
  refine wp_region_N (fun W => W.cell? ⟨b, 0, none⟩ = some (.slice (some ⟨bp, 0, none⟩) Qs.length cap) ∧ W.cell? ⟨gx, 0, none⟩ = some (.int .u8 sg.toNat) ∧ W.cell? ⟨gx, 1, none⟩ = some (.int .i64 ff) ∧ W.cell? ⟨gx, 2, none⟩ = some (.bool op) ∧ W.cell? ⟨gx, 3, none⟩ = some (.bool cl) ∧ W.cell? ⟨gx, 4, none⟩ = some (.slice Al nd.length cl4)) (fun i => decide (i < 11)) (by kernel_rfl) ?_
  have hs0 : wA.heap.size ≤ wA.drew.heap.size := Nat.le_refl _
  have HPD := Lib.hid hPd
  have HBD := Lib.hid hbd
  clear hPd hbd
  generalize hwd : wA.drew = wd at *
  refine wpAnyN_take_at 0 10 (v := ?_) rfl rfl (by kernel_rfl) (by kernel_rfl) (by kernel_rfl) (by kernel_rfl) (by kernel_rfl) (fun _ _ _ h => h) (by rfl) ?_ HS.out ?_
  rotate_left
  · intro W hSw; (try dsimp only at hSw); obtain ⟨q0, q1, q2, q3, q4, q5⟩ := hSw; go_simp; (try with_reducible rfl)
  simp only [Act.put, List.setIfInBounds_toArray, List.set_cons_zero, List.set_cons_succ]
  refine wpAnyN_take_at 1 11 (v := ?_) rfl rfl (by kernel_rfl) (by kernel_rfl) (by kernel_rfl) (by kernel_rfl) (by kernel_rfl) (fun _ _ _ h => h) (by rfl) ?_ HS.out ?_
  rotate_left
  · intro W hSw; (try dsimp only at hSw); obtain ⟨q0, q1, q2, q3, q4, q5⟩ := hSw; go_simp; (try with_reducible rfl)
  simp only [Act.put, List.setIfInBounds_toArray, List.set_cons_zero, List.set_cons_succ]
  refine wpAnyN_take_at 2 12 (v := ?_) rfl rfl (by kernel_rfl) (by kernel_rfl) (by kernel_rfl) (by kernel_rfl) (by kernel_rfl) (fun _ _ _ h => h) (by rfl) ?_ HS.out ?_
  rotate_left
  · intro W hSw; (try dsimp only at hSw); obtain ⟨q0, q1, q2, q3, q4, q5⟩ := hSw; go_simp; (try with_reducible rfl)
  simp only [Act.put, List.setIfInBounds_toArray, List.set_cons_zero, List.set_cons_succ]
  refine wpAnyN_take_at 3 13 (v := ?_) rfl rfl (by kernel_rfl) (by kernel_rfl) (by kernel_rfl) (by kernel_rfl) (by kernel_rfl) (fun _ _ _ h => h) (by rfl) ?_ HS.out ?_
  rotate_left
  · intro W hSw; (try dsimp only at hSw); obtain ⟨q0, q1, q2, q3, q4, q5⟩ := hSw; go_simp; (try with_reducible rfl)
  simp only [Act.put, List.setIfInBounds_toArray, List.set_cons_zero, List.set_cons_succ]
  refine wpAnyN_take_at 4 14 (v := ?_) rfl rfl (by kernel_rfl) (by kernel_rfl) (by kernel_rfl) (by kernel_rfl) (by kernel_rfl) (fun _ _ _ h => h) (by rfl) ?_ HS.out ?_
  rotate_left
  · intro W hSw; (try dsimp only at hSw); obtain ⟨q0, q1, q2, q3, q4, q5⟩ := hSw; go_simp; (try with_reducible rfl)
  simp only [Act.put, List.setIfInBounds_toArray, List.set_cons_zero, List.set_cons_succ]
  refine wpAnyN_take_at 5 15 (v := ?_) rfl rfl (by kernel_rfl) (by kernel_rfl) (by kernel_rfl) (by kernel_rfl) (by kernel_rfl) (fun _ _ _ h => h) (by rfl) ?_ HS.out ?_
  rotate_left
  · intro W hSw; (try dsimp only at hSw); obtain ⟨q0, q1, q2, q3, q4, q5⟩ := hSw; go_simp; (try with_reducible rfl)
  simp only [Act.put, List.setIfInBounds_toArray, List.set_cons_zero, List.set_cons_succ]
  refine wpAnyN_take_at 6 16 (v := ?_) rfl rfl (by kernel_rfl) (by kernel_rfl) (by kernel_rfl) (by kernel_rfl) (by kernel_rfl) (fun _ _ _ h => h) (by rfl) ?_ HS.out ?_
  rotate_left
  · intro W hSw; (try dsimp only at hSw); obtain ⟨q0, q1, q2, q3, q4, q5⟩ := hSw; go_simp; (try with_reducible rfl)
  simp only [Act.put, List.setIfInBounds_toArray, List.set_cons_zero, List.set_cons_succ]
  refine wpAnyN_take_at 7 17 (v := ?_) rfl rfl (by kernel_rfl) (by kernel_rfl) (by kernel_rfl) (by kernel_rfl) (by kernel_rfl) (fun _ _ _ h => h) (by rfl) ?_ HS.out ?_
  rotate_left
  · intro W hSw; (try dsimp only at hSw); obtain ⟨q0, q1, q2, q3, q4, q5⟩ := hSw; go_simp; (try with_reducible rfl)
  simp only [Act.put, List.setIfInBounds_toArray, List.set_cons_zero, List.set_cons_succ]
  refine wpAnyN_take_at 8 18 (v := ?_) rfl rfl (by kernel_rfl) (by kernel_rfl) (by kernel_rfl) (by kernel_rfl) (by kernel_rfl) (fun _ _ _ h => h) (by rfl) ?_ HS.out ?_
  rotate_left
  · intro W hSw; (try dsimp only at hSw); obtain ⟨q0, q1, q2, q3, q4, q5⟩ := hSw; go_simp; (try with_reducible rfl)
  simp only [Act.put, List.setIfInBounds_toArray, List.set_cons_zero, List.set_cons_succ]
  have hal : Below wd.heap.size wd (wd.alloc (.cells (pmC (⟨⟨sg, ff, ff, op, cl, nd⟩, 0, []⟩, .slice Al nd.length cl4, .slice none 0 0)).toArray 121)) := (Below.refl _ wd).alloc (Nat.le_refl _) _
  have HSA := Lib.hid (HSB.out _ (HBD.out.trans (hal.mono (by omega))))
  have hP4 := HPD.out.below hal
  have hnc := elt_cells wd (pmC (⟨⟨sg, ff, ff, op, cl, nd⟩, 0, []⟩, .slice Al nd.length cl4, .slice none 0 0)) 121
  have HP4 := Lib.hid hP4
  have HAL := Lib.hid hal
  clear hP4 hal
  refine wpAnyN_one (i := 9) rfl (by kernel_rfl) (fun K hK => ?_)
  go_simp
  refine hK _ _ (fun _ => HSA.out) ?_
  clear hK
  (try simp only [Act.put, List.setIfInBounds_toArray, List.set_cons_zero, List.set_cons_succ])
  refine wpAnyN_one (i := 10) rfl (by kernel_rfl) (fun K hK => ?_)
  refine step_append_fits rfl (.tmp 14) (.tmp 19) 79 rfl bp 121 i0 8 Tryz.underlying79 hi hz1 bp Qs.length cap (flt pmC Qs) rfl HP4.out.row ⟨wd.heap.size, 0, none⟩ 1 1 (pmC (⟨⟨sg, ff, ff, op, cl, nd⟩, 0, []⟩, .slice Al nd.length cl4, .slice none 0 0)) rfl rfl hnc (by intro u hu; simp [pmC] at hu; rcases hu with rfl | rfl | rfl | rfl | rfl | rfl | rfl | rfl <;> rfl) hroom ?_
  intro w3 ho3 hg3
  obtain ⟨cur4, hcur4⟩ := HP4.out.rowObj
  have hgne : gx ≠ bp := fun e => by
    have h1 := HBX.out
    obtain ⟨cur, hc⟩ := HP.out.rowObj
    rw [e] at h1
    rw [hc] at h1
    injection h1 with h1
    injection h1 with _ h2
    exact absurd h2 (by decide)
  have hbne := HP4.out.b_ne
  have hS3 : (w3.cell? ⟨b, 0, none⟩ = some (.slice (some ⟨bp, 0, none⟩) Qs.length cap) ∧ w3.cell? ⟨gx, 0, none⟩ = some (.int .u8 sg.toNat) ∧ w3.cell? ⟨gx, 1, none⟩ = some (.int .i64 ff) ∧ w3.cell? ⟨gx, 2, none⟩ = some (.bool op) ∧ w3.cell? ⟨gx, 3, none⟩ = some (.bool cl) ∧ w3.cell? ⟨gx, 4, none⟩ = some (.slice Al nd.length cl4)) :=
    ⟨hg3.cell HSA.out.1 (fun e => hbne (Option.some.inj e)), hg3.cell HSA.out.2.1 (fun e => hgne (Option.some.inj e)), hg3.cell HSA.out.2.2.1 (fun e => hgne (Option.some.inj e)), hg3.cell HSA.out.2.2.2.1 (fun e => hgne (Option.some.inj e)), hg3.cell HSA.out.2.2.2.2.1 (fun e => hgne (Option.some.inj e)), hg3.cell HSA.out.2.2.2.2.2 (fun e => hgne (Option.some.inj e))⟩
  refine hK _ _ (fun _ => hS3) ?_
  clear hK
  (try simp only [Act.put, List.setIfInBounds_toArray, List.set_cons_zero, List.set_cons_succ])
  refine wpAnyN_rest 11 [_, _, _] rfl (by kernel_rfl) (by rfl) ?_
  obtain ⟨h5, g5⟩ := HP4.out.push (run_lt HH.out.run) hg3 ⟨rfl, rfl⟩ ho3
  have hb4 : KB B w w3 := (HKA.out.thenB (HBD.out.trans (HAL.out.mono (by omega))) (by omega)).grown hg3 (by have := HAL.out.size; omega) (HP4.out.row_bp hB.2.2.2)
  have hbx3 : w3.heap[gx]? = some (.cells #[.int .u8 sg.toNat, .int .i64 ff, .bool op, .bool cl, .slice Al nd.length cl4] 75 (0, 0)) := (hg3.block gx (Nat.lt_of_lt_of_le HGX.out (Nat.le_trans hs0 HAL.out.size)) (fun e => hgne (Option.some.inj e))).trans ((HAL.out.block gx (Nat.lt_of_lt_of_le HGX.out hs0)).trans ((HBD.out.block gx HGX.out).trans HBX.out))
  have hb5 : KB B w (w3.setCell ⟨b, 0, none⟩ (.slice (some ⟨bp, 0, none⟩) (Qs.length + 1) cap)) := hb4.grown g5 (by have := hb4.size; omega) (fun r e => by
    cases e
    refine ⟨hB.2.1, not_item_cells ((hg3.block b HP4.out.bcells.2.2.2.2 (fun e => hbne (Option.some.inj e))).trans HP4.out.blk) (by decide)⟩)
  have hs3 := hb4.size
  have hf3 : w3.frozen? ⟨b, 0, none⟩ = false := by
    have := (hg3.block b HP4.out.bcells.2.2.2.2 (fun e => hbne (Option.some.inj e))).trans HP4.out.blk
    simp [World.frozen?, this]
  obtain ⟨v0, v1, v2, v3, v4, v5⟩ := hS3
  have HH5 := Lib.hid h5
  have HG5 := Lib.hid g5
  have HB5 := Lib.hid hb5
  have hbx5 : (w3.setCell ⟨b, 0, none⟩ (.slice (some ⟨bp, 0, none⟩) (Qs.length + 1) cap)).heap[gx]? = some (.cells #[.int .u8 sg.toNat, .int .i64 ff, .bool op, .bool cl, .slice Al nd.length cl4] 75 (0, 0)) := (g5.block gx (Array.getElem?_eq_some_iff.1 hbx3).1 (fun e => by
    have h1 := HBX.out
    have h2 := HP.out.blk
    rw [← Option.some.inj e] at h2
    rw [h2] at h1
    injection h1 with h1
    injection h1 with _ h1
    exact absurd h1 (by decide))).trans hbx3
  have HBX5 := Lib.hid hbx5
  clear h5 g5 hb4 hb5 hbx3 hbx5 ho3 hg3 hcur4 HSA HP4 HAL hnc HPD HS
  go_upto_region 3 with fail
  obtain ⟨w4, hw4⟩ : ∃ w4, w4 = w3.setCell ⟨b, 0, none⟩ (.slice (some ⟨bp, 0, none⟩) (Qs.length + 1) cap) := ⟨_, rfl⟩
  rw [← hw4] at HH5 HB5 HBX5 ⊢
  clear v0 v1 v2 v3 v4 v5 hf3 hw4 HG5 HBX
  obtain ⟨⟨y0, y1, y2, y3, y4⟩, _⟩ := inl_box HBX5.out
  have hyb : PmB w0 ((⟨⟨sg, ff, ff, op, cl, nd⟩, 0, []⟩, .slice Al nd.length cl4, .slice none 0 0) : Pm) :=
    ⟨by show ff ≤ _; omega, fun _ => Int.le_refl _, by show ((0 : Nat) : Int) + max ff 0 ≤ _; omega, by show ((0 : Nat) : Int) + max ff 0 ≤ _; omega, by show ff ≤ _; omega, ⟨Al, cl4, rfl, hlv⟩, by intro z hz; cases hz⟩
  have hbds : ∀ x ∈ Qs ++ [((⟨⟨sg, ff, ff, op, cl, nd⟩, 0, []⟩, .slice Al nd.length cl4, .slice none 0 0) : Pm)], PmB w0 x := fun x hx => by
    rcases List.mem_append.1 hx with hx | hx
    · exact HH.out.bds x hx
    · rw [List.mem_singleton] at hx; subst hx; exact hyb
  have HBDS := Lib.hid hbds
  clear hyb hbds
  by_cases hs : sg = 0
  · have hsn : ((sg.toNat : Int) == 0) = true := by subst hs; rfl
    have hmay : mayOpen ⟨sg, ff, ff, op, cl, nd⟩ = false := by simp [mayOpen, hs]
    have hr := run_push HH.out.run (fun _ => rfl) (fun hc => absurd (canClose_pos hc).2.1 (by simp [hs]))
    rw [hmay] at hr
    have HR := Lib.hid hr
    clear hr hmay
    go_wp2
    go_end0
    exact ⟨rfl, ⟨_, ops, ⟨⟨n, D, ov, HH5.out, by have := HMM.out; rw [List.length_append]; omega⟩, by rw [List.map_append]; exact HR.out, HBDS.out⟩, by rw [List.length_append]; rfl⟩, HB5.out⟩
  · have hsn : ((sg.toNat : Int) == 0) = false := by
      have : sg.toNat ≠ 0 := fun e => hs (UInt8.toNat_inj.1 e)
      simp; omega
    have hcs : ClSt S r w0 b bp bm cap Qs.length Qs ((⟨⟨sg, ff, ff, op, cl, nd⟩, 0, []⟩, .slice Al nd.length cl4, .slice none 0 0) : Pm) ops w4 := ⟨⟨n, D, ov, HH5.out, HMM.out⟩, HH.out.run, HBDS.out, ⟨rfl, rfl⟩, rfl⟩
    have hs4 := HB5.out.size
    have HCS := Lib.hid hcs
    clear hcs
    go_upto_if 27 with fail
    go_cut [4] from 28 to 30 (fun s wx => s = .int .i64 Qs.length ∧ (∃ Qs' y' ops', ClSt S r w0 b bp bm cap Qs.length Qs' y' ops' wx ∧ (y'.1.it.sg = sg ∧ y'.1.it.ff = ff ∧ y'.1.it.op = op ∧ y'.1.it.cl = cl ∧ y'.1.it.nd = nd) ∧
      (canClose y'.1.it = true → ∀ k ∈ ops', ∀ p, (Qs'.map Prod.fst)[k]? = some p → fitI p.it y'.1.it = false)) ∧ KB B w wx ∧ wx.heap[gx]? = some (.cells #[.int .u8 sg.toNat, .int .i64 ff, .bool op, .bool cl, .slice Al nd.length cl4] 75 (0, 0)))
    case first =>
      cases cl with
      | true =>
        have hcl := close_any (B := B) HCS.out ⟨rfl, rfl, rfl, rfl, rfl⟩ hs rfl ⟨hB.1, hB.2.1, by omega, hB.2.2.2⟩
        go_wp2_with fail
        refine hcl.mono ?_
        rintro e w5 ⟨rfl, hex, hkb⟩
        have HE := Lib.hid hex
        have HK := Lib.hid hkb
        clear hex hkb
        go_wp2
        go_meet
        exact ⟨rfl, HE.out, HB5.out.trans HK.out, HK.out.items _ _ _ HBX5.out⟩
      | false =>
        go_wp2
        go_meet
        exact ⟨rfl, ⟨_, _, _, HCS.out, ⟨rfl, rfl, rfl, rfl, rfl⟩, fun hc => absurd (canClose_pos hc).2.2 (by simp)⟩, HB5.out, HBX5.out⟩
    case rest =>
    obtain ⟨rfl, ⟨Qs', y', ops', hC, hst, hno⟩, hkb, hbxc⟩ := hcut
    clear y0 y1 y2 y3 y4 HBX5 HB5 HCS HH5 HBDS HP HBD HA
    obtain ⟨⟨y0, y1, y2, y3, y4⟩, _, _, _, _, _⟩ := inl_box hbxc
    obtain ⟨n', D', ov', hP', hM'⟩ := hC.st
    have HM' := Lib.hid hM'
    clear hM'
    have hlen : (Qs' ++ [y']).length = Qs.length + 1 := by rw [List.length_append, hC.len]; rfl
    have hya : (Qs' ++ [y'])[Qs.length]? = some y' := by rw [List.getElem?_append_right (by rw [hC.len]; exact Nat.le_refl _), hC.len, Nat.sub_self]; rfl
    obtain ⟨c0, c1, c2, bfz, hbl⟩ := hP'.bcells
    obtain ⟨⟨r0, r1, r2, r3, r4, r5, r6, r7⟩, pfz, hbpl, hal⟩ := hP'.pcells hya
    rw [hlen] at c0
    have hsc := hkb.size
    have hql : ((Qs.length : Nat) : Int) < (Qs.length : Int) + 1 := by omega
    have HC := Lib.hid hC
    have HST := Lib.hid hst
    have HNO := Lib.hid hno
    have HKB := Lib.hid hkb
    have HP' := Lib.hid hP'
    have HYA := Lib.hid hya
    clear hC hst hno hkb hP' hya
    have hrun : Run S ((Qs' ++ [y']).map Prod.fst) 0 (if mayOpen y'.1.it then ops' ++ [Qs'.length] else ops') r := by
      have h1 := run_push HC.out.run (fun h0 => absurd (HST.out.1.symm.trans h0) hs) HNO.out
      have h2 : y'.1 = ⟨y'.1.it, y'.1.en, []⟩ := by
        obtain ⟨⟨it, en, bg⟩, lv, bv⟩ := y'
        have := HC.out.bg.1
        simp only at this
        subst this
        rfl
      rw [List.length_map] at h1
      rw [List.map_append, List.map_cons, List.map_nil, h2]
      exact h1
    have HR := Lib.hid hrun
    clear hrun
    by_cases hmay : mayOpen y'.1.it = true
    · have hn : 0 < y'.1.it.n := by simp [mayOpen] at hmay; exact hmay.2
      have hopT : op = true := by rw [← HST.out.2.2.1]; simp [mayOpen] at hmay; exact hmay.1.2
      subst hopT
      have HMAY := Lib.hid hmay
      clear hmay
      have hyb' := HC.out.bds y' (by simp)
      have hffn : 0 < ff := by have h1 := hyb'.n2 hn; rw [HST.out.2.1] at h1; omega
      have hol : ops'.length ≤ 2000 := by have h1 := HP'.out.cnt; rw [hlen] at h1; omega
      have hown : wc.ownsRow (bm + 1) 3 1 ov' ops'.length ((natI ops').map (Value.int .i64)) := by have h1 := HP'.out.own_ops.1; rwa [natI_length] at h1
      have hbase : bm + 1 ≤ wc.heap.size := by have := fam_lt HP'.out.fam; omega
      obtain ⟨j0, hj, hy0, hy1, hy2⟩ := info_parts infoInt
      have HOWN := Lib.hid hown
      have hwa : (Lit.int .i64 (Qs.length : Int)).wf = true := WalkArith.wf_i64 (by omega)
      clear hown hyb'
      go_wp2_with (at_builtin; refine wpList_append_own_at _ rfl _ _ 22 rfl (bm + 1) 3 j0 (.int .i64 0) 1 8 Tryz.underlying22 hj hy0 hy1 hy2 rfl (by decide) ov' ops'.length ((natI ops').map (Value.int .i64)) rfl (HOWN.out.alloc _) ⟨wc.heap.size, 0, none⟩ 1 1 [.int .i64 (Qs.length : Int)] rfl rfl (cell_one_new _ _ _) (by simp [Value.oneCell']) (by unfold maxLen; omega) (by omega) (by simp; omega) ?_)
      intro v' w5 hown' hgrow _ hat
      obtain ⟨gq, cq, rfl, _, _⟩ := hown'.form (by omega)
      have hg5 : wc.grownBy w5 ov'.ownBlock := (World.grownBy_alloc wc _ _).trans hgrow
      have ho5 : w5.ownsInts (bm + 1) 3 .i64 (.slice (some ⟨gq, 0, none⟩) (ops'.length + 1) cq) (natI (ops' ++ [Qs.length])) := by
        have h1 := HP'.out.own_ops.appended (x := (Qs.length : Int)) (v' := .slice (some ⟨gq, 0, none⟩) (ops'.length + 1) cq) (by rw [natI_length]; exact hown') hwa
        rw [natI_append]
        exact h1
      have hloc : (Value.slice (some ⟨gq, 0, none⟩) (ops'.length + 1) cq).ownBlock = ov'.ownBlock ∨ ∃ g, (Value.slice (some ⟨gq, 0, none⟩) (ops'.length + 1) cq).ownBlock = some g ∧ wc.heap.size ≤ g := by
        rcases hat with h | h
        · exact Or.inl h
        · exact Or.inr ⟨_, h, by simp⟩
      obtain ⟨h6, g6⟩ := HP'.out.openers hg5 ho5 hloc
      have hk5 : KB B w w5 := HKB.out.grown hg5 (by omega) (fun r e => ⟨by have := (HP'.out.own_ops.1.lt r e).1; omega, not_item_ints HP'.out.own_ops e⟩)
      have hb5 : w5.heap[b]? = wc.heap[b]? := hg5.block b hbl (fun e => ints_ne HP'.out.own_ops HP'.out.blk (by decide) e.symm)
      have hblk5 := hb5.trans HP'.out.blk
      have hk6 : KB B w (w5.setCell ⟨b, 1, none⟩ (.slice (some ⟨gq, 0, none⟩) (ops'.length + 1) cq)) := hk5.grown g6 (by have := hk5.size; omega) (fun r e => by cases e; exact ⟨hB.2.1, not_item_cells hblk5 (by decide)⟩)
      have hbx6 : (w5.setCell ⟨b, 1, none⟩ (.slice (some ⟨gq, 0, none⟩) (ops'.length + 1) cq)).heap[gx]? = some (.cells #[.int .u8 sg.toNat, .int .i64 ff, .bool true, .bool cl, .slice Al nd.length cl4] 75 (0, 0)) := by
        have h1 := hg5.block gx (Array.getElem?_eq_some_iff.1 hbxc).1 (fun e => ints_ne HP'.out.own_ops hbxc (by decide) e.symm)
        refine (g6.block gx (Array.getElem?_eq_some_iff.1 (h1.trans hbxc)).1 (fun e => ?_)).trans (h1.trans hbxc)
        have h2 := h1.trans hbxc
        rw [Option.some.inj e, hblk5] at h2
        injection h2 with h2
        injection h2 with _ h2
        exact absurd h2 (by decide)
      obtain ⟨d0, d1, _, _⟩ : w5.cell? ⟨b, 0, none⟩ = some (.slice (some ⟨bp, 0, none⟩) (Qs' ++ [y']).length cap) ∧ w5.cell? ⟨b, 1, none⟩ = some ov' ∧ w5.frozen? ⟨b, 1, none⟩ = false ∧ True :=
        ⟨(cell_of_row _ _ 0 _ _ (0, 0) hblk5).trans rfl, (cell_of_row _ _ 1 _ _ (0, 0) hblk5).trans rfl, by simp [World.frozen?, hblk5], trivial⟩
      have df1 : w5.frozen? ⟨b, 1, none⟩ = false := by simp [World.frozen?, hblk5]
      have HH6 := Lib.hid h6
      have HK6 := Lib.hid hk6
      have HBX6 := Lib.hid hbx6
      clear h6 g6 hk5 hb5 hblk5 hk6 hbx6 hown' hgrow hat hg5 ho5 hloc HOWN c0 c1 c2 bfz r0 r1 r2 r3 r4 r5 r6 r7 pfz y0 y1 y2 y3 y4 hbxc
      go_wp2_with fail
      obtain ⟨w6, hw6⟩ : ∃ w6, w6 = w5.setCell ⟨b, 1, none⟩ (.slice (some ⟨gq, 0, none⟩) (ops'.length + 1) cq) := ⟨_, rfl⟩
      rw [← hw6] at HH6 HK6 HBX6 ⊢
      clear d0 d1 df1 hw6
      have hbd : Below w6.heap.size w6 w6.drew := (Below.refl _ w6).drew
      have hd := HH6.out.below hbd
      have hbxd := (hbd.block gx (Array.getElem?_eq_some_iff.1 HBX6.out).1).trans HBX6.out
      have hkd := HK6.out.thenB hbd (by have := HK6.out.size; omega)
      refine wp_region_N (fun W => W.cell? ⟨b, 2, none⟩ = some (.map (some bm)) ∧ W.cell? ⟨gx, 0, none⟩ = some (.int .u8 sg.toNat) ∧ W.cell? ⟨gx, 1, none⟩ = some (.int .i64 ff) ∧ W.cell? ⟨gx, 2, none⟩ = some (.bool true) ∧ W.cell? ⟨gx, 3, none⟩ = some (.bool cl) ∧ W.cell? ⟨gx, 4, none⟩ = some (.slice Al nd.length cl4)) (fun i => decide (i < 16)) (by kernel_rfl) ?_
      generalize hwd : w6.drew = wd at *
      obtain ⟨c0, c1, c2, bfz, hbl⟩ := hd.bcells
      obtain ⟨⟨z0, z1, z2, z3, z4⟩, _⟩ := inl_box hbxd
      have hgxl := (Array.getElem?_eq_some_iff.1 hbxd).1
      have hSB : ∀ W : World, Below wd.heap.size wd W → (W.cell? ⟨b, 2, none⟩ = some (.map (some bm)) ∧ W.cell? ⟨gx, 0, none⟩ = some (.int .u8 sg.toNat) ∧ W.cell? ⟨gx, 1, none⟩ = some (.int .i64 ff) ∧ W.cell? ⟨gx, 2, none⟩ = some (.bool true) ∧ W.cell? ⟨gx, 3, none⟩ = some (.bool cl) ∧ W.cell? ⟨gx, 4, none⟩ = some (.slice Al nd.length cl4)) := fun W hb =>
        ⟨(hb.cell (p := ⟨b, 2, none⟩) hbl).trans c2, (hb.cell (p := ⟨gx, 0, none⟩) hgxl).trans z0, (hb.cell (p := ⟨gx, 1, none⟩) hgxl).trans z1, (hb.cell (p := ⟨gx, 2, none⟩) hgxl).trans z2, (hb.cell (p := ⟨gx, 3, none⟩) hgxl).trans z3, (hb.cell (p := ⟨gx, 4, none⟩) hgxl).trans z4⟩
      have HSB := Lib.hid hSB
      have HS := Lib.hid (hSB wd (Below.refl _ _))
      have hck := fun W => kindOf_any ⟨sg, ff, ff, true, cl, nd⟩ (.slice Al nd.length cl4) W
      unfold itV kV kindV at hck
      simp only [Bool.true_and] at hck
      have hrr := em_tmod ff
      have hzs0 := hd.kd.2 sg cl (ff.tmod 3) hrr.1 hrr.2
      have hxp : ((Qs' ++ [y']).map Prod.fst)[Qs.length]? = some y'.1 := by rw [List.getElem?_map, HYA.out]; rfl
      have hlastK := opsK_last (l := ops') hxp
      have hotherK := fun s2 b2 r2 h => opsK_other (l := ops') hxp s2 b2 r2 h
      rw [HST.out.1, HST.out.2.1, HST.out.2.2.1, HST.out.2.2.2.1] at hlastK
      simp only [HST.out.1, HST.out.2.1, HST.out.2.2.1, HST.out.2.2.2.1, Bool.true_and] at hotherK
      simp only [Bool.true_and] at hlastK
      generalize ff.tmod 3 = rr at *
      obtain ⟨gv, zs, hrun, hat, hoi, hzl, hback, hsh⟩ := groups_look hd.fam.grp (by have h1 := hd.cnt; rw [hlen] at h1; unfold maxLen; omega) sg cl rr hrr
      rw [hat, zsOf_row hoi] at hzs0
      have hFl : opsK ((Qs' ++ [y']).map Prod.fst) ops' sg cl rr = natI (ops'.filter (kAt ((Qs' ++ [y']).map Prod.fst) sg cl rr)) := rfl
      generalize ops'.filter (kAt ((Qs' ++ [y']).map Prod.fst) sg cl rr) = F at *
      rw [hFl] at hzs0
      subst hzs0
      rw [natI_length] at hzl
      have hcnt := hd.cnt
      rw [hlen] at hcnt
      have hzl2 : F.length + 1 ≤ 5000 := by omega
      unfold kindV at hrun
      have HRUN := Lib.hid hrun
      have HD := Lib.hid hd
      have HOI := Lib.hid hoi
      have HBK := Lib.hid hback
      have HSH := Lib.hid hsh
      have HKD := Lib.hid hkd
      have HBXD := Lib.hid hbxd
      have HLK := Lib.hid hlastK
      have HOK := Lib.hid hotherK
      have hbW0 : Below wd.heap.size wd wd := Below.refl _ _
      clear hrun hd hoi hback hsh hkd hbxd hlastK hotherK hSB c0 c1 c2 bfz z0 z1 z2 z3 z4 hbd HH6 HK6 HBX6 hwd hat hFl hxp
      refine wpAnyN_take_at 0 54 (v := ?_) rfl rfl (by kernel_rfl) (by kernel_rfl) (by kernel_rfl) (by kernel_rfl) (by kernel_rfl) (fun _ _ _ h => h) (by rfl) ?_ HS.out ?_
      rotate_left
      · intro W hSw; (try dsimp only at hSw); obtain ⟨q0, q1, q2, q3, q4, q5⟩ := hSw; go_simp; (try with_reducible rfl)
      simp only [Act.put, List.setIfInBounds_toArray, List.set_cons_zero, List.set_cons_succ]
      refine wpAnyN_take_at 1 55 (v := ?_) rfl rfl (by kernel_rfl) (by kernel_rfl) (by kernel_rfl) (by kernel_rfl) (by kernel_rfl) (fun _ _ _ h => h) (by rfl) ?_ HS.out ?_
      rotate_left
      · intro W hSw; (try dsimp only at hSw); obtain ⟨q0, q1, q2, q3, q4, q5⟩ := hSw; go_simp; (try with_reducible rfl)
      simp only [Act.put, List.setIfInBounds_toArray, List.set_cons_zero, List.set_cons_succ]
      refine wpAnyN_take_at 2 56 (v := ?_) rfl rfl (by kernel_rfl) (by kernel_rfl) (by kernel_rfl) (by kernel_rfl) (by kernel_rfl) (fun _ _ _ h => h) (by rfl) ?_ HS.out ?_
      rotate_left
      · intro W hSw; (try dsimp only at hSw); obtain ⟨q0, q1, q2, q3, q4, q5⟩ := hSw; go_simp; (try with_reducible rfl)
      simp only [Act.put, List.setIfInBounds_toArray, List.set_cons_zero, List.set_cons_succ]
      refine wpAnyN_take_at 3 57 (v := ?_) rfl rfl (by kernel_rfl) (by kernel_rfl) (by kernel_rfl) (by kernel_rfl) (by kernel_rfl) (fun _ _ _ h => h) (by rfl) ?_ HS.out ?_
      rotate_left
      · intro W hSw; (try dsimp only at hSw); obtain ⟨q0, q1, q2, q3, q4, q5⟩ := hSw; go_simp; (try with_reducible rfl)
      simp only [Act.put, List.setIfInBounds_toArray, List.set_cons_zero, List.set_cons_succ]
      refine wpAnyN_take_at 4 58 (v := ?_) rfl rfl (by kernel_rfl) (by kernel_rfl) (by kernel_rfl) (by kernel_rfl) (by kernel_rfl) (fun _ _ _ h => h) (by rfl) ?_ HS.out ?_
      rotate_left
      · intro W hSw; (try dsimp only at hSw); obtain ⟨q0, q1, q2, q3, q4, q5⟩ := hSw; go_simp; (try with_reducible rfl)
      simp only [Act.put, List.setIfInBounds_toArray, List.set_cons_zero, List.set_cons_succ]
      refine wpAnyN_take_at 6 60 (v := ?_) rfl rfl (by kernel_rfl) (by kernel_rfl) (by kernel_rfl) (by kernel_rfl) (by kernel_rfl) (fun _ _ _ h => h) (by rfl) ?_ HS.out ?_
      rotate_left
      · intro W hSw; (try dsimp only at hSw); obtain ⟨q0, q1, q2, q3, q4, q5⟩ := hSw; go_simp; (try with_reducible rfl)
      simp only [Act.put, List.setIfInBounds_toArray, List.set_cons_zero, List.set_cons_succ]
      refine wpAnyN_take_at 7 61 (v := ?_) rfl rfl (by kernel_rfl) (by kernel_rfl) (by kernel_rfl) (by kernel_rfl) (by kernel_rfl) (fun _ _ _ h => h) (by rfl) ?_ HS.out ?_
      rotate_left
      · intro W hSw; (try dsimp only at hSw); obtain ⟨q0, q1, q2, q3, q4, q5⟩ := hSw; go_simp; (try with_reducible rfl)
      simp only [Act.put, List.setIfInBounds_toArray, List.set_cons_zero, List.set_cons_succ]
      refine wpAnyN_take_at 8 62 (v := ?_) rfl rfl (by kernel_rfl) (by kernel_rfl) (by kernel_rfl) (by kernel_rfl) (by kernel_rfl) (fun _ _ _ h => h) (by rfl) ?_ HS.out ?_
      rotate_left
      · intro W hSw; (try dsimp only at hSw); obtain ⟨q0, q1, q2, q3, q4, q5⟩ := hSw; go_simp; (try with_reducible rfl)
      simp only [Act.put, List.setIfInBounds_toArray, List.set_cons_zero, List.set_cons_succ]
      refine wpAnyN_take_at 9 63 (v := ?_) rfl rfl (by kernel_rfl) (by kernel_rfl) (by kernel_rfl) (by kernel_rfl) (by kernel_rfl) (fun _ _ _ h => h) (by rfl) ?_ HS.out ?_
      rotate_left
      · intro W hSw; (try dsimp only at hSw); obtain ⟨q0, q1, q2, q3, q4, q5⟩ := hSw; go_simp; (try with_reducible rfl)
      simp only [Act.put, List.setIfInBounds_toArray, List.set_cons_zero, List.set_cons_succ]
      refine wpAnyN_take_at 10 64 (v := ?_) rfl rfl (by kernel_rfl) (by kernel_rfl) (by kernel_rfl) (by kernel_rfl) (by kernel_rfl) (fun _ _ _ h => h) (by rfl) ?_ HS.out ?_
      rotate_left
      · intro W hSw; (try dsimp only at hSw); obtain ⟨q0, q1, q2, q3, q4, q5⟩ := hSw; go_simp; (try with_reducible rfl)
      simp only [Act.put, List.setIfInBounds_toArray, List.set_cons_zero, List.set_cons_succ]
      refine wpAnyN_take_at 13 67 (v := ?_) rfl rfl (by kernel_rfl) (by kernel_rfl) (by kernel_rfl) (by kernel_rfl) (by kernel_rfl) (fun _ _ _ h => h) (by rfl) ?_ HS.out ?_
      rotate_left
      · intro W hSw; (try dsimp only at hSw); obtain ⟨q0, q1, q2, q3, q4, q5⟩ := hSw; go_simp; (try with_reducible rfl)
      simp only [Act.put, List.setIfInBounds_toArray, List.set_cons_zero, List.set_cons_succ]
      refine wpAnyN_two (i := 5) (j := 14) rfl rfl (by kernel_rfl) (fun K hK => ?_) (fun K hK => ?_)
      · go_simp
        refine (hck _).mono ?_
        rintro e k1 ⟨rfl, b1⟩
        have hbW1 : Below wd.heap.size wd k1 := hbW0.trans (b1.mono hbW0.size)
        refine hK _ _ (fun _ => HSB.out _ hbW1) ?_
        clear hK
        (try simp only [Act.put, List.setIfInBounds_toArray, List.set_cons_zero, List.set_cons_succ])
        refine wpAnyN_two (i := 11) (j := 14) rfl rfl (by kernel_rfl) (fun K hK => ?_) (fun K hK => ?_)
        · go_simp
          refine (hck _).mono ?_
          rintro e k2 ⟨rfl, b2⟩
          have hbW2 : Below wd.heap.size wd k2 := hbW1.trans (b2.mono hbW1.size)
          refine hK _ _ (fun _ => HSB.out _ hbW2) ?_
          clear hK
          (try simp only [Act.put, List.setIfInBounds_toArray, List.set_cons_zero, List.set_cons_succ])
          refine wpAnyN_two (i := 12) (j := 14) rfl rfl (by kernel_rfl) (fun K hK => ?_) (fun K hK => ?_)
          · have hlk3 := HRUN.out k2 (hbW2.block bm (fam_lt HD.out.fam))
            go_simp
            have hbW3 := hbW2
            refine hK _ _ (fun _ => HSB.out _ hbW3) ?_
            clear hK
            (try simp only [Act.put, List.setIfInBounds_toArray, List.set_cons_zero, List.set_cons_succ])
            refine wpAnyN_one (i := 14) rfl (by kernel_rfl) (fun K hK => ?_)
            have hbW4 := hbW3.alloc hbW3.size (.cells #[.int .i64 (Qs.length : Int)] 3)
            have hqW4 := heap_alloc_new k2 (.cells #[.int .i64 (Qs.length : Int)] 3)
            go_simp
            refine hK _ _ (fun _ => HSB.out _ hbW4) ?_
            clear hK
            (try simp only [Act.put, List.setIfInBounds_toArray, List.set_cons_zero, List.set_cons_succ])
            have hoW := ownsRow_below HOI.out.1 (hbW4.trans (Below.refl _ _))
            rw [natI_length] at hoW
            have hsz := hbW4.size
            have hnews : ∀ j u, [Value.int .i64 (Qs.length : Int)][j]? = some u → (k2.alloc (.cells #[.int .i64 (Qs.length : Int)] 3)).cell? ((⟨k2.heap.size, 0, none⟩ : Addr).add j) = some u := fun j u hu => by
              rw [addr_add, cell_of_row _ _ _ _ _ (0, 0) hqW4, Nat.zero_add]
              simpa using hu
            refine wpAnyN_one (i := 15) rfl (by kernel_rfl) (fun K hK => ?_)
            refine step_append_lies _ rfl (.tmp 66) (.tmp 68) 22 rfl (bm + 1) 3 j0 (.int .i64 0) 1 8 Tryz.underlying22 hj hy0 hy1 hy2 rfl (by decide) gv F.length ((natI F).map (Value.int .i64)) rfl hoW ⟨k2.heap.size, 0, none⟩ 1 1 [.int .i64 (Qs.length : Int)] rfl rfl hnews (by simp [Value.oneCell']) (by omega) (by unfold maxLen; omega) (by omega) (by have := fam_lt HD.out.fam; omega) _ rfl ?_
            intro g7 c7 w7 ho7 hg7 hat7 hlt7
            have hS0 := HSB.out _ hbW4
            have hblkW := (hbW4.block b hbl).trans HD.out.blk
            have hbxW := (hbW4.block gx hgxl).trans HBXD.out
            have hoiW : (k2.alloc (.cells #[.int .i64 (Qs.length : Int)] 3)).ownsInts (bm + 1) 3 .i64 gv (natI F) := ⟨by rw [natI_length]; exact hoW, HOI.out.2⟩
            have n1 := ints_ne hoiW hblkW (by decide)
            have n2 := ints_ne hoiW hbxW (by decide)
            refine hK _ _ (fun _ => ⟨hg7.cell hS0.1 (fun e => n1 e.symm), hg7.cell hS0.2.1 (fun e => n2 e.symm), hg7.cell hS0.2.2.1 (fun e => n2 e.symm), hg7.cell hS0.2.2.2.1 (fun e => n2 e.symm), hg7.cell hS0.2.2.2.2.1 (fun e => n2 e.symm), hg7.cell hS0.2.2.2.2.2 (fun e => n2 e.symm)⟩) ?_
            clear hK
            (try simp only [Act.put, List.setIfInBounds_toArray, List.set_cons_zero, List.set_cons_succ])
            have ho7' : w7.ownsInts (bm + 1) 3 .i64 (.slice (some ⟨g7, 0, none⟩) (F.length + 1) c7) (natI (F ++ [Qs.length])) := by
              have h1 := hoiW.appended (x := (Qs.length : Int)) (v' := .slice (some ⟨g7, 0, none⟩) (F.length + 1) c7) (by rw [natI_length]; exact ho7) hwa
              rw [natI_append]
              exact h1
            have hg7' : wd.grownBy w7 gv.ownBlock := (grownBy_of_below hbW4 _).trans hg7
            have hloc7 : (Value.slice (some ⟨g7, 0, none⟩) (F.length + 1) c7).ownBlock = gv.ownBlock ∨ ∃ g, (Value.slice (some ⟨g7, 0, none⟩) (F.length + 1) c7).ownBlock = some g ∧ wd.heap.size ≤ g := by
              rcases hat7 with h | h
              · exact Or.inl h.symm
              · exact Or.inr ⟨g7, rfl, by rw [h]; exact hsz⟩
            obtain ⟨w8, hup, hgr8, hgb8, hsh8⟩ := groups_store HD.out.fam.grp (by unfold maxLen; omega) hrr HOI.out HBK.out hg7' ho7' (by rw [natI_length, List.length_append, List.length_singleton]; omega) hloc7 HD.out.fam.shun (fun g' hg' hx => by
              rcases hat7 with h | h
              · exact HSH.out _ HD.out.fam.shun g' (by rw [h]; exact hg') hx
              · obtain ⟨z, hz, hzz⟩ := hx
                have h1 : g' < wd.heap.size := ((HD.out.fam.own z hz).1.lt g' hzz).2
                have e7 : g7 = g' := Option.some.inj hg'
                omega)
            have hd8 := HD.out.kinds (opsM' := ops' ++ [Qs.length]) HOI.out HSH.out hg7' hgb8 hgr8 hsh8 (HD.out.kd.put hrr _ (opsK ((Qs' ++ [y']).map Prod.fst) (ops' ++ [Qs.length])) (by rw [zsOf_row ho7', HLK.out]) (fun s2 b2 r2 hne => HOK.out s2 b2 r2 hne)) (by have h1 := HM'.out; rw [hlen, List.length_append, List.length_singleton]; omega)
            have hk8 : KB B w w8 := (((HKD.out.thenB hbW4 (by have := HKD.out.size; omega)).grown hg7 (by have := HKD.out.size; omega) (fun r e => ⟨by have := (hoiW.1.lt r e).1; omega, not_item_ints hoiW e⟩))).grown hgb8 (by have := HKD.out.size; have := hg7.size; omega) (fun r e => by
              cases e
              obtain ⟨es, clock, hm⟩ := fam_map HD.out.fam
              exact ⟨hB.1, not_item_map ((hg7'.block bm (fam_lt HD.out.fam) (fun e => ints_ne_map HOI.out hm e.symm)).trans hm)⟩)
            have HE := Lib.hid (show PtEnd S r w0 b bp bm cap B Qs.length w (.returned (.tuple #[])) w8 from ⟨rfl, ⟨_, ops' ++ [Qs.length], ⟨⟨_, _, _, hd8, by have h1 := HM'.out; rw [hlen, List.length_append, List.length_singleton]; omega⟩, by have h1 := HR.out; rw [HMAY.out, if_pos rfl, HC.out.len] at h1; exact h1, HC.out.bds⟩, by rw [List.length_append, HC.out.len]; rfl⟩, hk8⟩)
            unfold kindV at hup
            clear hd8 hk8 hgr8 hgb8 hsh8 ho7 hg7 hat7 ho7' hg7' hloc7 hS0 hblkW hbxW hoiW n1 n2 hoW hnews
            refine wpAnyN_one (i := 16) rfl (by kernel_rfl) (fun K hK => ?_)
            go_simp
            refine hK _ _ (fun h => absurd h (by decide)) ?_
            clear hK hup
            (try simp only [Act.put, List.setIfInBounds_toArray, List.set_cons_zero, List.set_cons_succ])
            refine wpAnyN_rest 17 [] rfl (by kernel_rfl) (by rfl) ?_
            go_wp2
            go_end0
            exact HE.out
          · have hbW5 := hbW2.alloc hbW2.size (.cells #[.int .i64 (Qs.length : Int)] 3)
            have hqW5 := heap_alloc_new k2 (.cells #[.int .i64 (Qs.length : Int)] 3)
            go_simp
            refine hK _ _ (fun _ => HSB.out _ hbW5) ?_
            clear hK
            (try simp only [Act.put, List.setIfInBounds_toArray, List.set_cons_zero, List.set_cons_succ])
            refine wpAnyN_one (i := 12) rfl (by kernel_rfl) (fun K hK => ?_)
            have hlk6 := HRUN.out (k2.alloc (.cells #[.int .i64 (Qs.length : Int)] 3)) (hbW5.block bm (fam_lt HD.out.fam))
            go_simp
            have hbW6 := hbW5
            refine hK _ _ (fun _ => HSB.out _ hbW6) ?_
            clear hK
            (try simp only [Act.put, List.setIfInBounds_toArray, List.set_cons_zero, List.set_cons_succ])
            have hoW := ownsRow_below HOI.out.1 (hbW6.trans (Below.refl _ _))
            rw [natI_length] at hoW
            have hsz := hbW6.size
            have hnews : ∀ j u, [Value.int .i64 (Qs.length : Int)][j]? = some u → (k2.alloc (.cells #[.int .i64 (Qs.length : Int)] 3)).cell? ((⟨k2.heap.size, 0, none⟩ : Addr).add j) = some u := fun j u hu => by
              rw [addr_add, cell_of_row _ _ _ _ _ (0, 0) hqW5, Nat.zero_add]
              simpa using hu
            refine wpAnyN_one (i := 15) rfl (by kernel_rfl) (fun K hK => ?_)
            refine step_append_lies _ rfl (.tmp 66) (.tmp 68) 22 rfl (bm + 1) 3 j0 (.int .i64 0) 1 8 Tryz.underlying22 hj hy0 hy1 hy2 rfl (by decide) gv F.length ((natI F).map (Value.int .i64)) rfl hoW ⟨k2.heap.size, 0, none⟩ 1 1 [.int .i64 (Qs.length : Int)] rfl rfl hnews (by simp [Value.oneCell']) (by omega) (by unfold maxLen; omega) (by omega) (by have := fam_lt HD.out.fam; omega) _ rfl ?_
            intro g7 c7 w7 ho7 hg7 hat7 hlt7
            have hS0 := HSB.out _ hbW6
            have hblkW := (hbW6.block b hbl).trans HD.out.blk
            have hbxW := (hbW6.block gx hgxl).trans HBXD.out
            have hoiW : (k2.alloc (.cells #[.int .i64 (Qs.length : Int)] 3)).ownsInts (bm + 1) 3 .i64 gv (natI F) := ⟨by rw [natI_length]; exact hoW, HOI.out.2⟩
            have n1 := ints_ne hoiW hblkW (by decide)
            have n2 := ints_ne hoiW hbxW (by decide)
            refine hK _ _ (fun _ => ⟨hg7.cell hS0.1 (fun e => n1 e.symm), hg7.cell hS0.2.1 (fun e => n2 e.symm), hg7.cell hS0.2.2.1 (fun e => n2 e.symm), hg7.cell hS0.2.2.2.1 (fun e => n2 e.symm), hg7.cell hS0.2.2.2.2.1 (fun e => n2 e.symm), hg7.cell hS0.2.2.2.2.2 (fun e => n2 e.symm)⟩) ?_
            clear hK
            (try simp only [Act.put, List.setIfInBounds_toArray, List.set_cons_zero, List.set_cons_succ])
            have ho7' : w7.ownsInts (bm + 1) 3 .i64 (.slice (some ⟨g7, 0, none⟩) (F.length + 1) c7) (natI (F ++ [Qs.length])) := by
              have h1 := hoiW.appended (x := (Qs.length : Int)) (v' := .slice (some ⟨g7, 0, none⟩) (F.length + 1) c7) (by rw [natI_length]; exact ho7) hwa
              rw [natI_append]
              exact h1
            have hg7' : wd.grownBy w7 gv.ownBlock := (grownBy_of_below hbW6 _).trans hg7
            have hloc7 : (Value.slice (some ⟨g7, 0, none⟩) (F.length + 1) c7).ownBlock = gv.ownBlock ∨ ∃ g, (Value.slice (some ⟨g7, 0, none⟩) (F.length + 1) c7).ownBlock = some g ∧ wd.heap.size ≤ g := by
              rcases hat7 with h | h
              · exact Or.inl h.symm
              · exact Or.inr ⟨g7, rfl, by rw [h]; exact hsz⟩
            obtain ⟨w8, hup, hgr8, hgb8, hsh8⟩ := groups_store HD.out.fam.grp (by unfold maxLen; omega) hrr HOI.out HBK.out hg7' ho7' (by rw [natI_length, List.length_append, List.length_singleton]; omega) hloc7 HD.out.fam.shun (fun g' hg' hx => by
              rcases hat7 with h | h
              · exact HSH.out _ HD.out.fam.shun g' (by rw [h]; exact hg') hx
              · obtain ⟨z, hz, hzz⟩ := hx
                have h1 : g' < wd.heap.size := ((HD.out.fam.own z hz).1.lt g' hzz).2
                have e7 : g7 = g' := Option.some.inj hg'
                omega)
            have hd8 := HD.out.kinds (opsM' := ops' ++ [Qs.length]) HOI.out HSH.out hg7' hgb8 hgr8 hsh8 (HD.out.kd.put hrr _ (opsK ((Qs' ++ [y']).map Prod.fst) (ops' ++ [Qs.length])) (by rw [zsOf_row ho7', HLK.out]) (fun s2 b2 r2 hne => HOK.out s2 b2 r2 hne)) (by have h1 := HM'.out; rw [hlen, List.length_append, List.length_singleton]; omega)
            have hk8 : KB B w w8 := (((HKD.out.thenB hbW6 (by have := HKD.out.size; omega)).grown hg7 (by have := HKD.out.size; omega) (fun r e => ⟨by have := (hoiW.1.lt r e).1; omega, not_item_ints hoiW e⟩))).grown hgb8 (by have := HKD.out.size; have := hg7.size; omega) (fun r e => by
              cases e
              obtain ⟨es, clock, hm⟩ := fam_map HD.out.fam
              exact ⟨hB.1, not_item_map ((hg7'.block bm (fam_lt HD.out.fam) (fun e => ints_ne_map HOI.out hm e.symm)).trans hm)⟩)
            have HE := Lib.hid (show PtEnd S r w0 b bp bm cap B Qs.length w (.returned (.tuple #[])) w8 from ⟨rfl, ⟨_, ops' ++ [Qs.length], ⟨⟨_, _, _, hd8, by have h1 := HM'.out; rw [hlen, List.length_append, List.length_singleton]; omega⟩, by have h1 := HR.out; rw [HMAY.out, if_pos rfl, HC.out.len] at h1; exact h1, HC.out.bds⟩, by rw [List.length_append, HC.out.len]; rfl⟩, hk8⟩)
            unfold kindV at hup
            clear hd8 hk8 hgr8 hgb8 hsh8 ho7 hg7 hat7 ho7' hg7' hloc7 hS0 hblkW hbxW hoiW n1 n2 hoW hnews
            refine wpAnyN_one (i := 16) rfl (by kernel_rfl) (fun K hK => ?_)
            go_simp
            refine hK _ _ (fun h => absurd h (by decide)) ?_
            clear hK hup
            (try simp only [Act.put, List.setIfInBounds_toArray, List.set_cons_zero, List.set_cons_succ])
            refine wpAnyN_rest 17 [] rfl (by kernel_rfl) (by rfl) ?_
            go_wp2
            go_end0
            exact HE.out
        · have hbW7 := hbW1.alloc hbW1.size (.cells #[.int .i64 (Qs.length : Int)] 3)
          have hqW7 := heap_alloc_new k1 (.cells #[.int .i64 (Qs.length : Int)] 3)
          go_simp
          refine hK _ _ (fun _ => HSB.out _ hbW7) ?_
          clear hK
          (try simp only [Act.put, List.setIfInBounds_toArray, List.set_cons_zero, List.set_cons_succ])
          refine wpAnyN_one (i := 11) rfl (by kernel_rfl) (fun K hK => ?_)
          go_simp
          refine (hck _).mono ?_
          rintro e k8 ⟨rfl, b8⟩
          have hbW8 : Below wd.heap.size wd k8 := hbW7.trans (b8.mono hbW7.size)
          have hqW8 := (b8.block _ (Array.getElem?_eq_some_iff.1 hqW7).1).trans hqW7
          refine hK _ _ (fun _ => HSB.out _ hbW8) ?_
          clear hK
          (try simp only [Act.put, List.setIfInBounds_toArray, List.set_cons_zero, List.set_cons_succ])
          refine wpAnyN_one (i := 12) rfl (by kernel_rfl) (fun K hK => ?_)
          have hlk9 := HRUN.out k8 (hbW8.block bm (fam_lt HD.out.fam))
          go_simp
          have hbW9 := hbW8
          refine hK _ _ (fun _ => HSB.out _ hbW9) ?_
          clear hK
          (try simp only [Act.put, List.setIfInBounds_toArray, List.set_cons_zero, List.set_cons_succ])
          have hoW := ownsRow_below HOI.out.1 (hbW9.trans (Below.refl _ _))
          rw [natI_length] at hoW
          have hsz := hbW9.size
          have hnews : ∀ j u, [Value.int .i64 (Qs.length : Int)][j]? = some u → k8.cell? ((⟨k1.heap.size, 0, none⟩ : Addr).add j) = some u := fun j u hu => by
            rw [addr_add, cell_of_row _ _ _ _ _ (0, 0) hqW8, Nat.zero_add]
            simpa using hu
          refine wpAnyN_one (i := 15) rfl (by kernel_rfl) (fun K hK => ?_)
          refine step_append_lies _ rfl (.tmp 66) (.tmp 68) 22 rfl (bm + 1) 3 j0 (.int .i64 0) 1 8 Tryz.underlying22 hj hy0 hy1 hy2 rfl (by decide) gv F.length ((natI F).map (Value.int .i64)) rfl hoW ⟨k1.heap.size, 0, none⟩ 1 1 [.int .i64 (Qs.length : Int)] rfl rfl hnews (by simp [Value.oneCell']) (by omega) (by unfold maxLen; omega) (by omega) (by have := fam_lt HD.out.fam; omega) _ rfl ?_
          intro g7 c7 w7 ho7 hg7 hat7 hlt7
          have hS0 := HSB.out _ hbW9
          have hblkW := (hbW9.block b hbl).trans HD.out.blk
          have hbxW := (hbW9.block gx hgxl).trans HBXD.out
          have hoiW : k8.ownsInts (bm + 1) 3 .i64 gv (natI F) := ⟨by rw [natI_length]; exact hoW, HOI.out.2⟩
          have n1 := ints_ne hoiW hblkW (by decide)
          have n2 := ints_ne hoiW hbxW (by decide)
          refine hK _ _ (fun _ => ⟨hg7.cell hS0.1 (fun e => n1 e.symm), hg7.cell hS0.2.1 (fun e => n2 e.symm), hg7.cell hS0.2.2.1 (fun e => n2 e.symm), hg7.cell hS0.2.2.2.1 (fun e => n2 e.symm), hg7.cell hS0.2.2.2.2.1 (fun e => n2 e.symm), hg7.cell hS0.2.2.2.2.2 (fun e => n2 e.symm)⟩) ?_
          clear hK
          (try simp only [Act.put, List.setIfInBounds_toArray, List.set_cons_zero, List.set_cons_succ])
          have ho7' : w7.ownsInts (bm + 1) 3 .i64 (.slice (some ⟨g7, 0, none⟩) (F.length + 1) c7) (natI (F ++ [Qs.length])) := by
            have h1 := hoiW.appended (x := (Qs.length : Int)) (v' := .slice (some ⟨g7, 0, none⟩) (F.length + 1) c7) (by rw [natI_length]; exact ho7) hwa
            rw [natI_append]
            exact h1
          have hg7' : wd.grownBy w7 gv.ownBlock := (grownBy_of_below hbW9 _).trans hg7
          have hloc7 : (Value.slice (some ⟨g7, 0, none⟩) (F.length + 1) c7).ownBlock = gv.ownBlock ∨ ∃ g, (Value.slice (some ⟨g7, 0, none⟩) (F.length + 1) c7).ownBlock = some g ∧ wd.heap.size ≤ g := by
            rcases hat7 with h | h
            · exact Or.inl h.symm
            · exact Or.inr ⟨g7, rfl, by rw [h]; exact hsz⟩
          obtain ⟨w8, hup, hgr8, hgb8, hsh8⟩ := groups_store HD.out.fam.grp (by unfold maxLen; omega) hrr HOI.out HBK.out hg7' ho7' (by rw [natI_length, List.length_append, List.length_singleton]; omega) hloc7 HD.out.fam.shun (fun g' hg' hx => by
            rcases hat7 with h | h
            · exact HSH.out _ HD.out.fam.shun g' (by rw [h]; exact hg') hx
            · obtain ⟨z, hz, hzz⟩ := hx
              have h1 : g' < wd.heap.size := ((HD.out.fam.own z hz).1.lt g' hzz).2
              have e7 : g7 = g' := Option.some.inj hg'
              omega)
          have hd8 := HD.out.kinds (opsM' := ops' ++ [Qs.length]) HOI.out HSH.out hg7' hgb8 hgr8 hsh8 (HD.out.kd.put hrr _ (opsK ((Qs' ++ [y']).map Prod.fst) (ops' ++ [Qs.length])) (by rw [zsOf_row ho7', HLK.out]) (fun s2 b2 r2 hne => HOK.out s2 b2 r2 hne)) (by have h1 := HM'.out; rw [hlen, List.length_append, List.length_singleton]; omega)
          have hk8 : KB B w w8 := (((HKD.out.thenB hbW9 (by have := HKD.out.size; omega)).grown hg7 (by have := HKD.out.size; omega) (fun r e => ⟨by have := (hoiW.1.lt r e).1; omega, not_item_ints hoiW e⟩))).grown hgb8 (by have := HKD.out.size; have := hg7.size; omega) (fun r e => by
            cases e
            obtain ⟨es, clock, hm⟩ := fam_map HD.out.fam
            exact ⟨hB.1, not_item_map ((hg7'.block bm (fam_lt HD.out.fam) (fun e => ints_ne_map HOI.out hm e.symm)).trans hm)⟩)
          have HE := Lib.hid (show PtEnd S r w0 b bp bm cap B Qs.length w (.returned (.tuple #[])) w8 from ⟨rfl, ⟨_, ops' ++ [Qs.length], ⟨⟨_, _, _, hd8, by have h1 := HM'.out; rw [hlen, List.length_append, List.length_singleton]; omega⟩, by have h1 := HR.out; rw [HMAY.out, if_pos rfl, HC.out.len] at h1; exact h1, HC.out.bds⟩, by rw [List.length_append, HC.out.len]; rfl⟩, hk8⟩)
          unfold kindV at hup
          clear hd8 hk8 hgr8 hgb8 hsh8 ho7 hg7 hat7 ho7' hg7' hloc7 hS0 hblkW hbxW hoiW n1 n2 hoW hnews
          refine wpAnyN_one (i := 16) rfl (by kernel_rfl) (fun K hK => ?_)
          go_simp
          refine hK _ _ (fun h => absurd h (by decide)) ?_
          clear hK hup
          (try simp only [Act.put, List.setIfInBounds_toArray, List.set_cons_zero, List.set_cons_succ])
          refine wpAnyN_rest 17 [] rfl (by kernel_rfl) (by rfl) ?_
          go_wp2
          go_end0
          exact HE.out
      · have hbW10 := hbW0.alloc hbW0.size (.cells #[.int .i64 (Qs.length : Int)] 3)
        have hqW10 := heap_alloc_new wd (.cells #[.int .i64 (Qs.length : Int)] 3)
        go_simp
        refine hK _ _ (fun _ => HSB.out _ hbW10) ?_
        clear hK
        (try simp only [Act.put, List.setIfInBounds_toArray, List.set_cons_zero, List.set_cons_succ])
        refine wpAnyN_one (i := 5) rfl (by kernel_rfl) (fun K hK => ?_)
        go_simp
        refine (hck _).mono ?_
        rintro e k11 ⟨rfl, b11⟩
        have hbW11 : Below wd.heap.size wd k11 := hbW10.trans (b11.mono hbW10.size)
        have hqW11 := (b11.block _ (Array.getElem?_eq_some_iff.1 hqW10).1).trans hqW10
        refine hK _ _ (fun _ => HSB.out _ hbW11) ?_
        clear hK
        (try simp only [Act.put, List.setIfInBounds_toArray, List.set_cons_zero, List.set_cons_succ])
        refine wpAnyN_one (i := 11) rfl (by kernel_rfl) (fun K hK => ?_)
        go_simp
        refine (hck _).mono ?_
        rintro e k12 ⟨rfl, b12⟩
        have hbW12 : Below wd.heap.size wd k12 := hbW11.trans (b12.mono hbW11.size)
        have hqW12 := (b12.block _ (Array.getElem?_eq_some_iff.1 hqW11).1).trans hqW11
        refine hK _ _ (fun _ => HSB.out _ hbW12) ?_
        clear hK
        (try simp only [Act.put, List.setIfInBounds_toArray, List.set_cons_zero, List.set_cons_succ])
        refine wpAnyN_one (i := 12) rfl (by kernel_rfl) (fun K hK => ?_)
        have hlk13 := HRUN.out k12 (hbW12.block bm (fam_lt HD.out.fam))
        go_simp
        have hbW13 := hbW12
        refine hK _ _ (fun _ => HSB.out _ hbW13) ?_
        clear hK
        (try simp only [Act.put, List.setIfInBounds_toArray, List.set_cons_zero, List.set_cons_succ])
        have hoW := ownsRow_below HOI.out.1 (hbW13.trans (Below.refl _ _))
        rw [natI_length] at hoW
        have hsz := hbW13.size
        have hnews : ∀ j u, [Value.int .i64 (Qs.length : Int)][j]? = some u → k12.cell? ((⟨wd.heap.size, 0, none⟩ : Addr).add j) = some u := fun j u hu => by
          rw [addr_add, cell_of_row _ _ _ _ _ (0, 0) hqW12, Nat.zero_add]
          simpa using hu
        refine wpAnyN_one (i := 15) rfl (by kernel_rfl) (fun K hK => ?_)
        refine step_append_lies _ rfl (.tmp 66) (.tmp 68) 22 rfl (bm + 1) 3 j0 (.int .i64 0) 1 8 Tryz.underlying22 hj hy0 hy1 hy2 rfl (by decide) gv F.length ((natI F).map (Value.int .i64)) rfl hoW ⟨wd.heap.size, 0, none⟩ 1 1 [.int .i64 (Qs.length : Int)] rfl rfl hnews (by simp [Value.oneCell']) (by omega) (by unfold maxLen; omega) (by omega) (by have := fam_lt HD.out.fam; omega) _ rfl ?_
        intro g7 c7 w7 ho7 hg7 hat7 hlt7
        have hS0 := HSB.out _ hbW13
        have hblkW := (hbW13.block b hbl).trans HD.out.blk
        have hbxW := (hbW13.block gx hgxl).trans HBXD.out
        have hoiW : k12.ownsInts (bm + 1) 3 .i64 gv (natI F) := ⟨by rw [natI_length]; exact hoW, HOI.out.2⟩
        have n1 := ints_ne hoiW hblkW (by decide)
        have n2 := ints_ne hoiW hbxW (by decide)
        refine hK _ _ (fun _ => ⟨hg7.cell hS0.1 (fun e => n1 e.symm), hg7.cell hS0.2.1 (fun e => n2 e.symm), hg7.cell hS0.2.2.1 (fun e => n2 e.symm), hg7.cell hS0.2.2.2.1 (fun e => n2 e.symm), hg7.cell hS0.2.2.2.2.1 (fun e => n2 e.symm), hg7.cell hS0.2.2.2.2.2 (fun e => n2 e.symm)⟩) ?_
        clear hK
        (try simp only [Act.put, List.setIfInBounds_toArray, List.set_cons_zero, List.set_cons_succ])
        have ho7' : w7.ownsInts (bm + 1) 3 .i64 (.slice (some ⟨g7, 0, none⟩) (F.length + 1) c7) (natI (F ++ [Qs.length])) := by
          have h1 := hoiW.appended (x := (Qs.length : Int)) (v' := .slice (some ⟨g7, 0, none⟩) (F.length + 1) c7) (by rw [natI_length]; exact ho7) hwa
          rw [natI_append]
          exact h1
        have hg7' : wd.grownBy w7 gv.ownBlock := (grownBy_of_below hbW13 _).trans hg7
        have hloc7 : (Value.slice (some ⟨g7, 0, none⟩) (F.length + 1) c7).ownBlock = gv.ownBlock ∨ ∃ g, (Value.slice (some ⟨g7, 0, none⟩) (F.length + 1) c7).ownBlock = some g ∧ wd.heap.size ≤ g := by
          rcases hat7 with h | h
          · exact Or.inl h.symm
          · exact Or.inr ⟨g7, rfl, by rw [h]; exact hsz⟩
        obtain ⟨w8, hup, hgr8, hgb8, hsh8⟩ := groups_store HD.out.fam.grp (by unfold maxLen; omega) hrr HOI.out HBK.out hg7' ho7' (by rw [natI_length, List.length_append, List.length_singleton]; omega) hloc7 HD.out.fam.shun (fun g' hg' hx => by
          rcases hat7 with h | h
          · exact HSH.out _ HD.out.fam.shun g' (by rw [h]; exact hg') hx
          · obtain ⟨z, hz, hzz⟩ := hx
            have h1 : g' < wd.heap.size := ((HD.out.fam.own z hz).1.lt g' hzz).2
            have e7 : g7 = g' := Option.some.inj hg'
            omega)
        have hd8 := HD.out.kinds (opsM' := ops' ++ [Qs.length]) HOI.out HSH.out hg7' hgb8 hgr8 hsh8 (HD.out.kd.put hrr _ (opsK ((Qs' ++ [y']).map Prod.fst) (ops' ++ [Qs.length])) (by rw [zsOf_row ho7', HLK.out]) (fun s2 b2 r2 hne => HOK.out s2 b2 r2 hne)) (by have h1 := HM'.out; rw [hlen, List.length_append, List.length_singleton]; omega)
        have hk8 : KB B w w8 := (((HKD.out.thenB hbW13 (by have := HKD.out.size; omega)).grown hg7 (by have := HKD.out.size; omega) (fun r e => ⟨by have := (hoiW.1.lt r e).1; omega, not_item_ints hoiW e⟩))).grown hgb8 (by have := HKD.out.size; have := hg7.size; omega) (fun r e => by
          cases e
          obtain ⟨es, clock, hm⟩ := fam_map HD.out.fam
          exact ⟨hB.1, not_item_map ((hg7'.block bm (fam_lt HD.out.fam) (fun e => ints_ne_map HOI.out hm e.symm)).trans hm)⟩)
        have HE := Lib.hid (show PtEnd S r w0 b bp bm cap B Qs.length w (.returned (.tuple #[])) w8 from ⟨rfl, ⟨_, ops' ++ [Qs.length], ⟨⟨_, _, _, hd8, by have h1 := HM'.out; rw [hlen, List.length_append, List.length_singleton]; omega⟩, by have h1 := HR.out; rw [HMAY.out, if_pos rfl, HC.out.len] at h1; exact h1, HC.out.bds⟩, by rw [List.length_append, HC.out.len]; rfl⟩, hk8⟩)
        unfold kindV at hup
        clear hd8 hk8 hgr8 hgb8 hsh8 ho7 hg7 hat7 ho7' hg7' hloc7 hS0 hblkW hbxW hoiW n1 n2 hoW hnews
        refine wpAnyN_one (i := 16) rfl (by kernel_rfl) (fun K hK => ?_)
        go_simp
        refine hK _ _ (fun h => absurd h (by decide)) ?_
        clear hK hup
        (try simp only [Act.put, List.setIfInBounds_toArray, List.set_cons_zero, List.set_cons_succ])
        refine wpAnyN_rest 17 [] rfl (by kernel_rfl) (by rfl) ?_
        go_wp2
        go_end0
        exact HE.out
    · have hmf : mayOpen y'.1.it = false := by simpa using hmay
      have HE := Lib.hid (show PtEnd S r w0 b bp bm cap B Qs.length w (.returned (.tuple #[])) wc from ⟨rfl, ⟨_, ops', ⟨⟨n', D', ov', HP'.out, by have := HM'.out; rw [hlen]; omega⟩, by have := HR.out; rw [hmf] at this; exact this, HC.out.bds⟩, by rw [List.length_append, HC.out.len]; rfl⟩, HKB.out⟩)
      cases op with
      | false =>
        clear hmay
        go_wp2
        go_end0
        exact HE.out
      | true =>
        have hn0 : ¬ 0 < y'.1.it.n := fun h => hmay (by simp [mayOpen, HST.out.1, HST.out.2.2.1, hs, h])
        clear hmay
        go_wp2
        go_end0
        exact HE.out
end Go.Proofs.YteihmgcphbijhaaGreatDoor

namespace Go.Proofs.YteihmgcphbijhaaGreatDoor
open Go.RowKit Go.Maps Go.ChangeShapes
set_option linter.unusedSimpArgs false
set_option linter.unusedVariables false
set_option maxRecDepth 100000
/-- An item, and its slice of nodes. -/
def itC (x : Itm × Value) : List Value := [.int .u8 x.1.sg.toNat, .int .i64 x.1.ff, .bool x.1.op, .bool x.1.cl, x.2]
theorem itC_length (x : Itm × Value) : (itC x).length = 5 := rfl
def sumN : List (Itm × Value) → Int
  | [] => 0
  | x :: X => (if x.1.sg = 0 ∨ x.1.ff < 0 then 0 else x.1.ff) + sumN X
theorem sumN_nonneg : ∀ X, 0 ≤ sumN X
  | [] => Int.le_refl _
  | x :: X => by
    have := sumN_nonneg X
    unfold sumN
    split <;> omega
set_option maxHeartbeats 4000000 in
theorem tooMany_any (A : Option Addr) (cap : Nat) (X : List (Itm × Value)) (w : World) (hrow : EltsAt w itC 5 A cap X) (hv : ∀ x ∈ X, ∃ Av cv, x.2 = Value.slice Av x.1.nd.length cv) (hs : sumN X ≤ 2147483647) (hn : X.length ≤ 100000) :
    Calls Tryz.prog 26 #[.slice A X.length cap] w fun e w' => e = .returned (.bool false) ∧ Below w.heap.size w w' := by
  go_enter Tryz.func26, Tryz.ntmps26
  go_wp2_with fail
  go_loopw [3, 8] (fun l i wr => ∃ (k : Nat) (L : Int), i = .int .i64 k ∧ k ≤ X.length ∧ l = .int .i64 L ∧ sumN (X.drop k) ≤ L ∧ L ≤ 2147483647 ∧ Below w.heap.size w wr) (fun _ i _ => X.length - (intOf i).toNat)
  case atStart => exact ⟨0, 2147483647, rfl, Nat.zero_le _, rfl, by rw [List.drop_zero]; exact hs, Int.le_refl _, Below.refl _ _⟩
  case round =>
    obtain ⟨k, L, rfl, hk, rfl, hL, hLm, hbw⟩ := hrel
    by_cases hp : k < X.length
    · obtain ⟨b, off, e, hb, hc⟩ := (EltsAt.below hrow hbw).at hp
      subst e
      have hd : X.drop k = X[k] :: X.drop (k + 1) := List.drop_eq_getElem_cons hp
      rw [hd] at hL
      clear hd
      have hvx := hv _ (List.getElem_mem hp)
      generalize X[k] = x at *
      obtain ⟨⟨sg, n, ff, op, cl, nd⟩, lv⟩ := x
      have c0 : wr.cell? ⟨b, off + k * 5, none⟩ = some (.int .u8 sg.toNat) := hc 0 _ rfl
      have c1 : wr.cell? ⟨b, off + k * 5 + 1, none⟩ = some (.int .i64 ff) := hc 1 _ rfl
      have c2 : wr.cell? ⟨b, off + k * 5 + 2, none⟩ = some (.bool op) := hc 2 _ rfl
      have c3 : wr.cell? ⟨b, off + k * 5 + 3, none⟩ = some (.bool cl) := hc 3 _ rfl
      have c4 : wr.cell? ⟨b, off + k * 5 + 4, none⟩ = some lv := hc 4 _ rfl
      have hnn := sumN_nonneg (X.drop (k + 1))
      unfold sumN at hL
      dsimp only at *
      obtain ⟨Av, cv, rfl⟩ := hvx
      have HL := Lib.hid hL
      have HN := Lib.hid hnn
      obtain ⟨x0, x1, x2, x3, x4⟩ := box5 wr (.int .u8 sg.toNat) (.int .i64 ff) (.bool op) (.bool cl) (.slice Av nd.length cv) 75
      have HR := Lib.hid hrow
      have HB := Lib.hid (hbw.alloc hbw.size (.cells #[.int .u8 sg.toNat, .int .i64 ff, .bool op, .bool cl, .slice Av nd.length cv] 75))
      clear hc hL hnn hrow hbw
      by_cases h0 : sg = 0
      · subst h0
        go_wp2
        go_roundw
        case rel => exact ⟨k + 1, L, by go_num, by omega, rfl, by have := HL.out; rw [if_pos (Or.inl rfl)] at this; omega, hLm, HB.out⟩
        case measure => simp [intOf]; omega
      · have hsn : ¬ ((sg.toNat : Int) = 0) := fun h => h0 (UInt8.toNat_inj.1 (by simpa using h))
        have hsb : ((sg.toNat : Int) == 0) = false := by simpa using hsn
        by_cases h1 : ff < 0
        · go_wp2
          go_roundw
          case rel => exact ⟨k + 1, L, by go_num, by omega, rfl, by have := HL.out; rw [if_pos (Or.inr h1)] at this; omega, hLm, HB.out⟩
          case measure => simp [intOf]; omega
        · have h2 : ff ≤ L := by
            have := HL.out
            rw [if_neg (by simp [h0, h1])] at this
            have := HN.out
            omega
          have hw : IntKind.i64.wrap (L - ff) = L - ff := IntWalk.i64_in _ (by omega)
          go_wp2
          go_roundw
          case rel => exact ⟨k + 1, L - ff, by go_num, by omega, by go_num, by have := HL.out; rw [if_neg (by simp [h0, h1])] at this; omega, by omega, HB.out⟩
          case measure => simp [intOf]; omega
    · obtain rfl : k = X.length := by omega
      go_wp2
      go_ret
      exact ⟨rfl, hbw⟩
theorem textI_deepBy (d : Int) (l : List Iln) : textI (deepBy d l) = textI l := by
  unfold textI deepBy
  rw [List.flatMap_map]
  rfl
theorem textI_downs (d : Int) (ks : List Int) (hk : ∀ z ∈ ks, z = 3 ∨ z = 4) : textI (downs d ks) = [] := by
  induction ks generalizing d with
  | nil => rfl
  | cons k ks ih =>
    have h1 := ih (d + 1) (fun z hz => hk z (List.mem_cons_of_mem _ hz))
    unfold downs
    rw [show textI (⟨k, IntKind.i64.wrap d, [], [], []⟩ :: downs (d + 1) ks) = ilText ⟨k, IntKind.i64.wrap d, [], [], []⟩ ++ textI (downs (d + 1) ks) from rfl, h1]
    rcases hk k (List.mem_cons_self ..) with rfl | rfl <;> rfl
theorem ren_bound : ∀ (ps : List Pc) (i : Nat) (d : Int), (∀ p ∈ ps, ∀ z ∈ p.bg, z = 3 ∨ z = 4) → (ren d (evF i ps)).length + (textI (ren d (evF i ps))).length ≤ potP ps
  | [], i, d, _ => by simp [evF, ren, textI, potP]
  | p :: ps, i, d, h => by
    have e : potP (p :: ps) = pcN p + potP ps := by simp [potP]
    have hb := h p (List.mem_cons_self ..)
    have ih := fun d' => ren_bound ps (i + 1) d' (fun q hq => h q (List.mem_cons_of_mem _ hq))
    rw [e]
    by_cases hs : p.it.sg = 0
    · have := ih d
      have h2 : pcN p = p.it.nd.length + (textI p.it.nd).length := by simp [pcN, itN, hs]
      rw [ren_nodes hs, textI_append, textI_deepBy, List.length_append, List.length_append, deepBy_is, List.length_map, h2]
      omega
    · have := ih (d - p.en + p.bg.length)
      have h2 : pcN p = 1 + p.it.n.toNat + p.bg.length := by simp [pcN, itN, hs]
      rw [ren_row hs, textI_append, textI_append, textI_downs _ _ (fun z hz => hb z (List.mem_reverse.1 hz)), List.length_append, List.length_append, List.length_append, downs_length, List.length_reverse, List.append_nil, h2]
      have h3 : (rowW (d - p.en) p.it).length + (textI (rowW (d - p.en) p.it)).length ≤ 1 + p.it.n.toNat := by
        unfold rowW
        split
        · simp [textI, wordsI, ilText]
        · simp [textI]
      omega
theorem List.le_sum_of_mem_nat {l : List Nat} {a : Nat} (h : a ∈ l) : a ≤ l.sum := by
  induction l with
  | nil => cases h
  | cons b l ih =>
    rw [List.sum_cons]
    rcases List.mem_cons.1 h with rfl | h
    · omega
    · have := ih h
      omega
theorem ownsRow_base {w : World} {B B' : Nat} {e : TypeId} {size n : Nat} {v : Value} {xs : List Value} (h : w.ownsRow B e size v n xs) (hB : B' ≤ B) : w.ownsRow B' e size v n xs := by
  refine ⟨h.1, ?_⟩
  rcases h.2 with hn | ⟨g, cap, cur, rfl, hb, rest⟩
  · exact .inl hn
  · exact .inr ⟨g, cap, cur, rfl, Nat.le_trans hB hb, rest⟩
theorem infoPc : (Tryz.prog.info? 121).map (fun i => (i.zero.isSome, i.size, i.bytes)) = some (true, 8, 88) := by kernel_rfl
theorem infoPc' : ∃ i z, Tryz.prog.info? 121 = some i ∧ i.zero = some z ∧ i.size = 8 ∧ i.bytes = 88 := by
  have h := infoPc
  cases hi : Tryz.prog.info? 121 with
  | none => rw [hi] at h; cases h
  | some i =>
    rw [hi] at h
    have h1 : (i.zero.isSome, i.size, i.bytes) = (true, 8, 88) := Option.some.inj h
    injection h1 with h2 h3
    injection h3 with h4 h5
    obtain ⟨z, hz⟩ := Option.isSome_iff_exists.1 h2
    exact ⟨i, z, rfl, hz, h4, h5⟩
set_option maxHeartbeats 8000000 in
theorem group_any (X : List (Itm × Value)) (A : Option Addr) (cap : Nat) (w : World) (hrow : EltsAt w itC 5 A cap X) (hv : ∀ x ∈ X, ∃ Av cv, x.2 = Value.slice Av x.1.nd.length cv ∧ InlsAt w Av cv x.1.nd) (hnf : ∀ x ∈ X, x.1.n = x.1.ff ∧ x.1.ff ≤ 2147483647)
    (hs : sumN X ≤ 2147483647) (hlen : X.length ≤ 1000) (hw : WrapD (allI (X.map Prod.fst))) (hpot : potI (X.map Prod.fst) ≤ 100000000) :
    Calls Tryz.prog 15 #[.slice A X.length cap] w fun e w' => (∃ v, e = .returned v ∧ w'.ownsRow w.heap.size 28 5 v (groupI (X.map Prod.fst)).length (flt ilC (groupI (X.map Prod.fst)))) ∧ Below w.heap.size w w' := by
  have ct := tooMany_any A cap X w hrow (fun x hx => by obtain ⟨Av, cv, h, _⟩ := hv x hx; exact ⟨Av, cv, h⟩) hs (by omega)
  go_enter Tryz.func15, Tryz.ntmps15
  go_wp2_with fail
  refine ct.mono ?_
  rintro e w1 ⟨rfl, b1⟩
  obtain ⟨i0, z0, hi, hz0, hz1, hz2⟩ := infoPc'
  obtain ⟨w2, hmk, ho2, hg2⟩ := run_make_own (P := Tryz.prog) w1 w1.heap.size 79 121 i0 z0 8 Tryz.underlying79 hi hz0 hz1 .i64 .i64 X.length (by rw [hz2]; omega) (by unfold maxLen; omega) (Nat.le_refl _)
  have hmm := @run_makeMap Tryz.prog
  have HO2 := Lib.hid ho2
  have HG2 := Lib.hid hg2
  have HB1 := Lib.hid b1
  clear ho2 hg2 b1
  go_wp2_with fail
  have hB2 : Below w.heap.size w ((w2.alloc (.map #[] 0)).alloc (.cells #[.slice (some ⟨w1.heap.size, 0, none⟩) 0 X.length, .slice none 0 0, .map (some w2.heap.size)] 82)) :=
    ((HB1.out.grown HG2.out HB1.out.size (fun r e => by cases e)).alloc (by have := HB1.out.size; have := HG2.out.size; omega) _).alloc (by have := HB1.out.size; have := HG2.out.size; simp; omega) _
  have hF0 : Fam (w2.alloc (.map #[] 0)) (w2.heap.size + 1) w2.heap.size 0 (.map []) [(.slice none 0 0, natI [])] :=
    ⟨fun x hx => by rw [List.mem_singleton] at hx; subst hx; exact World.ownsInts_nil _ _ _ _, by simp, World.ownsGroups_made w2 _ _ _ _, World.Shuns_made w2 _⟩
  have hP0 : PrSt ((w2.alloc (.map #[] 0)).alloc (.cells #[.slice (some ⟨w1.heap.size, 0, none⟩) 0 X.length, .slice none 0 0, .map (some w2.heap.size)] 82)) (w2.heap.size + 1) w1.heap.size w2.heap.size X.length 0 (.map []) [] [] [] (.slice none 0 0) :=
    ⟨heap_alloc2_new _ _ _, (HO2.out.alloc _).alloc _, hF0.below ((Below.refl _ _).alloc (Nat.le_refl _) _), KD.new, by simp, by omega⟩
  have hT0 : PtSt (X.map Prod.fst) (X.map Prod.fst) w (w2.heap.size + 1) w1.heap.size w2.heap.size X.length [] [] ((w2.alloc (.map #[] 0)).alloc (.cells #[.slice (some ⟨w1.heap.size, 0, none⟩) 0 X.length, .slice none 0 0, .map (some w2.heap.size)] 82)) :=
    ⟨⟨0, .map [], .slice none 0 0, hP0, by simp⟩, run_start _, by simp⟩
  have HT0 := Lib.hid hT0
  have HB2 := Lib.hid hB2
  have hz1 : w.heap.size ≤ w1.heap.size := HB1.out.size
  have hz2 : w1.heap.size ≤ w2.heap.size := HG2.out.size
  clear hT0 hP0 hF0 hB2 hmk hmm HO2
  generalize hwW : (w2.alloc (.map #[] 0)).alloc (.cells #[.slice (some ⟨w1.heap.size, 0, none⟩) 0 X.length, .slice none 0 0, .map (some w2.heap.size)] 82) = w3 at *
  clear hwW
  generalize hbe : w2.heap.size + 1 = b at *
  have hbz : w.heap.size ≤ b := by omega
  clear hbe
  generalize w2.heap.size = bm at *
  generalize w1.heap.size = bp at *
  clear HG2 HB1
  have HR := Lib.hid hrow
  have HV := Lib.hid hv
  have HNF := Lib.hid hnf
  have HW := Lib.hid hw
  have HPOT := Lib.hid hpot
  clear hrow hv hnf hw hpot hs ct
  go_loopw [15] (fun i wr => ∃ (k : Nat) (Qs : List Pm) (ops : List Nat), i = .int .i64 k ∧ k ≤ X.length ∧ PtSt (X.map Prod.fst) ((X.drop k).map Prod.fst) w b bp bm X.length Qs ops wr ∧ Qs.length = k ∧ Below w.heap.size w wr) (fun i _ => X.length - (intOf i).toNat)
  case atStart => exact ⟨0, [], [], rfl, Nat.zero_le _, HT0.out, rfl, HB2.out⟩
  case round =>
    obtain ⟨k, Qs, ops, rfl, hk, hT, hQ, hbw⟩ := hrel
    by_cases hp : k < X.length
    · obtain ⟨g, off, e, hg, hc⟩ := (EltsAt.below HR.out hbw).at hp
      subst e
      have hd : X.drop k = X[k] :: X.drop (k + 1) := List.drop_eq_getElem_cons hp
      have hvx := HV.out _ (List.getElem_mem hp)
      have hnx := HNF.out _ (List.getElem_mem hp)
      rw [hd, List.map_cons] at hT
      clear hd
      generalize X[k] = x at *
      obtain ⟨⟨sg, n, ff, op, cl, nd⟩, lv⟩ := x
      obtain ⟨Av, cv, elv, hil⟩ := hvx
      obtain ⟨enf, hff⟩ := hnx
      dsimp only at *
      subst elv enf
      have c0 : wr.cell? ⟨g, off + k * 5, none⟩ = some (.int .u8 sg.toNat) := hc 0 _ rfl
      have c1 : wr.cell? ⟨g, off + k * 5 + 1, none⟩ = some (.int .i64 n) := hc 1 _ rfl
      have c2 : wr.cell? ⟨g, off + k * 5 + 2, none⟩ = some (.bool op) := hc 2 _ rfl
      have c3 : wr.cell? ⟨g, off + k * 5 + 3, none⟩ = some (.bool cl) := hc 3 _ rfl
      have c4 : wr.cell? ⟨g, off + k * 5 + 4, none⟩ = some (.slice Av nd.length cv) := hc 4 _ rfl
      obtain ⟨x0, x1, x2, x3, x4⟩ := box5 wr (.int .u8 sg.toNat) (.int .i64 n) (.bool op) (.bool cl) (.slice Av nd.length cv) 75
      have hbA := (Below.refl _ wr).alloc (Nat.le_refl _) (.cells #[.int .u8 sg.toNat, .int .i64 n, .bool op, .bool cl, .slice Av nd.length cv] 75)
      have cp := put_any (B := w.heap.size) (hT.below hbA) hff hil (by omega) ⟨by omega, hbz, by have := hbw.size; simp; omega, by omega⟩
      rw [hQ] at cp
      have HBW := Lib.hid (hbw.trans (hbA.mono hbw.size))
      clear hc hT hbA hbw
      go_wp2_with fail
      refine cp.mono ?_
      rintro e w5 ⟨rfl, ⟨Qs', ops', hT', hQ'⟩, hkb⟩
      have HB5 := Lib.hid (HBW.out.trans hkb.below)
      have HT' := Lib.hid hT'
      clear hT' hkb cp
      go_wp2
      go_roundw
      case rel => exact ⟨k + 1, Qs', ops', by go_num, by omega, HT'.out, hQ', HB5.out⟩
      case measure => simp [intOf]; omega
    · obtain rfl : k = X.length := by omega
      rw [List.drop_length, List.map_nil] at hT
      obtain ⟨nn, D, ov, hPS, _⟩ := hT.st
      have hrun := hT.run
      have hbds := hT.bds
      have hpt : potP (Qs.map Prod.fst) ≤ 100000000 := by
        have h1 := hrun.pt
        have h2 := HPOT.out
        simp only [potI, List.map_nil, List.sum_nil] at h1 h2
        omega
      have hrb := ren_bound (Qs.map Prod.fst) 0 0 (fun p hp z hz => by
        obtain ⟨x, hx, rfl⟩ := List.mem_map.1 hp
        exact (hbds x hx).kd z hz)
      have cn := nodes_any hPS hbds hbw (by omega) (fun x hx hs0 => by
        have h1 : pcN x.1 ≤ potP (Qs.map Prod.fst) := List.le_sum_of_mem_nat (List.mem_map.2 ⟨x.1, List.mem_map.2 ⟨x, hx, rfl⟩, rfl⟩)
        have h2 : pcN x.1 = x.1.it.nd.length + (textI x.1.it.nd).length := by simp [pcN, itN, hs0]
        omega)
      have hre := run_end hrun HW.out
      have HRB := Lib.hid hrb
      have HRE := Lib.hid hre
      have HBW := Lib.hid hbw
      have HPT := Lib.hid hpt
      clear hT hPS hrun hbds hrb hre hbw hpt
      generalize ren 0 (evF 0 (Qs.map Prod.fst)) = Rn at *
      go_wp2_with fail
      refine cn.mono ?_
      rintro e w5 ⟨⟨v5, rfl, ho5⟩, b5⟩
      obtain ⟨A5, c5, rfl, h5⟩ := EltsAt.own ilC_length ho5
      have cm := merge_any A5 c5 Rn w5 h5 (by have := HRB.out; have := HPT.out; omega) (by have := HRB.out; have := HPT.out; omega)
      have HB5 := Lib.hid (HBW.out.trans (b5.mono HBW.out.size))
      clear ho5 h5 b5 cn
      go_wp2_with fail
      refine cm.mono ?_
      rintro e w6 ⟨v6, rfl, ho6, b6⟩
      rw [HRE.out] at ho6
      have HO6 := Lib.hid ho6
      have HB6 := Lib.hid (HB5.out.trans (b6.mono HB5.out.size))
      have hs5 := HB5.out.size
      clear ho6 b6 cm
      obtain ⟨A6, c6, rfl, _⟩ := own_form HO6.out
      go_wp2
      go_ret
      refine ⟨⟨_, rfl, ?_⟩, HB6.out⟩
      exact ownsRow_base HO6.out hs5
end Go.Proofs.YteihmgcphbijhaaGreatDoor

namespace Go.Proofs.YteihmgcphbijhaaGreatDoor
open Go.RowKit
set_option linter.unusedSimpArgs false
set_option linter.unusedVariables false
/-- How many nodes, and how many bytes of text, there are. -/
def sizI (l : List Iln) : Nat := l.length + (textI l).length
theorem sizI_nil : sizI [] = 0 := rfl
theorem sizI_append (a b : List Iln) : sizI (a ++ b) = sizI a + sizI b := by simp [sizI, textI_append]; omega
theorem sizI_cons (x : Iln) (b : List Iln) : sizI (x :: b) = 1 + (ilText x).length + sizI b := by simp [sizI, textI_cons]; omega
theorem textI_deepZ (l : List Iln) : textI (deepI l) = textI l := by
  induction l with
  | nil => rfl
  | cons x l ih => rw [show deepI (x :: l) = deepOne x :: deepI l from rfl, textI_cons, textI_cons, ih]; rfl
theorem sizI_deep (l : List Iln) : sizI (deepI l) = sizI l := by simp [sizI, textI_deepZ]; simp [deepI]
theorem mergeOne_len (out : List Iln) (x : Iln) : (mergeOne out x).length ≤ out.length + 1 := by
  rcases List.eq_nil_or_concat out with rfl | ⟨l', y, rfl⟩
  · rw [mergeOne_nil]
    split
    · split <;> simp
    · simp
  · rw [List.concat_eq_append, mergeOne_snoc]
    split
    · split
      · simp
      · split <;> simp
    · simp
theorem foldl_len (l : List Iln) : ∀ p : List Iln, (l.foldl mergeOne p).length ≤ p.length + l.length := by
  induction l with
  | nil => intro p; simp
  | cons x l ih => intro p; have h1 := ih (mergeOne p x); have h2 := mergeOne_len p x; rw [List.foldl_cons, List.length_cons]; omega
theorem sizI_merge (l : List Iln) : sizI (mergeI l) ≤ sizI l := by
  unfold sizI
  rw [mergeI_text]
  have := foldl_len l []
  simp at this
  unfold mergeI
  omega
theorem leftI_siz (x : Itm) : sizI (leftI x) = itN x := by
  unfold leftI itN sizI
  split
  · rfl
  · simp [textI, wordsI, ilText]
theorem all_pot (S : List Itm) : sizI (allI S) = potI S := by
  induction S with
  | nil => rfl
  | cons x S ih => rw [allI_cons, sizI_append, leftI_siz, potI_cons, ih]
theorem potI_append (a b : List Itm) : potI (a ++ b) = potI a + potI b := by simp [potI]
theorem potI_reverse (a : List Itm) : potI a.reverse = potI a := by
  induction a with
  | nil => rfl
  | cons x a ih => rw [List.reverse_cons, potI_append, ih, potI_cons, potI_cons]; simp [potI]; omega
theorem potI_nil : potI [] = 0 := rfl
theorem itN_node (k : Int) (l : List Iln) : itN (nodeI k l) = 1 + sizI l := by
  unfold itN nodeI
  rw [if_pos rfl]
  show sizI (_ :: deepI l) = _
  rw [sizI_cons, sizI_deep]
  split <;> simp [ilText]
theorem go_pot : ∀ (f : Nat) (l r : List Itm), potI (groupGo f l r) ≤ potI l + potI r
  | 0, l, r => by rw [groupGo, potI_append, potI_reverse]; omega
  | f + 1, l, [] => by rw [groupGo, potI_reverse]; omega
  | f + 1, l, c :: r => by
    simp only [groupGo]
    have h0 := go_pot f (c :: l) r
    rw [potI_cons] at h0
    rw [potI_cons]
    split
    · next hc =>
      have hc0 := canClose_pos hc
      split
      · omega
      · next m o l' he =>
        obtain ⟨rfl, ho, _⟩ := openerI_some he
        have ho0 := canOpen_pos ho
        have hk := kOf_is o c ho0.1 hc0.1
        have h1 := go_pot f (nodeI (kOf o c) (allI m.reverse) :: lessI o (kOf o c) :: l') (lessI c (kOf o c) :: r)
        have so : o.sg ≠ 0 := by rw [ho0.2.1]; exact hc0.2.1
        have i1 : itN (lessI o (kOf o c)) + 1 ≤ itN o := by
          unfold itN lessI
          dsimp only
          rw [if_neg so, if_neg so]
          omega
        have i2 : itN (lessI c (kOf o c)) + 1 ≤ itN c := by
          unfold itN lessI
          dsimp only
          rw [if_neg hc0.2.1, if_neg hc0.2.1]
          omega
        rw [potI_cons, potI_cons, potI_cons, itN_node, all_pot, potI_reverse] at h1
        rw [potI_append, potI_cons]
        omega
    · omega
theorem group_pot (S : List Itm) : sizI (groupI S) ≤ potI S := by
  unfold groupI
  have h1 := sizI_merge (allI (groupGo (fuelI S) [] S))
  have h2 := go_pot (fuelI S) [] S
  rw [all_pot] at h1
  rw [potI_nil] at h2
  omega
theorem wrapD_mergeOne {out : List Iln} (h : WrapD out) {x : Iln} (hx : IntKind.i64.wrap x.dp = x.dp) : WrapD (mergeOne out x) := by
  rcases List.eq_nil_or_concat out with rfl | ⟨l', y, rfl⟩
  · rw [mergeOne_nil]
    split
    · split
      · exact h
      · intro z hz; simp at hz; subst hz; exact hx
    · intro z hz; simp at hz; subst hz; exact hx
  · rw [List.concat_eq_append] at h ⊢
    have hy := h y (by simp)
    rw [mergeOne_snoc]
    have hl : WrapD l' := fun z hz => h z (by simp [hz])
    split
    · split
      · exact h
      · split
        · exact wrapD_append.2 ⟨hl, by intro z hz; simp at hz; subst hz; exact hy⟩
        · exact wrapD_append.2 ⟨h, by intro z hz; simp at hz; subst hz; exact hx⟩
    · exact wrapD_append.2 ⟨h, by intro z hz; simp at hz; subst hz; exact hx⟩
theorem wrapD_foldl (l : List Iln) : ∀ {p : List Iln}, WrapD p → WrapD l → WrapD (l.foldl mergeOne p) := by
  induction l with
  | nil => intro p h _; exact h
  | cons x l ih => intro p h k; exact ih (wrapD_mergeOne h (k x (by simp))) (fun y hy => k y (by simp [hy]))
theorem wrapD_nil : WrapD [] := by intro x hx; cases hx
theorem wrapD_group {S : List Itm} (h : WrapD (allI S)) : WrapD (groupI S) := wrapD_foldl _ wrapD_nil (wrapD_go _ _ _ wrapD_nil h)
/-- How much a token makes, if it is no bracket. -/
def tokN (E : Env) : Tk → Nat
  | .word w => 1 + w.length
  | .code c => 1 + (E.code c).length
  | .auto _ x => 2 + x.length
  | .run _ n => 1 + n
  | .atom k => match E.atom k with | some x => sizI x | none => 0
  | .brk _ => 2
  | .tag _ => 1
  | _ => 0
structure PotSt (C i : Nat) (l : List Ent) : Prop where
  len : l.length ≤ i
  pot : potI (l.map entI) ≤ C * i
  sg : ∀ x ∈ l.map entI, x.n = x.ff ∧ 0 ≤ x.n ∧ x.n ≤ i
  wd : WrapD (allI (l.map entI))
  pos : ∀ img p sh, Ent.mk img p sh ∈ l → p ≤ i
theorem PotSt.less {C a b : Nat} {l : List Ent} (h : PotSt C a l) (hb : a ≤ b) : PotSt C b l :=
  ⟨by have := h.len; omega, Nat.le_trans h.pot (Nat.mul_le_mul_left C hb), fun x hx => by have := h.sg x hx; omega, h.wd, fun img p sh hm => by have := h.pos img p sh hm; omega⟩
theorem itN_nd (x : List Iln) : itN (ndI x) = sizI x := by unfold itN ndI; rw [if_pos rfl]; rfl
/-- One entry more. -/
theorem PotSt.one {C a b : Nat} {l : List Ent} (h : PotSt C a l) (hb : a + 1 ≤ b) (e : Ent) (he : itN (entI e) ≤ C * (b - a)) (hs : (entI e).n = (entI e).ff ∧ 0 ≤ (entI e).n ∧ (entI e).n ≤ b) (hw : WrapD (leftI (entI e))) (hp : ∀ img p sh, Ent.mk img p sh = e → p ≤ b) : PotSt C b (e :: l) := by
  have hk : C * a + C * (b - a) = C * b := by rw [← Nat.mul_add]; congr 1; omega
  have h' := h.less (b := b) (by omega)
  refine ⟨by have := h.len; rw [List.length_cons]; omega, by have := h.pot; rw [List.map_cons, potI_cons]; omega, ?_, ?_, ?_⟩
  · intro x hx
    rw [List.map_cons] at hx
    rcases List.mem_cons.1 hx with rfl | hx
    · exact hs
    · exact h'.sg x hx
  · rw [List.map_cons, allI_cons]
    exact wrapD_append.2 ⟨hw, h.wd⟩
  · intro img p sh hm
    rcases List.mem_cons.1 hm with e1 | hm
    · exact hp img p sh e1
    · exact h'.pos img p sh hm
theorem lastMk_pot {l : List Ent} {m : List Itm} {o : Bool × Nat × Bool} {l' : List Ent} (h : lastMk l = some (m, o, l')) : l = m.map Ent.it ++ Ent.mk o.1 o.2.1 o.2.2 :: l' := by
  induction l generalizing m with
  | nil => cases h
  | cons e l ih =>
    cases e with
    | mk img pos sh => cases h; rfl
    | it x =>
      unfold lastMk at h
      split at h
      · next m2 o2 l2 he => cases h; rw [ih he]; rfl
      · cases h
theorem map_ent (m : List Itm) : (m.map Ent.it).map entI = m := by
  rw [List.map_map]
  conv => rhs; rw [← List.map_id m]
  rfl
theorem wrapD_words (t : List UInt8) : WrapD (leftI (ndI [wordsI 0 t])) := by
  intro x hx
  simp [leftI, ndI] at hx
  subst hx
  rfl
theorem asked_dp {D : List Dfn} {img : Bool} {x r : List UInt8} {y : Iln} {n : Nat} (h : askedL D img x r = some (y, n)) : y.dp = 0 := (asked_kd h).2
theorem asked_txt {D : List Dfn} {img : Bool} {x r : List UInt8} {y : Iln} {n : Nat} (h : askedL D img x r = some (y, n)) : ilText y = [] := by
  have hl : ∀ u v, ilText (linkN img u v) = [] := fun u v => by cases img <;> rfl
  have hf : ∀ (q : Dfn × Bool) k, foundN img q k = some (y, n) → ilText y = [] := by
    intro q k hq
    unfold foundN at hq
    split at hq
    · cases hq; exact hl _ _
    · cases hq
  unfold askedL at h
  split at h
  · cases h; rfl
  · split at h
    · cases h; rfl
    · split at h
      · cases h; exact hl _ _
      · split at h
        · split at h
          · exact hf _ _ h
          · split at h
            · exact hf _ _ h
            · cases h
        · exact hf _ _ h
theorem allI_rev {S : List Itm} (h : WrapD (allI S)) : WrapD (allI S.reverse) := by
  intro x hx
  obtain ⟨y, hy, hx⟩ := List.mem_flatMap.1 hx
  exact h x (List.mem_flatMap.2 ⟨y, List.mem_reverse.1 hy, hx⟩)
theorem shut_pos {l : List Ent} {img : Bool} {p : Nat} {sh : Bool} (h : Ent.mk img p sh ∈ l.map shutE) : ∃ sh', Ent.mk img p sh' ∈ l := by
  obtain ⟨e, he, h2⟩ := List.mem_map.1 h
  cases e with
  | it x => cases h2
  | mk img' p' sh' =>
    cases img' with
    | true => cases h2; exact ⟨_, he⟩
    | false => cases h2; exact ⟨_, he⟩
theorem pot_close {C : Nat} (hC : 3 ≤ C) (D : List Dfn) (s : List UInt8) (i t : Nat) (hit : i + 1 ≤ t) (l : List Ent) (h : PotSt C i l) : PotSt C t (closeI D s i t l).1 := by
  have hone : ∀ l, PotSt C i l → PotSt C t (.it (ndI [wordsI 0 [93]]) :: l) := fun l h => by
    refine h.one hit _ ?_ ⟨rfl, Int.le_refl _, by show (0 : Int) ≤ t; omega⟩ (wrapD_words _) (fun _ _ _ e => by cases e)
    rw [show entI (.it (ndI [wordsI 0 [93]])) = ndI [wordsI 0 [93]] from rfl, itN_nd, sizI_cons, sizI_nil]
    have : C * 1 ≤ C * (t - i) := Nat.mul_le_mul_left C (by omega)
    simp [ilText, wordsI]
    omega
  unfold closeI
  split
  · exact hone l h
  · next m img pos sh l' hm =>
    have em := lastMk_pot hm
    simp only at em
    have h' := h.less (b := t) (by omega)
    have eA : allI (l.map entI) = allI m ++ ([wordsI 0 (markOf img)] ++ allI (l'.map entI)) := by
      rw [em, List.map_append, map_ent, allI_append, List.map_cons, allI_cons]; rfl
    have hwd := h.wd
    rw [eA] at hwd
    have hwm := (wrapD_append.1 hwd).1
    have hwl := (wrapD_append.1 (wrapD_append.1 hwd).2).2
    have eP : potI (l.map entI) = potI m + (itN (ndI [wordsI 0 (markOf img)]) + potI (l'.map entI)) := by
      rw [em, List.map_append, map_ent, potI_append, List.map_cons, potI_cons]; rfl
    have eN : 2 ≤ itN (ndI [wordsI 0 (markOf img)]) := by
      rw [itN_nd, sizI_cons, sizI_nil]
      cases img <;> simp [markOf, ilText, wordsI]
    have eL : l.length = m.length + (1 + l'.length) := by rw [em]; simp; omega
    have hsm : ∀ x ∈ m, x ∈ l.map entI := fun x hx => by rw [em, List.map_append, map_ent]; exact List.mem_append_left _ hx
    have hsl : ∀ x ∈ l'.map entI, x ∈ l.map entI := fun x hx => by rw [em, List.map_append, List.map_cons]; exact List.mem_append_right _ (List.mem_cons_of_mem _ hx)
    have hml : ∀ e ∈ l', e ∈ l := fun e he => by rw [em]; exact List.mem_append_right _ (List.mem_cons_of_mem _ he)
    split
    · refine hone (m.map Ent.it ++ .it (ndI [wordsI 0 (markOf img)]) :: l') ⟨?_, ?_, ?_, ?_, ?_⟩
      · have := h.len; simp; omega
      · rw [List.map_append, map_ent, List.map_cons, potI_append, potI_cons]
        have := h.pot
        rw [eP] at this
        exact this
      · intro x hx
        rw [List.map_append, map_ent] at hx
        rcases List.mem_append.1 hx with hx | hx
        · exact h.sg x (hsm x hx)
        · rw [List.map_cons] at hx
          rcases List.mem_cons.1 hx with rfl | hx
          · exact ⟨rfl, Int.le_refl _, by show (0 : Int) ≤ i; omega⟩
          · exact h.sg x (hsl x hx)
      · rw [List.map_append, map_ent, List.map_cons, allI_append, allI_cons]
        exact hwd
      · intro im p s2 hh
        rcases List.mem_append.1 hh with hh | hh
        · obtain ⟨_, _, e2⟩ := List.mem_map.1 hh; cases e2
        · rcases List.mem_cons.1 hh with e2 | hh
          · cases e2
          · exact h.pos im p s2 (hml _ hh)
    · next x n hq =>
      have hq2 : askedL D img (List.drop pos (List.take i s)) (List.drop t s) = some (x, n) := by
        revert hq
        cases sh with
        | true => intro e; cases e
        | false => exact fun e => e
      have hx0 := asked_dp hq2
      have hxt := asked_txt hq2
      have hpot := h'.pot
      rw [eP] at hpot
      have hgp := group_pot m.reverse
      rw [potI_reverse] at hgp
      have fin : ∀ (Y : List Iln) (l2 : List Ent), l2.map entI = l'.map entI → (∀ im p s2, Ent.mk im p s2 ∈ l2 → ∃ s3, Ent.mk im p s3 ∈ l') → sizI Y ≤ 1 + potI m → WrapD Y → PotSt C t (.it (ndI Y) :: l2) := by
        intro Y l2 e2 p2 hY hw
        have e3 : l2.length = l'.length := by have := congrArg List.length e2; simpa using this
        refine ⟨?_, ?_, ?_, ?_, ?_⟩
        · have := h'.len; rw [List.length_cons]; omega
        · rw [List.map_cons, potI_cons, e2, show entI (.it (ndI Y)) = ndI Y from rfl, itN_nd]
          omega
        · intro y hy
          rw [List.map_cons, e2] at hy
          rcases List.mem_cons.1 hy with rfl | hy
          · exact ⟨rfl, Int.le_refl _, by show (0 : Int) ≤ t; omega⟩
          · exact h'.sg y (hsl y hy)
        · rw [List.map_cons, e2, allI_cons]
          refine wrapD_append.2 ⟨?_, hwl⟩
          rw [show leftI (entI (.it (ndI Y))) = Y from by simp [entI, leftI, ndI]]
          exact hw
        · intro im p s2 hh
          rcases List.mem_cons.1 hh with e2 | hh
          · cases e2
          · obtain ⟨s3, h3⟩ := p2 im p s2 hh
            exact h'.pos im p s3 (hml _ h3)
      split
      · refine fin _ l' rfl (fun im p s2 hh => ⟨s2, hh⟩) ?_ ?_
        · next h6 =>
          rw [sizI_cons, sizI_nil]
          have e6 : ilText { x with txt := textI (groupI m.reverse) } = textI (groupI m.reverse) := by unfold ilText; simp [h6]
          rw [e6]
          unfold sizI at hgp
          omega
        · intro z hz
          simp at hz
          subst hz
          show IntKind.i64.wrap x.dp = x.dp
          rw [hx0]; rfl
      · split
        · refine fin _ (l'.map shutE) (shutE_entI l') (fun im p s2 hh => shut_pos hh) ?_ ?_
          · rw [sizI_cons, sizI_deep, hxt, List.length_nil]
            omega
          · intro z hz
            rcases List.mem_cons.1 hz with rfl | hz
            · rw [hx0]; rfl
            · exact wrapD_deep _ z hz
        · refine fin _ l' rfl (fun im p s2 hh => ⟨s2, hh⟩) ?_ ?_
          · rw [sizI_cons, sizI_nil, hxt, List.length_nil]
            omega
          · intro z hz
            simp at hz
            subst hz
            rw [hx0]; rfl
/-- A text's tokens, one by one. -/
theorem pot_step {C : Nat} (hC : 3 ≤ C) (E : Env) (D : List Dfn) (s : List UInt8) (i n : Nat) (t : Tk) (l : List Ent) (hn : 1 ≤ n) (ht : tokN E t ≤ C * n) (hrun : ∀ b k, t = .run b k → n = k ∧ b ≠ 0)
    (hat : ∀ k x, E.atom k = some x → WrapD x) (h : PotSt C i l) : PotSt C (i + n) (stepI E D s i (i + n) t l).1 := by
  have hd : i + n - i = n := by omega
  have hcn : C * 1 ≤ C * n := Nat.mul_le_mul_left C hn
  have one : ∀ (e : Ent) (Y : List Iln), entI e = ndI Y → sizI Y ≤ C * n → WrapD Y → (∀ img p sh, Ent.mk img p sh = e → p ≤ i + n) → PotSt C (i + n) (e :: l) := fun e Y he hs hw hp =>
    h.one (by omega) e (by rw [he, itN_nd, hd]; exact hs) (by rw [he]; exact ⟨rfl, Int.le_refl _, by show (0 : Int) ≤ (i + n : Nat); omega⟩) (by rw [he, show leftI (ndI Y) = Y from by simp [leftI, ndI]]; exact hw) hp
  have w1 : ∀ x : Iln, x.dp = 0 → WrapD [x] := fun x hx z hz => by simp at hz; subst hz; rw [hx]; rfl
  unfold stepI
  cases t with
  | no => exact h.less (by omega)
  | word w => exact one _ [wordsI 0 w] rfl (by rw [sizI_cons, sizI_nil]; simpa [tokN, ilText, wordsI] using ht) (w1 _ rfl) (fun _ _ _ e => by cases e)
  | code c => exact one _ _ rfl (by rw [sizI_cons, sizI_nil]; simpa [tokN, ilText] using ht) (w1 _ rfl) (fun _ _ _ e => by cases e)
  | tag x => exact one _ _ rfl (by rw [sizI_cons, sizI_nil]; simpa [tokN, ilText] using ht) (w1 _ rfl) (fun _ _ _ e => by cases e)
  | brk b => exact one _ _ rfl (by rw [sizI_cons, sizI_nil]; cases b <;> simpa [tokN, ilText] using ht) (w1 _ rfl) (fun _ _ _ e => by cases e)
  | auto u x =>
    refine one _ _ rfl ?_ ?_ (fun _ _ _ e => by cases e)
    · rw [sizI_cons, sizI_cons, sizI_nil]
      simp [tokN] at ht
      simp [ilText, wordsI]
      omega
    · intro z hz
      simp at hz
      rcases hz with rfl | rfl <;> rfl
  | atom k =>
    have ht : (match E.atom k with | some x => sizI x | none => 0) ≤ C * n := ht
    show PotSt C (i + n) (.it (ndI ((E.atom k).getD [])) :: l)
    cases hk : E.atom k with
    | none => exact one _ [] rfl (by rw [sizI_nil]; omega) wrapD_nil (fun _ _ _ e => by cases e)
    | some x =>
      rw [hk] at ht
      exact one _ x rfl ht (hat k x hk) (fun _ _ _ e => by cases e)
  | run b k =>
    obtain ⟨rfl, hb⟩ := hrun b k rfl
    refine h.one (by omega) _ ?_ ⟨rfl, by show (0 : Int) ≤ n; omega, by show (n : Int) ≤ (i + n : Nat); omega⟩ (wrapD_row (x := entI (.it _)) hb) (fun _ _ _ e => by cases e)
    show itN (Itm.mk b n n _ _ []) ≤ _
    unfold itN
    rw [if_neg hb, hd]
    simpa [tokN] using ht
  | mark m =>
    simp only
    split
    · exact one (.mk false (i + n) false) [wordsI 0 [91]] rfl (by rw [sizI_cons, sizI_nil]; simp [ilText, wordsI]; omega) (w1 _ rfl) (fun _ _ _ e => by cases e; exact Nat.le_refl _)
    · split
      · exact one (.mk true (i + n) false) [wordsI 0 [33, 91]] rfl (by rw [sizI_cons, sizI_nil]; simp [ilText, wordsI]; omega) (w1 _ rfl) (fun _ _ _ e => by cases e; exact Nat.le_refl _)
      · exact pot_close hC D s i (i + n) (by omega) l h
theorem restF_len {tx : Int → List UInt8} {M : Nat} (h : ∀ k, (tx k).length ≤ M) : ∀ (f : Nat) (l : List UInt8), (restF tx f l).length ≤ (1 + M) * l.length
  | 0, l => by simp [restF]
  | f + 1, [] => by simp [restF]
  | f + 1, b :: l => by
    unfold restF
    split
    · next hb =>
      have ih := restF_len h f ((b :: l).drop (atomL (b :: l)).2)
      have h1 : 1 ≤ (atomL (b :: l)).2 := by have := hb.2; omega
      rw [List.length_drop] at ih
      rw [List.length_append]
      have h2 : (1 + M) * ((b :: l).length - (atomL (b :: l)).2) ≤ (1 + M) * ((b :: l).length - 1) := Nat.mul_le_mul_left _ (by omega)
      have h3 : (1 + M) * ((b :: l).length - 1) + (1 + M) = (1 + M) * (b :: l).length := by
        rw [show (b :: l).length = ((b :: l).length - 1) + 1 from by simp, Nat.mul_add, Nat.mul_one]
        simp
      refine Nat.le_trans (Nat.add_le_add (b := M) ?_ ih) (by omega)
      split
      · exact h _
      · simp
    · have ih := restF_len h f l
      rw [List.length_cons, List.length_cons, Nat.mul_add]
      omega
theorem restL_len {tx : Int → List UInt8} {M : Nat} (h : ∀ k, (tx k).length ≤ M) (l : List UInt8) : (restL tx l).length ≤ (1 + M) * l.length := restF_len h _ l
theorem shown_le (l : List UInt8) : (shownL l).length ≤ l.length := by
  unfold shownL
  simp only
  split
  · simp; omega
  · simp
theorem between_txt (l : List UInt8) (k : Nat) : (betweenL l k).1.length + 1 ≤ (betweenL l k).2 + 1 := by
  unfold betweenL
  split
  · simp
  · simp; omega
theorem code_tokN {E : Env} {M C : Nat} (hc : ∀ c, (E.code c).length ≤ (1 + M) * c.length) (hC : 8 + M ≤ C) (l : List UInt8) (n : Nat) (hn : 1 ≤ n) : ∀ f k, tokN E (codeGo l n f k).1 ≤ C * (codeGo l n f k).2
  | 0, k => by
    rw [codeGo]
    show 1 + (l.take n).length ≤ C * n
    have h1 : 8 * n ≤ C * n := Nat.mul_le_mul_right n (by omega)
    rw [List.length_take]
    omega
  | f + 1, k => by
    rw [codeGo]
    split
    · show 1 + (l.take n).length ≤ C * n
      have h1 : 8 * n ≤ C * n := Nat.mul_le_mul_right n (by omega)
      rw [List.length_take]
      omega
    · simp only
      split
      · next hz =>
        generalize k + (Lib.index (l.drop k) (l.take n)).toNat = e at *
        show 1 + (E.code (shownL ((l.take e).drop n))).length ≤ C * (e + rowL (l.drop e))
        generalize e + rowL (l.drop e) = z at *
        have h1 := hc (shownL ((l.take e).drop n))
        have h2 := shown_le ((l.take e).drop n)
        rw [List.length_drop, List.length_take] at h2
        have h3 : (1 + M) * (shownL ((l.take e).drop n)).length ≤ (1 + M) * (z - 1) := Nat.mul_le_mul_left _ (by omega)
        have h4 : (1 + M) * (z - 1) + (1 + M) = (1 + M) * z := by
          obtain ⟨y, rfl⟩ : ∃ y, z = y + 1 := ⟨z - 1, by omega⟩
          rw [Nat.mul_add, Nat.mul_one, Nat.add_sub_cancel]
        have h5 : (1 + M) * z ≤ C * z := Nat.mul_le_mul_right z (by omega)
        omega
      · exact code_tokN hc hC l n hn f _
theorem next_tokN {E : Env} {M C : Nat} (hc : ∀ c, (E.code c).length ≤ (1 + M) * c.length) (ha : ∀ k x, E.atom k = some x → sizI x ≤ C) (hC : 8 + M ≤ C) (l : List UInt8) (hl : l ≠ []) : tokN E (nextL l).1 ≤ C * (nextL l).2 := by
  have hmul : ∀ a n : Nat, a ≤ 8 * n → a ≤ C * n := fun a n h => Nat.le_trans h (Nat.mul_le_mul_right n (by omega))
  have hword : tokN E (wordTk l).1 ≤ C * (wordTk l).2 := by
    have h1 := (word_len l hl).1
    have e : (wordTk l).1 = .word (l.take (wordTk l).2) := rfl
    rw [e]
    refine hmul _ _ ?_
    show 1 + (l.take (wordTk l).2).length ≤ _
    rw [List.length_take]
    omega
  unfold nextL
  split
  · exact hword
  · next h0 =>
    generalize hr : firstTk l = r at *
    unfold firstTk at hr
    simp only at hr
    split at hr
    · subst hr
      obtain ⟨t, ht⟩ : ∃ t, (atomL l).1 = .atom t := by unfold atomL; simp only; split <;> exact ⟨_, rfl⟩
      rw [ht]
      have h1 : C * 1 ≤ C * (atomL l).2 := Nat.mul_le_mul_left C (by omega)
      show (match E.atom t with | some x => sizI x | none => 0) ≤ C * (atomL l).2
      cases hk : E.atom t with
      | none => simp
      | some x => have := ha t x hk; simp only; omega
    · split at hr
      · subst hr
        unfold escapedL at h0 ⊢
        split
        · next h2 =>
          refine hmul _ _ ?_
          show 2 ≤ 8 * pastL tkBlank l 2
          have := pastL_ge tkBlank l 2
          omega
        · split
          · next c _ =>
            split
            · exact hmul _ _ (by show 1 + 1 ≤ 16; omega)
            · exact Nat.zero_le _
          · exact Nat.zero_le _
      · split at hr
        · subst hr
          refine hmul _ _ ?_
          show 1 + (atL l).1.data.toList.length ≤ 8 * (atL l).2
          have h1 := (atL_ok l).1
          have h2 : (atL l).2 ≠ 0 := h0
          omega
        · split at hr
          · subst hr
            exact code_tokN hc hC l _ (rowL_pos l) _ _
          · split at hr
            · subst hr
              have b1 := between_txt l (addressL l)
              have b2 := between_txt l (mailboxL l)
              unfold pointedL at h0 ⊢
              simp only at h0 ⊢
              split
              · next h1 => exact hmul _ _ (by show 2 + (betweenL l (addressL l)).1.length ≤ 8 * (betweenL l (addressL l)).2; omega)
              · split
                · next h2 => exact hmul _ _ (by show 2 + (betweenL l (mailboxL l)).1.length ≤ 8 * (betweenL l (mailboxL l)).2; omega)
                · next h1 h2 =>
                  rw [if_neg h1, if_neg h2] at h0
                  exact hmul _ _ (by show 1 ≤ 8 * (betweenL l (tagL l)).2; have : (betweenL l (tagL l)).2 ≠ 0 := h0; omega)
            · split at hr
              · subst hr
                exact hmul _ _ (by show 1 + rowL l ≤ 8 * rowL l; have := rowL_pos l; omega)
              · split at hr
                · subst hr
                  unfold markTk
                  split
                  · exact Nat.zero_le _
                  · split
                    · exact Nat.zero_le _
                    · split <;> exact Nat.zero_le _
                · split at hr
                  · subst hr
                    unfold lineTk at h0 ⊢
                    simp only at h0 ⊢
                    split
                    · next h1 => rw [if_pos h1] at h0; exact absurd rfl h0
                    · refine hmul _ _ ?_
                      have := pastL_ge tkBlank l (pastL (fun b => b == 32) l 0 + 1)
                      show 2 ≤ 8 * pastL tkBlank l (pastL (fun b => b == 32) l 0 + 1)
                      omega
                  · subst hr
                    exact Nat.zero_le _
end Go.Proofs.YteihmgcphbijhaaGreatDoor
