/-
  Package emph: put: an item behind the others.
-/
import Derived.Test.YtoomkhmmgjiniaaEmK
namespace Go.Proofs.Ytoomkhmmgjiniaa
open Go.RowKit Go.Maps Go.ChangeShapes
set_option linter.unusedSimpArgs false
set_option linter.unusedVariables false
set_option maxRecDepth 100000

theorem step_append_fits {P : Program} {ops : Array Oper} {o : Oper} {a : Act} {w : World} {K : Act → World → Prop} {Q : Exit → Act → World → Prop} {E : Prop}
    (hg : o.guard = none) (s x : Operand) (t : TypeId) (hop : o.op = Op.call { callee := Callee.builtin Builtin.append, args := #[s, x], argTypes := #[t, t] })
    (base : Nat) (e : TypeId) (i : TypeInfo) (size : Nat) (h1 : P.underlying t = some (.slice e)) (h2 : P.info? e = some i) (h4 : i.size = size)
    (g n cap : Nat) (xs : List Value) (hs : a.eval s = .slice (some ⟨g, 0, none⟩) n cap) (hown : w.ownsRow base e size (.slice (some ⟨g, 0, none⟩) n cap) n xs)
    (ad : Addr) (m c : Nat) (news : List Value) (hx : a.eval x = .slice (some ad) m c) (hn : news.length = m * size) (hc : ∀ j u, news[j]? = some u → w.cell? (ad.add j) = some u) (h1c : ∀ u ∈ news, u.oneCell' = true)
    (hroom : n + m ≤ cap)
    (hK : ∀ w', w'.ownsRow base e size (.slice (some ⟨g, 0, none⟩) (n + m) cap) (n + m) (xs ++ news) → w.grownBy w' (some g) → K (a.put o.dst (.slice (some ⟨g, 0, none⟩) (n + m) cap)) w') :
    if Region.wanted o (yielded ops a.tmps) = true then Oper.wp P o a w K Q else E := by
  have hw : Region.wanted o (yielded ops a.tmps) = true := by simp [Region.wanted, hg]
  rw [if_pos hw]
  obtain ⟨w', hrun, r1, r2⟩ := run_append_fits (P := P) w base t o.type e i size h1 h2 h4 g n cap xs hown ad m c news hn hc h1c hroom
  unfold Oper.wp
  simp [execOp, hop, resolve, invoke, builtin, hs, hx, hrun, Result.andThen]
  exact hK _ r1 r2
theorem infoPiece : (Try.prog.info? 57).map (fun i => i.size) = some 8 := by kernel_rfl

/-- Between two items: what is done, what comes. -/
structure PtSt (S : List Itm) (r : List Itm) (w0 : World) (b bp bm cap : Nat) (Qs : List Pm) (ops : List Nat) (w : World) : Prop where
  st : ∃ n D ov, PrSt w b bp bm cap n D Qs ops ops ov ∧ n + ops.length ≤ 2 * Qs.length
  run : Run S (Qs.map Prod.fst) 0 ops r
  bds : ∀ x ∈ Qs, PmB w0 x
theorem PtSt.below {S r : List Itm} {w0 : World} {b bp bm cap : Nat} {Qs : List Pm} {ops : List Nat} {w w' : World} (h : PtSt S r w0 b bp bm cap Qs ops w) (hb : Below w.heap.size w w') : PtSt S r w0 b bp bm cap Qs ops w' := by
  obtain ⟨n, D, ov, hp, hM⟩ := h.st
  exact ⟨⟨n, D, ov, hp.below hb, hM⟩, h.run, h.bds⟩
def PtEnd (S r : List Itm) (w0 : World) (b bp bm cap B m : Nat) (w : World) (e : Ending) (w' : World) : Prop :=
  e = .returned (.tuple #[]) ∧ (∃ Qs ops, PtSt S r w0 b bp bm cap Qs ops w' ∧ Qs.length = m + 1) ∧ KB B w w'
theorem run_lt {S r : List Itm} {Qs : List Pm} {e : Nat} {ops : List Nat} (h : Run S (Qs.map Prod.fst) e ops r) : ∀ i ∈ ops, i < Qs.length := fun i hi => by
  obtain ⟨p, hp, _⟩ := (run_ops h).2 i hi
  have := (List.getElem?_eq_some_iff.1 hp).1
  rwa [List.length_map] at this
theorem box8 (w : World) (L : List Value) (t : TypeId) : ∀ j u, L[j]? = some u → (w.alloc (.cells L.toArray t)).cell? ((⟨w.heap.size, 0, none⟩ : Addr).add j) = some u := elt_cells w L t

set_option maxHeartbeats 8000000 in
theorem put_any {S r : List Itm} {w0 w : World} {b bp bm cap B : Nat} {Qs : List Pm} {ops : List Nat} {sg : UInt8} {ff : Int} {op cl : Bool} {nd : List Iln} {Al : Option Addr} {cl4 : Nat}
    (h : PtSt S (⟨sg, ff, ff, op, cl, nd⟩ :: r) w0 b bp bm cap Qs ops w) (hff : ff ≤ 2147483647) (hlv : InlsAt w0 Al cl4 nd) (hroom : Qs.length + 1 ≤ cap) (hB : B ≤ bm ∧ B ≤ b ∧ B ≤ w.heap.size ∧ B ≤ bp) :
    Calls Try.prog 12 #[.pointer (some ⟨b, 0, none⟩), .agg #[.int .u8 sg.toNat, .int .i64 ff, .bool op, .bool cl, .slice Al nd.length cl4]] w (PtEnd S r w0 b bp bm cap B Qs.length w) := by
  obtain ⟨n, D, ov, hP, hM⟩ := h.st
  have HMM := Lib.hid hM
  clear hM
  obtain ⟨i0, hi, hz1⟩ : ∃ i0, Try.prog.info? 57 = some i0 ∧ i0.size = 8 := by
    have := infoPiece
    cases hi : Try.prog.info? 57 with
    | none => rw [hi] at this; cases this
    | some i0 => rw [hi] at this; exact ⟨i0, rfl, Option.some.inj this⟩
  have hsm := hP.small
  have bA : Below w.heap.size w _ := (Below.refl _ w).alloc (Nat.le_refl _) (.cells #[.int .u8 sg.toNat, .int .i64 ff, .bool op, .bool cl, .slice Al nd.length cl4] 26)
  have hsA := alloc_size w (.cells #[.int .u8 sg.toNat, .int .i64 ff, .bool op, .bool cl, .slice Al nd.length cl4] 26)
  have hbx := heap_alloc_new w (.cells #[.int .u8 sg.toNat, .int .i64 ff, .bool op, .bool cl, .slice Al nd.length cl4] 26)
  obtain ⟨⟨x0, x1, x2, x3, x4⟩, _⟩ := inl_box hbx
  have hPA := hP.below bA
  have HKA := Lib.hid (KB.of bA hB.2.2.1)
  obtain ⟨c0, c1, c2, bfz, hbl⟩ := hPA.bcells
  have HP := Lib.hid hPA
  have HH := Lib.hid h
  have HA := Lib.hid bA
  have HBX := Lib.hid hbx
  clear h hP hPA bA hbx
  go_enter Try.func12, Try.ntmps12
  go_wp2_with fail
  generalize hwA : w.alloc (.cells #[.int .u8 sg.toNat, .int .i64 ff, .bool op, .bool cl, .slice Al nd.length cl4] 26) = wA at *
  have hbd : Below wA.heap.size wA wA.drew := (Below.refl _ wA).drew
  have hPd := HP.out.below hbd
  have hgx : w.heap.size < wA.heap.size := by omega
  generalize hgxe : w.heap.size = gx at *
  have hSB : ∀ W : World, Below wA.heap.size wA W → (W.cell? ⟨b, 0, none⟩ = some (.slice (some ⟨bp, 0, none⟩) Qs.length cap) ∧ W.cell? ⟨gx, 0, none⟩ = some (.int .u8 sg.toNat) ∧ W.cell? ⟨gx, 1, none⟩ = some (.int .i64 ff) ∧ W.cell? ⟨gx, 2, none⟩ = some (.bool op) ∧ W.cell? ⟨gx, 3, none⟩ = some (.bool cl) ∧ W.cell? ⟨gx, 4, none⟩ = some (.slice Al nd.length cl4)) := fun W hb =>
    ⟨(hb.cell (p := ⟨b, 0, none⟩) hbl).trans c0, (hb.cell (p := ⟨gx, 0, none⟩) hgx).trans x0, (hb.cell (p := ⟨gx, 1, none⟩) hgx).trans x1, (hb.cell (p := ⟨gx, 2, none⟩) hgx).trans x2, (hb.cell (p := ⟨gx, 3, none⟩) hgx).trans x3, (hb.cell (p := ⟨gx, 4, none⟩) hgx).trans x4⟩
  have HGX := Lib.hid hgx
  have HSB := Lib.hid hSB
  have HS := Lib.hid (hSB wA.drew hbd)
  clear hSB c0 c1 c2 bfz x0 x1 x2 x3 x4
  refine wp_region_N (fun W => W.cell? ⟨b, 0, none⟩ = some (.slice (some ⟨bp, 0, none⟩) Qs.length cap) ∧ W.cell? ⟨gx, 0, none⟩ = some (.int .u8 sg.toNat) ∧ W.cell? ⟨gx, 1, none⟩ = some (.int .i64 ff) ∧ W.cell? ⟨gx, 2, none⟩ = some (.bool op) ∧ W.cell? ⟨gx, 3, none⟩ = some (.bool cl) ∧ W.cell? ⟨gx, 4, none⟩ = some (.slice Al nd.length cl4)) (fun i => decide (i < 11)) (by kernel_rfl) ?_
  have hs0 : wA.heap.size ≤ wA.drew.heap.size := Nat.le_refl _
  have HPD := Lib.hid hPd
  have HBD := Lib.hid hbd
  clear hPd hbd
  generalize hwd : wA.drew = wd at *
  refine wpAnyN_take_at 0 10 (v := ?_) rfl rfl (by kernel_rfl) (by kernel_rfl) (by kernel_rfl) (by kernel_rfl) (by kernel_rfl) (fun _ _ _ h => h) (by rfl) ?_ HS.out ?_
  rotate_left
  · intro W hSw; (try dsimp only at hSw); obtain ⟨q0, q1, q2, q3, q4, q5⟩ := hSw; go_simp; (try with_reducible rfl)
  simp only [Act.put, List.setIfInBounds_toArray, List.set_cons_zero, List.set_cons_succ]
  refine wpAnyN_take_at 1 11 (v := ?_) rfl rfl (by kernel_rfl) (by kernel_rfl) (by kernel_rfl) (by kernel_rfl) (by kernel_rfl) (fun _ _ _ h => h) (by rfl) ?_ HS.out ?_
  rotate_left
  · intro W hSw; (try dsimp only at hSw); obtain ⟨q0, q1, q2, q3, q4, q5⟩ := hSw; go_simp; (try with_reducible rfl)
  simp only [Act.put, List.setIfInBounds_toArray, List.set_cons_zero, List.set_cons_succ]
  refine wpAnyN_take_at 2 12 (v := ?_) rfl rfl (by kernel_rfl) (by kernel_rfl) (by kernel_rfl) (by kernel_rfl) (by kernel_rfl) (fun _ _ _ h => h) (by rfl) ?_ HS.out ?_
  rotate_left
  · intro W hSw; (try dsimp only at hSw); obtain ⟨q0, q1, q2, q3, q4, q5⟩ := hSw; go_simp; (try with_reducible rfl)
  simp only [Act.put, List.setIfInBounds_toArray, List.set_cons_zero, List.set_cons_succ]
  refine wpAnyN_take_at 3 13 (v := ?_) rfl rfl (by kernel_rfl) (by kernel_rfl) (by kernel_rfl) (by kernel_rfl) (by kernel_rfl) (fun _ _ _ h => h) (by rfl) ?_ HS.out ?_
  rotate_left
  · intro W hSw; (try dsimp only at hSw); obtain ⟨q0, q1, q2, q3, q4, q5⟩ := hSw; go_simp; (try with_reducible rfl)
  simp only [Act.put, List.setIfInBounds_toArray, List.set_cons_zero, List.set_cons_succ]
  refine wpAnyN_take_at 4 14 (v := ?_) rfl rfl (by kernel_rfl) (by kernel_rfl) (by kernel_rfl) (by kernel_rfl) (by kernel_rfl) (fun _ _ _ h => h) (by rfl) ?_ HS.out ?_
  rotate_left
  · intro W hSw; (try dsimp only at hSw); obtain ⟨q0, q1, q2, q3, q4, q5⟩ := hSw; go_simp; (try with_reducible rfl)
  simp only [Act.put, List.setIfInBounds_toArray, List.set_cons_zero, List.set_cons_succ]
  refine wpAnyN_take_at 5 15 (v := ?_) rfl rfl (by kernel_rfl) (by kernel_rfl) (by kernel_rfl) (by kernel_rfl) (by kernel_rfl) (fun _ _ _ h => h) (by rfl) ?_ HS.out ?_
  rotate_left
  · intro W hSw; (try dsimp only at hSw); obtain ⟨q0, q1, q2, q3, q4, q5⟩ := hSw; go_simp; (try with_reducible rfl)
  simp only [Act.put, List.setIfInBounds_toArray, List.set_cons_zero, List.set_cons_succ]
  refine wpAnyN_take_at 6 16 (v := ?_) rfl rfl (by kernel_rfl) (by kernel_rfl) (by kernel_rfl) (by kernel_rfl) (by kernel_rfl) (fun _ _ _ h => h) (by rfl) ?_ HS.out ?_
  rotate_left
  · intro W hSw; (try dsimp only at hSw); obtain ⟨q0, q1, q2, q3, q4, q5⟩ := hSw; go_simp; (try with_reducible rfl)
  simp only [Act.put, List.setIfInBounds_toArray, List.set_cons_zero, List.set_cons_succ]
  refine wpAnyN_take_at 7 17 (v := ?_) rfl rfl (by kernel_rfl) (by kernel_rfl) (by kernel_rfl) (by kernel_rfl) (by kernel_rfl) (fun _ _ _ h => h) (by rfl) ?_ HS.out ?_
  rotate_left
  · intro W hSw; (try dsimp only at hSw); obtain ⟨q0, q1, q2, q3, q4, q5⟩ := hSw; go_simp; (try with_reducible rfl)
  simp only [Act.put, List.setIfInBounds_toArray, List.set_cons_zero, List.set_cons_succ]
  refine wpAnyN_take_at 8 18 (v := ?_) rfl rfl (by kernel_rfl) (by kernel_rfl) (by kernel_rfl) (by kernel_rfl) (by kernel_rfl) (fun _ _ _ h => h) (by rfl) ?_ HS.out ?_
  rotate_left
  · intro W hSw; (try dsimp only at hSw); obtain ⟨q0, q1, q2, q3, q4, q5⟩ := hSw; go_simp; (try with_reducible rfl)
  simp only [Act.put, List.setIfInBounds_toArray, List.set_cons_zero, List.set_cons_succ]
  have hal : Below wd.heap.size wd (wd.alloc (.cells (pmC (⟨⟨sg, ff, ff, op, cl, nd⟩, 0, []⟩, .slice Al nd.length cl4, .slice none 0 0)).toArray 57)) := (Below.refl _ wd).alloc (Nat.le_refl _) _
  have HSA := Lib.hid (HSB.out _ (HBD.out.trans (hal.mono (by omega))))
  have hP4 := HPD.out.below hal
  have hnc := elt_cells wd (pmC (⟨⟨sg, ff, ff, op, cl, nd⟩, 0, []⟩, .slice Al nd.length cl4, .slice none 0 0)) 57
  have HP4 := Lib.hid hP4
  have HAL := Lib.hid hal
  clear hP4 hal
  refine wpAnyN_one (i := 9) rfl (by kernel_rfl) (fun K hK => ?_)
  go_simp
  refine hK _ _ (fun _ => HSA.out) ?_
  clear hK
  (try simp only [Act.put, List.setIfInBounds_toArray, List.set_cons_zero, List.set_cons_succ])
  refine wpAnyN_one (i := 10) rfl (by kernel_rfl) (fun K hK => ?_)
  refine step_append_fits rfl (.tmp 14) (.tmp 19) 37 rfl bp 57 i0 8 Try.underlying37 hi hz1 bp Qs.length cap (flt pmC Qs) rfl HP4.out.row ⟨wd.heap.size, 0, none⟩ 1 1 (pmC (⟨⟨sg, ff, ff, op, cl, nd⟩, 0, []⟩, .slice Al nd.length cl4, .slice none 0 0)) rfl rfl hnc (by intro u hu; simp [pmC] at hu; rcases hu with rfl | rfl | rfl | rfl | rfl | rfl | rfl | rfl <;> rfl) hroom ?_
  intro w3 ho3 hg3
  obtain ⟨cur4, hcur4⟩ := HP4.out.rowObj
  have hgne : gx ≠ bp := fun e => by
    have h1 := HBX.out
    obtain ⟨cur, hc⟩ := HP.out.rowObj
    rw [e] at h1
    rw [hc] at h1
    injection h1 with h1
    injection h1 with _ h2
    exact absurd h2 (by decide)
  have hbne := HP4.out.b_ne
  have hS3 : (w3.cell? ⟨b, 0, none⟩ = some (.slice (some ⟨bp, 0, none⟩) Qs.length cap) ∧ w3.cell? ⟨gx, 0, none⟩ = some (.int .u8 sg.toNat) ∧ w3.cell? ⟨gx, 1, none⟩ = some (.int .i64 ff) ∧ w3.cell? ⟨gx, 2, none⟩ = some (.bool op) ∧ w3.cell? ⟨gx, 3, none⟩ = some (.bool cl) ∧ w3.cell? ⟨gx, 4, none⟩ = some (.slice Al nd.length cl4)) :=
    ⟨hg3.cell HSA.out.1 (fun e => hbne (Option.some.inj e)), hg3.cell HSA.out.2.1 (fun e => hgne (Option.some.inj e)), hg3.cell HSA.out.2.2.1 (fun e => hgne (Option.some.inj e)), hg3.cell HSA.out.2.2.2.1 (fun e => hgne (Option.some.inj e)), hg3.cell HSA.out.2.2.2.2.1 (fun e => hgne (Option.some.inj e)), hg3.cell HSA.out.2.2.2.2.2 (fun e => hgne (Option.some.inj e))⟩
  refine hK _ _ (fun _ => hS3) ?_
  clear hK
  (try simp only [Act.put, List.setIfInBounds_toArray, List.set_cons_zero, List.set_cons_succ])
  refine wpAnyN_rest 11 [_, _, _] rfl (by kernel_rfl) (by rfl) ?_
  obtain ⟨h5, g5⟩ := HP4.out.push (run_lt HH.out.run) hg3 ⟨rfl, rfl⟩ ho3
  have hb4 : KB B w w3 := (HKA.out.thenB (HBD.out.trans (HAL.out.mono (by omega))) (by omega)).grown hg3 (by have := HAL.out.size; omega) (HP4.out.row_bp hB.2.2.2)
  have hbx3 : w3.heap[gx]? = some (.cells #[.int .u8 sg.toNat, .int .i64 ff, .bool op, .bool cl, .slice Al nd.length cl4] 26 (0, 0)) := (hg3.block gx (Nat.lt_of_lt_of_le HGX.out (Nat.le_trans hs0 HAL.out.size)) (fun e => hgne (Option.some.inj e))).trans ((HAL.out.block gx (Nat.lt_of_lt_of_le HGX.out hs0)).trans ((HBD.out.block gx HGX.out).trans HBX.out))
  have hb5 : KB B w (w3.setCell ⟨b, 0, none⟩ (.slice (some ⟨bp, 0, none⟩) (Qs.length + 1) cap)) := hb4.grown g5 (by have := hb4.size; omega) (fun r e => by
    cases e
    refine ⟨hB.2.1, not_item_cells ((hg3.block b HP4.out.bcells.2.2.2.2 (fun e => hbne (Option.some.inj e))).trans HP4.out.blk) (by decide)⟩)
  have hs3 := hb4.size
  have hf3 : w3.frozen? ⟨b, 0, none⟩ = false := by
    have := (hg3.block b HP4.out.bcells.2.2.2.2 (fun e => hbne (Option.some.inj e))).trans HP4.out.blk
    simp [World.frozen?, this]
  obtain ⟨v0, v1, v2, v3, v4, v5⟩ := hS3
  have HH5 := Lib.hid h5
  have HG5 := Lib.hid g5
  have HB5 := Lib.hid hb5
  have hbx5 : (w3.setCell ⟨b, 0, none⟩ (.slice (some ⟨bp, 0, none⟩) (Qs.length + 1) cap)).heap[gx]? = some (.cells #[.int .u8 sg.toNat, .int .i64 ff, .bool op, .bool cl, .slice Al nd.length cl4] 26 (0, 0)) := (g5.block gx (Array.getElem?_eq_some_iff.1 hbx3).1 (fun e => by
    have h1 := HBX.out
    have h2 := HP.out.blk
    rw [← Option.some.inj e] at h2
    rw [h2] at h1
    injection h1 with h1
    injection h1 with _ h1
    exact absurd h1 (by decide))).trans hbx3
  have HBX5 := Lib.hid hbx5
  clear h5 g5 hb4 hb5 hbx3 hbx5 ho3 hg3 hcur4 HSA HP4 HAL hnc HPD HS
  go_upto_region 3 with fail
  obtain ⟨w4, hw4⟩ : ∃ w4, w4 = w3.setCell ⟨b, 0, none⟩ (.slice (some ⟨bp, 0, none⟩) (Qs.length + 1) cap) := ⟨_, rfl⟩
  rw [← hw4] at HH5 HB5 HBX5 ⊢
  clear v0 v1 v2 v3 v4 v5 hf3 hw4 HG5 HBX
  obtain ⟨⟨y0, y1, y2, y3, y4⟩, _⟩ := inl_box HBX5.out
  have hyb : PmB w0 ((⟨⟨sg, ff, ff, op, cl, nd⟩, 0, []⟩, .slice Al nd.length cl4, .slice none 0 0) : Pm) :=
    ⟨by show ff ≤ _; omega, fun _ => Int.le_refl _, by show ((0 : Nat) : Int) + max ff 0 ≤ _; omega, by show ((0 : Nat) : Int) + max ff 0 ≤ _; omega, by show ff ≤ _; omega, ⟨Al, cl4, rfl, hlv⟩, by intro z hz; cases hz⟩
  have hbds : ∀ x ∈ Qs ++ [((⟨⟨sg, ff, ff, op, cl, nd⟩, 0, []⟩, .slice Al nd.length cl4, .slice none 0 0) : Pm)], PmB w0 x := fun x hx => by
    rcases List.mem_append.1 hx with hx | hx
    · exact HH.out.bds x hx
    · rw [List.mem_singleton] at hx; subst hx; exact hyb
  have HBDS := Lib.hid hbds
  clear hyb hbds
  by_cases hs : sg = 0
  · have hsn : ((sg.toNat : Int) == 0) = true := by subst hs; rfl
    have hmay : mayOpen ⟨sg, ff, ff, op, cl, nd⟩ = false := by simp [mayOpen, hs]
    have hr := run_push HH.out.run (fun _ => rfl) (fun hc => absurd (canClose_pos hc).2.1 (by simp [hs]))
    rw [hmay] at hr
    have HR := Lib.hid hr
    clear hr hmay
    go_wp2
    go_end0
    exact ⟨rfl, ⟨_, ops, ⟨⟨n, D, ov, HH5.out, by have := HMM.out; rw [List.length_append]; omega⟩, by rw [List.map_append]; exact HR.out, HBDS.out⟩, by rw [List.length_append]; rfl⟩, HB5.out⟩
  · have hsn : ((sg.toNat : Int) == 0) = false := by
      have : sg.toNat ≠ 0 := fun e => hs (UInt8.toNat_inj.1 e)
      simp; omega
    have hcs : ClSt S r w0 b bp bm cap Qs.length Qs ((⟨⟨sg, ff, ff, op, cl, nd⟩, 0, []⟩, .slice Al nd.length cl4, .slice none 0 0) : Pm) ops w4 := ⟨⟨n, D, ov, HH5.out, HMM.out⟩, HH.out.run, HBDS.out, ⟨rfl, rfl⟩, rfl⟩
    have hs4 := HB5.out.size
    have HCS := Lib.hid hcs
    clear hcs
    go_upto_if 27 with fail
    go_cut [4] from 28 to 30 (fun s wx => s = .int .i64 Qs.length ∧ (∃ Qs' y' ops', ClSt S r w0 b bp bm cap Qs.length Qs' y' ops' wx ∧ (y'.1.it.sg = sg ∧ y'.1.it.ff = ff ∧ y'.1.it.op = op ∧ y'.1.it.cl = cl ∧ y'.1.it.nd = nd) ∧
      (canClose y'.1.it = true → ∀ k ∈ ops', ∀ p, (Qs'.map Prod.fst)[k]? = some p → fitI p.it y'.1.it = false)) ∧ KB B w wx ∧ wx.heap[gx]? = some (.cells #[.int .u8 sg.toNat, .int .i64 ff, .bool op, .bool cl, .slice Al nd.length cl4] 26 (0, 0)))
    case first =>
      cases cl with
      | true =>
        have hcl := close_any (B := B) HCS.out ⟨rfl, rfl, rfl, rfl, rfl⟩ hs rfl ⟨hB.1, hB.2.1, by omega, hB.2.2.2⟩
        go_wp2_with fail
        refine hcl.mono ?_
        rintro e w5 ⟨rfl, hex, hkb⟩
        have HE := Lib.hid hex
        have HK := Lib.hid hkb
        clear hex hkb
        go_wp2
        go_meet
        exact ⟨rfl, HE.out, HB5.out.trans HK.out, HK.out.items _ _ _ HBX5.out⟩
      | false =>
        go_wp2
        go_meet
        exact ⟨rfl, ⟨_, _, _, HCS.out, ⟨rfl, rfl, rfl, rfl, rfl⟩, fun hc => absurd (canClose_pos hc).2.2 (by simp)⟩, HB5.out, HBX5.out⟩
    case rest =>
    obtain ⟨rfl, ⟨Qs', y', ops', hC, hst, hno⟩, hkb, hbxc⟩ := hcut
    clear y0 y1 y2 y3 y4 HBX5 HB5 HCS HH5 HBDS HP HBD HA
    obtain ⟨⟨y0, y1, y2, y3, y4⟩, _, _, _, _, _⟩ := inl_box hbxc
    obtain ⟨n', D', ov', hP', hM'⟩ := hC.st
    have HM' := Lib.hid hM'
    clear hM'
    have hlen : (Qs' ++ [y']).length = Qs.length + 1 := by rw [List.length_append, hC.len]; rfl
    have hya : (Qs' ++ [y'])[Qs.length]? = some y' := by rw [List.getElem?_append_right (by rw [hC.len]; exact Nat.le_refl _), hC.len, Nat.sub_self]; rfl
    obtain ⟨c0, c1, c2, bfz, hbl⟩ := hP'.bcells
    obtain ⟨⟨r0, r1, r2, r3, r4, r5, r6, r7⟩, pfz, hbpl, hal⟩ := hP'.pcells hya
    rw [hlen] at c0
    have hsc := hkb.size
    have hql : ((Qs.length : Nat) : Int) < (Qs.length : Int) + 1 := by omega
    have HC := Lib.hid hC
    have HST := Lib.hid hst
    have HNO := Lib.hid hno
    have HKB := Lib.hid hkb
    have HP' := Lib.hid hP'
    have HYA := Lib.hid hya
    clear hC hst hno hkb hP' hya
    have hrun : Run S ((Qs' ++ [y']).map Prod.fst) 0 (if mayOpen y'.1.it then ops' ++ [Qs'.length] else ops') r := by
      have h1 := run_push HC.out.run (fun h0 => absurd (HST.out.1.symm.trans h0) hs) HNO.out
      have h2 : y'.1 = ⟨y'.1.it, y'.1.en, []⟩ := by
        obtain ⟨⟨it, en, bg⟩, lv, bv⟩ := y'
        have := HC.out.bg.1
        simp only at this
        subst this
        rfl
      rw [List.length_map] at h1
      rw [List.map_append, List.map_cons, List.map_nil, h2]
      exact h1
    have HR := Lib.hid hrun
    clear hrun
    by_cases hmay : mayOpen y'.1.it = true
    · have hn : 0 < y'.1.it.n := by simp [mayOpen] at hmay; exact hmay.2
      have hopT : op = true := by rw [← HST.out.2.2.1]; simp [mayOpen] at hmay; exact hmay.1.2
      subst hopT
      have HMAY := Lib.hid hmay
      clear hmay
      have hyb' := HC.out.bds y' (by simp)
      have hffn : 0 < ff := by have h1 := hyb'.n2 hn; rw [HST.out.2.1] at h1; omega
      have hol : ops'.length ≤ 2000 := by have h1 := HP'.out.cnt; rw [hlen] at h1; omega
      have hown : wc.ownsRow (bm + 1) 3 1 ov' ops'.length ((natI ops').map (Value.int .i64)) := by have h1 := HP'.out.own_ops.1; rwa [natI_length] at h1
      have hbase : bm + 1 ≤ wc.heap.size := by have := fam_lt HP'.out.fam; omega
      obtain ⟨j0, hj, hy0, hy1, hy2⟩ := info_parts infoInt
      have HOWN := Lib.hid hown
      have hwa : (Lit.int .i64 (Qs.length : Int)).wf = true := WalkArith.wf_i64 (by omega)
      clear hown hyb'
      go_wp2_with (at_builtin; refine wpList_append_own_at _ rfl _ _ 39 rfl (bm + 1) 3 j0 (.int .i64 0) 1 8 Try.underlying39 hj hy0 hy1 hy2 rfl (by decide) ov' ops'.length ((natI ops').map (Value.int .i64)) rfl (HOWN.out.alloc _) ⟨wc.heap.size, 0, none⟩ 1 1 [.int .i64 (Qs.length : Int)] rfl rfl (cell_one_new _ _ _) (by simp [Value.oneCell']) (by unfold maxLen; omega) (by omega) (by simp; omega) ?_)
      intro v' w5 hown' hgrow _ hat
      obtain ⟨gq, cq, rfl, _, _⟩ := hown'.form (by omega)
      have hg5 : wc.grownBy w5 ov'.ownBlock := (World.grownBy_alloc wc _ _).trans hgrow
      have ho5 : w5.ownsInts (bm + 1) 3 .i64 (.slice (some ⟨gq, 0, none⟩) (ops'.length + 1) cq) (natI (ops' ++ [Qs.length])) := by
        have h1 := HP'.out.own_ops.appended (x := (Qs.length : Int)) (v' := .slice (some ⟨gq, 0, none⟩) (ops'.length + 1) cq) (by rw [natI_length]; exact hown') hwa
        rw [natI_append]
        exact h1
      have hloc : (Value.slice (some ⟨gq, 0, none⟩) (ops'.length + 1) cq).ownBlock = ov'.ownBlock ∨ ∃ g, (Value.slice (some ⟨gq, 0, none⟩) (ops'.length + 1) cq).ownBlock = some g ∧ wc.heap.size ≤ g := by
        rcases hat with h | h
        · exact Or.inl h
        · exact Or.inr ⟨_, h, by simp⟩
      obtain ⟨h6, g6⟩ := HP'.out.openers hg5 ho5 hloc
      have hk5 : KB B w w5 := HKB.out.grown hg5 (by omega) (fun r e => ⟨by have := (HP'.out.own_ops.1.lt r e).1; omega, not_item_ints HP'.out.own_ops e⟩)
      have hb5 : w5.heap[b]? = wc.heap[b]? := hg5.block b hbl (fun e => ints_ne HP'.out.own_ops HP'.out.blk (by decide) e.symm)
      have hblk5 := hb5.trans HP'.out.blk
      have hk6 : KB B w (w5.setCell ⟨b, 1, none⟩ (.slice (some ⟨gq, 0, none⟩) (ops'.length + 1) cq)) := hk5.grown g6 (by have := hk5.size; omega) (fun r e => by cases e; exact ⟨hB.2.1, not_item_cells hblk5 (by decide)⟩)
      have hbx6 : (w5.setCell ⟨b, 1, none⟩ (.slice (some ⟨gq, 0, none⟩) (ops'.length + 1) cq)).heap[gx]? = some (.cells #[.int .u8 sg.toNat, .int .i64 ff, .bool true, .bool cl, .slice Al nd.length cl4] 26 (0, 0)) := by
        have h1 := hg5.block gx (Array.getElem?_eq_some_iff.1 hbxc).1 (fun e => ints_ne HP'.out.own_ops hbxc (by decide) e.symm)
        refine (g6.block gx (Array.getElem?_eq_some_iff.1 (h1.trans hbxc)).1 (fun e => ?_)).trans (h1.trans hbxc)
        have h2 := h1.trans hbxc
        rw [Option.some.inj e, hblk5] at h2
        injection h2 with h2
        injection h2 with _ h2
        exact absurd h2 (by decide)
      obtain ⟨d0, d1, _, _⟩ : w5.cell? ⟨b, 0, none⟩ = some (.slice (some ⟨bp, 0, none⟩) (Qs' ++ [y']).length cap) ∧ w5.cell? ⟨b, 1, none⟩ = some ov' ∧ w5.frozen? ⟨b, 1, none⟩ = false ∧ True :=
        ⟨(cell_of_row _ _ 0 _ _ (0, 0) hblk5).trans rfl, (cell_of_row _ _ 1 _ _ (0, 0) hblk5).trans rfl, by simp [World.frozen?, hblk5], trivial⟩
      have df1 : w5.frozen? ⟨b, 1, none⟩ = false := by simp [World.frozen?, hblk5]
      have HH6 := Lib.hid h6
      have HK6 := Lib.hid hk6
      have HBX6 := Lib.hid hbx6
      clear h6 g6 hk5 hb5 hblk5 hk6 hbx6 hown' hgrow hat hg5 ho5 hloc HOWN c0 c1 c2 bfz r0 r1 r2 r3 r4 r5 r6 r7 pfz y0 y1 y2 y3 y4 hbxc
      go_wp2_with fail
      obtain ⟨w6, hw6⟩ : ∃ w6, w6 = w5.setCell ⟨b, 1, none⟩ (.slice (some ⟨gq, 0, none⟩) (ops'.length + 1) cq) := ⟨_, rfl⟩
      rw [← hw6] at HH6 HK6 HBX6 ⊢
      clear d0 d1 df1 hw6
      have hbd : Below w6.heap.size w6 w6.drew := (Below.refl _ w6).drew
      have hd := HH6.out.below hbd
      have hbxd := (hbd.block gx (Array.getElem?_eq_some_iff.1 HBX6.out).1).trans HBX6.out
      have hkd := HK6.out.thenB hbd (by have := HK6.out.size; omega)
      refine wp_region_N (fun W => W.cell? ⟨b, 2, none⟩ = some (.map (some bm)) ∧ W.cell? ⟨gx, 0, none⟩ = some (.int .u8 sg.toNat) ∧ W.cell? ⟨gx, 1, none⟩ = some (.int .i64 ff) ∧ W.cell? ⟨gx, 2, none⟩ = some (.bool true) ∧ W.cell? ⟨gx, 3, none⟩ = some (.bool cl) ∧ W.cell? ⟨gx, 4, none⟩ = some (.slice Al nd.length cl4)) (fun i => decide (i < 16)) (by kernel_rfl) ?_
      generalize hwd : w6.drew = wd at *
      obtain ⟨c0, c1, c2, bfz, hbl⟩ := hd.bcells
      obtain ⟨⟨z0, z1, z2, z3, z4⟩, _⟩ := inl_box hbxd
      have hgxl := (Array.getElem?_eq_some_iff.1 hbxd).1
      have hSB : ∀ W : World, Below wd.heap.size wd W → (W.cell? ⟨b, 2, none⟩ = some (.map (some bm)) ∧ W.cell? ⟨gx, 0, none⟩ = some (.int .u8 sg.toNat) ∧ W.cell? ⟨gx, 1, none⟩ = some (.int .i64 ff) ∧ W.cell? ⟨gx, 2, none⟩ = some (.bool true) ∧ W.cell? ⟨gx, 3, none⟩ = some (.bool cl) ∧ W.cell? ⟨gx, 4, none⟩ = some (.slice Al nd.length cl4)) := fun W hb =>
        ⟨(hb.cell (p := ⟨b, 2, none⟩) hbl).trans c2, (hb.cell (p := ⟨gx, 0, none⟩) hgxl).trans z0, (hb.cell (p := ⟨gx, 1, none⟩) hgxl).trans z1, (hb.cell (p := ⟨gx, 2, none⟩) hgxl).trans z2, (hb.cell (p := ⟨gx, 3, none⟩) hgxl).trans z3, (hb.cell (p := ⟨gx, 4, none⟩) hgxl).trans z4⟩
      have HSB := Lib.hid hSB
      have HS := Lib.hid (hSB wd (Below.refl _ _))
      have hck := fun W => kindOf_any ⟨sg, ff, ff, true, cl, nd⟩ (.slice Al nd.length cl4) W
      unfold itV kV kindV at hck
      simp only [Bool.true_and] at hck
      have hrr := em_tmod ff
      have hzs0 := hd.kd.2 sg cl (ff.tmod 3) hrr.1 hrr.2
      have hxp : ((Qs' ++ [y']).map Prod.fst)[Qs.length]? = some y'.1 := by rw [List.getElem?_map, HYA.out]; rfl
      have hlastK := opsK_last (l := ops') hxp
      have hotherK := fun s2 b2 r2 h => opsK_other (l := ops') hxp s2 b2 r2 h
      rw [HST.out.1, HST.out.2.1, HST.out.2.2.1, HST.out.2.2.2.1] at hlastK
      simp only [HST.out.1, HST.out.2.1, HST.out.2.2.1, HST.out.2.2.2.1, Bool.true_and] at hotherK
      simp only [Bool.true_and] at hlastK
      generalize ff.tmod 3 = rr at *
      obtain ⟨gv, zs, hrun, hat, hoi, hzl, hback, hsh⟩ := groups_look hd.fam.grp (by have h1 := hd.cnt; rw [hlen] at h1; unfold maxLen; omega) sg cl rr hrr
      rw [hat, zsOf_row hoi] at hzs0
      have hFl : opsK ((Qs' ++ [y']).map Prod.fst) ops' sg cl rr = natI (ops'.filter (kAt ((Qs' ++ [y']).map Prod.fst) sg cl rr)) := rfl
      generalize ops'.filter (kAt ((Qs' ++ [y']).map Prod.fst) sg cl rr) = F at *
      rw [hFl] at hzs0
      subst hzs0
      rw [natI_length] at hzl
      have hcnt := hd.cnt
      rw [hlen] at hcnt
      have hzl2 : F.length + 1 ≤ 5000 := by omega
      unfold kindV at hrun
      have HRUN := Lib.hid hrun
      have HD := Lib.hid hd
      have HOI := Lib.hid hoi
      have HBK := Lib.hid hback
      have HSH := Lib.hid hsh
      have HKD := Lib.hid hkd
      have HBXD := Lib.hid hbxd
      have HLK := Lib.hid hlastK
      have HOK := Lib.hid hotherK
      have hbW0 : Below wd.heap.size wd wd := Below.refl _ _
      clear hrun hd hoi hback hsh hkd hbxd hlastK hotherK hSB c0 c1 c2 bfz z0 z1 z2 z3 z4 hbd HH6 HK6 HBX6 hwd hat hFl hxp
      refine wpAnyN_take_at 0 54 (v := ?_) rfl rfl (by kernel_rfl) (by kernel_rfl) (by kernel_rfl) (by kernel_rfl) (by kernel_rfl) (fun _ _ _ h => h) (by rfl) ?_ HS.out ?_
      rotate_left
      · intro W hSw; (try dsimp only at hSw); obtain ⟨q0, q1, q2, q3, q4, q5⟩ := hSw; go_simp; (try with_reducible rfl)
      simp only [Act.put, List.setIfInBounds_toArray, List.set_cons_zero, List.set_cons_succ]
      refine wpAnyN_take_at 1 55 (v := ?_) rfl rfl (by kernel_rfl) (by kernel_rfl) (by kernel_rfl) (by kernel_rfl) (by kernel_rfl) (fun _ _ _ h => h) (by rfl) ?_ HS.out ?_
      rotate_left
      · intro W hSw; (try dsimp only at hSw); obtain ⟨q0, q1, q2, q3, q4, q5⟩ := hSw; go_simp; (try with_reducible rfl)
      simp only [Act.put, List.setIfInBounds_toArray, List.set_cons_zero, List.set_cons_succ]
      refine wpAnyN_take_at 2 56 (v := ?_) rfl rfl (by kernel_rfl) (by kernel_rfl) (by kernel_rfl) (by kernel_rfl) (by kernel_rfl) (fun _ _ _ h => h) (by rfl) ?_ HS.out ?_
      rotate_left
      · intro W hSw; (try dsimp only at hSw); obtain ⟨q0, q1, q2, q3, q4, q5⟩ := hSw; go_simp; (try with_reducible rfl)
      simp only [Act.put, List.setIfInBounds_toArray, List.set_cons_zero, List.set_cons_succ]
      refine wpAnyN_take_at 3 57 (v := ?_) rfl rfl (by kernel_rfl) (by kernel_rfl) (by kernel_rfl) (by kernel_rfl) (by kernel_rfl) (fun _ _ _ h => h) (by rfl) ?_ HS.out ?_
      rotate_left
      · intro W hSw; (try dsimp only at hSw); obtain ⟨q0, q1, q2, q3, q4, q5⟩ := hSw; go_simp; (try with_reducible rfl)
      simp only [Act.put, List.setIfInBounds_toArray, List.set_cons_zero, List.set_cons_succ]
      refine wpAnyN_take_at 4 58 (v := ?_) rfl rfl (by kernel_rfl) (by kernel_rfl) (by kernel_rfl) (by kernel_rfl) (by kernel_rfl) (fun _ _ _ h => h) (by rfl) ?_ HS.out ?_
      rotate_left
      · intro W hSw; (try dsimp only at hSw); obtain ⟨q0, q1, q2, q3, q4, q5⟩ := hSw; go_simp; (try with_reducible rfl)
      simp only [Act.put, List.setIfInBounds_toArray, List.set_cons_zero, List.set_cons_succ]
      refine wpAnyN_take_at 6 60 (v := ?_) rfl rfl (by kernel_rfl) (by kernel_rfl) (by kernel_rfl) (by kernel_rfl) (by kernel_rfl) (fun _ _ _ h => h) (by rfl) ?_ HS.out ?_
      rotate_left
      · intro W hSw; (try dsimp only at hSw); obtain ⟨q0, q1, q2, q3, q4, q5⟩ := hSw; go_simp; (try with_reducible rfl)
      simp only [Act.put, List.setIfInBounds_toArray, List.set_cons_zero, List.set_cons_succ]
      refine wpAnyN_take_at 7 61 (v := ?_) rfl rfl (by kernel_rfl) (by kernel_rfl) (by kernel_rfl) (by kernel_rfl) (by kernel_rfl) (fun _ _ _ h => h) (by rfl) ?_ HS.out ?_
      rotate_left
      · intro W hSw; (try dsimp only at hSw); obtain ⟨q0, q1, q2, q3, q4, q5⟩ := hSw; go_simp; (try with_reducible rfl)
      simp only [Act.put, List.setIfInBounds_toArray, List.set_cons_zero, List.set_cons_succ]
      refine wpAnyN_take_at 8 62 (v := ?_) rfl rfl (by kernel_rfl) (by kernel_rfl) (by kernel_rfl) (by kernel_rfl) (by kernel_rfl) (fun _ _ _ h => h) (by rfl) ?_ HS.out ?_
      rotate_left
      · intro W hSw; (try dsimp only at hSw); obtain ⟨q0, q1, q2, q3, q4, q5⟩ := hSw; go_simp; (try with_reducible rfl)
      simp only [Act.put, List.setIfInBounds_toArray, List.set_cons_zero, List.set_cons_succ]
      refine wpAnyN_take_at 9 63 (v := ?_) rfl rfl (by kernel_rfl) (by kernel_rfl) (by kernel_rfl) (by kernel_rfl) (by kernel_rfl) (fun _ _ _ h => h) (by rfl) ?_ HS.out ?_
      rotate_left
      · intro W hSw; (try dsimp only at hSw); obtain ⟨q0, q1, q2, q3, q4, q5⟩ := hSw; go_simp; (try with_reducible rfl)
      simp only [Act.put, List.setIfInBounds_toArray, List.set_cons_zero, List.set_cons_succ]
      refine wpAnyN_take_at 10 64 (v := ?_) rfl rfl (by kernel_rfl) (by kernel_rfl) (by kernel_rfl) (by kernel_rfl) (by kernel_rfl) (fun _ _ _ h => h) (by rfl) ?_ HS.out ?_
      rotate_left
      · intro W hSw; (try dsimp only at hSw); obtain ⟨q0, q1, q2, q3, q4, q5⟩ := hSw; go_simp; (try with_reducible rfl)
      simp only [Act.put, List.setIfInBounds_toArray, List.set_cons_zero, List.set_cons_succ]
      refine wpAnyN_take_at 13 67 (v := ?_) rfl rfl (by kernel_rfl) (by kernel_rfl) (by kernel_rfl) (by kernel_rfl) (by kernel_rfl) (fun _ _ _ h => h) (by rfl) ?_ HS.out ?_
      rotate_left
      · intro W hSw; (try dsimp only at hSw); obtain ⟨q0, q1, q2, q3, q4, q5⟩ := hSw; go_simp; (try with_reducible rfl)
      simp only [Act.put, List.setIfInBounds_toArray, List.set_cons_zero, List.set_cons_succ]
      refine wpAnyN_two (i := 5) (j := 14) rfl rfl (by kernel_rfl) (fun K hK => ?_) (fun K hK => ?_)
      · go_simp
        refine (hck _).mono ?_
        rintro e k1 ⟨rfl, b1⟩
        have hbW1 : Below wd.heap.size wd k1 := hbW0.trans (b1.mono hbW0.size)
        refine hK _ _ (fun _ => HSB.out _ hbW1) ?_
        clear hK
        (try simp only [Act.put, List.setIfInBounds_toArray, List.set_cons_zero, List.set_cons_succ])
        refine wpAnyN_two (i := 11) (j := 14) rfl rfl (by kernel_rfl) (fun K hK => ?_) (fun K hK => ?_)
        · go_simp
          refine (hck _).mono ?_
          rintro e k2 ⟨rfl, b2⟩
          have hbW2 : Below wd.heap.size wd k2 := hbW1.trans (b2.mono hbW1.size)
          refine hK _ _ (fun _ => HSB.out _ hbW2) ?_
          clear hK
          (try simp only [Act.put, List.setIfInBounds_toArray, List.set_cons_zero, List.set_cons_succ])
          refine wpAnyN_two (i := 12) (j := 14) rfl rfl (by kernel_rfl) (fun K hK => ?_) (fun K hK => ?_)
          · have hlk3 := HRUN.out k2 (hbW2.block bm (fam_lt HD.out.fam))
            go_simp
            have hbW3 := hbW2
            refine hK _ _ (fun _ => HSB.out _ hbW3) ?_
            clear hK
            (try simp only [Act.put, List.setIfInBounds_toArray, List.set_cons_zero, List.set_cons_succ])
            refine wpAnyN_one (i := 14) rfl (by kernel_rfl) (fun K hK => ?_)
            have hbW4 := hbW3.alloc hbW3.size (.cells #[.int .i64 (Qs.length : Int)] 3)
            have hqW4 := heap_alloc_new k2 (.cells #[.int .i64 (Qs.length : Int)] 3)
            go_simp
            refine hK _ _ (fun _ => HSB.out _ hbW4) ?_
            clear hK
            (try simp only [Act.put, List.setIfInBounds_toArray, List.set_cons_zero, List.set_cons_succ])
            have hoW := ownsRow_below HOI.out.1 (hbW4.trans (Below.refl _ _))
            rw [natI_length] at hoW
            have hsz := hbW4.size
            have hnews : ∀ j u, [Value.int .i64 (Qs.length : Int)][j]? = some u → (k2.alloc (.cells #[.int .i64 (Qs.length : Int)] 3)).cell? ((⟨k2.heap.size, 0, none⟩ : Addr).add j) = some u := fun j u hu => by
              rw [addr_add, cell_of_row _ _ _ _ _ (0, 0) hqW4, Nat.zero_add]
              simpa using hu
            refine wpAnyN_one (i := 15) rfl (by kernel_rfl) (fun K hK => ?_)
            refine step_append_lies _ rfl (.tmp 66) (.tmp 68) 39 rfl (bm + 1) 3 j0 (.int .i64 0) 1 8 Try.underlying39 hj hy0 hy1 hy2 rfl (by decide) gv F.length ((natI F).map (Value.int .i64)) rfl hoW ⟨k2.heap.size, 0, none⟩ 1 1 [.int .i64 (Qs.length : Int)] rfl rfl hnews (by simp [Value.oneCell']) (by omega) (by unfold maxLen; omega) (by omega) (by have := fam_lt HD.out.fam; omega) _ rfl ?_
            intro g7 c7 w7 ho7 hg7 hat7 hlt7
            have hS0 := HSB.out _ hbW4
            have hblkW := (hbW4.block b hbl).trans HD.out.blk
            have hbxW := (hbW4.block gx hgxl).trans HBXD.out
            have hoiW : (k2.alloc (.cells #[.int .i64 (Qs.length : Int)] 3)).ownsInts (bm + 1) 3 .i64 gv (natI F) := ⟨by rw [natI_length]; exact hoW, HOI.out.2⟩
            have n1 := ints_ne hoiW hblkW (by decide)
            have n2 := ints_ne hoiW hbxW (by decide)
            refine hK _ _ (fun _ => ⟨hg7.cell hS0.1 (fun e => n1 e.symm), hg7.cell hS0.2.1 (fun e => n2 e.symm), hg7.cell hS0.2.2.1 (fun e => n2 e.symm), hg7.cell hS0.2.2.2.1 (fun e => n2 e.symm), hg7.cell hS0.2.2.2.2.1 (fun e => n2 e.symm), hg7.cell hS0.2.2.2.2.2 (fun e => n2 e.symm)⟩) ?_
            clear hK
            (try simp only [Act.put, List.setIfInBounds_toArray, List.set_cons_zero, List.set_cons_succ])
            have ho7' : w7.ownsInts (bm + 1) 3 .i64 (.slice (some ⟨g7, 0, none⟩) (F.length + 1) c7) (natI (F ++ [Qs.length])) := by
              have h1 := hoiW.appended (x := (Qs.length : Int)) (v' := .slice (some ⟨g7, 0, none⟩) (F.length + 1) c7) (by rw [natI_length]; exact ho7) hwa
              rw [natI_append]
              exact h1
            have hg7' : wd.grownBy w7 gv.ownBlock := (grownBy_of_below hbW4 _).trans hg7
            have hloc7 : (Value.slice (some ⟨g7, 0, none⟩) (F.length + 1) c7).ownBlock = gv.ownBlock ∨ ∃ g, (Value.slice (some ⟨g7, 0, none⟩) (F.length + 1) c7).ownBlock = some g ∧ wd.heap.size ≤ g := by
              rcases hat7 with h | h
              · exact Or.inl h.symm
              · exact Or.inr ⟨g7, rfl, by rw [h]; exact hsz⟩
            obtain ⟨w8, hup, hgr8, hgb8, hsh8⟩ := groups_store HD.out.fam.grp (by unfold maxLen; omega) hrr HOI.out HBK.out hg7' ho7' (by rw [natI_length, List.length_append, List.length_singleton]; omega) hloc7 HD.out.fam.shun (fun g' hg' hx => by
              rcases hat7 with h | h
              · exact HSH.out _ HD.out.fam.shun g' (by rw [h]; exact hg') hx
              · obtain ⟨z, hz, hzz⟩ := hx
                have h1 : g' < wd.heap.size := ((HD.out.fam.own z hz).1.lt g' hzz).2
                have e7 : g7 = g' := Option.some.inj hg'
                omega)
            have hd8 := HD.out.kinds (opsM' := ops' ++ [Qs.length]) HOI.out HSH.out hg7' hgb8 hgr8 hsh8 (HD.out.kd.put hrr _ (opsK ((Qs' ++ [y']).map Prod.fst) (ops' ++ [Qs.length])) (by rw [zsOf_row ho7', HLK.out]) (fun s2 b2 r2 hne => HOK.out s2 b2 r2 hne)) (by have h1 := HM'.out; rw [hlen, List.length_append, List.length_singleton]; omega)
            have hk8 : KB B w w8 := (((HKD.out.thenB hbW4 (by have := HKD.out.size; omega)).grown hg7 (by have := HKD.out.size; omega) (fun r e => ⟨by have := (hoiW.1.lt r e).1; omega, not_item_ints hoiW e⟩))).grown hgb8 (by have := HKD.out.size; have := hg7.size; omega) (fun r e => by
              cases e
              obtain ⟨es, clock, hm⟩ := fam_map HD.out.fam
              exact ⟨hB.1, not_item_map ((hg7'.block bm (fam_lt HD.out.fam) (fun e => ints_ne_map HOI.out hm e.symm)).trans hm)⟩)
            have HE := Lib.hid (show PtEnd S r w0 b bp bm cap B Qs.length w (.returned (.tuple #[])) w8 from ⟨rfl, ⟨_, ops' ++ [Qs.length], ⟨⟨_, _, _, hd8, by have h1 := HM'.out; rw [hlen, List.length_append, List.length_singleton]; omega⟩, by have h1 := HR.out; rw [HMAY.out, if_pos rfl, HC.out.len] at h1; exact h1, HC.out.bds⟩, by rw [List.length_append, HC.out.len]; rfl⟩, hk8⟩)
            unfold kindV at hup
            clear hd8 hk8 hgr8 hgb8 hsh8 ho7 hg7 hat7 ho7' hg7' hloc7 hS0 hblkW hbxW hoiW n1 n2 hoW hnews
            refine wpAnyN_one (i := 16) rfl (by kernel_rfl) (fun K hK => ?_)
            go_simp
            refine hK _ _ (fun h => absurd h (by decide)) ?_
            clear hK hup
            (try simp only [Act.put, List.setIfInBounds_toArray, List.set_cons_zero, List.set_cons_succ])
            refine wpAnyN_rest 17 [] rfl (by kernel_rfl) (by rfl) ?_
            go_wp2
            go_end0
            exact HE.out
          · have hbW5 := hbW2.alloc hbW2.size (.cells #[.int .i64 (Qs.length : Int)] 3)
            have hqW5 := heap_alloc_new k2 (.cells #[.int .i64 (Qs.length : Int)] 3)
            go_simp
            refine hK _ _ (fun _ => HSB.out _ hbW5) ?_
            clear hK
            (try simp only [Act.put, List.setIfInBounds_toArray, List.set_cons_zero, List.set_cons_succ])
            refine wpAnyN_one (i := 12) rfl (by kernel_rfl) (fun K hK => ?_)
            have hlk6 := HRUN.out (k2.alloc (.cells #[.int .i64 (Qs.length : Int)] 3)) (hbW5.block bm (fam_lt HD.out.fam))
            go_simp
            have hbW6 := hbW5
            refine hK _ _ (fun _ => HSB.out _ hbW6) ?_
            clear hK
            (try simp only [Act.put, List.setIfInBounds_toArray, List.set_cons_zero, List.set_cons_succ])
            have hoW := ownsRow_below HOI.out.1 (hbW6.trans (Below.refl _ _))
            rw [natI_length] at hoW
            have hsz := hbW6.size
            have hnews : ∀ j u, [Value.int .i64 (Qs.length : Int)][j]? = some u → (k2.alloc (.cells #[.int .i64 (Qs.length : Int)] 3)).cell? ((⟨k2.heap.size, 0, none⟩ : Addr).add j) = some u := fun j u hu => by
              rw [addr_add, cell_of_row _ _ _ _ _ (0, 0) hqW5, Nat.zero_add]
              simpa using hu
            refine wpAnyN_one (i := 15) rfl (by kernel_rfl) (fun K hK => ?_)
            refine step_append_lies _ rfl (.tmp 66) (.tmp 68) 39 rfl (bm + 1) 3 j0 (.int .i64 0) 1 8 Try.underlying39 hj hy0 hy1 hy2 rfl (by decide) gv F.length ((natI F).map (Value.int .i64)) rfl hoW ⟨k2.heap.size, 0, none⟩ 1 1 [.int .i64 (Qs.length : Int)] rfl rfl hnews (by simp [Value.oneCell']) (by omega) (by unfold maxLen; omega) (by omega) (by have := fam_lt HD.out.fam; omega) _ rfl ?_
            intro g7 c7 w7 ho7 hg7 hat7 hlt7
            have hS0 := HSB.out _ hbW6
            have hblkW := (hbW6.block b hbl).trans HD.out.blk
            have hbxW := (hbW6.block gx hgxl).trans HBXD.out
            have hoiW : (k2.alloc (.cells #[.int .i64 (Qs.length : Int)] 3)).ownsInts (bm + 1) 3 .i64 gv (natI F) := ⟨by rw [natI_length]; exact hoW, HOI.out.2⟩
            have n1 := ints_ne hoiW hblkW (by decide)
            have n2 := ints_ne hoiW hbxW (by decide)
            refine hK _ _ (fun _ => ⟨hg7.cell hS0.1 (fun e => n1 e.symm), hg7.cell hS0.2.1 (fun e => n2 e.symm), hg7.cell hS0.2.2.1 (fun e => n2 e.symm), hg7.cell hS0.2.2.2.1 (fun e => n2 e.symm), hg7.cell hS0.2.2.2.2.1 (fun e => n2 e.symm), hg7.cell hS0.2.2.2.2.2 (fun e => n2 e.symm)⟩) ?_
            clear hK
            (try simp only [Act.put, List.setIfInBounds_toArray, List.set_cons_zero, List.set_cons_succ])
            have ho7' : w7.ownsInts (bm + 1) 3 .i64 (.slice (some ⟨g7, 0, none⟩) (F.length + 1) c7) (natI (F ++ [Qs.length])) := by
              have h1 := hoiW.appended (x := (Qs.length : Int)) (v' := .slice (some ⟨g7, 0, none⟩) (F.length + 1) c7) (by rw [natI_length]; exact ho7) hwa
              rw [natI_append]
              exact h1
            have hg7' : wd.grownBy w7 gv.ownBlock := (grownBy_of_below hbW6 _).trans hg7
            have hloc7 : (Value.slice (some ⟨g7, 0, none⟩) (F.length + 1) c7).ownBlock = gv.ownBlock ∨ ∃ g, (Value.slice (some ⟨g7, 0, none⟩) (F.length + 1) c7).ownBlock = some g ∧ wd.heap.size ≤ g := by
              rcases hat7 with h | h
              · exact Or.inl h.symm
              · exact Or.inr ⟨g7, rfl, by rw [h]; exact hsz⟩
            obtain ⟨w8, hup, hgr8, hgb8, hsh8⟩ := groups_store HD.out.fam.grp (by unfold maxLen; omega) hrr HOI.out HBK.out hg7' ho7' (by rw [natI_length, List.length_append, List.length_singleton]; omega) hloc7 HD.out.fam.shun (fun g' hg' hx => by
              rcases hat7 with h | h
              · exact HSH.out _ HD.out.fam.shun g' (by rw [h]; exact hg') hx
              · obtain ⟨z, hz, hzz⟩ := hx
                have h1 : g' < wd.heap.size := ((HD.out.fam.own z hz).1.lt g' hzz).2
                have e7 : g7 = g' := Option.some.inj hg'
                omega)
            have hd8 := HD.out.kinds (opsM' := ops' ++ [Qs.length]) HOI.out HSH.out hg7' hgb8 hgr8 hsh8 (HD.out.kd.put hrr _ (opsK ((Qs' ++ [y']).map Prod.fst) (ops' ++ [Qs.length])) (by rw [zsOf_row ho7', HLK.out]) (fun s2 b2 r2 hne => HOK.out s2 b2 r2 hne)) (by have h1 := HM'.out; rw [hlen, List.length_append, List.length_singleton]; omega)
            have hk8 : KB B w w8 := (((HKD.out.thenB hbW6 (by have := HKD.out.size; omega)).grown hg7 (by have := HKD.out.size; omega) (fun r e => ⟨by have := (hoiW.1.lt r e).1; omega, not_item_ints hoiW e⟩))).grown hgb8 (by have := HKD.out.size; have := hg7.size; omega) (fun r e => by
              cases e
              obtain ⟨es, clock, hm⟩ := fam_map HD.out.fam
              exact ⟨hB.1, not_item_map ((hg7'.block bm (fam_lt HD.out.fam) (fun e => ints_ne_map HOI.out hm e.symm)).trans hm)⟩)
            have HE := Lib.hid (show PtEnd S r w0 b bp bm cap B Qs.length w (.returned (.tuple #[])) w8 from ⟨rfl, ⟨_, ops' ++ [Qs.length], ⟨⟨_, _, _, hd8, by have h1 := HM'.out; rw [hlen, List.length_append, List.length_singleton]; omega⟩, by have h1 := HR.out; rw [HMAY.out, if_pos rfl, HC.out.len] at h1; exact h1, HC.out.bds⟩, by rw [List.length_append, HC.out.len]; rfl⟩, hk8⟩)
            unfold kindV at hup
            clear hd8 hk8 hgr8 hgb8 hsh8 ho7 hg7 hat7 ho7' hg7' hloc7 hS0 hblkW hbxW hoiW n1 n2 hoW hnews
            refine wpAnyN_one (i := 16) rfl (by kernel_rfl) (fun K hK => ?_)
            go_simp
            refine hK _ _ (fun h => absurd h (by decide)) ?_
            clear hK hup
            (try simp only [Act.put, List.setIfInBounds_toArray, List.set_cons_zero, List.set_cons_succ])
            refine wpAnyN_rest 17 [] rfl (by kernel_rfl) (by rfl) ?_
            go_wp2
            go_end0
            exact HE.out
        · have hbW7 := hbW1.alloc hbW1.size (.cells #[.int .i64 (Qs.length : Int)] 3)
          have hqW7 := heap_alloc_new k1 (.cells #[.int .i64 (Qs.length : Int)] 3)
          go_simp
          refine hK _ _ (fun _ => HSB.out _ hbW7) ?_
          clear hK
          (try simp only [Act.put, List.setIfInBounds_toArray, List.set_cons_zero, List.set_cons_succ])
          refine wpAnyN_one (i := 11) rfl (by kernel_rfl) (fun K hK => ?_)
          go_simp
          refine (hck _).mono ?_
          rintro e k8 ⟨rfl, b8⟩
          have hbW8 : Below wd.heap.size wd k8 := hbW7.trans (b8.mono hbW7.size)
          have hqW8 := (b8.block _ (Array.getElem?_eq_some_iff.1 hqW7).1).trans hqW7
          refine hK _ _ (fun _ => HSB.out _ hbW8) ?_
          clear hK
          (try simp only [Act.put, List.setIfInBounds_toArray, List.set_cons_zero, List.set_cons_succ])
          refine wpAnyN_one (i := 12) rfl (by kernel_rfl) (fun K hK => ?_)
          have hlk9 := HRUN.out k8 (hbW8.block bm (fam_lt HD.out.fam))
          go_simp
          have hbW9 := hbW8
          refine hK _ _ (fun _ => HSB.out _ hbW9) ?_
          clear hK
          (try simp only [Act.put, List.setIfInBounds_toArray, List.set_cons_zero, List.set_cons_succ])
          have hoW := ownsRow_below HOI.out.1 (hbW9.trans (Below.refl _ _))
          rw [natI_length] at hoW
          have hsz := hbW9.size
          have hnews : ∀ j u, [Value.int .i64 (Qs.length : Int)][j]? = some u → k8.cell? ((⟨k1.heap.size, 0, none⟩ : Addr).add j) = some u := fun j u hu => by
            rw [addr_add, cell_of_row _ _ _ _ _ (0, 0) hqW8, Nat.zero_add]
            simpa using hu
          refine wpAnyN_one (i := 15) rfl (by kernel_rfl) (fun K hK => ?_)
          refine step_append_lies _ rfl (.tmp 66) (.tmp 68) 39 rfl (bm + 1) 3 j0 (.int .i64 0) 1 8 Try.underlying39 hj hy0 hy1 hy2 rfl (by decide) gv F.length ((natI F).map (Value.int .i64)) rfl hoW ⟨k1.heap.size, 0, none⟩ 1 1 [.int .i64 (Qs.length : Int)] rfl rfl hnews (by simp [Value.oneCell']) (by omega) (by unfold maxLen; omega) (by omega) (by have := fam_lt HD.out.fam; omega) _ rfl ?_
          intro g7 c7 w7 ho7 hg7 hat7 hlt7
          have hS0 := HSB.out _ hbW9
          have hblkW := (hbW9.block b hbl).trans HD.out.blk
          have hbxW := (hbW9.block gx hgxl).trans HBXD.out
          have hoiW : k8.ownsInts (bm + 1) 3 .i64 gv (natI F) := ⟨by rw [natI_length]; exact hoW, HOI.out.2⟩
          have n1 := ints_ne hoiW hblkW (by decide)
          have n2 := ints_ne hoiW hbxW (by decide)
          refine hK _ _ (fun _ => ⟨hg7.cell hS0.1 (fun e => n1 e.symm), hg7.cell hS0.2.1 (fun e => n2 e.symm), hg7.cell hS0.2.2.1 (fun e => n2 e.symm), hg7.cell hS0.2.2.2.1 (fun e => n2 e.symm), hg7.cell hS0.2.2.2.2.1 (fun e => n2 e.symm), hg7.cell hS0.2.2.2.2.2 (fun e => n2 e.symm)⟩) ?_
          clear hK
          (try simp only [Act.put, List.setIfInBounds_toArray, List.set_cons_zero, List.set_cons_succ])
          have ho7' : w7.ownsInts (bm + 1) 3 .i64 (.slice (some ⟨g7, 0, none⟩) (F.length + 1) c7) (natI (F ++ [Qs.length])) := by
            have h1 := hoiW.appended (x := (Qs.length : Int)) (v' := .slice (some ⟨g7, 0, none⟩) (F.length + 1) c7) (by rw [natI_length]; exact ho7) hwa
            rw [natI_append]
            exact h1
          have hg7' : wd.grownBy w7 gv.ownBlock := (grownBy_of_below hbW9 _).trans hg7
          have hloc7 : (Value.slice (some ⟨g7, 0, none⟩) (F.length + 1) c7).ownBlock = gv.ownBlock ∨ ∃ g, (Value.slice (some ⟨g7, 0, none⟩) (F.length + 1) c7).ownBlock = some g ∧ wd.heap.size ≤ g := by
            rcases hat7 with h | h
            · exact Or.inl h.symm
            · exact Or.inr ⟨g7, rfl, by rw [h]; exact hsz⟩
          obtain ⟨w8, hup, hgr8, hgb8, hsh8⟩ := groups_store HD.out.fam.grp (by unfold maxLen; omega) hrr HOI.out HBK.out hg7' ho7' (by rw [natI_length, List.length_append, List.length_singleton]; omega) hloc7 HD.out.fam.shun (fun g' hg' hx => by
            rcases hat7 with h | h
            · exact HSH.out _ HD.out.fam.shun g' (by rw [h]; exact hg') hx
            · obtain ⟨z, hz, hzz⟩ := hx
              have h1 : g' < wd.heap.size := ((HD.out.fam.own z hz).1.lt g' hzz).2
              have e7 : g7 = g' := Option.some.inj hg'
              omega)
          have hd8 := HD.out.kinds (opsM' := ops' ++ [Qs.length]) HOI.out HSH.out hg7' hgb8 hgr8 hsh8 (HD.out.kd.put hrr _ (opsK ((Qs' ++ [y']).map Prod.fst) (ops' ++ [Qs.length])) (by rw [zsOf_row ho7', HLK.out]) (fun s2 b2 r2 hne => HOK.out s2 b2 r2 hne)) (by have h1 := HM'.out; rw [hlen, List.length_append, List.length_singleton]; omega)
          have hk8 : KB B w w8 := (((HKD.out.thenB hbW9 (by have := HKD.out.size; omega)).grown hg7 (by have := HKD.out.size; omega) (fun r e => ⟨by have := (hoiW.1.lt r e).1; omega, not_item_ints hoiW e⟩))).grown hgb8 (by have := HKD.out.size; have := hg7.size; omega) (fun r e => by
            cases e
            obtain ⟨es, clock, hm⟩ := fam_map HD.out.fam
            exact ⟨hB.1, not_item_map ((hg7'.block bm (fam_lt HD.out.fam) (fun e => ints_ne_map HOI.out hm e.symm)).trans hm)⟩)
          have HE := Lib.hid (show PtEnd S r w0 b bp bm cap B Qs.length w (.returned (.tuple #[])) w8 from ⟨rfl, ⟨_, ops' ++ [Qs.length], ⟨⟨_, _, _, hd8, by have h1 := HM'.out; rw [hlen, List.length_append, List.length_singleton]; omega⟩, by have h1 := HR.out; rw [HMAY.out, if_pos rfl, HC.out.len] at h1; exact h1, HC.out.bds⟩, by rw [List.length_append, HC.out.len]; rfl⟩, hk8⟩)
          unfold kindV at hup
          clear hd8 hk8 hgr8 hgb8 hsh8 ho7 hg7 hat7 ho7' hg7' hloc7 hS0 hblkW hbxW hoiW n1 n2 hoW hnews
          refine wpAnyN_one (i := 16) rfl (by kernel_rfl) (fun K hK => ?_)
          go_simp
          refine hK _ _ (fun h => absurd h (by decide)) ?_
          clear hK hup
          (try simp only [Act.put, List.setIfInBounds_toArray, List.set_cons_zero, List.set_cons_succ])
          refine wpAnyN_rest 17 [] rfl (by kernel_rfl) (by rfl) ?_
          go_wp2
          go_end0
          exact HE.out
      · have hbW10 := hbW0.alloc hbW0.size (.cells #[.int .i64 (Qs.length : Int)] 3)
        have hqW10 := heap_alloc_new wd (.cells #[.int .i64 (Qs.length : Int)] 3)
        go_simp
        refine hK _ _ (fun _ => HSB.out _ hbW10) ?_
        clear hK
        (try simp only [Act.put, List.setIfInBounds_toArray, List.set_cons_zero, List.set_cons_succ])
        refine wpAnyN_one (i := 5) rfl (by kernel_rfl) (fun K hK => ?_)
        go_simp
        refine (hck _).mono ?_
        rintro e k11 ⟨rfl, b11⟩
        have hbW11 : Below wd.heap.size wd k11 := hbW10.trans (b11.mono hbW10.size)
        have hqW11 := (b11.block _ (Array.getElem?_eq_some_iff.1 hqW10).1).trans hqW10
        refine hK _ _ (fun _ => HSB.out _ hbW11) ?_
        clear hK
        (try simp only [Act.put, List.setIfInBounds_toArray, List.set_cons_zero, List.set_cons_succ])
        refine wpAnyN_one (i := 11) rfl (by kernel_rfl) (fun K hK => ?_)
        go_simp
        refine (hck _).mono ?_
        rintro e k12 ⟨rfl, b12⟩
        have hbW12 : Below wd.heap.size wd k12 := hbW11.trans (b12.mono hbW11.size)
        have hqW12 := (b12.block _ (Array.getElem?_eq_some_iff.1 hqW11).1).trans hqW11
        refine hK _ _ (fun _ => HSB.out _ hbW12) ?_
        clear hK
        (try simp only [Act.put, List.setIfInBounds_toArray, List.set_cons_zero, List.set_cons_succ])
        refine wpAnyN_one (i := 12) rfl (by kernel_rfl) (fun K hK => ?_)
        have hlk13 := HRUN.out k12 (hbW12.block bm (fam_lt HD.out.fam))
        go_simp
        have hbW13 := hbW12
        refine hK _ _ (fun _ => HSB.out _ hbW13) ?_
        clear hK
        (try simp only [Act.put, List.setIfInBounds_toArray, List.set_cons_zero, List.set_cons_succ])
        have hoW := ownsRow_below HOI.out.1 (hbW13.trans (Below.refl _ _))
        rw [natI_length] at hoW
        have hsz := hbW13.size
        have hnews : ∀ j u, [Value.int .i64 (Qs.length : Int)][j]? = some u → k12.cell? ((⟨wd.heap.size, 0, none⟩ : Addr).add j) = some u := fun j u hu => by
          rw [addr_add, cell_of_row _ _ _ _ _ (0, 0) hqW12, Nat.zero_add]
          simpa using hu
        refine wpAnyN_one (i := 15) rfl (by kernel_rfl) (fun K hK => ?_)
        refine step_append_lies _ rfl (.tmp 66) (.tmp 68) 39 rfl (bm + 1) 3 j0 (.int .i64 0) 1 8 Try.underlying39 hj hy0 hy1 hy2 rfl (by decide) gv F.length ((natI F).map (Value.int .i64)) rfl hoW ⟨wd.heap.size, 0, none⟩ 1 1 [.int .i64 (Qs.length : Int)] rfl rfl hnews (by simp [Value.oneCell']) (by omega) (by unfold maxLen; omega) (by omega) (by have := fam_lt HD.out.fam; omega) _ rfl ?_
        intro g7 c7 w7 ho7 hg7 hat7 hlt7
        have hS0 := HSB.out _ hbW13
        have hblkW := (hbW13.block b hbl).trans HD.out.blk
        have hbxW := (hbW13.block gx hgxl).trans HBXD.out
        have hoiW : k12.ownsInts (bm + 1) 3 .i64 gv (natI F) := ⟨by rw [natI_length]; exact hoW, HOI.out.2⟩
        have n1 := ints_ne hoiW hblkW (by decide)
        have n2 := ints_ne hoiW hbxW (by decide)
        refine hK _ _ (fun _ => ⟨hg7.cell hS0.1 (fun e => n1 e.symm), hg7.cell hS0.2.1 (fun e => n2 e.symm), hg7.cell hS0.2.2.1 (fun e => n2 e.symm), hg7.cell hS0.2.2.2.1 (fun e => n2 e.symm), hg7.cell hS0.2.2.2.2.1 (fun e => n2 e.symm), hg7.cell hS0.2.2.2.2.2 (fun e => n2 e.symm)⟩) ?_
        clear hK
        (try simp only [Act.put, List.setIfInBounds_toArray, List.set_cons_zero, List.set_cons_succ])
        have ho7' : w7.ownsInts (bm + 1) 3 .i64 (.slice (some ⟨g7, 0, none⟩) (F.length + 1) c7) (natI (F ++ [Qs.length])) := by
          have h1 := hoiW.appended (x := (Qs.length : Int)) (v' := .slice (some ⟨g7, 0, none⟩) (F.length + 1) c7) (by rw [natI_length]; exact ho7) hwa
          rw [natI_append]
          exact h1
        have hg7' : wd.grownBy w7 gv.ownBlock := (grownBy_of_below hbW13 _).trans hg7
        have hloc7 : (Value.slice (some ⟨g7, 0, none⟩) (F.length + 1) c7).ownBlock = gv.ownBlock ∨ ∃ g, (Value.slice (some ⟨g7, 0, none⟩) (F.length + 1) c7).ownBlock = some g ∧ wd.heap.size ≤ g := by
          rcases hat7 with h | h
          · exact Or.inl h.symm
          · exact Or.inr ⟨g7, rfl, by rw [h]; exact hsz⟩
        obtain ⟨w8, hup, hgr8, hgb8, hsh8⟩ := groups_store HD.out.fam.grp (by unfold maxLen; omega) hrr HOI.out HBK.out hg7' ho7' (by rw [natI_length, List.length_append, List.length_singleton]; omega) hloc7 HD.out.fam.shun (fun g' hg' hx => by
          rcases hat7 with h | h
          · exact HSH.out _ HD.out.fam.shun g' (by rw [h]; exact hg') hx
          · obtain ⟨z, hz, hzz⟩ := hx
            have h1 : g' < wd.heap.size := ((HD.out.fam.own z hz).1.lt g' hzz).2
            have e7 : g7 = g' := Option.some.inj hg'
            omega)
        have hd8 := HD.out.kinds (opsM' := ops' ++ [Qs.length]) HOI.out HSH.out hg7' hgb8 hgr8 hsh8 (HD.out.kd.put hrr _ (opsK ((Qs' ++ [y']).map Prod.fst) (ops' ++ [Qs.length])) (by rw [zsOf_row ho7', HLK.out]) (fun s2 b2 r2 hne => HOK.out s2 b2 r2 hne)) (by have h1 := HM'.out; rw [hlen, List.length_append, List.length_singleton]; omega)
        have hk8 : KB B w w8 := (((HKD.out.thenB hbW13 (by have := HKD.out.size; omega)).grown hg7 (by have := HKD.out.size; omega) (fun r e => ⟨by have := (hoiW.1.lt r e).1; omega, not_item_ints hoiW e⟩))).grown hgb8 (by have := HKD.out.size; have := hg7.size; omega) (fun r e => by
          cases e
          obtain ⟨es, clock, hm⟩ := fam_map HD.out.fam
          exact ⟨hB.1, not_item_map ((hg7'.block bm (fam_lt HD.out.fam) (fun e => ints_ne_map HOI.out hm e.symm)).trans hm)⟩)
        have HE := Lib.hid (show PtEnd S r w0 b bp bm cap B Qs.length w (.returned (.tuple #[])) w8 from ⟨rfl, ⟨_, ops' ++ [Qs.length], ⟨⟨_, _, _, hd8, by have h1 := HM'.out; rw [hlen, List.length_append, List.length_singleton]; omega⟩, by have h1 := HR.out; rw [HMAY.out, if_pos rfl, HC.out.len] at h1; exact h1, HC.out.bds⟩, by rw [List.length_append, HC.out.len]; rfl⟩, hk8⟩)
        unfold kindV at hup
        clear hd8 hk8 hgr8 hgb8 hsh8 ho7 hg7 hat7 ho7' hg7' hloc7 hS0 hblkW hbxW hoiW n1 n2 hoW hnews
        refine wpAnyN_one (i := 16) rfl (by kernel_rfl) (fun K hK => ?_)
        go_simp
        refine hK _ _ (fun h => absurd h (by decide)) ?_
        clear hK hup
        (try simp only [Act.put, List.setIfInBounds_toArray, List.set_cons_zero, List.set_cons_succ])
        refine wpAnyN_rest 17 [] rfl (by kernel_rfl) (by rfl) ?_
        go_wp2
        go_end0
        exact HE.out
    · have hmf : mayOpen y'.1.it = false := by simpa using hmay
      have HE := Lib.hid (show PtEnd S r w0 b bp bm cap B Qs.length w (.returned (.tuple #[])) wc from ⟨rfl, ⟨_, ops', ⟨⟨n', D', ov', HP'.out, by have := HM'.out; rw [hlen]; omega⟩, by have := HR.out; rw [hmf] at this; exact this, HC.out.bds⟩, by rw [List.length_append, HC.out.len]; rfl⟩, HKB.out⟩)
      cases op with
      | false =>
        clear hmay
        go_wp2
        go_end0
        exact HE.out
      | true =>
        have hn0 : ¬ 0 < y'.1.it.n := fun h => hmay (by simp [mayOpen, HST.out.1, HST.out.2.2.1, hs, h])
        clear hmay
        go_wp2
        go_end0
        exact HE.out

end Go.Proofs.Ytoomkhmmgjiniaa
