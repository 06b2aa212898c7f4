/- Texts joined: IoK. -/
import Derived.Test.YtfbaknkmpilllaaGreatDoorRIoM
namespace Go.Proofs.YtfbaknkmpilllaaGreatDoor
open Go.RowKit Go.Maps
set_option linter.unusedSimpArgs false
set_option linter.unusedVariables false
set_option maxRecDepth 100000
section
variable {w : World} {B pb : Nat} {s : ByteArray} {atv tbv hv iv ov : Value} {nsh : Nat} {Z : List (Itm × Value)} {O : List Opn} {D : List Dfn} {As : List Atm}
set_option maxHeartbeats 8000000 in
theorem nodes_atom (h : RawSt w B pb s atv tbv hv iv ov nsh Z O) (ha : AtmsAt w atv As) (htb : TbAt w tbv D) (htk : TkW w) (hD : D.length ≤ 1000) (n : Nat) (hn : n < As.length) (hxl : As[n].tx.length ≤ 1000) :
    Calls Tryz.prog 37 #[.pointer (some ⟨pb, 0, none⟩), tkV (.atom (n : Int))] w fun e w' => (∃ v, e = .returned v ∧ NdAt w' v (⟨12, 0, As[n].lb, [], []⟩ :: deepI (rawI D As[n].tx))) ∧ Below w.heap.size w w' := by
  unfold tkV
  obtain ⟨Aa, ca, rfl, ha⟩ := ha
  have y1 := fun v W => noWord 113 (by decide) v W
  have y2 := fun v W => noCode 113 (by decide) v W
  have y3 := fun v W => noTag 113 (by decide) v W
  have y4 := fun v W => noAuto 113 (by decide) v W
  have y5 := fun v W => noBreak 113 (by decide) v W
  have y6 := fun v W => asAtom v W
  have HH := Lib.hid h
  have HA := Lib.hid ha
  have HTB := Lib.hid htb
  have HTK := Lib.hid htk
  clear h ha htb htk
  go_enter Tryz.func37, Tryz.ntmps37
  go_wp2_with fail
  have hb := (((((Below.refl w.heap.size w).alloc (Nat.le_refl _) (.cells #[.string ⟨#[]⟩, .string ⟨#[]⟩] 137)).alloc (by simp) (.cells #[.bool false] 120)).alloc (by simp; omega) (.cells #[.bool false] 120)).alloc (by simp; omega) (.cells #[.int .i64 n] 113))
  have hbox := alloc_at (w1 := (((w.alloc (.cells #[.string ⟨#[]⟩, .string ⟨#[]⟩] 137)).alloc (.cells #[.bool false] 120)).alloc (.cells #[.bool false] 120))) (o := .cells #[.int .i64 n] 113) (g := w.heap.size + 1 + 1 + 1) (by simp)
  generalize ((((w.alloc (.cells #[.string ⟨#[]⟩, .string ⟨#[]⟩] 137)).alloc (.cells #[.bool false] 120)).alloc (.cells #[.bool false] 120)).alloc (.cells #[.int .i64 n] 113)) = w4 at *
  have hx : w4.cell? ⟨w.heap.size + 1 + 1 + 1, 0, none⟩ = some (.int .i64 n) := (cell_of_row w4 _ 0 _ _ (0, 0) hbox).trans rfl
  have hbl : w.heap.size + 1 + 1 + 1 < w4.heap.size := (Array.getElem?_eq_some_iff.1 hbox).1
  obtain ⟨c0, c1, c2, c3, c4, c5, c6, cf, hlt⟩ := (HH.out.below hb).bcells
  obtain ⟨bA, oA, rfl, hbA, a0, a1⟩ := atms_cells (EltsAt.below HA.out hb) hn
  have hle : As.length ≤ ca := HA.out.le
  have hcap := HA.out.cap
  unfold maxLen at hcap
  have HB := Lib.hid hb
  have HX := Lib.hid (show (w4.cell? ⟨pb, 1, none⟩ = some (.slice (some ⟨bA, oA, none⟩) As.length ca) ∧ w4.cell? ⟨w.heap.size + 1 + 1 + 1, 0, none⟩ = some (.int .i64 n) ∧ w4.cell? ⟨bA, oA + n * 2, none⟩ = some (.string ⟨As[n].lb.toArray⟩) ∧ w4.cell? ⟨bA, oA + n * 2 + 1, none⟩ = some (.string ⟨As[n].tx.toArray⟩)) ∧ w4.cell? ⟨pb, 2, none⟩ = some tbv ∧ pb < w4.heap.size ∧ bA < w4.heap.size ∧ w.heap.size + 1 + 1 + 1 < w4.heap.size from ⟨⟨c1, hx, a0, a1⟩, c2, hlt, hbA, hbl⟩)
  clear c0 c2 c3 c4 c5 c6 cf hlt hb hbox a0 a1 hbA hbl
  go_quiet (fail)
  have HXq := Lib.hid (show (((w4.drewN nq).drew).cell? ⟨pb, 1, none⟩ = some (.slice (some ⟨bA, oA, none⟩) As.length ca) ∧ ((w4.drewN nq).drew).cell? ⟨w.heap.size + 1 + 1 + 1, 0, none⟩ = some (.int .i64 n) ∧ ((w4.drewN nq).drew).cell? ⟨bA, oA + n * 2, none⟩ = some (.string ⟨As[n].lb.toArray⟩) ∧ ((w4.drewN nq).drew).cell? ⟨bA, oA + n * 2 + 1, none⟩ = some (.string ⟨As[n].tx.toArray⟩)) ∧ ((w4.drewN nq).drew).cell? ⟨pb, 2, none⟩ = some tbv ∧ pb < ((w4.drewN nq).drew).heap.size ∧ bA < ((w4.drewN nq).drew).heap.size ∧ w.heap.size + 1 + 1 + 1 < ((w4.drewN nq).drew).heap.size from HX.out)
  have HBq := Lib.hid ((below_drewN' HB.out nq).drew)
  clear c1 hx HB HX
  go_wp2_with fail
  refine wp_region_N (fun W => (W.cell? ⟨pb, 1, none⟩ = some (.slice (some ⟨bA, oA, none⟩) As.length ca) ∧ W.cell? ⟨w.heap.size + 1 + 1 + 1, 0, none⟩ = some (.int .i64 n) ∧ W.cell? ⟨bA, oA + n * 2, none⟩ = some (.string ⟨As[n].lb.toArray⟩) ∧ W.cell? ⟨bA, oA + n * 2 + 1, none⟩ = some (.string ⟨As[n].tx.toArray⟩))) (fun i => decide (i < 9)) (by kernel_rfl) ?_
  generalize (w4.drewN nq).drew = wd at *
  refine wpAnyN_take_at 0 97 (v := ?_) rfl rfl (by kernel_rfl) (by kernel_rfl) (by kernel_rfl) (by kernel_rfl) (by kernel_rfl) (fun _ _ _ h => h) (by rfl) ?_ HXq.out.1 ?_
  rotate_left
  · intro W hSw; (try dsimp only at hSw); obtain ⟨k0, k1, k2, k3⟩ := hSw; go_simp; (try with_reducible rfl)
  simp only [Act.put, List.setIfInBounds_toArray, List.set_cons_zero, List.set_cons_succ]
  refine wpAnyN_take_at 1 98 (v := ?_) rfl rfl (by kernel_rfl) (by kernel_rfl) (by kernel_rfl) (by kernel_rfl) (by kernel_rfl) (fun _ _ _ h => h) (by rfl) ?_ HXq.out.1 ?_
  rotate_left
  · intro W hSw; (try dsimp only at hSw); obtain ⟨k0, k1, k2, k3⟩ := hSw; go_simp; (try with_reducible rfl)
  simp only [Act.put, List.setIfInBounds_toArray, List.set_cons_zero, List.set_cons_succ]
  refine wpAnyN_take_at 2 99 (v := ?_) rfl rfl (by kernel_rfl) (by kernel_rfl) (by kernel_rfl) (by kernel_rfl) (by kernel_rfl) (fun _ _ _ h => h) (by rfl) ?_ HXq.out.1 ?_
  rotate_left
  · intro W hSw; (try dsimp only at hSw); obtain ⟨k0, k1, k2, k3⟩ := hSw; go_simp; (try with_reducible rfl)
  simp only [Act.put, List.setIfInBounds_toArray, List.set_cons_zero, List.set_cons_succ]
  refine wpAnyN_take_at 3 100 (v := ?_) rfl rfl (by kernel_rfl) (by kernel_rfl) (by kernel_rfl) (by kernel_rfl) (by kernel_rfl) (fun _ _ _ h => h) (by rfl) ?_ HXq.out.1 ?_
  rotate_left
  · intro W hSw; (try dsimp only at hSw); obtain ⟨k0, k1, k2, k3⟩ := hSw; go_simp; (try with_reducible rfl)
  simp only [Act.put, List.setIfInBounds_toArray, List.set_cons_zero, List.set_cons_succ]
  refine wpAnyN_take_at 4 101 (v := ?_) rfl rfl (by kernel_rfl) (by kernel_rfl) (by kernel_rfl) (by kernel_rfl) (by kernel_rfl) (fun _ _ _ h => h) (by rfl) ?_ HXq.out.1 ?_
  rotate_left
  · intro W hSw; (try dsimp only at hSw); obtain ⟨k0, k1, k2, k3⟩ := hSw; go_simp; (try with_reducible rfl)
  simp only [Act.put, List.setIfInBounds_toArray, List.set_cons_zero, List.set_cons_succ]
  refine wpAnyN_take_at 5 102 (v := ?_) rfl rfl (by kernel_rfl) (by kernel_rfl) (by kernel_rfl) (by kernel_rfl) (by kernel_rfl) (fun _ _ _ h => h) (by rfl) ?_ HXq.out.1 ?_
  rotate_left
  · intro W hSw; (try dsimp only at hSw); obtain ⟨k0, k1, k2, k3⟩ := hSw; go_simp; (try with_reducible rfl)
  simp only [Act.put, List.setIfInBounds_toArray, List.set_cons_zero, List.set_cons_succ]
  refine wpAnyN_take_at 6 103 (v := ?_) rfl rfl (by kernel_rfl) (by kernel_rfl) (by kernel_rfl) (by kernel_rfl) (by kernel_rfl) (fun _ _ _ h => h) (by rfl) ?_ HXq.out.1 ?_
  rotate_left
  · intro W hSw; (try dsimp only at hSw); obtain ⟨k0, k1, k2, k3⟩ := hSw; go_simp; (try with_reducible rfl)
  simp only [Act.put, List.setIfInBounds_toArray, List.set_cons_zero, List.set_cons_succ]
  refine wpAnyN_take_at 7 104 (v := ?_) rfl rfl (by kernel_rfl) (by kernel_rfl) (by kernel_rfl) (by kernel_rfl) (by kernel_rfl) (fun _ _ _ h => h) (by rfl) ?_ HXq.out.1 ?_
  rotate_left
  · intro W hSw; (try dsimp only at hSw); obtain ⟨k0, k1, k2, k3⟩ := hSw; go_simp; (try with_reducible rfl)
  simp only [Act.put, List.setIfInBounds_toArray, List.set_cons_zero, List.set_cons_succ]
  refine wpAnyN_one (i := 8) rfl (by kernel_rfl) (fun K hK => ?_)
  go_simp
  have bal := (Below.refl wd.heap.size wd).alloc (Nat.le_refl _) (.cells #[.string ⟨#[]⟩, .string ⟨#[]⟩] 48)
  have hX2 := (show ((wd.alloc (.cells #[.string ⟨#[]⟩, .string ⟨#[]⟩] 48)).cell? ⟨pb, 1, none⟩ = some (.slice (some ⟨bA, oA, none⟩) As.length ca) ∧ (wd.alloc (.cells #[.string ⟨#[]⟩, .string ⟨#[]⟩] 48)).cell? ⟨w.heap.size + 1 + 1 + 1, 0, none⟩ = some (.int .i64 n) ∧ (wd.alloc (.cells #[.string ⟨#[]⟩, .string ⟨#[]⟩] 48)).cell? ⟨bA, oA + n * 2, none⟩ = some (.string ⟨As[n].lb.toArray⟩) ∧ (wd.alloc (.cells #[.string ⟨#[]⟩, .string ⟨#[]⟩] 48)).cell? ⟨bA, oA + n * 2 + 1, none⟩ = some (.string ⟨As[n].tx.toArray⟩)) from
    ⟨(bal.cell (p := ⟨pb, 1, none⟩) HXq.out.2.2.1).trans HXq.out.1.1, (bal.cell (p := ⟨w.heap.size + 1 + 1 + 1, 0, none⟩) HXq.out.2.2.2.2).trans HXq.out.1.2.1, (bal.cell (p := ⟨bA, oA + n * 2, none⟩) HXq.out.2.2.2.1).trans HXq.out.1.2.2.1, (bal.cell (p := ⟨bA, oA + n * 2 + 1, none⟩) HXq.out.2.2.2.1).trans HXq.out.1.2.2.2⟩)
  refine hK _ _ (fun _ => hX2) ?_
  clear hK hX2 bal
  (try simp only [Act.put, List.setIfInBounds_toArray, List.set_cons_zero, List.set_cons_succ])
  refine wpAnyN_rest 9 [_] rfl (by kernel_rfl) (by rfl) ?_
  go_wp2_with fail
  have HB2 := Lib.hid ((HBq.out.alloc HBq.out.size (.cells #[.string ⟨As[n].lb.toArray⟩, .string ⟨As[n].tx.toArray⟩] 48)).drew)
  have bal2 := (Below.refl wd.heap.size wd).alloc (Nat.le_refl _) (.cells #[.string ⟨As[n].lb.toArray⟩, .string ⟨As[n].tx.toArray⟩] 48)
  have hbx := heap_alloc_new wd (.cells #[.string ⟨As[n].lb.toArray⟩, .string ⟨As[n].tx.toArray⟩] 48)
  have HY := Lib.hid (show ((wd.alloc (.cells #[.string ⟨As[n].lb.toArray⟩, .string ⟨As[n].tx.toArray⟩] 48)).drew.cell? ⟨wd.heap.size, 0, none⟩ = some (.string ⟨As[n].lb.toArray⟩) ∧ (wd.alloc (.cells #[.string ⟨As[n].lb.toArray⟩, .string ⟨As[n].tx.toArray⟩] 48)).drew.cell? ⟨wd.heap.size, 1, none⟩ = some (.string ⟨As[n].tx.toArray⟩) ∧ (wd.alloc (.cells #[.string ⟨As[n].lb.toArray⟩, .string ⟨As[n].tx.toArray⟩] 48)).drew.cell? ⟨pb, 2, none⟩ = some tbv) ∧ wd.heap.size < (wd.alloc (.cells #[.string ⟨As[n].lb.toArray⟩, .string ⟨As[n].tx.toArray⟩] 48)).drew.heap.size ∧ pb < (wd.alloc (.cells #[.string ⟨As[n].lb.toArray⟩, .string ⟨As[n].tx.toArray⟩] 48)).drew.heap.size from
    ⟨⟨(cell_of_row _ _ 0 _ _ (0, 0) hbx).trans rfl, (cell_of_row _ _ 1 _ _ (0, 0) hbx).trans rfl, (bal2.cell (p := ⟨pb, 2, none⟩) HXq.out.2.2.1).trans HXq.out.2.1⟩, (Array.getElem?_eq_some_iff.1 hbx).1, Nat.lt_of_lt_of_le HXq.out.2.2.1 bal2.size⟩)
  clear bal2 hbx HXq HBq
  refine wp_region_N (fun W => W.cell? ⟨wd.heap.size, 0, none⟩ = some (.string ⟨As[n].lb.toArray⟩) ∧ W.cell? ⟨wd.heap.size, 1, none⟩ = some (.string ⟨As[n].tx.toArray⟩) ∧ W.cell? ⟨pb, 2, none⟩ = some tbv) (fun i => decide (i < 10)) (by kernel_rfl) ?_
  generalize (wd.alloc (.cells #[.string ⟨As[n].lb.toArray⟩, .string ⟨As[n].tx.toArray⟩] 48)).drew = w5 at *
  refine wpAnyN_take_at 0 105 (v := ?_) rfl rfl (by kernel_rfl) (by kernel_rfl) (by kernel_rfl) (by kernel_rfl) (by kernel_rfl) (fun _ _ _ h => h) (by rfl) ?_ HY.out.1 ?_
  rotate_left
  · intro W hSw; (try dsimp only at hSw); obtain ⟨k0, k1, k2⟩ := hSw; go_simp; (try with_reducible rfl)
  simp only [Act.put, List.setIfInBounds_toArray, List.set_cons_zero, List.set_cons_succ]
  refine wpAnyN_take_at 1 106 (v := ?_) rfl rfl (by kernel_rfl) (by kernel_rfl) (by kernel_rfl) (by kernel_rfl) (by kernel_rfl) (fun _ _ _ h => h) (by rfl) ?_ HY.out.1 ?_
  rotate_left
  · intro W hSw; (try dsimp only at hSw); obtain ⟨k0, k1, k2⟩ := hSw; go_simp; (try with_reducible rfl)
  simp only [Act.put, List.setIfInBounds_toArray, List.set_cons_zero, List.set_cons_succ]
  refine wpAnyN_take_at 2 107 (v := ?_) rfl rfl (by kernel_rfl) (by kernel_rfl) (by kernel_rfl) (by kernel_rfl) (by kernel_rfl) (fun _ _ _ h => h) (by rfl) ?_ HY.out.1 ?_
  rotate_left
  · intro W hSw; (try dsimp only at hSw); obtain ⟨k0, k1, k2⟩ := hSw; go_simp; (try with_reducible rfl)
  simp only [Act.put, List.setIfInBounds_toArray, List.set_cons_zero, List.set_cons_succ]
  refine wpAnyN_take_at 3 108 (v := ?_) rfl rfl (by kernel_rfl) (by kernel_rfl) (by kernel_rfl) (by kernel_rfl) (by kernel_rfl) (fun _ _ _ h => h) (by rfl) ?_ HY.out.1 ?_
  rotate_left
  · intro W hSw; (try dsimp only at hSw); obtain ⟨k0, k1, k2⟩ := hSw; go_simp; (try with_reducible rfl)
  simp only [Act.put, List.setIfInBounds_toArray, List.set_cons_zero, List.set_cons_succ]
  refine wpAnyN_take_at 4 109 (v := ?_) rfl rfl (by kernel_rfl) (by kernel_rfl) (by kernel_rfl) (by kernel_rfl) (by kernel_rfl) (fun _ _ _ h => h) (by rfl) ?_ HY.out.1 ?_
  rotate_left
  · intro W hSw; (try dsimp only at hSw); obtain ⟨k0, k1, k2⟩ := hSw; go_simp; (try with_reducible rfl)
  simp only [Act.put, List.setIfInBounds_toArray, List.set_cons_zero, List.set_cons_succ]
  refine wpAnyN_take_at 5 110 (v := ?_) rfl rfl (by kernel_rfl) (by kernel_rfl) (by kernel_rfl) (by kernel_rfl) (by kernel_rfl) (fun _ _ _ h => h) (by rfl) ?_ HY.out.1 ?_
  rotate_left
  · intro W hSw; (try dsimp only at hSw); obtain ⟨k0, k1, k2⟩ := hSw; go_simp; (try with_reducible rfl)
  simp only [Act.put, List.setIfInBounds_toArray, List.set_cons_zero, List.set_cons_succ]
  refine wpAnyN_take_at 6 111 (v := ?_) rfl rfl (by kernel_rfl) (by kernel_rfl) (by kernel_rfl) (by kernel_rfl) (by kernel_rfl) (fun _ _ _ h => h) (by rfl) ?_ HY.out.1 ?_
  rotate_left
  · intro W hSw; (try dsimp only at hSw); obtain ⟨k0, k1, k2⟩ := hSw; go_simp; (try with_reducible rfl)
  simp only [Act.put, List.setIfInBounds_toArray, List.set_cons_zero, List.set_cons_succ]
  refine wpAnyN_take_at 7 112 (v := ?_) rfl rfl (by kernel_rfl) (by kernel_rfl) (by kernel_rfl) (by kernel_rfl) (by kernel_rfl) (fun _ _ _ h => h) (by rfl) ?_ HY.out.1 ?_
  rotate_left
  · intro W hSw; (try dsimp only at hSw); obtain ⟨k0, k1, k2⟩ := hSw; go_simp; (try with_reducible rfl)
  simp only [Act.put, List.setIfInBounds_toArray, List.set_cons_zero, List.set_cons_succ]
  refine wpAnyN_take_at 8 113 (v := ?_) rfl rfl (by kernel_rfl) (by kernel_rfl) (by kernel_rfl) (by kernel_rfl) (by kernel_rfl) (fun _ _ _ h => h) (by rfl) ?_ HY.out.1 ?_
  rotate_left
  · intro W hSw; (try dsimp only at hSw); obtain ⟨k0, k1, k2⟩ := hSw; go_simp; (try with_reducible rfl)
  simp only [Act.put, List.setIfInBounds_toArray, List.set_cons_zero, List.set_cons_succ]
  refine wpAnyN_one (i := 9) rfl (by kernel_rfl) (fun K hK => ?_)
  go_simp
  go_at_call 16
  refine (parse_raw (s := ⟨As[n].tx.toArray⟩) (HTB.out.below HB2.out) (HTK.out.below HB2.out) hD (by rw [str_size]; exact hxl)).mono ?_
  rintro e w6 ⟨⟨v6, rfl, hv6⟩, b6⟩
  refine hK _ _ (fun _ => ⟨(b6.cell (p := ⟨wd.heap.size, 0, none⟩) HY.out.2.1).trans HY.out.1.1, (b6.cell (p := ⟨wd.heap.size, 1, none⟩) HY.out.2.1).trans HY.out.1.2.1, (b6.cell (p := ⟨pb, 2, none⟩) HY.out.2.2).trans HY.out.1.2.2⟩) ?_
  clear hK
  (try simp only [Act.put, List.setIfInBounds_toArray, List.set_cons_zero, List.set_cons_succ])
  refine wpAnyN_rest 10 [_, _] rfl (by kernel_rfl) (by rfl) ?_
  have ch := holding_any ⟨12, 0, As[n].lb, [], []⟩ v6 (rawI D As[n].tx) w6 hv6 (by have h1 := (raw_siz D As[n].tx).1; unfold sizI at h1; omega)
  unfold ilV at ch
  dsimp only at ch
  have HB6 := Lib.hid (HB2.out.then b6)
  have CH := Lib.hid ch
  clear ch b6 hv6
  go_wp2_with fail
  refine CH.out.mono ?_
  rintro e w7 ⟨⟨v7, rfl, hv7⟩, b7⟩
  have HV7 := Lib.hid hv7
  have HB7 := Lib.hid (HB6.out.then b7)
  clear hv7 b7
  go_wp2
  go_ret
  exact ⟨⟨_, rfl, HV7.out⟩, HB7.out⟩
end
end Go.Proofs.YtfbaknkmpilllaaGreatDoor
