/- Texts joined: IoK IoL. -/
import Derived.Test.YteihmgcphbijhaaGreatDoorQAN
namespace Go.Proofs.YteihmgcphbijhaaGreatDoor
open Go.RowKit Go.Maps
set_option linter.unusedSimpArgs false
set_option linter.unusedVariables false
set_option maxRecDepth 100000
section
variable {w : World} {B pb : Nat} {s : ByteArray} {atv tbv hv iv ov : Value} {nsh : Nat} {Z : List (Itm × Value)} {O : List Opn} {D : List Dfn} {As : List Atm}
set_option maxHeartbeats 8000000 in
theorem nodes_atom (h : RawSt w B pb s atv tbv hv iv ov nsh Z O) (ha : AtmsAt w atv As) (htb : TbAt w tbv D) (htk : TkW w) (hD : D.length ≤ 1000) (n : Nat) (hn : n < As.length) (hxl : As[n].tx.length ≤ 1000) :
    Calls Tryz.prog 25 #[.pointer (some ⟨pb, 0, none⟩), tkV (.atom (n : Int))] w fun e w' => (∃ v, e = .returned v ∧ NdAt w' v (⟨12, 0, As[n].lb, [], []⟩ :: deepI (rawI D As[n].tx))) ∧ Below w.heap.size w w' := by
  unfold tkV
  obtain ⟨Aa, ca, rfl, ha⟩ := ha
  have y1 := fun v W => noWord 89 (by decide) v W
  have y2 := fun v W => noCode 89 (by decide) v W
  have y3 := fun v W => noTag 89 (by decide) v W
  have y4 := fun v W => noAuto 89 (by decide) v W
  have y5 := fun v W => noBreak 89 (by decide) v W
  have y6 := fun v W => asAtom v W
  have HH := Lib.hid h
  have HA := Lib.hid ha
  have HTB := Lib.hid htb
  have HTK := Lib.hid htk
  clear h ha htb htk
  go_enter Tryz.func25, Tryz.ntmps25
  go_wp2_with fail
  have hb := (((((Below.refl w.heap.size w).alloc (Nat.le_refl _) (.cells #[.string ⟨#[]⟩, .string ⟨#[]⟩] 114)).alloc (by simp) (.cells #[.bool false] 96)).alloc (by simp; omega) (.cells #[.bool false] 96)).alloc (by simp; omega) (.cells #[.int .i64 n] 89))
  have hbox := alloc_at (w1 := (((w.alloc (.cells #[.string ⟨#[]⟩, .string ⟨#[]⟩] 114)).alloc (.cells #[.bool false] 96)).alloc (.cells #[.bool false] 96))) (o := .cells #[.int .i64 n] 89) (g := w.heap.size + 1 + 1 + 1) (by simp)
  generalize ((((w.alloc (.cells #[.string ⟨#[]⟩, .string ⟨#[]⟩] 114)).alloc (.cells #[.bool false] 96)).alloc (.cells #[.bool false] 96)).alloc (.cells #[.int .i64 n] 89)) = w4 at *
  have hx : w4.cell? ⟨w.heap.size + 1 + 1 + 1, 0, none⟩ = some (.int .i64 n) := (cell_of_row w4 _ 0 _ _ (0, 0) hbox).trans rfl
  have hbl : w.heap.size + 1 + 1 + 1 < w4.heap.size := (Array.getElem?_eq_some_iff.1 hbox).1
  obtain ⟨c0, c1, c2, c3, c4, c5, c6, cf, hlt⟩ := (HH.out.below hb).bcells
  obtain ⟨bA, oA, rfl, hbA, a0, a1⟩ := atms_cells (EltsAt.below HA.out hb) hn
  have hle : As.length ≤ ca := HA.out.le
  have hcap := HA.out.cap
  unfold maxLen at hcap
  have HB := Lib.hid hb
  have HX := Lib.hid (show (w4.cell? ⟨pb, 1, none⟩ = some (.slice (some ⟨bA, oA, none⟩) As.length ca) ∧ w4.cell? ⟨w.heap.size + 1 + 1 + 1, 0, none⟩ = some (.int .i64 n) ∧ w4.cell? ⟨bA, oA + n * 2, none⟩ = some (.string ⟨As[n].lb.toArray⟩) ∧ w4.cell? ⟨bA, oA + n * 2 + 1, none⟩ = some (.string ⟨As[n].tx.toArray⟩)) ∧ w4.cell? ⟨pb, 2, none⟩ = some tbv ∧ pb < w4.heap.size ∧ bA < w4.heap.size ∧ w.heap.size + 1 + 1 + 1 < w4.heap.size from ⟨⟨c1, hx, a0, a1⟩, c2, hlt, hbA, hbl⟩)
  clear c0 c2 c3 c4 c5 c6 cf hlt hb hbox a0 a1 hbA hbl
  go_quiet (fail)
  have HXq := Lib.hid (show (((w4.drewN nq).drew).cell? ⟨pb, 1, none⟩ = some (.slice (some ⟨bA, oA, none⟩) As.length ca) ∧ ((w4.drewN nq).drew).cell? ⟨w.heap.size + 1 + 1 + 1, 0, none⟩ = some (.int .i64 n) ∧ ((w4.drewN nq).drew).cell? ⟨bA, oA + n * 2, none⟩ = some (.string ⟨As[n].lb.toArray⟩) ∧ ((w4.drewN nq).drew).cell? ⟨bA, oA + n * 2 + 1, none⟩ = some (.string ⟨As[n].tx.toArray⟩)) ∧ ((w4.drewN nq).drew).cell? ⟨pb, 2, none⟩ = some tbv ∧ pb < ((w4.drewN nq).drew).heap.size ∧ bA < ((w4.drewN nq).drew).heap.size ∧ w.heap.size + 1 + 1 + 1 < ((w4.drewN nq).drew).heap.size from HX.out)
  have HBq := Lib.hid ((below_drewN' HB.out nq).drew)
  clear c1 hx HB HX
  go_wp2_with fail
  refine wp_region_N (fun W => (W.cell? ⟨pb, 1, none⟩ = some (.slice (some ⟨bA, oA, none⟩) As.length ca) ∧ W.cell? ⟨w.heap.size + 1 + 1 + 1, 0, none⟩ = some (.int .i64 n) ∧ W.cell? ⟨bA, oA + n * 2, none⟩ = some (.string ⟨As[n].lb.toArray⟩) ∧ W.cell? ⟨bA, oA + n * 2 + 1, none⟩ = some (.string ⟨As[n].tx.toArray⟩))) (fun i => decide (i < 9)) (by kernel_rfl) ?_
  generalize (w4.drewN nq).drew = wd at *
  refine wpAnyN_take_at 0 97 (v := ?_) rfl rfl (by kernel_rfl) (by kernel_rfl) (by kernel_rfl) (by kernel_rfl) (by kernel_rfl) (fun _ _ _ h => h) (by rfl) ?_ HXq.out.1 ?_
  rotate_left
  · intro W hSw; (try dsimp only at hSw); obtain ⟨k0, k1, k2, k3⟩ := hSw; go_simp; (try with_reducible rfl)
  simp only [Act.put, List.setIfInBounds_toArray, List.set_cons_zero, List.set_cons_succ]
  refine wpAnyN_take_at 1 98 (v := ?_) rfl rfl (by kernel_rfl) (by kernel_rfl) (by kernel_rfl) (by kernel_rfl) (by kernel_rfl) (fun _ _ _ h => h) (by rfl) ?_ HXq.out.1 ?_
  rotate_left
  · intro W hSw; (try dsimp only at hSw); obtain ⟨k0, k1, k2, k3⟩ := hSw; go_simp; (try with_reducible rfl)
  simp only [Act.put, List.setIfInBounds_toArray, List.set_cons_zero, List.set_cons_succ]
  refine wpAnyN_take_at 2 99 (v := ?_) rfl rfl (by kernel_rfl) (by kernel_rfl) (by kernel_rfl) (by kernel_rfl) (by kernel_rfl) (fun _ _ _ h => h) (by rfl) ?_ HXq.out.1 ?_
  rotate_left
  · intro W hSw; (try dsimp only at hSw); obtain ⟨k0, k1, k2, k3⟩ := hSw; go_simp; (try with_reducible rfl)
  simp only [Act.put, List.setIfInBounds_toArray, List.set_cons_zero, List.set_cons_succ]
  refine wpAnyN_take_at 3 100 (v := ?_) rfl rfl (by kernel_rfl) (by kernel_rfl) (by kernel_rfl) (by kernel_rfl) (by kernel_rfl) (fun _ _ _ h => h) (by rfl) ?_ HXq.out.1 ?_
  rotate_left
  · intro W hSw; (try dsimp only at hSw); obtain ⟨k0, k1, k2, k3⟩ := hSw; go_simp; (try with_reducible rfl)
  simp only [Act.put, List.setIfInBounds_toArray, List.set_cons_zero, List.set_cons_succ]
  refine wpAnyN_take_at 4 101 (v := ?_) rfl rfl (by kernel_rfl) (by kernel_rfl) (by kernel_rfl) (by kernel_rfl) (by kernel_rfl) (fun _ _ _ h => h) (by rfl) ?_ HXq.out.1 ?_
  rotate_left
  · intro W hSw; (try dsimp only at hSw); obtain ⟨k0, k1, k2, k3⟩ := hSw; go_simp; (try with_reducible rfl)
  simp only [Act.put, List.setIfInBounds_toArray, List.set_cons_zero, List.set_cons_succ]
  refine wpAnyN_take_at 5 102 (v := ?_) rfl rfl (by kernel_rfl) (by kernel_rfl) (by kernel_rfl) (by kernel_rfl) (by kernel_rfl) (fun _ _ _ h => h) (by rfl) ?_ HXq.out.1 ?_
  rotate_left
  · intro W hSw; (try dsimp only at hSw); obtain ⟨k0, k1, k2, k3⟩ := hSw; go_simp; (try with_reducible rfl)
  simp only [Act.put, List.setIfInBounds_toArray, List.set_cons_zero, List.set_cons_succ]
  refine wpAnyN_take_at 6 103 (v := ?_) rfl rfl (by kernel_rfl) (by kernel_rfl) (by kernel_rfl) (by kernel_rfl) (by kernel_rfl) (fun _ _ _ h => h) (by rfl) ?_ HXq.out.1 ?_
  rotate_left
  · intro W hSw; (try dsimp only at hSw); obtain ⟨k0, k1, k2, k3⟩ := hSw; go_simp; (try with_reducible rfl)
  simp only [Act.put, List.setIfInBounds_toArray, List.set_cons_zero, List.set_cons_succ]
  refine wpAnyN_take_at 7 104 (v := ?_) rfl rfl (by kernel_rfl) (by kernel_rfl) (by kernel_rfl) (by kernel_rfl) (by kernel_rfl) (fun _ _ _ h => h) (by rfl) ?_ HXq.out.1 ?_
  rotate_left
  · intro W hSw; (try dsimp only at hSw); obtain ⟨k0, k1, k2, k3⟩ := hSw; go_simp; (try with_reducible rfl)
  simp only [Act.put, List.setIfInBounds_toArray, List.set_cons_zero, List.set_cons_succ]
  refine wpAnyN_one (i := 8) rfl (by kernel_rfl) (fun K hK => ?_)
  go_simp
  have bal := (Below.refl wd.heap.size wd).alloc (Nat.le_refl _) (.cells #[.string ⟨#[]⟩, .string ⟨#[]⟩] 33)
  have hX2 := (show ((wd.alloc (.cells #[.string ⟨#[]⟩, .string ⟨#[]⟩] 33)).cell? ⟨pb, 1, none⟩ = some (.slice (some ⟨bA, oA, none⟩) As.length ca) ∧ (wd.alloc (.cells #[.string ⟨#[]⟩, .string ⟨#[]⟩] 33)).cell? ⟨w.heap.size + 1 + 1 + 1, 0, none⟩ = some (.int .i64 n) ∧ (wd.alloc (.cells #[.string ⟨#[]⟩, .string ⟨#[]⟩] 33)).cell? ⟨bA, oA + n * 2, none⟩ = some (.string ⟨As[n].lb.toArray⟩) ∧ (wd.alloc (.cells #[.string ⟨#[]⟩, .string ⟨#[]⟩] 33)).cell? ⟨bA, oA + n * 2 + 1, none⟩ = some (.string ⟨As[n].tx.toArray⟩)) from
    ⟨(bal.cell (p := ⟨pb, 1, none⟩) HXq.out.2.2.1).trans HXq.out.1.1, (bal.cell (p := ⟨w.heap.size + 1 + 1 + 1, 0, none⟩) HXq.out.2.2.2.2).trans HXq.out.1.2.1, (bal.cell (p := ⟨bA, oA + n * 2, none⟩) HXq.out.2.2.2.1).trans HXq.out.1.2.2.1, (bal.cell (p := ⟨bA, oA + n * 2 + 1, none⟩) HXq.out.2.2.2.1).trans HXq.out.1.2.2.2⟩)
  refine hK _ _ (fun _ => hX2) ?_
  clear hK hX2 bal
  (try simp only [Act.put, List.setIfInBounds_toArray, List.set_cons_zero, List.set_cons_succ])
  refine wpAnyN_rest 9 [_] rfl (by kernel_rfl) (by rfl) ?_
  go_wp2_with fail
  have HB2 := Lib.hid ((HBq.out.alloc HBq.out.size (.cells #[.string ⟨As[n].lb.toArray⟩, .string ⟨As[n].tx.toArray⟩] 33)).drew)
  have bal2 := (Below.refl wd.heap.size wd).alloc (Nat.le_refl _) (.cells #[.string ⟨As[n].lb.toArray⟩, .string ⟨As[n].tx.toArray⟩] 33)
  have hbx := heap_alloc_new wd (.cells #[.string ⟨As[n].lb.toArray⟩, .string ⟨As[n].tx.toArray⟩] 33)
  have HY := Lib.hid (show ((wd.alloc (.cells #[.string ⟨As[n].lb.toArray⟩, .string ⟨As[n].tx.toArray⟩] 33)).drew.cell? ⟨wd.heap.size, 0, none⟩ = some (.string ⟨As[n].lb.toArray⟩) ∧ (wd.alloc (.cells #[.string ⟨As[n].lb.toArray⟩, .string ⟨As[n].tx.toArray⟩] 33)).drew.cell? ⟨wd.heap.size, 1, none⟩ = some (.string ⟨As[n].tx.toArray⟩) ∧ (wd.alloc (.cells #[.string ⟨As[n].lb.toArray⟩, .string ⟨As[n].tx.toArray⟩] 33)).drew.cell? ⟨pb, 2, none⟩ = some tbv) ∧ wd.heap.size < (wd.alloc (.cells #[.string ⟨As[n].lb.toArray⟩, .string ⟨As[n].tx.toArray⟩] 33)).drew.heap.size ∧ pb < (wd.alloc (.cells #[.string ⟨As[n].lb.toArray⟩, .string ⟨As[n].tx.toArray⟩] 33)).drew.heap.size from
    ⟨⟨(cell_of_row _ _ 0 _ _ (0, 0) hbx).trans rfl, (cell_of_row _ _ 1 _ _ (0, 0) hbx).trans rfl, (bal2.cell (p := ⟨pb, 2, none⟩) HXq.out.2.2.1).trans HXq.out.2.1⟩, (Array.getElem?_eq_some_iff.1 hbx).1, Nat.lt_of_lt_of_le HXq.out.2.2.1 bal2.size⟩)
  clear bal2 hbx HXq HBq
  refine wp_region_N (fun W => W.cell? ⟨wd.heap.size, 0, none⟩ = some (.string ⟨As[n].lb.toArray⟩) ∧ W.cell? ⟨wd.heap.size, 1, none⟩ = some (.string ⟨As[n].tx.toArray⟩) ∧ W.cell? ⟨pb, 2, none⟩ = some tbv) (fun i => decide (i < 10)) (by kernel_rfl) ?_
  generalize (wd.alloc (.cells #[.string ⟨As[n].lb.toArray⟩, .string ⟨As[n].tx.toArray⟩] 33)).drew = w5 at *
  refine wpAnyN_take_at 0 105 (v := ?_) rfl rfl (by kernel_rfl) (by kernel_rfl) (by kernel_rfl) (by kernel_rfl) (by kernel_rfl) (fun _ _ _ h => h) (by rfl) ?_ HY.out.1 ?_
  rotate_left
  · intro W hSw; (try dsimp only at hSw); obtain ⟨k0, k1, k2⟩ := hSw; go_simp; (try with_reducible rfl)
  simp only [Act.put, List.setIfInBounds_toArray, List.set_cons_zero, List.set_cons_succ]
  refine wpAnyN_take_at 1 106 (v := ?_) rfl rfl (by kernel_rfl) (by kernel_rfl) (by kernel_rfl) (by kernel_rfl) (by kernel_rfl) (fun _ _ _ h => h) (by rfl) ?_ HY.out.1 ?_
  rotate_left
  · intro W hSw; (try dsimp only at hSw); obtain ⟨k0, k1, k2⟩ := hSw; go_simp; (try with_reducible rfl)
  simp only [Act.put, List.setIfInBounds_toArray, List.set_cons_zero, List.set_cons_succ]
  refine wpAnyN_take_at 2 107 (v := ?_) rfl rfl (by kernel_rfl) (by kernel_rfl) (by kernel_rfl) (by kernel_rfl) (by kernel_rfl) (fun _ _ _ h => h) (by rfl) ?_ HY.out.1 ?_
  rotate_left
  · intro W hSw; (try dsimp only at hSw); obtain ⟨k0, k1, k2⟩ := hSw; go_simp; (try with_reducible rfl)
  simp only [Act.put, List.setIfInBounds_toArray, List.set_cons_zero, List.set_cons_succ]
  refine wpAnyN_take_at 3 108 (v := ?_) rfl rfl (by kernel_rfl) (by kernel_rfl) (by kernel_rfl) (by kernel_rfl) (by kernel_rfl) (fun _ _ _ h => h) (by rfl) ?_ HY.out.1 ?_
  rotate_left
  · intro W hSw; (try dsimp only at hSw); obtain ⟨k0, k1, k2⟩ := hSw; go_simp; (try with_reducible rfl)
  simp only [Act.put, List.setIfInBounds_toArray, List.set_cons_zero, List.set_cons_succ]
  refine wpAnyN_take_at 4 109 (v := ?_) rfl rfl (by kernel_rfl) (by kernel_rfl) (by kernel_rfl) (by kernel_rfl) (by kernel_rfl) (fun _ _ _ h => h) (by rfl) ?_ HY.out.1 ?_
  rotate_left
  · intro W hSw; (try dsimp only at hSw); obtain ⟨k0, k1, k2⟩ := hSw; go_simp; (try with_reducible rfl)
  simp only [Act.put, List.setIfInBounds_toArray, List.set_cons_zero, List.set_cons_succ]
  refine wpAnyN_take_at 5 110 (v := ?_) rfl rfl (by kernel_rfl) (by kernel_rfl) (by kernel_rfl) (by kernel_rfl) (by kernel_rfl) (fun _ _ _ h => h) (by rfl) ?_ HY.out.1 ?_
  rotate_left
  · intro W hSw; (try dsimp only at hSw); obtain ⟨k0, k1, k2⟩ := hSw; go_simp; (try with_reducible rfl)
  simp only [Act.put, List.setIfInBounds_toArray, List.set_cons_zero, List.set_cons_succ]
  refine wpAnyN_take_at 6 111 (v := ?_) rfl rfl (by kernel_rfl) (by kernel_rfl) (by kernel_rfl) (by kernel_rfl) (by kernel_rfl) (fun _ _ _ h => h) (by rfl) ?_ HY.out.1 ?_
  rotate_left
  · intro W hSw; (try dsimp only at hSw); obtain ⟨k0, k1, k2⟩ := hSw; go_simp; (try with_reducible rfl)
  simp only [Act.put, List.setIfInBounds_toArray, List.set_cons_zero, List.set_cons_succ]
  refine wpAnyN_take_at 7 112 (v := ?_) rfl rfl (by kernel_rfl) (by kernel_rfl) (by kernel_rfl) (by kernel_rfl) (by kernel_rfl) (fun _ _ _ h => h) (by rfl) ?_ HY.out.1 ?_
  rotate_left
  · intro W hSw; (try dsimp only at hSw); obtain ⟨k0, k1, k2⟩ := hSw; go_simp; (try with_reducible rfl)
  simp only [Act.put, List.setIfInBounds_toArray, List.set_cons_zero, List.set_cons_succ]
  refine wpAnyN_take_at 8 113 (v := ?_) rfl rfl (by kernel_rfl) (by kernel_rfl) (by kernel_rfl) (by kernel_rfl) (by kernel_rfl) (fun _ _ _ h => h) (by rfl) ?_ HY.out.1 ?_
  rotate_left
  · intro W hSw; (try dsimp only at hSw); obtain ⟨k0, k1, k2⟩ := hSw; go_simp; (try with_reducible rfl)
  simp only [Act.put, List.setIfInBounds_toArray, List.set_cons_zero, List.set_cons_succ]
  refine wpAnyN_one (i := 9) rfl (by kernel_rfl) (fun K hK => ?_)
  go_simp
  go_at_call 8
  refine (parse_raw (s := ⟨As[n].tx.toArray⟩) (HTB.out.below HB2.out) (HTK.out.below HB2.out) hD (by rw [str_size]; exact hxl)).mono ?_
  rintro e w6 ⟨⟨v6, rfl, hv6⟩, b6⟩
  refine hK _ _ (fun _ => ⟨(b6.cell (p := ⟨wd.heap.size, 0, none⟩) HY.out.2.1).trans HY.out.1.1, (b6.cell (p := ⟨wd.heap.size, 1, none⟩) HY.out.2.1).trans HY.out.1.2.1, (b6.cell (p := ⟨pb, 2, none⟩) HY.out.2.2).trans HY.out.1.2.2⟩) ?_
  clear hK
  (try simp only [Act.put, List.setIfInBounds_toArray, List.set_cons_zero, List.set_cons_succ])
  refine wpAnyN_rest 10 [_, _] rfl (by kernel_rfl) (by rfl) ?_
  have ch := holding_any ⟨12, 0, As[n].lb, [], []⟩ v6 (rawI D As[n].tx) w6 hv6 (by have h1 := (raw_siz D As[n].tx).1; unfold sizI at h1; omega)
  unfold ilV at ch
  dsimp only at ch
  have HB6 := Lib.hid (HB2.out.then b6)
  have CH := Lib.hid ch
  clear ch b6 hv6
  go_wp2_with fail
  refine CH.out.mono ?_
  rintro e w7 ⟨⟨v7, rfl, hv7⟩, b7⟩
  have HV7 := Lib.hid hv7
  have HB7 := Lib.hid (HB6.out.then b7)
  clear hv7 b7
  go_wp2
  go_ret
  exact ⟨⟨_, rfl, HV7.out⟩, HB7.out⟩
end
end Go.Proofs.YteihmgcphbijhaaGreatDoor

namespace Go.Proofs.YteihmgcphbijhaaGreatDoor
open Go.RowKit Go.Maps
set_option linter.unusedSimpArgs false
set_option linter.unusedVariables false
set_option maxRecDepth 100000
section
variable {w0 w : World} {pb : Nat} {s : ByteArray} {atv tbv hv iv ov : Value} {nsh : Nat} {Z : List (Itm × Value)} {O : List Opn} {D : List Dfn} {al : List Nat} {E : List Ent} {C frm tow : Nat} {As : List Atm}
theorem put_atm (h : RawSt w w0.heap.size pb s atv tbv hv iv ov nsh Z O) (hc : Ctx w0 w tbv hv D al s) (ha : AtmsAt w0 atv As) (hAl : As.length ≤ 1000) (hAt : ∀ a ∈ As, a.tx.length ≤ 1000) (hr : Rep E Z O nsh) (k : PotSt C frm E) (hC : C * frm ≤ 1000000) (hfs : frm ≤ s.size) (hts : tow ≤ s.size)
    (t : Tk) (ht : t ≠ .no) (hm : ∀ m, t = .mark m → m = [91] ∨ m = [33, 91] ∨ m = [93]) (hx : ∀ x, t = .code x → x.length ≤ 10000) (hn : ∀ k, t = .atom k → ∃ n : Nat, k = n) :
    Calls Tryz.prog 14 #[.pointer (some ⟨pb, 0, none⟩), tkV t, .int .i64 frm, .int .i64 tow] w fun e w' => ∃ i : Int, e = .returned (.int .i64 i) ∧ i = (tow : Int) + (stepI (atmE D As) D s.data.toList frm tow t E).2 ∧ Done w0 w pb s atv tbv hv (stepI (atmE D As) D s.data.toList frm tow t E).1 w' := by
  have hf : frm ≤ 1000 := Nat.le_trans hfs hc.sl
  have hz := zok_of hr k hf hC
  have hO : O.length ≤ 1000 := by have := hr.opLe; have := k.len; omega
  have rest : ∀ (u : TypeId) (x : Value) (nd : List Iln), tkV t = .iface u x → u ≠ 65 → u ≠ 69 → stepI (atmE D As) D s.data.toList frm tow t E = (.it (ndI nd) :: E, 0) →
      (∀ W, Below w.heap.size w W → Calls Tryz.prog 25 #[.pointer (some ⟨pb, 0, none⟩), tkV t] W fun e w' => (∃ v, e = .returned v ∧ NdAt w' v nd) ∧ Below W.heap.size W w') →
      Calls Tryz.prog 14 #[.pointer (some ⟨pb, 0, none⟩), tkV t, .int .i64 frm, .int .i64 tow] w fun e w' => ∃ i : Int, e = .returned (.int .i64 i) ∧ i = (tow : Int) + (stepI (atmE D As) D s.data.toList frm tow t E).2 ∧ Done w0 w pb s atv tbv hv (stepI (atmE D As) D s.data.toList frm tow t E).1 w' := by
    intro u x nd e h1 h2 hs hnd
    rw [hs]
    rw [e] at hnd ⊢
    refine (put_rest h hr hz.len h1 h2 nd hnd).mono ?_
    rintro e w' ⟨rfl, hd⟩
    exact ⟨_, rfl, by simp, hd⟩
  cases t with
  | no => exact absurd rfl ht
  | word x => exact rest _ _ [wordsI 0 x] rfl (by decide) (by decide) rfl (fun W hW => nodes_word x)
  | code x => exact rest _ _ [⟨2, 0, restL (txA As) x, [], []⟩] rfl (by decide) (by decide) rfl (fun W hW => nodes_code (h.below hW) ((ha.below hc.below).below hW) ((hc.tk.below hc.below).below hW) x (hx x rfl) hAl hAt)
  | tag x => exact rest _ _ [⟨9, 0, x, [], []⟩] rfl (by decide) (by decide) rfl (fun W hW => nodes_tag x)
  | auto u x => exact rest _ _ [⟨5, 0, [], u, []⟩, wordsI 1 x] rfl (by decide) (by decide) rfl (fun W hW => nodes_auto u x)
  | brk b => exact rest _ _ [⟨if b then 8 else 7, 0, [], [], []⟩] rfl (by decide) (by decide) rfl (fun W hW => nodes_brk b)
  | atom j =>
    obtain ⟨n, rfl⟩ := hn j rfl
    by_cases hna : n < As.length
    · exact rest _ _ (⟨12, 0, As[n].lb, [], []⟩ :: deepI (rawI D As[n].tx)) rfl (by decide) (by decide) (by show ((Ent.it (ndI (((atmE D As).atom (n : Int)).getD [])) :: E, 0) : List Ent × Nat) = _; rw [atm_at D As n hna]; rfl) (fun W hW => nodes_atom (h.below hW) ((ha.below hc.below).below hW) ((hc.tb.below hc.below).below hW) ((hc.tk.below hc.below).below hW) hc.Dl n hna (hAt _ (List.getElem_mem hna)))
    · exact rest _ _ [] rfl (by decide) (by decide) (by show ((Ent.it (ndI (((atmE D As).atom (n : Int)).getD [])) :: E, 0) : List Ent × Nat) = _; rw [atm_no D As n hna]; rfl) (fun W hW => nodes_lost (h.below hW) ((ha.below hc.below).below hW) n hna)
  | run b j =>
    refine (put_run (D := D) (atmE D As) h hr hz.len hc.sl b j).mono ?_
    rintro e w' ⟨rfl, hd⟩
    exact ⟨_, rfl, by simp [stepI], hd⟩
  | mark m =>
    refine put_mark m (Q := fun i w' => i = (tow : Int) + (stepI (atmE D As) D s.data.toList frm tow (.mark m) E).2 ∧ Done w0 w pb s atv tbv hv (stepI (atmE D As) D s.data.toList frm tow (.mark m) E).1 w') ?_
    intro W hW
    have k1 := KI.of (B := w0.heap.size) hW h.baseLe
    refine (mark_any (atmE D As) (h.below hW) (hc.keep k1) hr k hC hfs hts m (hm m rfl)).mono ?_
    rintro e w' ⟨i, rfl, hi, hd⟩
    exact ⟨i, rfl, hi, hd.1, k1.trans hd.2⟩
end
section
variable {w : World} {s : ByteArray} {atv tbv : Value} {D : List Dfn} {As : List Atm}
set_option maxHeartbeats 4000000 in
theorem parse_atm (ht : TbAt w tbv D) (htk : TkW w) (hD : D.length ≤ 1000) (hs : s.size ≤ 1000) (ha : AtmsAt w atv As) (hAl : As.length ≤ 1000) {M C : Nat} (hM : M ≤ 1000) (hAt : ∀ a ∈ As, a.tx.length ≤ M) (hCe : C = 8 + 8 * M) (hCs : C * s.size ≤ 1000000) :
    Calls Tryz.prog 8 #[.string s, atv, tbv] w fun e w' => (∃ v, e = .returned v ∧ NdAt w' v (inlE (atmE D As) D s.data.toList)) ∧ Below w.heap.size w w' := by
  have ch := hopeless_any s w (by omega)
  obtain ⟨pp, rfl⟩ : ∃ p, tbv = .pointer p := by
    rcases ht with ⟨e, _⟩ | ⟨B, b, v, m, e, _⟩
    · exact ⟨_, e⟩
    · exact ⟨_, e⟩
  obtain ⟨Aa, ca, rfl, hael⟩ := ha
  have hC3 : 3 ≤ C := by omega
  have hCi : ∀ i, i ≤ s.size → C * i ≤ 1000000 := fun i hi => Nat.le_trans (Nat.mul_le_mul_left C hi) hCs
  have htk8 : ∀ l : List UInt8, l ≠ [] → tokN (atmE D As) (nextL l).1 ≤ C * (nextL l).2 := fun l hl => by rw [hCe]; exact atm_tok D As M hAt l hl
  have hAt2 : ∀ a ∈ As, a.tx.length ≤ 1000 := fun a h => Nat.le_trans (hAt a h) hM
  have hatm : ∀ k x, (atmE D As).atom k = some x → WrapD x := fun k x e => (atm_siz D As M hAt k x e).2
  have HA := Lib.hid (show AtmsAt w (.slice Aa As.length ca) As from ⟨Aa, ca, rfl, hael⟩)
  have HP8 := Lib.hid (And.intro hCi (And.intro htk8 (And.intro hAt2 hatm)))
  have HT := Lib.hid ht
  have HK := Lib.hid htk
  clear ht htk hael hCi htk8 hAt hAt2 hatm hCs hCe
  go_enter Tryz.func8, Tryz.ntmps8
  go_wp2_with fail
  refine ch.mono ?_
  rintro e w1 ⟨⟨al, ⟨hv, rfl, hown⟩, hok, hasc, hlen⟩, b1⟩
  obtain ⟨Ah, ch', rfl, _⟩ := own_form hown.1
  have hb2 := b1.alloc b1.size (.cells #[.string s, (.slice Aa As.length ca), (.pointer pp), (.slice Ah (natI al).length ch'), .slice none 0 0, .slice none 0 0, .int .i64 0] 48)
  have hst : RawSt (w1.alloc (.cells #[.string s, (.slice Aa As.length ca), (.pointer pp), (.slice Ah (natI al).length ch'), .slice none 0 0, .slice none 0 0, .int .i64 0] 48)) w.heap.size w1.heap.size s (.slice Aa As.length ca) (.pointer pp) (.slice Ah (natI al).length ch') (.slice none 0 0) (.slice none 0 0) 0 [] [] :=
    ⟨heap_alloc_new _ _, b1.size, World.ownsRow_nil _ _ _ _, (by intro x hx; cases hx), World.ownsRow_nil _ _ _ _⟩
  have hctx : Ctx w (w1.alloc (.cells #[.string s, (.slice Aa As.length ca), (.pointer pp), (.slice Ah (natI al).length ch'), .slice none 0 0, .slice none 0 0, .int .i64 0] 48)) (.pointer pp) (.slice Ah (natI al).length ch') D al s :=
    ⟨HK.out, HT.out, hb2, ⟨w.heap.size, ⟨hown.1.alloc _, hown.2⟩⟩, hok, hasc, hlen, hD, hs⟩
  have HST := Lib.hid hst
  have HC := Lib.hid hctx
  have HB := Lib.hid hb2
  clear ch hown hok hasc hlen b1 hb2 hst hctx
  go_wp2_with fail
  generalize hv : Value.slice Ah (natI al).length ch' = hvv at *
  have HW2 := Lib.hid (Nat.le_refl (w1.alloc (.cells #[.string s, .slice Aa As.length ca, .pointer pp, hvv, .slice none 0 0, .slice none 0 0, .int .i64 0] 48)).heap.size)
  generalize hw2 : w1.alloc (.cells #[.string s, .slice Aa As.length ca, .pointer pp, hvv, .slice none 0 0, .slice none 0 0, .int .i64 0] 48) = w2 at *
  go_loopw [8, 9, 10] (fun av v9 v10 wr => ∃ (i j : Nat) (iv ov : Value) (nsh : Nat) (Z : List (Itm × Value)) (O : List Opn) (E : List Ent), av = .int .i64 i ∧ j ≤ i ∧ j ≤ s.size ∧ RawSt wr w.heap.size w1.heap.size s (.slice Aa As.length ca) (.pointer pp) hvv iv ov nsh Z O ∧ KI w.heap.size w2 wr ∧ Rep E Z O nsh ∧ PotSt C j E ∧ inlFrom (atmE D As) D s.data.toList i E = inlFrom (atmE D As) D s.data.toList 0 []) (fun av _ _ _ => s.size - (intOf av).toNat)
  case atStart => exact ⟨0, 0, _, _, 0, [], [], [], rfl, Nat.le_refl _, Nat.zero_le _, HST.out, KI.refl _ _, ⟨rfl, rfl, trivial, Nat.le_refl _⟩, ⟨Nat.le_refl _, Nat.zero_le _, (by intro x hx; cases hx), wrapD_nil, (by intro img p sh hm; cases hm)⟩, rfl⟩
  case round =>
    obtain ⟨i, j, iv, ov, nsh, Z, O, E, rfl, hji, hjs, hst, hki, hrep, hpot, heq⟩ := hrel
    by_cases hp : i < s.size
    · have hw := HB.out.trans hki.below
      have hn := tkNext_any s i hp wr (HK.out.below hw) (by omega)
      have hSl : s.data.toList.length = s.size := by simp
      have hne : s.data.toList.drop i ≠ [] := by intro e; have := congrArg List.length e; simp at this; omega
      have hlen := next_len _ hne
      rw [List.length_drop, hSl] at hlen
      have hcn := next_ne (s.data.toList.drop i)
      have hstep := fun t n e => inlFrom_tok (atmE D As) D s.data.toList i E (by omega) (t := t) (n := n) e
      have htok := HP8.out.2.1 (s.data.toList.drop i) hne
      have htok2 := next_tokN (E := ⟨fun _ => none, id⟩) (M := 0) (C := 8) (fun c => by simp) (fun k x e => by cases e) (by omega) (s.data.toList.drop i) hne
      have hmk := next_mark_is (s.data.toList.drop i)
      have hrl := next_run_len (s.data.toList.drop i)
      have hat : ∀ k n, nextL (s.data.toList.drop i) = (.atom k, n) → ∃ m : Nat, k = m := fun k n e => next_atom_nat _ k n e
      generalize nextL (s.data.toList.drop i) = q at *
      obtain ⟨t, n⟩ := q
      dsimp only at hn hlen hcn htok htok2 hmk hrl hat
      have hpi := hpot.less hji
      have hstp := hstep t n rfl
      have hps := pot_step hC3 (atmE D As) D s.data.toList i n t E hlen.1 htok (fun b k e => by subst e; exact hrl b k n rfl) HP8.out.2.2.2 hpi
      have cput := fun W (hb : Below wr.heap.size wr W) => put_atm (hst.below hb) ((HC.out.keep hki).keep (KI.of hb hst.baseLe)) HA.out hAl HP8.out.2.2.1 hrep hpi (HP8.out.1 i (by omega)) (Nat.le_of_lt hp) (show i + n ≤ s.size by omega) t hcn (fun m e => by subst e; exact hmk m n rfl) (fun x e => by subst e; have : 1 + x.length ≤ 8 * n := htok2; omega) (fun k e => by subst e; exact hat k n rfl)
      have HP := Lib.hid hps
      have HKI := Lib.hid hki
      have HSt := Lib.hid hst
      have HEQ := Lib.hid (hstp.symm.trans heq)
      have HLEN := Lib.hid hlen
      simp only [Int.natCast_add] at cput
      clear hps hki hst hstp heq hstep htok htok2 hmk hrl hat hpi hpot hrep hcn
      go_wp2_with fail
      refine hn.mono ?_
      rintro e w3 ⟨rfl, b3⟩
      have cp := cput w3 b3
      have HB3 := Lib.hid b3
      clear hn cput b3
      go_wp2_with fail
      refine cp.mono ?_
      rintro e w4 ⟨i', rfl, hi', ⟨iv4, ov4, nsh4, Z4, O4, h4, r4⟩, k4⟩
      have H4 := Lib.hid h4
      have R4 := Lib.hid r4
      have K4 := Lib.hid (HKI.out.trans ((KI.of HB3.out HSt.out.baseLe).trans k4))
      have HI := Lib.hid hi'
      clear cp h4 r4 k4 hi'
      go_wp2
      exact ⟨⟨i + n + (stepI (atmE D As) D s.data.toList i (i + n) t E).2, i + n, _, _, _, _, _, _, by rw [HI.out]; first | rfl | (congr 1; omega) | (congr 1), by omega, by have := HLEN.out; omega, H4.out, K4.out, R4.out, HP.out, HEQ.out⟩, by have := HLEN.out; have := HI.out; simp [intOf]; omega⟩
    · have hE : inlE (atmE D As) D s.data.toList = groupI (Z.map Prod.fst) := by
        have e1 := inlFrom_end (atmE D As) D s.data.toList i E (by simp; omega)
        show inlE (atmE D As) D s.data.toList = _
        rw [inlE_from, ← heq, e1, hrep.its]
      have hz := zok_of hrep hpot (by omega) (HP8.out.1 _ hjs)
      obtain ⟨Ai, ci, rfl, hel⟩ := EltsAt.own itC_length hst.row
      have cg := fun W (hb : Below wr.heap.size wr W) => zgroup_any (w := W) hz (EltsAt.below hel hb) (fun x hx => (hst.nds x hx).keep (KI.of (B := w.heap.size) hb hst.baseLe))
      rw [← hE] at cg
      obtain ⟨c0, c1, c2, c3, c4, c5, c6, cf, hlt⟩ := hst.bcells
      have HKI := Lib.hid (HB.out.trans hki.below)
      clear c0 c1 c2 c3 c5 c6 cf hE hz hel hki hst hpot hrep heq
      go_wp2_with fail
      refine (cg _ (Below.refl _ _)).mono ?_
      rintro e w3 ⟨⟨v3, rfl, hv3⟩, b3⟩
      have HV := Lib.hid hv3
      have HB3 := Lib.hid (HKI.out.then b3)
      clear cg hv3 b3
      go_wp2
      go_ret
      exact ⟨⟨_, rfl, HV.out⟩, HB3.out⟩
end
end Go.Proofs.YteihmgcphbijhaaGreatDoor
