/- Texts joined: EmI EmJ EmK CvB EmM EmN. -/
import Derived.Test.YteihmgcphbijhaaGreatDoorQAE
import Derived.Deep.AppendLies
import Derived.BigRegion
import Derived.Maps.AppendAt
import Derived.Test.YteihmgcphbijhaaGreatDoorQAA
import Derived.Laws.BytesArg
import Derived.Laws.IdiomStrings
import Derived.RangeFuncNested
import Derived.RangeFuncBound
import Derived.RangeFuncCalls
import Derived.RangeFuncLeaves
import Derived.Shelf.Abstract
import Derived.Shelf.RegionOpen
import Derived.WalkKit
import Derived.OwnWalkIn
import Derived.TacticsInMore
import Derived.LoopNIn
import Derived.LoopIn
namespace Go.Proofs.YteihmgcphbijhaaGreatDoor
open Go.RowKit Go.Maps Go.ChangeShapes
set_option linter.unusedSimpArgs false
set_option linter.unusedVariables false
set_option maxRecDepth 100000
theorem natI_length (l : List Nat) : (natI l).length = l.length := by simp [natI]
theorem natI_append (a b : List Nat) : natI (a ++ b) = natI a ++ natI b := by simp [natI]
/-- The last of a list of places. -/
theorem last_cell {w : World} {base : Nat} {v : Value} {l : List Nat} {j : Nat} (h : w.ownsInts base 3 .i64 v (natI (l ++ [j]))) :
    ∃ g c, v = .slice (some ⟨g, 0, none⟩) (l.length + 1) c ∧ base ≤ g ∧ g < w.heap.size ∧ w.cell? ⟨g, l.length, none⟩ = some (.int .i64 j) ∧ l.length + 1 ≤ c ∧ c ≤ maxLen := by
  have hl : (natI (l ++ [j])).length = l.length + 1 := by simp [natI]
  have hr := h.1
  rw [hl] at hr
  obtain ⟨g, c, rfl, hb, hg⟩ := hr.form (by omega)
  refine ⟨g, c, rfl, hb, hg, ?_, ?_⟩
  · rw [hr.cellAt _ (by omega), List.getElem?_map, natI, List.getElem?_map]
    simp
  · rcases hr.2 with ⟨e, _⟩ | ⟨g', c', cur, e, _, _, h1, h2, _⟩
    · cases e
    · cases e; exact ⟨h1, h2⟩
/-- All but the last. -/
theorem cut_last {w : World} {base : Nat} {g c : Nat} {l : List Nat} {j : Nat} (h : w.ownsInts base 3 .i64 (.slice (some ⟨g, 0, none⟩) (l.length + 1) c) (natI (l ++ [j]))) :
    w.ownsInts base 3 .i64 (.slice (some ⟨g, 0, none⟩) l.length c) (natI l) := by
  have hl : (natI (l ++ [j])).length = l.length + 1 := by simp [natI]
  have hr := h.1
  rw [hl] at hr
  have := own_cut (m := l.length) hr (by omega)
  rw [natI_append, List.map_append, Nat.mul_one, List.take_left' (by simp [natI])] at this
  refine ⟨by rw [natI_length]; exact this, fun z hz => h.2 z (by rw [natI_append]; exact List.mem_append_left _ hz)⟩
theorem elem_ints : Tryz.prog.elem 22 = 3 := by kernel_rfl
theorem nslice_high (A : Option Addr) (len cap k : Nat) (h : k ≤ cap) (W : World) : (Instr.slice 22 (.slice A len cap) none (some (.int .i64 (k : Int))) none).run Tryz.prog W = .ok (.slice A k cap) W := by
  rw [run_slice_h W 22 A len cap (by kernel_rfl) .i64 (k : Int) (by omega) (by omega)]
  rw [show Tryz.prog.elem 22 = 3 from elem_ints]
  go_simp
theorem em_tmod (f : Int) : -2 ≤ f.tmod 3 ∧ f.tmod 3 ≤ 2 := by
  have h1 := Int.tmod_lt_of_pos f (show (0 : Int) < 3 by decide)
  have h2 := Int.lt_tmod_of_pos f (show (0 : Int) < 3 by decide)
  omega
theorem boxK_at {wx : World} {g : Nat} {c0 c1 c2 : Value} {t : TypeId} (h : wx.heap[g]? = some (.cells #[c0, c1, c2] t (0, 0))) : wx.cell? ⟨g, 0, none⟩ = some c0 ∧ wx.cell? ⟨g, 1, none⟩ = some c1 ∧ wx.cell? ⟨g, 2, none⟩ = some c2 ∧ (∀ i, wx.frozen? ⟨g, i, none⟩ = false) ∧ g < wx.heap.size :=
  ⟨(cell_of_row _ _ 0 _ _ (0, 0) h).trans rfl, (cell_of_row _ _ 1 _ _ (0, 0) h).trans rfl, (cell_of_row _ _ 2 _ _ (0, 0) h).trans rfl, fun i => by simp [World.frozen?, h], (Array.getElem?_eq_some_iff.1 h).1⟩
/-- The last place of a kind. -/
theorem opsK_last {ps : List Pc} {l : List Nat} {j : Nat} {p : Pc} (hj : ps[j]? = some p) : opsK ps (l ++ [j]) p.it.sg (p.it.op && p.it.cl) (p.it.ff.tmod 3) = natI ((l.filter (kAt ps p.it.sg (p.it.op && p.it.cl) (p.it.ff.tmod 3))) ++ [j]) := by
  unfold opsK
  rw [List.filter_append, List.filter_cons, if_pos (by simp [kAt, hj, kB])]
  rfl
theorem opsK_other {ps : List Pc} {l : List Nat} {j : Nat} {p : Pc} (hj : ps[j]? = some p) (sg : UInt8) (b : Bool) (r : Int) (h : ¬ (sg = p.it.sg ∧ b = (p.it.op && p.it.cl) ∧ r = p.it.ff.tmod 3)) : opsK ps (l ++ [j]) sg b r = opsK ps l sg b r := by
  unfold opsK
  rw [List.filter_append, List.filter_cons, if_neg]
  · simp
  · simp only [kAt, hj, kB]
    intro e
    simp at e
    exact h ⟨e.1.1.symm, e.1.2.symm, e.2.symm⟩
theorem snoc_cases {α : Type} (l : List α) : l = [] ∨ ∃ l' x, l = l' ++ [x] := by
  rcases List.eq_nil_or_concat l with h | ⟨l', x, h⟩
  · exact Or.inl h
  · exact Or.inr ⟨l', x, by rw [h, List.concat_eq_append]⟩
theorem groups_store {w0 w1 : World} {base bm n : Nat} {D : DU} (h : w0.ownsGroups Tryz.prog 124 base 3 .i64 bm n D) (hn : n < maxLen) {sg : UInt8} {b : Bool} {r : Int} (hr : -2 ≤ r ∧ r ≤ 2) {u v' : Value} {zs zs' : List Int}
    (hu : w0.ownsInts base 3 .i64 u zs) (hback : w0.groupBack Tryz.prog 80 124 base 3 .i64 bm n D (kindV sg b r) (kLit sg b r) u) (hgr : w0.grownBy w1 u.ownBlock) (ho : w1.ownsInts base 3 .i64 v' zs')
    (hl : zs'.length ≤ n + 1) (hloc : v'.ownBlock = u.ownBlock ∨ ∃ g, v'.ownBlock = some g ∧ w0.heap.size ≤ g) {No : Nat → Prop} (hs : w0.Shuns bm No) (hno : ∀ g, v'.ownBlock = some g → ¬ No g) :
    ∃ w2, (Instr.mapUpdate 80 (.map (some bm)) (kindV sg b r) v').run Tryz.prog w1 = .ok () w2 ∧ w2.ownsGroups Tryz.prog 124 base 3 .i64 bm (n + 1) (D.put (kLit sg b r) (rowDatum .i64 v' zs')) ∧ w1.grownBy w2 (some bm) ∧ w2.Shuns bm No := by
  obtain ⟨w2, hrun, r1, r2⟩ := hback w1 v' zs' hgr ho hl hloc
  refine ⟨w2, hrun, r1, r2, ?_⟩
  obtain ⟨es, clock, hb, F, hsz, _, hbb, _⟩ := h
  have hblt : bm < w0.heap.size := (Array.getElem?_eq_some_iff.1 hb).1
  have hb1 : w1.heap[bm]? = some (.map es clock) := (hgr.block bm hblt (fun e1 => by have := (hu.1.lt bm e1.symm).1; omega)).trans hb
  obtain ⟨es', clock', hb2, hwho⟩ := stored_who keyLaw Tryz.underlying80 hb1 F (Nat.lt_of_le_of_lt hsz hn) (keyOf_kind sg b r hr) hrun
  intro es2 clock2 hb2' y hy g hyg
  obtain ⟨rfl, rfl⟩ : es' = es2 ∧ clock' = clock2 := by rw [hb2] at hb2'; simpa using hb2'
  rcases hwho y hy with ⟨hy0, _⟩ | ⟨_, hval⟩
  · exact hs es clock hb y hy0 g hyg
  · exact hno g (hval ▸ hyg)
def ShRel (M : Nat) (b bp bm cap : Nat) (Ps : List Pm) (o1 o2 : List Nat) (B : Nat) (w : World) (s : Value) (wr : World) : Prop :=
  ∃ (o3 : List Nat) (n : Nat) (D : DU) (ov : Value), s = .int .i64 (((o1.length + o3.length : Nat) : Int) - 1) ∧ o3 <+: o2 ∧ PrSt wr b bp bm cap n D Ps (o1 ++ o3) (o1 ++ o3) ov ∧ KB B w wr ∧ n + (o1 ++ o3).length ≤ M
set_option maxHeartbeats 8000000 in
theorem shut_any {w : World} {b bp bm cap n B : Nat} {D : DU} {Ps : List Pm} {o1 o2 : List Nat} {ov : Value} (h : PrSt w b bp bm cap n D Ps (o1 ++ o2) (o1 ++ o2) ov) (hB : B ≤ bm ∧ B ≤ b ∧ B ≤ w.heap.size) (hops : ∀ i ∈ o1 ++ o2, i < Ps.length)
    (f : Nat) (hf : f ≤ 1000) (h1 : ∀ i ∈ o1, i < f) (h2 : ∀ i ∈ o2, f ≤ i) :
    Calls Tryz.prog 117 #[.pointer (some ⟨b, 0, none⟩), .int .i64 f] w fun e w' => e = .returned (.tuple #[]) ∧ (∃ n' D' ov', PrSt w' b bp bm cap n' D' Ps o1 o1 ov' ∧ n' + o1.length ≤ n + (o1 ++ o2).length) ∧ KB B w w' := by
  have hcnt := h.cnt
  have hsm := h.small
  have hln := h.len
  obtain ⟨A0, cp0, ho0, _⟩ := own_form h.own_ops.1
  rw [natI_length] at ho0
  obtain ⟨c0, c1, c2, _⟩ := h.bcells
  rw [ho0, List.length_append] at c1
  have HH := Lib.hid h
  have H1 := Lib.hid h1
  have H2 := Lib.hid h2
  have HO := Lib.hid hops
  clear h h1 h2 hops
  have hbnd : o1.length + o2.length ≤ 2000 := by rw [List.length_append] at hcnt; omega
  go_enter Tryz.func117, Tryz.ntmps117
  go_wp2_with fail
  go_loopw [4] (fun s wr => ShRel (n + (o1 ++ o2).length) b bp bm cap Ps o1 o2 B w s wr) (fun s _ => (intOf s + 1).toNat)
  case atStart => exact ⟨o2, n, D, ov, by go_num, List.prefix_refl _, HH.out, KB.refl _ _, Nat.le_refl _⟩
  case round =>
    obtain ⟨o3, n', D', ov', rfl, hpre, h, hbw, hM⟩ := hrel
    have HMM := Lib.hid hM
    clear hM
    have HP := Lib.hid hpre
    have hcnt' := h.cnt
    have hol : (o1 ++ o3).length ≤ 2000 := by omega
    rw [List.length_append] at hol
    have hbwB := hbw.size
    clear c0 c1 c2
    obtain ⟨c0, c1, c2, hfz, hbl⟩ := h.bcells
    rcases snoc_cases o3 with rfl | ⟨o4, j, rfl⟩
    · rw [List.append_nil] at h
      rcases snoc_cases o1 with rfl | ⟨o5, i, rfl⟩
      · have HE := Lib.hid h
        clear h
        go_wp2
        go_end0
        exact ⟨rfl, ⟨n', D', ov', HE.out, by have := HMM.out; simpa using this⟩, hbw⟩
      · obtain ⟨g, c, rfl, hg, hgl, hcl, hc⟩ := last_cell h.own_ops
        have hi : i < f := H1.out i (by simp)
        have hlen : (o5 ++ [i]).length + ([] : List Nat).length = o5.length + 1 := by simp
        rw [hlen]
        have HE := Lib.hid h
        clear h
        go_wp2
        go_end0
        exact ⟨rfl, ⟨n', D', _, HE.out, by have := HMM.out; simpa using this⟩, hbw⟩
    · rw [← List.append_assoc] at h
      obtain ⟨g, c, rfl, hg, hgl, hcl, hc, hcM⟩ := last_cell h.own_ops
      have hjf : f ≤ j := H2.out j ((HP.out).subset (by simp))
      have hjl : j < Ps.length := HO.out j (List.mem_append_right _ ((HP.out).subset (by simp)))
      obtain ⟨x, hx⟩ : ∃ x, Ps[j]? = some x := ⟨_, List.getElem?_eq_getElem hjl⟩
      obtain ⟨⟨p0, p1, p2, p3, p4, p5, p6, p7⟩, pfz, hbpl, _⟩ := h.pcells hx
      have hck := fun W => kindOf_any x.1.it x.2.1 W
      unfold itV kV kindV at hck
      have hmm : ((o1.length + (o4 ++ [j]).length : Nat) : Int) - 1 = ((o1 ++ o4).length : Nat) := by simp; omega
      rw [hmm]
      have hol2 : (o1 ++ o4).length ≤ 2000 := by rw [List.length_append]; simp at hol; omega
      have HPS := Lib.hid h
      clear h
      have HM := Lib.hid (show (o1 ++ o4).length = o1.length + o4.length from List.length_append)
      generalize hm : (o1 ++ o4).length = m at *
      unfold maxLen at hcM
      have hcM2 : c ≤ 9223372036854775807 := hcM
      have hmlt : (m : Int) < (m : Int) + 1 := by omega
      have hjlt : (j : Int) < (Ps.length : Int) := by omega
      go_upto_region 3 with fail
      go_cut [5] from 27 to 41 (fun s wx => ∃ gk, s = .pointer (some ⟨gk, 0, none⟩) ∧ wx.heap[gk]? = some (.cells #[.int .u8 x.1.it.sg.toNat, .bool (x.1.it.op && x.1.it.cl), .int .i64 (x.1.it.ff.tmod 3)] 124 (0, 0)) ∧ Below wr.heap.size wr wx)
      case first =>
        have hSB : ∀ W : World, Below wr.heap.size wr W → (W.cell? ⟨b, 0, none⟩ = some (.slice (some ⟨bp, 0, none⟩) Ps.length cap) ∧ W.cell? ⟨b, 1, none⟩ = some (.slice (some ⟨g, 0, none⟩) (m + 1) c) ∧ W.cell? ⟨g, m, none⟩ = some (.int .i64 j) ∧ W.cell? ⟨bp, j * 8, none⟩ = some (.int .u8 x.1.it.sg.toNat) ∧ W.cell? ⟨bp, j * 8 + 1, none⟩ = some (.int .i64 x.1.it.ff) ∧ W.cell? ⟨bp, j * 8 + 2, none⟩ = some (.bool x.1.it.op) ∧ W.cell? ⟨bp, j * 8 + 3, none⟩ = some (.bool x.1.it.cl) ∧ W.cell? ⟨bp, j * 8 + 4, none⟩ = some x.2.1) := fun W hb =>
          ⟨(hb.cell (p := ⟨b, 0, none⟩) hbl).trans c0, (hb.cell (p := ⟨b, 1, none⟩) hbl).trans c1, (hb.cell (p := ⟨g, m, none⟩) hgl).trans hcl, (hb.cell (p := ⟨bp, j * 8, none⟩) hbpl).trans p0, (hb.cell (p := ⟨bp, j * 8 + 1, none⟩) hbpl).trans p1, (hb.cell (p := ⟨bp, j * 8 + 2, none⟩) hbpl).trans p2, (hb.cell (p := ⟨bp, j * 8 + 3, none⟩) hbpl).trans p3, (hb.cell (p := ⟨bp, j * 8 + 4, none⟩) hbpl).trans p4⟩
        have HSB := Lib.hid hSB
        have HS := Lib.hid (hSB wr.drew (Below.refl _ wr).drew)
        clear hSB c0 c1 c2 hcl p0 p1 p2 p3 p4 p5 p6 p7
        have hs0 : wr.drew.heap.size = wr.heap.size := rfl
        have hbd : Below wr.heap.size wr wr.drew := (Below.refl _ wr).drew
        refine wp_region_N (fun W => W.cell? ⟨b, 0, none⟩ = some (.slice (some ⟨bp, 0, none⟩) Ps.length cap) ∧ W.cell? ⟨b, 1, none⟩ = some (.slice (some ⟨g, 0, none⟩) (m + 1) c) ∧ W.cell? ⟨g, m, none⟩ = some (.int .i64 j) ∧ W.cell? ⟨bp, j * 8, none⟩ = some (.int .u8 x.1.it.sg.toNat) ∧ W.cell? ⟨bp, j * 8 + 1, none⟩ = some (.int .i64 x.1.it.ff) ∧ W.cell? ⟨bp, j * 8 + 2, none⟩ = some (.bool x.1.it.op) ∧ W.cell? ⟨bp, j * 8 + 3, none⟩ = some (.bool x.1.it.cl) ∧ W.cell? ⟨bp, j * 8 + 4, none⟩ = some x.2.1) (fun i => decide (i < 14) || i == 15) (by kernel_rfl) ?_
        generalize hwd : wr.drew = wd at *
        refine wpAnyN_take_at 0 27 (v := ?_) rfl rfl (by kernel_rfl) (by kernel_rfl) (by kernel_rfl) (by kernel_rfl) (by kernel_rfl) (fun _ _ _ h => h) (by rfl) ?_ HS.out ?_
        rotate_left
        · intro W hSw; (try dsimp only at hSw); obtain ⟨q0, q1, q2, q3, q4, q5, q6, q7⟩ := hSw; go_simp; (try with_reducible rfl)
        simp only [Act.put, List.setIfInBounds_toArray, List.set_cons_zero, List.set_cons_succ]
        refine wpAnyN_take_at 1 28 (v := ?_) rfl rfl (by kernel_rfl) (by kernel_rfl) (by kernel_rfl) (by kernel_rfl) (by kernel_rfl) (fun _ _ _ h => h) (by rfl) ?_ HS.out ?_
        rotate_left
        · intro W hSw; (try dsimp only at hSw); obtain ⟨q0, q1, q2, q3, q4, q5, q6, q7⟩ := hSw; go_simp; (try with_reducible rfl)
        simp only [Act.put, List.setIfInBounds_toArray, List.set_cons_zero, List.set_cons_succ]
        refine wpAnyN_take_at 2 29 (v := ?_) rfl rfl (by kernel_rfl) (by kernel_rfl) (by kernel_rfl) (by kernel_rfl) (by kernel_rfl) (fun _ _ _ h => h) (by rfl) ?_ HS.out ?_
        rotate_left
        · intro W hSw; (try dsimp only at hSw); obtain ⟨q0, q1, q2, q3, q4, q5, q6, q7⟩ := hSw; go_simp; (try with_reducible rfl)
        simp only [Act.put, List.setIfInBounds_toArray, List.set_cons_zero, List.set_cons_succ]
        refine wpAnyN_take_at 3 30 (v := ?_) rfl rfl (by kernel_rfl) (by kernel_rfl) (by kernel_rfl) (by kernel_rfl) (by kernel_rfl) (fun _ _ _ h => h) (by rfl) ?_ HS.out ?_
        rotate_left
        · intro W hSw; (try dsimp only at hSw); obtain ⟨q0, q1, q2, q3, q4, q5, q6, q7⟩ := hSw; go_simp; (try with_reducible rfl)
        simp only [Act.put, List.setIfInBounds_toArray, List.set_cons_zero, List.set_cons_succ]
        refine wpAnyN_take_at 4 31 (v := ?_) rfl rfl (by kernel_rfl) (by kernel_rfl) (by kernel_rfl) (by kernel_rfl) (by kernel_rfl) (fun _ _ _ h => h) (by rfl) ?_ HS.out ?_
        rotate_left
        · intro W hSw; (try dsimp only at hSw); obtain ⟨q0, q1, q2, q3, q4, q5, q6, q7⟩ := hSw; go_simp; (try with_reducible rfl)
        simp only [Act.put, List.setIfInBounds_toArray, List.set_cons_zero, List.set_cons_succ]
        refine wpAnyN_take_at 5 32 (v := ?_) rfl rfl (by kernel_rfl) (by kernel_rfl) (by kernel_rfl) (by kernel_rfl) (by kernel_rfl) (fun _ _ _ h => h) (by rfl) ?_ HS.out ?_
        rotate_left
        · intro W hSw; (try dsimp only at hSw); obtain ⟨q0, q1, q2, q3, q4, q5, q6, q7⟩ := hSw; go_simp; (try with_reducible rfl)
        simp only [Act.put, List.setIfInBounds_toArray, List.set_cons_zero, List.set_cons_succ]
        refine wpAnyN_take_at 6 33 (v := ?_) rfl rfl (by kernel_rfl) (by kernel_rfl) (by kernel_rfl) (by kernel_rfl) (by kernel_rfl) (fun _ _ _ h => h) (by rfl) ?_ HS.out ?_
        rotate_left
        · intro W hSw; (try dsimp only at hSw); obtain ⟨q0, q1, q2, q3, q4, q5, q6, q7⟩ := hSw; go_simp; (try with_reducible rfl)
        simp only [Act.put, List.setIfInBounds_toArray, List.set_cons_zero, List.set_cons_succ]
        refine wpAnyN_take_at 7 34 (v := ?_) rfl rfl (by kernel_rfl) (by kernel_rfl) (by kernel_rfl) (by kernel_rfl) (by kernel_rfl) (fun _ _ _ h => h) (by rfl) ?_ HS.out ?_
        rotate_left
        · intro W hSw; (try dsimp only at hSw); obtain ⟨q0, q1, q2, q3, q4, q5, q6, q7⟩ := hSw; go_simp; (try with_reducible rfl)
        simp only [Act.put, List.setIfInBounds_toArray, List.set_cons_zero, List.set_cons_succ]
        refine wpAnyN_take_at 8 35 (v := ?_) rfl rfl (by kernel_rfl) (by kernel_rfl) (by kernel_rfl) (by kernel_rfl) (by kernel_rfl) (fun _ _ _ h => h) (by rfl) ?_ HS.out ?_
        rotate_left
        · intro W hSw; (try dsimp only at hSw); obtain ⟨q0, q1, q2, q3, q4, q5, q6, q7⟩ := hSw; go_simp; (try with_reducible rfl)
        simp only [Act.put, List.setIfInBounds_toArray, List.set_cons_zero, List.set_cons_succ]
        refine wpAnyN_take_at 9 36 (v := ?_) rfl rfl (by kernel_rfl) (by kernel_rfl) (by kernel_rfl) (by kernel_rfl) (by kernel_rfl) (fun _ _ _ h => h) (by rfl) ?_ HS.out ?_
        rotate_left
        · intro W hSw; (try dsimp only at hSw); obtain ⟨q0, q1, q2, q3, q4, q5, q6, q7⟩ := hSw; go_simp; (try with_reducible rfl)
        simp only [Act.put, List.setIfInBounds_toArray, List.set_cons_zero, List.set_cons_succ]
        refine wpAnyN_take_at 10 37 (v := ?_) rfl rfl (by kernel_rfl) (by kernel_rfl) (by kernel_rfl) (by kernel_rfl) (by kernel_rfl) (fun _ _ _ h => h) (by rfl) ?_ HS.out ?_
        rotate_left
        · intro W hSw; (try dsimp only at hSw); obtain ⟨q0, q1, q2, q3, q4, q5, q6, q7⟩ := hSw; go_simp; (try with_reducible rfl)
        simp only [Act.put, List.setIfInBounds_toArray, List.set_cons_zero, List.set_cons_succ]
        refine wpAnyN_take_at 11 38 (v := ?_) rfl rfl (by kernel_rfl) (by kernel_rfl) (by kernel_rfl) (by kernel_rfl) (by kernel_rfl) (fun _ _ _ h => h) (by rfl) ?_ HS.out ?_
        rotate_left
        · intro W hSw; (try dsimp only at hSw); obtain ⟨q0, q1, q2, q3, q4, q5, q6, q7⟩ := hSw; go_simp; (try with_reducible rfl)
        simp only [Act.put, List.setIfInBounds_toArray, List.set_cons_zero, List.set_cons_succ]
        refine wpAnyN_take_at 12 39 (v := ?_) rfl rfl (by kernel_rfl) (by kernel_rfl) (by kernel_rfl) (by kernel_rfl) (by kernel_rfl) (fun _ _ _ h => h) (by rfl) ?_ HS.out ?_
        rotate_left
        · intro W hSw; (try dsimp only at hSw); obtain ⟨q0, q1, q2, q3, q4, q5, q6, q7⟩ := hSw; go_simp; (try with_reducible rfl)
        simp only [Act.put, List.setIfInBounds_toArray, List.set_cons_zero, List.set_cons_succ]
        refine wpAnyN_take_at 13 40 (v := ?_) rfl rfl (by kernel_rfl) (by kernel_rfl) (by kernel_rfl) (by kernel_rfl) (by kernel_rfl) (fun _ _ _ h => h) (by rfl) ?_ HS.out ?_
        rotate_left
        · intro W hSw; (try dsimp only at hSw); obtain ⟨q0, q1, q2, q3, q4, q5, q6, q7⟩ := hSw; go_simp; (try with_reducible rfl)
        simp only [Act.put, List.setIfInBounds_toArray, List.set_cons_zero, List.set_cons_succ]
        refine wpAnyN_two (i := 14) (j := 15) rfl rfl (by kernel_rfl) (fun K hK => ?_) (fun K hK => ?_)
        · go_simp
          go_at_call 52
          refine (hck _).mono ?_
          rintro e w3 ⟨rfl, b3⟩
          have hb3 : Below wr.heap.size wr w3 := hbd.trans (b3.mono (by omega))
          have hs3 := hb3.size
          refine hK _ _ (fun h => absurd h (by decide)) ?_
          clear hK
          (try simp only [Act.put, List.setIfInBounds_toArray, List.set_cons_zero, List.set_cons_succ])
          refine wpAnyN_one (i := 15) rfl (by kernel_rfl) (fun K hK => ?_)
          go_simp
          refine hK _ _ (fun _ => HSB.out _ (hb3.alloc hs3 _)) ?_
          clear hK
          (try simp only [Act.put, List.setIfInBounds_toArray, List.set_cons_zero, List.set_cons_succ])
          refine wpAnyN_rest 16 [_] rfl (by kernel_rfl) (by rfl) ?_
          go_wp2
          go_meet
          exact ⟨w3.heap.size, rfl, heap_alloc_new _ _, hb3.alloc hs3 _⟩
        · go_simp
          refine hK _ _ (fun _ => HSB.out _ (hbd.alloc (by omega) _)) ?_
          clear hK
          (try simp only [Act.put, List.setIfInBounds_toArray, List.set_cons_zero, List.set_cons_succ])
          refine wpAnyN_one (i := 14) rfl (by kernel_rfl) (fun K hK => ?_)
          go_simp
          go_at_call 52
          refine (hck _).mono ?_
          rintro e w3 ⟨rfl, b3⟩
          have hbx : w3.heap[wd.heap.size]? = some (.cells #[.int .u8 0, .bool false, .int .i64 0] 124 (0, 0)) := (b3.block _ (by simp)).trans (heap_alloc_new _ _)
          rw [hs0] at hbx
          obtain ⟨v0, v1, v2, vf, vlt⟩ := boxK_at hbx
          have hb3 : Below wr.heap.size wr w3 := (hbd.alloc (by omega) _).trans (b3.mono (by simp; omega))
          refine hK _ _ (fun h => absurd h (by decide)) ?_
          clear hK
          (try simp only [Act.put, List.setIfInBounds_toArray, List.set_cons_zero, List.set_cons_succ])
          refine wpAnyN_rest 16 [_] rfl (by kernel_rfl) (by rfl) ?_
          have HBX := Lib.hid hbx
          have HB3 := Lib.hid hb3
          clear hbx hb3 b3
          go_wp2
          go_meet
          exact ⟨wr.heap.size, rfl, by simp [World.setCell, Array.getElem?_modify, HBX.out], ((HB3.out.setCell (p := ⟨wr.heap.size, 0, none⟩) (Nat.le_refl _) _).setCell (p := ⟨wr.heap.size, 1, none⟩) (Nat.le_refl _) _).setCell (p := ⟨wr.heap.size, 2, none⟩) (Nat.le_refl _) _⟩
      case rest =>
        obtain ⟨gk, rfl, hbk, hbx⟩ := hcut
        have HBk := Lib.hid hbk
        have HBx := Lib.hid hbx
        clear c0 c1 c2 hcl p0 p1 p2 p3 p4 p5 p6 p7 hbk hbx hck
        go_wp2_with fail
        have hbd : Below wr.heap.size wr wc.drew := HBx.out.drew
        have hd := HPS.out.below hbd
        refine wp_region_N (fun W => W = wc.drew) (fun i => decide (i < 20)) (by kernel_rfl) ?_
        obtain ⟨b0, b1, b2, bfz, blt⟩ := boxK_at (wx := wc.drew) HBk.out
        generalize hwd : wc.drew = wd at *
        obtain ⟨gv, zs, hrun, hat, hoi, hzl, hback, hsh⟩ := groups_look hd.fam.grp (by unfold maxLen; omega) x.1.it.sg (x.1.it.op && x.1.it.cl) (x.1.it.ff.tmod 3) (em_tmod _)
        have hxp : (Ps.map Prod.fst)[j]? = some x.1 := by rw [List.getElem?_map, hx]; rfl
        have hzs : zs = natI (((o1 ++ o4).filter (kAt (Ps.map Prod.fst) x.1.it.sg (x.1.it.op && x.1.it.cl) (x.1.it.ff.tmod 3))) ++ [j]) := by
          have h1 := hd.kd.2 x.1.it.sg (x.1.it.op && x.1.it.cl) (x.1.it.ff.tmod 3) (em_tmod _).1 (em_tmod _).2
          rw [hat, zsOf_row hoi, opsK_last hxp] at h1
          exact h1
        have HKD := Lib.hid (show opsK (Ps.map Prod.fst) (o1 ++ o4) x.1.it.sg (x.1.it.op && x.1.it.cl) (x.1.it.ff.tmod 3) = natI ((o1 ++ o4).filter (kAt (Ps.map Prod.fst) x.1.it.sg (x.1.it.op && x.1.it.cl) (x.1.it.ff.tmod 3))) from rfl)
        generalize (o1 ++ o4).filter (kAt (Ps.map Prod.fst) x.1.it.sg (x.1.it.op && x.1.it.cl) (x.1.it.ff.tmod 3)) = F at *
        subst hzs
        obtain ⟨g2, cc, rfl, hg2, hg2l, _, hcc, hccM⟩ := last_cell hoi
        have hcut := cut_last hoi
        rw [natI_length, List.length_append] at hzl
        have hzl2 : F.length + 1 ≤ n' := hzl
        obtain ⟨w2, hup, hgr2, hgb2, hsh2⟩ := groups_store hd.fam.grp (by unfold maxLen; omega) (em_tmod x.1.it.ff) hoi hback (World.grownBy.refl _ _) hcut (by rw [natI_length]; omega) (Or.inl rfl) hd.fam.shun (fun g' hg' => hsh _ hd.fam.shun g' hg')
        have hd2 := hd.kinds (opsM' := o1 ++ o4) hoi hsh (World.grownBy.refl _ _) hgb2 hgr2 hsh2 (hd.kd.put (em_tmod _) _ (opsK (Ps.map Prod.fst) (o1 ++ o4)) (by rw [zsOf_row hcut, HKD.out]) (fun sg2 b2 r2 hne => (opsK_other hxp sg2 b2 r2 hne).symm)) (by have := hd.cnt; simp only [List.length_append, List.length_cons, List.length_nil] at this ⊢; omega)
        obtain ⟨d0, d1, d2, dfz, dlt⟩ := hd2.bcells
        obtain ⟨a0, a1, a2, afz, alt⟩ := hd.bcells
        have hsl := fun W => nslice_high (some ⟨g2, 0, none⟩) (F.length + 1) cc F.length (by omega) W
        have hsl2 := fun W => nslice_high (some ⟨g, 0, none⟩) (m + 1) c m (by omega) W
        have hwF : IntKind.i64.wrap (F.length : Int) = (F.length : Int) := IntWalk.i64_in _ (by omega)
        have hFc : F.length ≤ cc := by omega
        unfold kindV at hrun hup
        have hlk := hrun wd rfl
        have hopn := hd2.openers (World.grownBy.refl _ _) (cut_last (by rw [hm]; exact hd2.own_ops)) (Or.inl rfl)
        rw [hm] at hopn
        have HOP := Lib.hid hopn
        have hb2 : KB B w w2 := (hbw.thenB hbd (by omega)).grown hgb2 (by have := hbd.size; omega) (hd.row_bm hB.1)
        have hb2' : KB B w (w2.setCell ⟨b, 1, none⟩ (.slice (some ⟨g, 0, none⟩) m c)) := hb2.grown (setc_grown _ _ _ _) (by have := hb2.size; omega) (hd2.row_b hB.2.1)
        have HB2 := Lib.hid hb2'
        have HG := Lib.hid hgb2
        have HDD := Lib.hid hd2
        clear hd hback hsh hoi hat hcut hgr2 hgb2 hsh2 hd2 hopn hb2 hb2' hrun hxp HBk HBx HPS hwd
        refine wpAnyN_take_at 0 42 (v := ?_) rfl rfl (by kernel_rfl) (by kernel_rfl) (by kernel_rfl) (by kernel_rfl) (by kernel_rfl) (fun _ _ _ h => h) (by rfl) ?_ rfl ?_
        rotate_left
        · intro W hSw; (try dsimp only at hSw); subst hSw; go_simp; (try with_reducible rfl)
        simp only [Act.put, List.setIfInBounds_toArray, List.set_cons_zero, List.set_cons_succ]
        refine wpAnyN_take_at 1 43 (v := ?_) rfl rfl (by kernel_rfl) (by kernel_rfl) (by kernel_rfl) (by kernel_rfl) (by kernel_rfl) (fun _ _ _ h => h) (by rfl) ?_ rfl ?_
        rotate_left
        · intro W hSw; (try dsimp only at hSw); subst hSw; go_simp; (try with_reducible rfl)
        simp only [Act.put, List.setIfInBounds_toArray, List.set_cons_zero, List.set_cons_succ]
        refine wpAnyN_take_at 2 44 (v := ?_) rfl rfl (by kernel_rfl) (by kernel_rfl) (by kernel_rfl) (by kernel_rfl) (by kernel_rfl) (fun _ _ _ h => h) (by rfl) ?_ rfl ?_
        rotate_left
        · intro W hSw; (try dsimp only at hSw); subst hSw; go_simp; (try with_reducible rfl)
        simp only [Act.put, List.setIfInBounds_toArray, List.set_cons_zero, List.set_cons_succ]
        refine wpAnyN_take_at 3 45 (v := ?_) rfl rfl (by kernel_rfl) (by kernel_rfl) (by kernel_rfl) (by kernel_rfl) (by kernel_rfl) (fun _ _ _ h => h) (by rfl) ?_ rfl ?_
        rotate_left
        · intro W hSw; (try dsimp only at hSw); subst hSw; go_simp; (try with_reducible rfl)
        simp only [Act.put, List.setIfInBounds_toArray, List.set_cons_zero, List.set_cons_succ]
        refine wpAnyN_take_at 4 46 (v := ?_) rfl rfl (by kernel_rfl) (by kernel_rfl) (by kernel_rfl) (by kernel_rfl) (by kernel_rfl) (fun _ _ _ h => h) (by rfl) ?_ rfl ?_
        rotate_left
        · intro W hSw; (try dsimp only at hSw); subst hSw; go_simp; (try with_reducible rfl)
        simp only [Act.put, List.setIfInBounds_toArray, List.set_cons_zero, List.set_cons_succ]
        refine wpAnyN_take_at 5 47 (v := ?_) rfl rfl (by kernel_rfl) (by kernel_rfl) (by kernel_rfl) (by kernel_rfl) (by kernel_rfl) (fun _ _ _ h => h) (by rfl) ?_ rfl ?_
        rotate_left
        · intro W hSw; (try dsimp only at hSw); subst hSw; go_simp; (try with_reducible rfl)
        simp only [Act.put, List.setIfInBounds_toArray, List.set_cons_zero, List.set_cons_succ]
        refine wpAnyN_take_at 6 48 (v := ?_) rfl rfl (by kernel_rfl) (by kernel_rfl) (by kernel_rfl) (by kernel_rfl) (by kernel_rfl) (fun _ _ _ h => h) (by rfl) ?_ rfl ?_
        rotate_left
        · intro W hSw; (try dsimp only at hSw); subst hSw; go_simp; (try with_reducible rfl)
        simp only [Act.put, List.setIfInBounds_toArray, List.set_cons_zero, List.set_cons_succ]
        refine wpAnyN_take_at 7 49 (v := ?_) rfl rfl (by kernel_rfl) (by kernel_rfl) (by kernel_rfl) (by kernel_rfl) (by kernel_rfl) (fun _ _ _ h => h) (by rfl) ?_ rfl ?_
        rotate_left
        · intro W hSw; (try dsimp only at hSw); subst hSw; go_simp; (try with_reducible rfl)
        simp only [Act.put, List.setIfInBounds_toArray, List.set_cons_zero, List.set_cons_succ]
        refine wpAnyN_take_at 8 50 (v := ?_) rfl rfl (by kernel_rfl) (by kernel_rfl) (by kernel_rfl) (by kernel_rfl) (by kernel_rfl) (fun _ _ _ h => h) (by rfl) ?_ rfl ?_
        rotate_left
        · intro W hSw; (try dsimp only at hSw); subst hSw; go_simp; (try with_reducible rfl)
        simp only [Act.put, List.setIfInBounds_toArray, List.set_cons_zero, List.set_cons_succ]
        refine wpAnyN_take_at 9 51 (v := ?_) rfl rfl (by kernel_rfl) (by kernel_rfl) (by kernel_rfl) (by kernel_rfl) (by kernel_rfl) (fun _ _ _ h => h) (by rfl) ?_ rfl ?_
        rotate_left
        · intro W hSw; (try dsimp only at hSw); subst hSw; go_simp; (try with_reducible rfl)
        simp only [Act.put, List.setIfInBounds_toArray, List.set_cons_zero, List.set_cons_succ]
        refine wpAnyN_take_at 10 52 (v := ?_) rfl rfl (by kernel_rfl) (by kernel_rfl) (by kernel_rfl) (by kernel_rfl) (by kernel_rfl) (fun _ _ _ h => h) (by rfl) ?_ rfl ?_
        rotate_left
        · intro W hSw; (try dsimp only at hSw); subst hSw; go_simp; (try with_reducible rfl)
        simp only [Act.put, List.setIfInBounds_toArray, List.set_cons_zero, List.set_cons_succ]
        refine wpAnyN_take_at 11 53 (v := ?_) rfl rfl (by kernel_rfl) (by kernel_rfl) (by kernel_rfl) (by kernel_rfl) (by kernel_rfl) (fun _ _ _ h => h) (by rfl) ?_ rfl ?_
        rotate_left
        · intro W hSw; (try dsimp only at hSw); subst hSw; go_simp; (try with_reducible rfl)
        simp only [Act.put, List.setIfInBounds_toArray, List.set_cons_zero, List.set_cons_succ]
        refine wpAnyN_take_at 12 54 (v := ?_) rfl rfl (by kernel_rfl) (by kernel_rfl) (by kernel_rfl) (by kernel_rfl) (by kernel_rfl) (fun _ _ _ h => h) (by rfl) ?_ rfl ?_
        rotate_left
        · intro W hSw; (try dsimp only at hSw); subst hSw; go_simp; (try with_reducible rfl)
        simp only [Act.put, List.setIfInBounds_toArray, List.set_cons_zero, List.set_cons_succ]
        refine wpAnyN_take_at 13 55 (v := ?_) rfl rfl (by kernel_rfl) (by kernel_rfl) (by kernel_rfl) (by kernel_rfl) (by kernel_rfl) (fun _ _ _ h => h) (by rfl) ?_ rfl ?_
        rotate_left
        · intro W hSw; (try dsimp only at hSw); subst hSw; go_simp; (try with_reducible rfl)
        simp only [Act.put, List.setIfInBounds_toArray, List.set_cons_zero, List.set_cons_succ]
        refine wpAnyN_take_at 14 56 (v := ?_) rfl rfl (by kernel_rfl) (by kernel_rfl) (by kernel_rfl) (by kernel_rfl) (by kernel_rfl) (fun _ _ _ h => h) (by rfl) ?_ rfl ?_
        rotate_left
        · intro W hSw; (try dsimp only at hSw); subst hSw; go_simp; (try with_reducible rfl)
        simp only [Act.put, List.setIfInBounds_toArray, List.set_cons_zero, List.set_cons_succ]
        refine wpAnyN_take_at 15 57 (v := ?_) rfl rfl (by kernel_rfl) (by kernel_rfl) (by kernel_rfl) (by kernel_rfl) (by kernel_rfl) (fun _ _ _ h => h) (by rfl) ?_ rfl ?_
        rotate_left
        · intro W hSw; (try dsimp only at hSw); subst hSw; go_simp; (try with_reducible rfl)
        simp only [Act.put, List.setIfInBounds_toArray, List.set_cons_zero, List.set_cons_succ]
        refine wpAnyN_take_at 16 58 (v := ?_) rfl rfl (by kernel_rfl) (by kernel_rfl) (by kernel_rfl) (by kernel_rfl) (by kernel_rfl) (fun _ _ _ h => h) (by rfl) ?_ rfl ?_
        rotate_left
        · intro W hSw; (try dsimp only at hSw); subst hSw; go_simp; (try with_reducible rfl)
        simp only [Act.put, List.setIfInBounds_toArray, List.set_cons_zero, List.set_cons_succ]
        refine wpAnyN_take_at 17 59 (v := ?_) rfl rfl (by kernel_rfl) (by kernel_rfl) (by kernel_rfl) (by kernel_rfl) (by kernel_rfl) (fun _ _ _ h => h) (by rfl) ?_ rfl ?_
        rotate_left
        · intro W hSw; (try dsimp only at hSw); subst hSw; go_simp; (try with_reducible rfl)
        simp only [Act.put, List.setIfInBounds_toArray, List.set_cons_zero, List.set_cons_succ]
        refine wpAnyN_take_at 18 60 (v := ?_) rfl rfl (by kernel_rfl) (by kernel_rfl) (by kernel_rfl) (by kernel_rfl) (by kernel_rfl) (fun _ _ _ h => h) (by rfl) ?_ rfl ?_
        rotate_left
        · intro W hSw; (try dsimp only at hSw); subst hSw; go_simp; (try with_reducible rfl)
        simp only [Act.put, List.setIfInBounds_toArray, List.set_cons_zero, List.set_cons_succ]
        refine wpAnyN_take_at 19 61 (v := ?_) rfl rfl (by kernel_rfl) (by kernel_rfl) (by kernel_rfl) (by kernel_rfl) (by kernel_rfl) (fun _ _ _ h => h) (by rfl) ?_ rfl ?_
        rotate_left
        · intro W hSw; (try dsimp only at hSw); subst hSw; go_simp; (try with_reducible rfl)
        simp only [Act.put, List.setIfInBounds_toArray, List.set_cons_zero, List.set_cons_succ]
        refine wpAnyN_one (i := 20) rfl (by kernel_rfl) (fun K hK => ?_)
        go_simp
        refine hK _ _ (fun h => absurd h (by decide)) ?_
        clear hK hup hlk b0 b1 b2 bfz a0 a1 a2 afz
        (try simp only [Act.put, List.setIfInBounds_toArray, List.set_cons_zero, List.set_cons_succ])
        refine wpAnyN_rest 21 [] rfl (by kernel_rfl) (by rfl) ?_
        have df1 := dfz 1
        go_wp2
        go_roundw
        case rel => exact ⟨o4, n' + 1, _, _, by rw [← HM.out], (List.prefix_append o4 [j]).trans HP.out, HOP.out.1, HB2.out, by have := HMM.out; simp only [List.length_append, List.length_cons, List.length_nil] at this ⊢; omega⟩
        case measure => simp [intOf]
end Go.Proofs.YteihmgcphbijhaaGreatDoor

namespace Go.Proofs.YteihmgcphbijhaaGreatDoor
open Go.RowKit Go.Maps Go.ChangeShapes
set_option linter.unusedSimpArgs false
set_option linter.unusedVariables false
set_option maxRecDepth 100000
theorem infoInt : (Tryz.prog.info? 3).map (fun i => (i.zero, i.size, i.bytes)) = some (some (.int .i64 0), 1, 8) := by kernel_rfl
theorem set_four {α : Type} (l : List α) (j a : Nat) (h : j ≠ a) (x1 y1 x2 y2 : α) : ((((l.set j x1).set a y1).set j x2).set a y2) = (l.set j x2).set a y2 := by
  rw [List.set_comm y1 x2 (Ne.symm h), List.set_set, List.set_set]
/-- What pairing makes of the two pieces. -/
def pairX (x : Pm) (k : Int) (bv : Value) : Pm := ({ x.1 with it := lessI x.1.it k, bg := x.1.bg ++ [if k = 2 then 4 else 3] }, x.2.1, bv)
def pairY (y : Pm) (k : Int) : Pm := ({ y.1 with it := lessI y.1.it k, en := y.1.en + 1 }, y.2)
def PairEnd (M b bp bm cap B : Nat) (Ps : List Pm) (o1 : List Nat) (j a : Nat) (x y : Pm) (w : World) (e : Ending) (w' : World) : Prop :=
  e = .returned (.tuple #[]) ∧ (∃ n' D' ov' bv', PrSt w' b bp bm cap n' D' ((Ps.set j (pairX x (kOf x.1.it y.1.it) bv')).set a (pairY y (kOf x.1.it y.1.it))) (if 0 < x.1.it.n - kOf x.1.it y.1.it then o1 ++ [j] else o1) (if 0 < x.1.it.n - kOf x.1.it y.1.it then o1 ++ [j] else o1) ov' ∧ n' + (if 0 < x.1.it.n - kOf x.1.it y.1.it then o1 ++ [j] else o1).length ≤ M) ∧ KB B w w'
set_option maxHeartbeats 8000000 in
theorem pair_any {w : World} {b bp bm cap n B : Nat} {D : DU} {Ps : List Pm} {o1 o2 : List Nat} {j a : Nat} {ov : Value} {x y : Pm} (h : PrSt w b bp bm cap n D Ps (o1 ++ j :: o2) (o1 ++ j :: o2) ov) (hB : B ≤ bm ∧ B ≤ b ∧ B ≤ w.heap.size ∧ B ≤ bp)
    (hops : ∀ i ∈ o1 ++ j :: o2, i < Ps.length) (hasc : (o1 ++ j :: o2).Pairwise (· < ·)) (hx : Ps[j]? = some x) (hy : Ps[a]? = some y) (hja : j < a)
    (hxn : 0 < x.1.it.n ∧ x.1.it.n ≤ 4294967296) (hyn : 0 < y.1.it.n ∧ y.1.it.n ≤ 4294967296) (hen : y.1.en ≤ 4294967296) (hbg : x.1.bg.length ≤ 4294967296) :
    Calls Tryz.prog 88 #[.pointer (some ⟨b, 0, none⟩), .int .i64 j, .int .i64 a] w (PairEnd (n + (o1 ++ j :: o2).length) b bp bm cap B Ps o1 j a x y w) := by
  obtain ⟨i0, hi, hz0, hz1, hz2⟩ := info_parts infoInt
  have hsm := h.small
  have hln := h.len
  have hja2 : a < Ps.length := (List.getElem?_eq_some_iff.1 hy).1
  have e1 : o1 ++ j :: o2 = (o1 ++ [j]) ++ o2 := by simp
  rw [e1] at h hops hasc
  have hp := List.pairwise_append.1 hasc
  have hp1 := List.pairwise_append.1 hp.1
  have cs := shut_any h ⟨hB.1, hB.2.1, hB.2.2.1⟩ hops (j + 1) (by omega) (fun i hi => by
    rcases List.mem_append.1 hi with hi | hi
    · have := hp1.2.2 i hi j (by simp); omega
    · rw [List.mem_singleton] at hi; omega) (fun i hi => hp.2.2 j (by simp) i hi)
  have hkk := kOf_is x.1.it y.1.it hxn.1 hyn.1
  have hkd : kOf x.1.it y.1.it = if 2 ≤ x.1.it.n ∧ 2 ≤ y.1.it.n then 2 else 1 := rfl
  unfold PairEnd
  generalize hk : kOf x.1.it y.1.it = k at *
  have HA := Lib.hid hasc
  have HX := Lib.hid hx
  have HY := Lib.hid hy
  have HP1 := Lib.hid hp1
  have HOPS := Lib.hid hops
  clear h hops hasc hp hp1 hx hy hk e1
  go_enter Tryz.func88, Tryz.ntmps88
  go_wp2_with fail
  refine cs.mono ?_
  rintro e w1 ⟨rfl, ⟨n1, D1, ov1, h1, hM1⟩, b1⟩
  have HM1 := Lib.hid hM1
  clear hM1
  have hs1 := b1.size
  obtain ⟨c0, c1, c2, bfz, hbl⟩ := h1.bcells
  obtain ⟨⟨p0, p1, p2, p3, p4, p5, p6, p7⟩, pfz, hbpl, hjl⟩ := h1.pcells HX.out
  obtain ⟨⟨r0, r1, r2, r3, r4, r5, r6, r7⟩, _, _, hal⟩ := h1.pcells HY.out
  have hjlt : (j : Int) < (Ps.length : Int) := by omega
  have halt : (a : Int) < (Ps.length : Int) := by omega
  have HH1 := Lib.hid h1
  clear h1 cs
  go_wp2_with fail
  go_quiet (fail)
  have b1' : KB B w (w1.drewN nq) := b1.thenB (below_drewN' (Below.refl _ w1) nq) (by omega)
  have h2 := HH1.out.below (below_drewN' (Below.refl _ w1) nq)
  obtain ⟨w2, hw2⟩ : ∃ w2, w2 = w1.drewN nq := ⟨_, rfl⟩
  rw [← hw2] at b1' h2 ⊢
  have hs2 := b1'.size
  clear c0 c1 c2 bfz hbl p0 p1 p2 p3 p4 p5 p6 p7 pfz hbpl r0 r1 r2 r3 r4 r5 r6 r7 HH1 b1 hs1 hw2
  obtain ⟨⟨p0, p1, p2, p3, p4, p5, p6, p7⟩, pfz, hbpl, hjl⟩ := h2.pcells HX.out
  obtain ⟨⟨r0, r1, r2, r3, r4, r5, r6, r7⟩, _, _, hal⟩ := h2.pcells HY.out
  have HH2 := Lib.hid h2
  have HB2 := Lib.hid b1'
  clear h2 b1'
  go_upto_region 3 with fail
  go_cut [37] from 26 to 36 (fun s wx => s = .bool (decide (k = 2)) ∧ wx = w2)
  case first =>
    by_cases h1 : 2 ≤ x.1.it.n
    · by_cases h2 : 2 ≤ y.1.it.n
      · have hk2 : k = 2 := by rw [hkd, if_pos ⟨h1, h2⟩]
        go_wp2
        go_meet
        exact ⟨by rw [hk2]; rfl, rfl⟩
      · have hk1 : k = 1 := by rw [hkd, if_neg (fun h => h2 h.2)]
        go_wp2
        go_meet
        exact ⟨by rw [hk1]; rfl, rfl⟩
    · have hk1 : k = 1 := by rw [hkd, if_neg (fun h => h1 h.1)]
      go_wp2
      go_meet
      exact ⟨by rw [hk1]; rfl, rfl⟩
  case rest =>
  obtain ⟨rfl, hwc⟩ := hcut
  subst hwc
  obtain ⟨kd, hkd2⟩ : ∃ kd : Int, kd = if k = 2 then 4 else 3 := ⟨_, rfl⟩
  have HKD := Lib.hid hkd2
  have hkw : (Lit.int .i64 kd).wf = true := by rw [hkd2]; split <;> decide
  clear hkd2
  generalize hq : decide (k = 2) = q at *
  go_upto_if 37 with fail
  go_cut [8, 9] from 38 to 38 (fun s t wx => s = .int .i64 kd ∧ t = .int .i64 k ∧ wx = wc)
  case first =>
    have HKK := Lib.hid hkk
    clear hkd hkk
    have HQ := Lib.hid hq
    clear hq
    cases q with
    | true =>
      go_wp2
      go_meet
      have := of_decide_eq_true HQ.out
      exact ⟨by rw [HKD.out, if_pos this], by rw [this], rfl⟩
    | false =>
      go_wp2
      go_meet
      have := of_decide_eq_false HQ.out
      have h2 : k = 1 := HKK.out.1.resolve_right this
      exact ⟨by rw [HKD.out, if_neg this], by rw [h2], rfl⟩
  case rest =>
  obtain ⟨rfl, rfl, hwc⟩ := hcut
  subst hwc
  obtain ⟨h3, g3⟩ := HH2.out.setCell HX.out 5 (by omega) (.int .i64 (x.1.it.n - k)) ({ x.1 with it := lessI x.1.it k }, x.2) rfl rfl rfl rfl rfl rfl
  have hwn1 : IntKind.i64.wrap (x.1.it.n - k) = x.1.it.n - k := IntWalk.i64_in _ (by omega)
  have hwn2 : IntKind.i64.wrap (y.1.it.n - k) = y.1.it.n - k := IntWalk.i64_in _ (by omega)
  have hp5 := pfz (j * 8 + 5)
  clear hkd hq
  go_upto_region 6 with fail
  obtain ⟨w3, hw3⟩ : ∃ w3, w3 = wc.setCell ⟨bp, j * 8 + 5, none⟩ (.int .i64 (x.1.it.n - k)) := ⟨_, rfl⟩
  rw [← hw3] at h3 g3 ⊢
  have hb3 : KB B w w3 := HB2.out.grown g3 (by omega) (HH2.out.row_bp hB.2.2.2)
  clear p0 p1 p2 p3 p4 p5 p6 p7 r0 r1 r2 r3 r4 r5 r6 r7 pfz hp5 hw3 g3
  have hya : (Ps.set j ({ x.1 with it := lessI x.1.it k }, x.2))[a]? = some y := by rw [List.getElem?_set, if_neg (by omega)]; exact HY.out
  obtain ⟨⟨r0, r1, r2, r3, r4, r5, r6, r7⟩, pfz, _, _⟩ := h3.pcells hya
  obtain ⟨h4, g4⟩ := h3.setCell hya 5 (by omega) (.int .i64 (y.1.it.n - k)) ({ y.1 with it := lessI y.1.it k }, y.2) rfl rfl rfl rfl rfl rfl
  have hp5 := pfz (a * 8 + 5)
  have hs3 := hb3.size
  have HB3 := Lib.hid hb3
  have HH3 := Lib.hid h3
  have HH4 := Lib.hid h4
  have HG4 := Lib.hid g4
  clear h3 h4 g4 hb3
  go_upto_region 7 with fail
  obtain ⟨w4, hw4⟩ : ∃ w4, w4 = w3.setCell ⟨bp, a * 8 + 5, none⟩ (.int .i64 (y.1.it.n - k)) := ⟨_, rfl⟩
  rw [← hw4] at HH4 HG4 ⊢
  have hb4 : KB B w w4 := HB3.out.grown HG4.out (by omega) (HH3.out.row_bp hB.2.2.2)
  have hs4 := hb4.size
  clear r0 r1 r2 r3 r4 r5 r6 r7 pfz hp5 hw4 HG4 HB3 HH3
  have hxa : ((Ps.set j ({ x.1 with it := lessI x.1.it k }, x.2)).set a ({ y.1 with it := lessI y.1.it k }, y.2))[j]? = some ({ x.1 with it := lessI x.1.it k }, x.2) := by
    rw [List.getElem?_set, if_neg (by omega), List.getElem?_set, if_pos rfl, if_pos hjl]
  obtain ⟨⟨p0, p1, p2, p3, p4, p5, p6, p7⟩, pfz, hbp4, _⟩ := HH4.out.pcells hxa
  have hox := HH4.out.own_at hxa
  dsimp only at p0 p1 p2 p3 p4 p5 p6 p7 hox
  have HOX := Lib.hid hox
  have hp7 := pfz (j * 8 + 7)
  clear hox
  obtain ⟨cur, hcur⟩ := HH4.out.rowObj
  have HC := Lib.hid hcur
  have hbase : bm + 1 ≤ w4.heap.size := by have := fam_lt HH4.out.fam; omega
  have HN := Lib.hid (ints_ne HOX.out HC.out (by decide))
  have HB4 := Lib.hid hb4
  have h31 : x.1.bg.length + 1 ≤ 4294967297 := by omega
  clear hcur hb4
  go_wp2_with (at_builtin; refine wpList_append_own_at _ rfl _ _ 22 rfl (bm + 1) 3 i0 (.int .i64 0) 1 8 Tryz.underlying22 hi hz0 hz1 hz2 rfl (by decide) x.2.2 x.1.bg.length (x.1.bg.map (Value.int .i64)) rfl (HOX.out.alloc _).1 ⟨w4.heap.size, 0, none⟩ 1 1 [.int .i64 kd] rfl rfl (cell_one_new _ _ _) (by simp [Value.oneCell']) (by unfold maxLen; omega) (by omega) (by simp; omega) ?_)
  intro v' w5 hown' hgrow _ hat
  obtain ⟨gq, cq, rfl, _, _⟩ := hown'.form (by omega)
  have hg45 : w4.grownBy w5 x.2.2.ownBlock := (World.grownBy_alloc w4 _ _).trans hgrow
  have ho5 : w5.ownsInts (bm + 1) 3 .i64 (.slice (some ⟨gq, 0, none⟩) (x.1.bg.length + 1) cq) (x.1.bg ++ [if k = 2 then 4 else 3]) := by
    rw [← HKD.out]
    exact HOX.out.appended hown' hkw
  have hloc : (Value.slice (some ⟨gq, 0, none⟩) (x.1.bg.length + 1) cq).ownBlock = x.2.2.ownBlock ∨ ∃ g, (Value.slice (some ⟨gq, 0, none⟩) (x.1.bg.length + 1) cq).ownBlock = some g ∧ w4.heap.size ≤ g := by
    rcases hat with h | h
    · exact Or.inl h
    · exact Or.inr ⟨_, h, by simp⟩
  obtain ⟨h5, g5⟩ := HH4.out.begins hxa hg45 ho5 hloc
  have hb5 : KB B w w5 := HB4.out.grown hg45 (by omega) (fun r e => ⟨by have := (HOX.out.1.lt r e).1; omega, not_item_ints HOX.out e⟩)
  have hs5 := hb5.size
  have hcell5 := (hg45.block bp (Array.getElem?_eq_some_iff.1 HC.out).1 (fun e => HN.out e.symm)).trans HC.out
  have q7 : w5.cell? ⟨bp, j * 8 + 7, none⟩ = some x.2.2 := (World.cell?_of_block (w := w4) (w' := w5) (a := ⟨bp, j * 8 + 7, none⟩) (by rw [hcell5]; exact HC.out.symm)).trans p7
  have qf : w5.frozen? ⟨bp, j * 8 + 7, none⟩ = false := (World.frozen?_of_block (w := w4) (w' := w5) (a := ⟨bp, j * 8 + 7, none⟩) (by rw [hcell5]; exact HC.out.symm)).trans hp7
  have HH5 := Lib.hid h5
  have HG5 := Lib.hid g5
  have HB5 := Lib.hid hb5
  have HCU5 := Lib.hid hcell5
  clear hown' hgrow hat hg45 ho5 hloc h5 g5 hb5 hcell5 p0 p1 p2 p3 p4 p5 p6 p7 pfz hp7
  go_upto_region 8 with fail
  obtain ⟨w6, hw6⟩ : ∃ w6, w6 = w5.setCell ⟨bp, j * 8 + 7, none⟩ (.slice (some ⟨gq, 0, none⟩) (x.1.bg.length + 1) cq) := ⟨_, rfl⟩
  rw [← hw6] at HH5 HG5 ⊢
  have hb6 : KB B w w6 := HB5.out.grown HG5.out (by omega) (fun r e => by cases e; exact ⟨hB.2.2.2, not_item_cells HCU5.out (by decide)⟩)
  have hs6 := hb6.size
  clear q7 qf hw6
  have hya6 : (((Ps.set j ({ x.1 with it := lessI x.1.it k }, x.2)).set a ({ y.1 with it := lessI y.1.it k }, y.2)).set j (pairX x k (.slice (some ⟨gq, 0, none⟩) (x.1.bg.length + 1) cq)))[a]? = some ({ y.1 with it := lessI y.1.it k }, y.2) := by
    rw [List.getElem?_set, if_neg (by omega), List.getElem?_set, if_pos rfl, if_pos (by rw [List.length_set]; exact hal)]
  obtain ⟨⟨r0, r1, r2, r3, r4, r5, r6, r7⟩, pfz, _, _⟩ := PrSt.pcells HH5.out hya6
  obtain ⟨h7, g7⟩ := PrSt.setCell HH5.out hya6 6 (by omega) (.int .i64 ((y.1.en : Int) + 1)) (pairY y k) rfl rfl rfl rfl rfl rfl
  rw [set_four _ _ _ (by omega)] at h7
  have hq6 := pfz (a * 8 + 6)
  have hwe : IntKind.i64.wrap ((y.1.en : Int) + 1) = (y.1.en : Int) + 1 := IntWalk.i64_in _ (by omega)
  have HH7 := Lib.hid h7
  have HG7 := Lib.hid g7
  have HB6 := Lib.hid hb6
  clear h7 g7 HG5 hb6
  go_upto_region 9 with fail
  obtain ⟨w7, hw7⟩ : ∃ w7, w7 = w6.setCell ⟨bp, a * 8 + 6, none⟩ (.int .i64 ((y.1.en : Int) + 1)) := ⟨_, rfl⟩
  rw [← hw7] at HH7 HG7 ⊢
  have hb7 : KB B w w7 := HB6.out.grown HG7.out (by omega) (HH5.out.row_bp hB.2.2.2)
  have hs7 := hb7.size
  clear r0 r1 r2 r3 r4 r5 r6 r7 pfz hq6 hw7 HG7
  have hxa7 : ((Ps.set j (pairX x k (.slice (some ⟨gq, 0, none⟩) (x.1.bg.length + 1) cq))).set a (pairY y k))[j]? = some (pairX x k (.slice (some ⟨gq, 0, none⟩) (x.1.bg.length + 1) cq)) := by
    rw [List.getElem?_set, if_neg (by omega), List.getElem?_set, if_pos rfl, if_pos hjl]
  obtain ⟨⟨p0, p1, p2, p3, p4, p5, p6, p7⟩, pfz, hbp7, _⟩ := HH7.out.pcells hxa7
  have p5' : w7.cell? ⟨bp, j * 8 + 5, none⟩ = some (.int .i64 (x.1.it.n - k)) := p5
  have HB7 := Lib.hid hb7
  clear p0 p1 p2 p3 p4 p5 p6 p7 hb7
  by_cases hz : x.1.it.n - k = 0
  · have cs2 := shut_any (B := B) (o1 := o1) (o2 := [j]) HH7.out ⟨hB.1, hB.2.1, by omega⟩ (fun i hi => by rw [List.length_set, List.length_set]; exact HOPS.out i (List.mem_append_left _ hi)) j (by omega) (fun i hi => HP1.out.2.2 i hi j (by simp)) (fun i hi => by rw [List.mem_singleton] at hi; omega)
    rw [hz] at p5'
    clear HH7
    go_wp2_with fail
    refine cs2.mono ?_
    rintro e w8 ⟨rfl, ⟨n8, D8, ov8, h8, hM8⟩, b8⟩
    have HM8 := Lib.hid hM8
    clear hM8
    have HH8 := Lib.hid h8
    clear h8
    go_wp2
    go_end0
    exact ⟨rfl, ⟨n8, ⟨D8, ov8, _, HH8.out⟩, by have h1 := HM1.out; have h8 := HM8.out; simp only [List.length_append, List.length_cons, List.length_nil] at h1 h8 ⊢; omega⟩, HB7.out.trans b8⟩
  · have hz1 : (x.1.it.n - k == 0) = false := by simpa using hz
    go_wp2
    go_end0
    exact ⟨rfl, ⟨n1, ⟨D1, ov1, _, HH7.out⟩, by have h1 := HM1.out; simp only [List.length_append, List.length_cons, List.length_nil] at h1 ⊢; omega⟩, HB7.out⟩
end Go.Proofs.YteihmgcphbijhaaGreatDoor

namespace Go.Proofs.YteihmgcphbijhaaGreatDoor
open Go.RowKit Go.Maps Go.ChangeShapes
set_option linter.unusedSimpArgs false
set_option linter.unusedVariables false
set_option maxRecDepth 100000
/-- What is so of every piece: numbers that fit; its nodes lie where its slice says (w0: an elder world). -/
structure PmB (w0 : World) (x : Pm) : Prop where
  n1 : x.1.it.n ≤ 4294967296
  n2 : 0 < x.1.it.n → x.1.it.n ≤ x.1.it.ff
  en : (x.1.en : Int) + max x.1.it.n 0 ≤ 4294967296
  bg : (x.1.bg.length : Int) + max x.1.it.n 0 ≤ 4294967296
  ff : x.1.it.ff ≤ 4294967296
  lv : ∃ A c, x.2.1 = .slice A x.1.it.nd.length c ∧ InlsAt w0 A c x.1.it.nd
  kd : ∀ z ∈ x.1.bg, z = 3 ∨ z = 4
theorem PmB.pairX {w0 : World} {x : Pm} (h : PmB w0 x) {k : Int} (hk : k = 1 ∨ k = 2) (hn : k ≤ x.1.it.n) (bv : Value) : PmB w0 (pairX x k bv) := by
  obtain ⟨h1, h2, h3, h4, h5, h6, h7⟩ := h
  refine ⟨?_, ?_, ?_, ?_, h5, h6, ?_⟩
  · show x.1.it.n - k ≤ _; omega
  · show 0 < x.1.it.n - k → x.1.it.n - k ≤ x.1.it.ff; intro _; have := h2 (by omega); omega
  · show (x.1.en : Int) + max (x.1.it.n - k) 0 ≤ _; omega
  · show ((x.1.bg ++ [if k = 2 then 4 else 3]).length : Int) + max (x.1.it.n - k) 0 ≤ _
    rw [List.length_append, List.length_singleton]
    omega
  · intro z hz
    rcases List.mem_append.1 hz with hz | hz
    · exact h7 z hz
    · rw [List.mem_singleton] at hz
      subst hz
      split <;> simp
theorem PmB.pairY {w0 : World} {x : Pm} (h : PmB w0 x) {k : Int} (hk : k = 1 ∨ k = 2) (hn : k ≤ x.1.it.n) : PmB w0 (pairY x k) := by
  obtain ⟨h1, h2, h3, h4, h5, h6, h7⟩ := h
  refine ⟨?_, ?_, ?_, ?_, h5, h6, h7⟩
  · show x.1.it.n - k ≤ _; omega
  · show 0 < x.1.it.n - k → x.1.it.n - k ≤ x.1.it.ff; intro _; have := h2 (by omega); omega
  · show ((x.1.en + 1 : Nat) : Int) + max (x.1.it.n - k) 0 ≤ _; omega
  · show (x.1.bg.length : Int) + max (x.1.it.n - k) 0 ≤ _; omega
/-- Kinds that go together, and rows that do. -/
theorem fit_is {o c : Itm} (ho : 0 < o.ff) (hc : 0 < c.ff) (hs : o.sg = c.sg) : fitK c.sg (o.op && o.cl) (o.ff.tmod 3) (c.op && c.cl) (c.ff.tmod 3) = fitI o c := by
  have e : (o.ff.tmod 3 + c.ff.tmod 3).tmod 3 = (o.ff + c.ff).tmod 3 := by
    rw [Int.tmod_eq_emod_of_nonneg (by omega : 0 ≤ o.ff), Int.tmod_eq_emod_of_nonneg (by omega : 0 ≤ c.ff), Int.tmod_eq_emod_of_nonneg (by omega : 0 ≤ o.ff + c.ff), Int.tmod_eq_emod_of_nonneg (by omega)]
    omega
  unfold fitK fitI
  rw [e, hs]
  cases h1 : (o.op && o.cl) <;> cases h2 : (c.op && c.cl) <;> simp [bne] <;> (by_cases h3 : o.ff.tmod 3 = 0 <;> by_cases h4 : c.ff.tmod 3 = 0 <;> simp [h3, h4])
theorem tmod_lo {f : Int} (h : 0 < f) : 0 ≤ f.tmod 3 ∧ f.tmod 3 < 3 := by
  rw [Int.tmod_eq_emod_of_nonneg (by omega : 0 ≤ f)]; omega
theorem sat_fit {ps : List Pc} {ops : List Nat} {c : Itm} (hc : 0 < c.ff) {i : Nat} {p : Pc} (hi : i ∈ ops) (hp : ps[i]? = some p) (hf : 0 < p.it.ff) :
    SAt ps ops c.sg (c.op && c.cl) (c.ff.tmod 3) 2 0 i ↔ fitI p.it c = true := by
  unfold SAt proc
  constructor
  · rintro ⟨_, b, r, _, h1, h2⟩
    simp only [kAt, hp, kB] at h1
    simp at h1
    obtain ⟨⟨h3, h4⟩, h5⟩ := h1
    subst h4 h5
    rw [← fit_is hf hc h3]
    exact h2
  · intro h
    have hs : p.it.sg = c.sg := by
      unfold fitI at h
      simp at h
      exact h.1
    refine ⟨hi, (p.it.op && p.it.cl), p.it.ff.tmod 3, ⟨(tmod_lo hf).1, (tmod_lo hf).2, Or.inl ?_⟩, ?_, ?_⟩
    · cases (p.it.op && p.it.cl) <;> simp
    · simp [kAt, hp, kB, hs]
    · rw [fit_is hf hc hs]; exact h
/-- Ascending places, split at one of them. -/
theorem split_at {l : List Nat} (h : l.Pairwise (· < ·)) {i : Nat} (hi : i ∈ l) : ∃ o1 o2, l = o1 ++ i :: o2 ∧ ∀ j ∈ o2, i < j := by
  obtain ⟨o1, o2, rfl⟩ := List.append_of_mem hi
  exact ⟨o1, o2, rfl, fun j hj => (List.pairwise_cons.1 (List.pairwise_append.1 h).2.1).1 j hj⟩
def cellN (w : World) (bp a : Nat) : Nat := match w.cell? ⟨bp, a * 8 + 5, none⟩ with
  | some (.int _ n) => n.toNat
  | _ => 0
/-- Between two pairings: what is done ahead, the closer, which may open. -/
structure ClSt (S : List Itm) (r : List Itm) (w0 : World) (b bp bm cap : Nat) (a : Nat) (Qs : List Pm) (y : Pm) (ops : List Nat) (w : World) : Prop where
  st : ∃ n D ov, PrSt w b bp bm cap n D (Qs ++ [y]) ops ops ov ∧ n + ops.length ≤ 2 * a
  run : Run S (Qs.map Prod.fst) y.1.en ops (y.1.it :: r)
  bds : ∀ x ∈ Qs ++ [y], PmB w0 x
  bg : y.1.bg = [] ∧ y.2.2 = .slice none 0 0
  len : Qs.length = a
theorem run_ops {S : List Itm} {ps : List Pc} {e : Nat} {ops : List Nat} {r : List Itm} (h : Run S ps e ops r) : ops.Pairwise (· < ·) ∧ ∀ k ∈ ops, ∃ p, ps[k]? = some p ∧ mayOpen p.it = true := by
  obtain ⟨l, h1, _⟩ := h.ex
  exact ⟨sim_ops h1, sim_at h1⟩
theorem map_fst_get {Qs : List Pm} {k : Nat} {p : Pc} (h : (Qs.map Prod.fst)[k]? = some p) : ∃ x, Qs[k]? = some x ∧ x.1 = p := by
  rw [List.getElem?_map] at h
  cases hx : Qs[k]? with
  | none => rw [hx] at h; cases h
  | some x => rw [hx] at h; exact ⟨x, rfl, Option.some.inj h⟩
def ClEnd (S r : List Itm) (w0 : World) (b bp bm cap B a : Nat) (sg : UInt8) (ff : Int) (op cl : Bool) (nd : List Iln) (w : World) (e : Ending) (w' : World) : Prop :=
  e = .returned (.tuple #[]) ∧ (∃ Qs y ops, ClSt S r w0 b bp bm cap a Qs y ops w' ∧ (y.1.it.sg = sg ∧ y.1.it.ff = ff ∧ y.1.it.op = op ∧ y.1.it.cl = cl ∧ y.1.it.nd = nd) ∧
    (canClose y.1.it = true → ∀ k ∈ ops, ∀ p, (Qs.map Prod.fst)[k]? = some p → fitI p.it y.1.it = false)) ∧ KB B w w'
set_option maxHeartbeats 8000000 in
theorem close_any {S r : List Itm} {w0 w : World} {b bp bm cap B a : Nat} {Qs : List Pm} {y : Pm} {ops : List Nat} {sg : UInt8} {ff : Int} {op cl : Bool} {nd : List Iln} (h : ClSt S r w0 b bp bm cap a Qs y ops w)
    (hstat : y.1.it.sg = sg ∧ y.1.it.ff = ff ∧ y.1.it.op = op ∧ y.1.it.cl = cl ∧ y.1.it.nd = nd) (hsg : sg ≠ 0) (hcl : cl = true) (hB : B ≤ bm ∧ B ≤ b ∧ B ≤ w.heap.size ∧ B ≤ bp) :
    Calls Tryz.prog 51 #[.pointer (some ⟨b, 0, none⟩), .int .i64 a] w (ClEnd S r w0 b bp bm cap B a sg ff op cl nd w) := by
  subst hcl
  have HH := Lib.hid h
  have HST := Lib.hid hstat
  clear h hstat
  go_enter Tryz.func51, Tryz.ntmps51
  go_wp2_with fail
  go_loopw [4] (fun _ wr => (∃ Qs y ops, ClSt S r w0 b bp bm cap a Qs y ops wr ∧ (y.1.it.sg = sg ∧ y.1.it.ff = ff ∧ y.1.it.op = op ∧ y.1.it.cl = true ∧ y.1.it.nd = nd)) ∧ KB B w wr) (fun _ wr => cellN wr bp a)
  case atStart => exact ⟨⟨Qs, y, ops, HH.out, HST.out⟩, KB.refl _ _⟩
  case round =>
    clear HH HST
    obtain ⟨⟨Qs, y, ops, hC, hst⟩, hbw⟩ := hrel
    obtain ⟨n, D, ov, hP, hM⟩ := hC.st
    have HMM := Lib.hid hM
    clear hM
    have hya : (Qs ++ [y])[a]? = some y := by rw [List.getElem?_append_right (by rw [hC.len]; exact Nat.le_refl _), hC.len, Nat.sub_self]; rfl
    have hlen : (Qs ++ [y]).length = a + 1 := by rw [List.length_append, hC.len]; rfl
    obtain ⟨c0, c1, c2, bfz, hbl⟩ := hP.bcells
    obtain ⟨⟨r0, r1, r2, r3, r4, r5, r6, r7⟩, pfz, hbpl, hal⟩ := hP.pcells hya
    have hyb := hC.bds y (by simp)
    rw [hlen] at c0
    have hsm := hP.small
    have hln := hP.len
    rw [hlen] at hln
    have hbs := hbw.size
    have halt : (a : Int) < (a : Int) + 1 := by omega
    have HN : cellN wr bp a = y.1.it.n.toNat := by unfold cellN; rw [r5]
    have HNN := Lib.hid HN
    clear HN
    by_cases hn : 0 < y.1.it.n
    · have hff := hyb.n2 hn
      have hcan : canClose y.1.it = true := by simp [canClose, hst.1, hst.2.2.2.1, hsg, hn]
      obtain ⟨hasc, hops⟩ := run_ops hC.run
      have hops' : ∀ i ∈ ops, i < (Qs ++ [y]).length := fun i hi => by
        obtain ⟨p, hp, _⟩ := hops i hi
        have := (List.getElem?_eq_some_iff.1 hp).1
        rw [List.length_map] at this
        rw [List.length_append]; omega
      have hSat : ∀ i ∈ ops, ∀ p, (Qs.map Prod.fst)[i]? = some p → (SAt ((Qs ++ [y]).map Prod.fst) ops y.1.it.sg (y.1.it.op && y.1.it.cl) (y.1.it.ff.tmod 3) 2 0 i ↔ fitI p.it y.1.it = true) := fun i hi p hp => by
        obtain ⟨x, hx, rfl⟩ := map_fst_get hp
        have hx2 := (hC.bds x (List.mem_append_left _ (List.mem_of_getElem? hx))).n2
        obtain ⟨p2, hp2, hm⟩ := hops i hi
        rw [hp] at hp2
        cases hp2
        simp [mayOpen] at hm
        refine sat_fit (by omega) hi ?_ (by have := hx2 hm.2; omega)
        rw [List.map_append, List.getElem?_append_left (List.getElem?_eq_some_iff.1 hp).1]
        exact hp
      have hop := fun W (hb : Below wr.heap.size wr W) => opener_any (hP.below hb) hasc hops' y.1.it.sg (y.1.it.op && y.1.it.cl) (y.1.it.ff.tmod 3) (em_tmod _)
      have hki := fun W => kindOf_any y.1.it y.2.1 W
      unfold itV kV at hki
      have HOP := Lib.hid hop
      have HSA := Lib.hid hSat
      have HCC := Lib.hid hC
      have HPP := Lib.hid hP
      have HST := Lib.hid hst
      have HYB := Lib.hid hyb
      have HKI := Lib.hid hki
      have HA := Lib.hid (And.intro hasc hops)
      clear hop hSat hC hP hst hyb hki hasc hops
      unfold kindV at HOP HKI
      generalize y.1.it.ff.tmod 3 = rr at *
      go_wp2_with fail
      refine (HKI.out _).mono ?_
      rintro e w1 ⟨rfl, b1⟩
      have b1' : Below wr.heap.size wr w1 := b1
      clear b1
      go_wp2_with fail
      refine (HOP.out w1 b1').mono ?_
      rintro e w2 ⟨⟨v, rfl, hbest⟩, b2⟩
      have b2' : Below wr.heap.size wr w2 := b1'.then b2
      have HB2 := Lib.hid b2'
      have hs2 := b2'.size
      clear b2 b1' b2'
      rcases hbest with ⟨rfl, hno⟩ | ⟨i, rfl, hSi, hmx⟩
      · have HNO := Lib.hid hno
        clear hno
        go_wp2
        go_end0
        exact ⟨rfl, ⟨Qs, y, ops, ⟨⟨n, D, ov, HPP.out.below HB2.out, HMM.out⟩, HCC.out.run, HCC.out.bds, HCC.out.bg, HCC.out.len⟩, HST.out, fun _ k hk p hp => by
          cases hf : fitI p.it y.1.it with
          | false => rfl
          | true => exact absurd ((HSA.out k hk p hp).2 hf) (HNO.out k)⟩, hbw.thenB HB2.out (by omega)⟩
      · have hio : i ∈ ops := hSi.1
        obtain ⟨p, hp, hmo⟩ := HA.out.2 i hio
        obtain ⟨x, hx, rfl⟩ := map_fst_get hp
        have hxl := (List.getElem?_eq_some_iff.1 hx).1
        have hxb := HCC.out.bds x (List.mem_append_left _ (List.mem_of_getElem? hx))
        have hfit := (HSA.out i hio x.1 hp).1 hSi
        obtain ⟨o1, o2, hoo, ho2⟩ := split_at HA.out.1 hio
        have hxn : 0 < x.1.it.n := by simp [mayOpen] at hmo; exact hmo.2
        have hx' : (Qs ++ [y])[i]? = some x := by rw [List.getElem?_append_left hxl]; exact hx
        have hPw := HPP.out.below HB2.out
        have hrun := HCC.out.run
        have hasc := HA.out.1
        rw [hoo] at hPw hrun hops' hasc
        have hia : i < a := by have := HCC.out.len; omega
        have hrp := run_pair hrun hcan hp hfit (fun k hk q hq => by
          have hko : k ∈ ops := by rw [hoo]; simp [hk]
          cases hf : fitI q.it y.1.it with
          | false => rfl
          | true =>
            have h1 := hmx k ((HSA.out k hko q hq).2 hf)
            have h2 := ho2 k hk
            omega)
        have hpair := pair_any (B := B) hPw ⟨hB.1, hB.2.1, by omega, hB.2.2.2⟩ hops' hasc hx' hya hia ⟨hxn, hxb.n1⟩ ⟨hn, HYB.out.n1⟩ (by have := HYB.out.en; omega) (by have := hxb.bg; omega)
        have hkk := kOf_is x.1.it y.1.it hxn hn
        have HRP := Lib.hid hrp
        have HPA := Lib.hid hpair
        have HXB := Lib.hid hxb
        have hcn : ((i : Int) < 0) = False := by simp
        have HOO := Lib.hid hoo
        clear hSi hmx hp hfit hoo ho2 hPw hrun hops' hasc hrp hpair hxb hio hmo
        go_wp2_with fail
        refine HPA.out.mono ?_
        rintro e w3 ⟨rfl, ⟨n3, D3, ov3, bv3, h3, hM3⟩, b3⟩
        have HM3 := Lib.hid hM3
        clear hM3
        have hset : ((Qs ++ [y]).set i (pairX x (kOf x.1.it y.1.it) bv3)).set a (pairY y (kOf x.1.it y.1.it)) = Qs.set i (pairX x (kOf x.1.it y.1.it) bv3) ++ [pairY y (kOf x.1.it y.1.it)] := by
          rw [List.set_append_left _ _ hxl, List.set_append_right _ _ (by rw [List.length_set, HCC.out.len]; exact Nat.le_refl _), List.length_set, HCC.out.len, Nat.sub_self]
          rfl
        rw [hset] at h3
        have hcell := (h3.pcells (k := a) (x := pairY y (kOf x.1.it y.1.it)) (by rw [List.getElem?_append_right (by rw [List.length_set, HCC.out.len]; exact Nat.le_refl _), List.length_set, HCC.out.len, Nat.sub_self]; rfl)).1.2.2.2.2.2.1
        have HC3 := Lib.hid hcell
        have HH3 := Lib.hid h3
        have HB3 := Lib.hid ((hbw.thenB HB2.out (show B ≤ _ by omega)).trans b3)
        clear h3 hcell hset b3
        go_wp2
        go_roundw
        case rel =>
          refine ⟨⟨_, _, _, ⟨⟨n3, D3, ov3, HH3.out, Nat.le_trans HM3.out (by rw [← HOO.out]; exact HMM.out)⟩, ?_, ?_, HCC.out.bg, by rw [List.length_set]; exact HCC.out.len⟩, HST.out⟩, HB3.out⟩
          · rw [List.map_set]
            exact HRP.out
          · intro z hz
            rcases List.mem_append.1 hz with hz | hz
            · rcases mem_set_ne hz with rfl | ⟨m, _, hz⟩
              · exact HXB.out.pairX hkk.1 hkk.2.1 _
              · exact HCC.out.bds z (List.mem_append_left _ (List.mem_of_getElem? hz))
            · rw [List.mem_singleton] at hz
              subst hz
              exact HYB.out.pairY hkk.1 hkk.2.2
        case measure =>
          rw [HNN.out]
          have h1 : cellN w3 bp a = (y.1.it.n - kOf x.1.it y.1.it).toNat := by unfold cellN; rw [HC3.out]; rfl
          rw [h1]
          omega
    · have hn0 : y.1.it.n ≤ 0 := by omega
      have HCC := Lib.hid hC
      have HST := Lib.hid hst
      clear hC hst hP hyb
      go_wp2
      go_end0
      exact ⟨rfl, ⟨Qs, y, ops, HCC.out, HST.out, fun h => absurd (canClose_pos h).1 (by omega)⟩, hbw⟩
end Go.Proofs.YteihmgcphbijhaaGreatDoor

namespace Go.Proofs.YteihmgcphbijhaaGreatDoor
open Go.RowKit
set_option linter.unusedVariables false
theorem tgConv_byte (w : World) (v : Int) (h0 : 0 ≤ v) (h1 : v ≤ 255) :
    (convert 37 9 (.slice (some ⟨w.heap.size, 0, none⟩) 1 1)).run Tryz.prog (w.alloc (.cells #[.int .u8 v] 5)) = .ok (.string ⟨#[v.toNat.toUInt8]⟩) (w.alloc (.cells #[.int .u8 v] 5)) := by
  exact run_convert_bytes_back (w.alloc (.cells #[.int .u8 v] 5)) 37 9 5 ⟨w.heap.size, 0, none⟩ 1 [v.toNat.toUInt8] Tryz.underlying37 Tryz.underlying5 Tryz.underlying9 (fun j hj => by
    simp only [List.length_cons, List.length_nil] at hj
    obtain rfl : j = 0 := by omega
    have e : ((v.toNat.toUInt8).toNat : Int) = v := by
      rw [Nat.toUInt8_eq, UInt8.toNat_ofNat']
      omega
    show _ = some (Value.int .u8 ((v.toNat.toUInt8).toNat : Int))
    rw [e]
    simp [Addr.add])
theorem conv_u8 (q : UInt8) (w : World) :
    (convert 37 9 (.slice (some ⟨w.heap.size, 0, none⟩) 1 1)).run Tryz.prog (w.alloc (.cells #[.int .u8 q.toNat] 5)) = .ok (.string ⟨#[q]⟩) (w.alloc (.cells #[.int .u8 q.toNat] 5)) := by
  have h := tgConv_byte w q.toNat (by omega) (by have := q.toNat_lt; omega)
  rw [show ((q.toNat : Int)).toNat.toUInt8 = q from by simp] at h
  exact h
end Go.Proofs.YteihmgcphbijhaaGreatDoor

namespace Go.Proofs.YteihmgcphbijhaaGreatDoor
open Go.RowKit
set_option linter.unusedSimpArgs false
set_option linter.unusedVariables false
set_option maxRecDepth 100000
def deepX (d : Int) (x : Iln) : Iln := { x with dp := IntKind.i64.wrap (x.dp + d) }
theorem deepBy_is (d : Int) (l : List Iln) : deepBy d l = l.map (deepX d) := rfl
set_option maxHeartbeats 4000000 in
theorem deeper_any (d : Int) (A : Option Addr) (cap : Nat) (X : List Iln) (w : World) (hrow : InlsAt w A cap X) (hn : X.length ≤ 100000000) :
    Calls Tryz.prog 58 #[.int .i64 d, .slice A X.length cap] w fun e w' => ∃ v, e = .returned v ∧ w'.ownsRow w.heap.size 28 5 v X.length (flt ilC (deepBy d X)) ∧ Below w.heap.size w w' := by
  have cc := clone_inls A cap X w hrow hn
  clear hrow
  go_enter Tryz.func58, Tryz.ntmps58
  go_wp2_with fail
  refine cc.mono ?_
  rintro e w1 ⟨v, rfl, ho, b1⟩
  obtain ⟨A1, c1, rfl, hr1⟩ := EltsAt.own ilC_length ho
  have HO := Lib.hid ho
  have hs1 := b1.size
  clear ho hr1
  go_wp2_with fail
  go_loopw [11] (fun i wr => ∃ k : Nat, i = .int .i64 k ∧ k ≤ X.length ∧ wr.ownsRow w.heap.size 28 5 (.slice A1 X.length c1) X.length (flt ilC (deepBy d (X.take k) ++ X.drop k)) ∧ Below w.heap.size w wr) (fun i _ => X.length - (intOf i).toNat)
  case atStart => exact ⟨0, rfl, Nat.zero_le _, HO.out, b1⟩
  case round =>
    obtain ⟨k, rfl, hk, hown, hbw⟩ := hrel
    by_cases hp : k < X.length
    · obtain ⟨g, c, e, hg, hgl⟩ := hown.form (by omega)
      cases e
      have hll : (deepBy d (X.take k) ++ X.drop k).length = X.length := by rw [List.length_append, deepBy_is, List.length_map, List.length_take, List.length_drop]; omega
      have hget : (deepBy d (X.take k) ++ X.drop k)[k]? = some X[k] := by
        rw [List.getElem?_append_right (by rw [deepBy_is, List.length_map, List.length_take]; omega), List.getElem?_drop, deepBy_is, List.length_map, List.length_take, Nat.min_eq_left hk, Nat.sub_self, Nat.add_zero, List.getElem?_eq_getElem hp]
      have c1' : wr.cell? ⟨g, k * 5 + 1, none⟩ = some (.int .i64 X[k].dp) := own_elt ilC_length hown (k := k) (by omega) 1 _ (by rw [(List.getElem?_eq_some_iff.1 hget).2]; rfl)
      have f1 := hown.frozenAt (k * 5 + 1)
      obtain ⟨s1, g1⟩ := hown.stored (k * 5 + 1) (.int .i64 (IntKind.i64.wrap (X[k].dp + d)))
      have hfs := flt_set1 ilC_length 1 (.int .i64 (IntKind.i64.wrap (X[k].dp + d))) (deepX d X[k]) (by omega) _ k X[k] hget rfl
      rw [hfs] at s1
      have hset : (deepBy d (X.take k) ++ X.drop k).set k (deepX d X[k]) = deepBy d (X.take (k + 1)) ++ X.drop (k + 1) := by
        rw [List.set_append_right _ _ (by rw [deepBy_is, List.length_map, List.length_take]; omega), deepBy_is, List.length_map, List.length_take, Nat.min_eq_left hk, Nat.sub_self, List.drop_eq_getElem_cons hp, List.set_cons_zero, List.take_succ_eq_append_getElem hp, deepBy_is, List.map_append, List.append_assoc]
        rfl
      rw [hset] at s1
      have hww : wrap64 (X[k].dp + d) = IntKind.i64.wrap (X[k].dp + d) := by first | rfl | simp only [wrap64, IntKind.wrap_i64]
      rw [← hww] at s1 g1
      clear hww
      have HS := Lib.hid s1
      have HG := Lib.hid g1
      clear s1 g1 hown hset hget
      generalize hx : X[k].dp = xd at *
      clear hx
      go_wp2
      go_roundw
      case rel => exact ⟨k + 1, by go_num, by omega, HS.out, hbw.setCell (p := ⟨g, k * 5 + 1, none⟩) hg _⟩
      case measure => simp [intOf]; omega
    · obtain rfl : k = X.length := by omega
      rw [List.take_length, List.drop_length, List.append_nil] at hown
      have HE := Lib.hid hown
      clear hown
      go_wp2
      go_ret
      exact ⟨_, rfl, HE.out, hbw⟩
theorem repeatL_one (b : UInt8) (n : Nat) : Lib.repeatL [b] n = List.replicate n b := by
  induction n with
  | zero => rfl
  | succ n ih => rw [Lib.repeatL, ih]; rfl
theorem row_emph (sg : UInt8) (n : Nat) (w : World) (hn : n ≤ 4294967296) :
    Calls Tryz.prog 59 #[.int .u8 sg.toNat, .int .i64 n] w fun e w' => e = .returned (.string ⟨(List.replicate n sg).toArray⟩) ∧ Below w.heap.size w w' := by
  have hcv := conv_u8 sg
  have cr := fun W => Tryz.strings_Repeat ⟨#[sg]⟩ n W (by omega) (by show 1 * n ≤ _; omega)
  have bA := (Below.refl _ w).alloc (Nat.le_refl _) (.cells #[.int .u8 sg.toNat] 5)
  have HB := Lib.hid bA
  clear bA
  go_enter Tryz.func59, Tryz.ntmps59
  go_wp2_with fail
  refine (cr _).mono ?_
  rintro e w1 ⟨rfl, b1⟩
  go_wp2
  go_ret
  exact ⟨by rw [← repeatL_one]; rfl, HB.out.then b1⟩
end Go.Proofs.YteihmgcphbijhaaGreatDoor

namespace Go.Proofs.YteihmgcphbijhaaGreatDoor
open Go.RowKit Go.Shelf
attribute [local go_sem] Oper.semAt_some
set_option linter.unusedSimpArgs false
set_option linter.unusedVariables false
set_option maxRecDepth 100000
/-- What a round must keep: the box with the slice, the slice's block. -/
def BwKp (bx : Nat) (v : Value) (W W' : World) : Prop := W'.heap[bx]? = W.heap[bx]? ∧ ∀ g, v.ownBlock = some g → W'.heap[g]? = W.heap[g]?
abbrev bwE (x : Int × Int) : Array Value := #[.int .i64 x.1, .int .i64 x.2]
def bwS (zs : List Int) (xs : List (Int × Int)) : Prop := xs.map Prod.snd = zs.reverse
theorem bw_rest {zs r : List Int} {pre : List (Int × Int)} {z : Int} (h : zs = r ++ [z] ++ (pre.map Prod.snd).reverse) (i : Int) : zs = r ++ ((pre ++ [(i, z)]).map Prod.snd).reverse := by
  rw [h]; simp
set_option maxHeartbeats 2000000 in
theorem backward_stops (bx B : Nat) (v : Value) (zs : List Int) (w0 : World) (hbx : w0.heap[bx]? = some (.cells #[v] 22 (0, 0))) (hv : w0.ownsRow B 3 1 v zs.length (zs.map (Value.int .i64))) (hl : zs.length ≤ 4294967297) (n : Nat) (hn : 1 ≤ n) :
    SeqStopsK Fence.wide n Tryz.prog 92 #[.pointer (some ⟨bx, 0, none⟩)] bwE (BwKp bx v) (bwS zs) (fun _ => True) zs.length w0 := by
  intro l J Jx W hW hJ hJx hY h0
  have hbxW := (hW.block bx (Array.getElem?_eq_some_iff.1 hbx).1).trans hbx
  have hvW := ownsRow_below hv hW
  refine callsIn_of_wp Tryz.func92 rfl trivial ?_ rfl
  simp only [Tryz.ntmps92, List.size_toArray, List.length_cons, List.length_nil, Nat.reduceAdd, Nat.reduceSub, Array.replicate_succ, Array.replicate_zero, List.push_toArray, List.append_toArray, List.nil_append, List.cons_append]
  obtain ⟨A, c, rfl, _⟩ : ∃ A c, v = .slice A zs.length c ∧ zs.length ≤ c := by
    rcases hvW.2 with ⟨rfl, h0⟩ | ⟨g, cap, cur, rfl, hb, hg, hnc, hcm, hcs, ht⟩
    · exact ⟨none, 0, by rw [h0], by omega⟩
    · exact ⟨_, cap, rfl, hnc⟩
  have c0 : W.cell? ⟨bx, 0, none⟩ = some (.slice A zs.length c) := (cell_of_row W bx 0 _ _ (0, 0) hbxW).trans rfl
  have HY := Lib.hid hY
  have HBX := Lib.hid hbxW
  have HV := Lib.hid hvW
  have H0 := Lib.hid h0
  clear hY hbxW hvW hbx hv h0
  gi_wp2
  gi_loopw [3] (fun i wr => ∃ (pre : List (Int × Int)) (r : List Int), zs = r ++ (pre.map Prod.snd).reverse ∧ i = .int .i64 ((r.length : Int) - 1) ∧ J pre wr ∧ BwKp bx (.slice A zs.length c) W wr) (fun i _ => (intOf i + 1).toNat)
  case atStart => exact ⟨[], zs, by simp, by go_num, H0.out, rfl, fun g _ => rfl⟩
  case round =>
    obtain ⟨pre, r, hz, rfl, hJr, hkp⟩ := hrel
    have c1 : wr.cell? ⟨bx, 0, none⟩ = some (.slice A zs.length c) := (World.cell?_of_block (a := ⟨bx, 0, none⟩) hkp.1).trans c0
    have hrl : r.length ≤ zs.length := by rw [hz, List.length_append]; omega
    rcases List.eq_nil_or_concat r with rfl | ⟨r', z, rfl⟩
    · have hs : bwS zs pre := by unfold bwS; rw [hz]; simp
      gi_wp2
      go_end0
      exact ⟨⟨_, rfl⟩, .inl ⟨pre, hs, hJr⟩⟩
    · rw [List.concat_eq_append] at hz hrl
      have hlen : (r'.concat z).length = r'.length + 1 := by simp
      rw [hlen]
      have hzl : r'.length < zs.length := by rw [List.length_append, List.length_singleton] at hrl; omega
      obtain ⟨g, cap, e, hbg, hgl⟩ := HV.out.form (by omega)
      cases e
      have hcz := HV.out.cellAt r'.length (by omega)
      have hzz : zs[r'.length]? = some z := by
        rw [hz, List.append_assoc, List.getElem?_append_right (Nat.le_refl _), Nat.sub_self]
        rfl
      rw [List.getElem?_map, hzz] at hcz
      have c2 : wr.cell? ⟨g, r'.length, none⟩ = some (.int .i64 z) := (World.cell?_of_block (a := ⟨g, r'.length, none⟩) (hkp.2 g rfl)).trans hcz
      obtain ⟨fn, tmps, assign, body, hy, hR⟩ := HY.out pre ((r'.length : Int), z) wr hJr (by have := congrArg List.length hz; simp at this; omega)
      dsimp only [bwE] at hy
      have hi1 : ((r'.length : Int) < (zs.length : Int)) := by omega
      have HK := Lib.hid hkp
      have HZ := Lib.hid hz
      have HRR := Lib.hid hR
      clear hkp hcz hzz hR hJr hlen hz
      gi_wp2
      refine HRR.out.mono ?_
      rintro e W3 (⟨rfl, hJ3, hk3⟩ | ⟨rfl, hJx3⟩)
      · have HJ3 := Lib.hid hJ3
        have HK3 := Lib.hid (show BwKp bx (.slice (some ⟨g, 0, none⟩) zs.length c) W W3 from ⟨hk3.1.trans HK.out.1, fun g' h => (hk3.2 g' h).trans (HK.out.2 g' h)⟩)
        clear hJ3 hk3
        gi_wp2
        go_roundw
        case rel => exact ⟨pre ++ [((r'.length : Int), z)], r', bw_rest HZ.out _, rfl, HJ3.out, HK3.out⟩
        case measure => simp [intOf]
      · have HJ3 := Lib.hid hJx3
        clear hJx3
        gi_wp2
        refine bodyPost_ret (results_none rfl _ _ _) rfl ?_
        exact ⟨⟨_, rfl⟩, .inr ⟨_, trivial, HJ3.out⟩⟩
end Go.Proofs.YteihmgcphbijhaaGreatDoor
