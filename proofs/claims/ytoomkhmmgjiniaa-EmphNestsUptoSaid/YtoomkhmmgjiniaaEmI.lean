/-
  Package emph: shut: places that may not open any more.
-/
import Derived.Test.YtoomkhmmgjiniaaEmH
import Derived.Test.YtoomkhmmgjiniaaReg
import Derived.Deep.AppendLies
import Derived.BigRegion
namespace Go.Proofs.Ytoomkhmmgjiniaa
open Go.RowKit Go.Maps Go.ChangeShapes
set_option linter.unusedSimpArgs false
set_option linter.unusedVariables false
set_option maxRecDepth 100000

theorem natI_length (l : List Nat) : (natI l).length = l.length := by simp [natI]
theorem natI_append (a b : List Nat) : natI (a ++ b) = natI a ++ natI b := by simp [natI]
/-- The last of a list of places. -/
theorem last_cell {w : World} {base : Nat} {v : Value} {l : List Nat} {j : Nat} (h : w.ownsInts base 3 .i64 v (natI (l ++ [j]))) :
    ∃ g c, v = .slice (some ⟨g, 0, none⟩) (l.length + 1) c ∧ base ≤ g ∧ g < w.heap.size ∧ w.cell? ⟨g, l.length, none⟩ = some (.int .i64 j) ∧ l.length + 1 ≤ c ∧ c ≤ maxLen := by
  have hl : (natI (l ++ [j])).length = l.length + 1 := by simp [natI]
  have hr := h.1
  rw [hl] at hr
  obtain ⟨g, c, rfl, hb, hg⟩ := hr.form (by omega)
  refine ⟨g, c, rfl, hb, hg, ?_, ?_⟩
  · rw [hr.cellAt _ (by omega), List.getElem?_map, natI, List.getElem?_map]
    simp
  · rcases hr.2 with ⟨e, _⟩ | ⟨g', c', cur, e, _, _, h1, h2, _⟩
    · cases e
    · cases e; exact ⟨h1, h2⟩
/-- All but the last. -/
theorem cut_last {w : World} {base : Nat} {g c : Nat} {l : List Nat} {j : Nat} (h : w.ownsInts base 3 .i64 (.slice (some ⟨g, 0, none⟩) (l.length + 1) c) (natI (l ++ [j]))) :
    w.ownsInts base 3 .i64 (.slice (some ⟨g, 0, none⟩) l.length c) (natI l) := by
  have hl : (natI (l ++ [j])).length = l.length + 1 := by simp [natI]
  have hr := h.1
  rw [hl] at hr
  have := own_cut (m := l.length) hr (by omega)
  rw [natI_append, List.map_append, Nat.mul_one, List.take_left' (by simp [natI])] at this
  refine ⟨by rw [natI_length]; exact this, fun z hz => h.2 z (by rw [natI_append]; exact List.mem_append_left _ hz)⟩
theorem elem_ints : Try.prog.elem 39 = 3 := by kernel_rfl
theorem nslice_high (A : Option Addr) (len cap k : Nat) (h : k ≤ cap) (W : World) : (Instr.slice 39 (.slice A len cap) none (some (.int .i64 (k : Int))) none).run Try.prog W = .ok (.slice A k cap) W := by
  rw [run_slice_h W 39 A len cap (by kernel_rfl) .i64 (k : Int) (by omega) (by omega)]
  rw [show Try.prog.elem 39 = 3 from elem_ints]
  go_simp
theorem em_tmod (f : Int) : -2 ≤ f.tmod 3 ∧ f.tmod 3 ≤ 2 := by
  have h1 := Int.tmod_lt_of_pos f (show (0 : Int) < 3 by decide)
  have h2 := Int.lt_tmod_of_pos f (show (0 : Int) < 3 by decide)
  omega
theorem boxK_at {wx : World} {g : Nat} {c0 c1 c2 : Value} {t : TypeId} (h : wx.heap[g]? = some (.cells #[c0, c1, c2] t (0, 0))) : wx.cell? ⟨g, 0, none⟩ = some c0 ∧ wx.cell? ⟨g, 1, none⟩ = some c1 ∧ wx.cell? ⟨g, 2, none⟩ = some c2 ∧ (∀ i, wx.frozen? ⟨g, i, none⟩ = false) ∧ g < wx.heap.size :=
  ⟨(cell_of_row _ _ 0 _ _ (0, 0) h).trans rfl, (cell_of_row _ _ 1 _ _ (0, 0) h).trans rfl, (cell_of_row _ _ 2 _ _ (0, 0) h).trans rfl, fun i => by simp [World.frozen?, h], (Array.getElem?_eq_some_iff.1 h).1⟩
/-- The last place of a kind. -/
theorem opsK_last {ps : List Pc} {l : List Nat} {j : Nat} {p : Pc} (hj : ps[j]? = some p) : opsK ps (l ++ [j]) p.it.sg (p.it.op && p.it.cl) (p.it.ff.tmod 3) = natI ((l.filter (kAt ps p.it.sg (p.it.op && p.it.cl) (p.it.ff.tmod 3))) ++ [j]) := by
  unfold opsK
  rw [List.filter_append, List.filter_cons, if_pos (by simp [kAt, hj, kB])]
  rfl
theorem opsK_other {ps : List Pc} {l : List Nat} {j : Nat} {p : Pc} (hj : ps[j]? = some p) (sg : UInt8) (b : Bool) (r : Int) (h : ¬ (sg = p.it.sg ∧ b = (p.it.op && p.it.cl) ∧ r = p.it.ff.tmod 3)) : opsK ps (l ++ [j]) sg b r = opsK ps l sg b r := by
  unfold opsK
  rw [List.filter_append, List.filter_cons, if_neg]
  · simp
  · simp only [kAt, hj, kB]
    intro e
    simp at e
    exact h ⟨e.1.1.symm, e.1.2.symm, e.2.symm⟩

theorem snoc_cases {α : Type} (l : List α) : l = [] ∨ ∃ l' x, l = l' ++ [x] := by
  rcases List.eq_nil_or_concat l with h | ⟨l', x, h⟩
  · exact Or.inl h
  · exact Or.inr ⟨l', x, by rw [h, List.concat_eq_append]⟩
theorem groups_store {w0 w1 : World} {base bm n : Nat} {D : DU} (h : w0.ownsGroups Try.prog 60 base 3 .i64 bm n D) (hn : n < maxLen) {sg : UInt8} {b : Bool} {r : Int} (hr : -2 ≤ r ∧ r ≤ 2) {u v' : Value} {zs zs' : List Int}
    (hu : w0.ownsInts base 3 .i64 u zs) (hback : w0.groupBack Try.prog 38 60 base 3 .i64 bm n D (kindV sg b r) (kLit sg b r) u) (hgr : w0.grownBy w1 u.ownBlock) (ho : w1.ownsInts base 3 .i64 v' zs')
    (hl : zs'.length ≤ n + 1) (hloc : v'.ownBlock = u.ownBlock ∨ ∃ g, v'.ownBlock = some g ∧ w0.heap.size ≤ g) {No : Nat → Prop} (hs : w0.Shuns bm No) (hno : ∀ g, v'.ownBlock = some g → ¬ No g) :
    ∃ w2, (Instr.mapUpdate 38 (.map (some bm)) (kindV sg b r) v').run Try.prog w1 = .ok () w2 ∧ w2.ownsGroups Try.prog 60 base 3 .i64 bm (n + 1) (D.put (kLit sg b r) (rowDatum .i64 v' zs')) ∧ w1.grownBy w2 (some bm) ∧ w2.Shuns bm No := by
  obtain ⟨w2, hrun, r1, r2⟩ := hback w1 v' zs' hgr ho hl hloc
  refine ⟨w2, hrun, r1, r2, ?_⟩
  obtain ⟨es, clock, hb, F, hsz, _, hbb, _⟩ := h
  have hblt : bm < w0.heap.size := (Array.getElem?_eq_some_iff.1 hb).1
  have hb1 : w1.heap[bm]? = some (.map es clock) := (hgr.block bm hblt (fun e1 => by have := (hu.1.lt bm e1.symm).1; omega)).trans hb
  obtain ⟨es', clock', hb2, hwho⟩ := stored_who keyLaw Try.underlying38 hb1 F (Nat.lt_of_le_of_lt hsz hn) (keyOf_kind sg b r hr) hrun
  intro es2 clock2 hb2' y hy g hyg
  obtain ⟨rfl, rfl⟩ : es' = es2 ∧ clock' = clock2 := by rw [hb2] at hb2'; simpa using hb2'
  rcases hwho y hy with ⟨hy0, _⟩ | ⟨_, hval⟩
  · exact hs es clock hb y hy0 g hyg
  · exact hno g (hval ▸ hyg)
def ShRel (M : Nat) (b bp bm cap : Nat) (Ps : List Pm) (o1 o2 : List Nat) (B : Nat) (w : World) (s : Value) (wr : World) : Prop :=
  ∃ (o3 : List Nat) (n : Nat) (D : DU) (ov : Value), s = .int .i64 (((o1.length + o3.length : Nat) : Int) - 1) ∧ o3 <+: o2 ∧ PrSt wr b bp bm cap n D Ps (o1 ++ o3) (o1 ++ o3) ov ∧ KB B w wr ∧ n + (o1 ++ o3).length ≤ M

set_option maxHeartbeats 8000000 in
theorem shut_any {w : World} {b bp bm cap n B : Nat} {D : DU} {Ps : List Pm} {o1 o2 : List Nat} {ov : Value} (h : PrSt w b bp bm cap n D Ps (o1 ++ o2) (o1 ++ o2) ov) (hB : B ≤ bm ∧ B ≤ b ∧ B ≤ w.heap.size) (hops : ∀ i ∈ o1 ++ o2, i < Ps.length)
    (f : Nat) (hf : f ≤ 1000) (h1 : ∀ i ∈ o1, i < f) (h2 : ∀ i ∈ o2, f ≤ i) :
    Calls Try.prog 36 #[.pointer (some ⟨b, 0, none⟩), .int .i64 f] w fun e w' => e = .returned (.tuple #[]) ∧ (∃ n' D' ov', PrSt w' b bp bm cap n' D' Ps o1 o1 ov' ∧ n' + o1.length ≤ n + (o1 ++ o2).length) ∧ KB B w w' := by
  have hcnt := h.cnt
  have hsm := h.small
  have hln := h.len
  obtain ⟨A0, cp0, ho0, _⟩ := own_form h.own_ops.1
  rw [natI_length] at ho0
  obtain ⟨c0, c1, c2, _⟩ := h.bcells
  rw [ho0, List.length_append] at c1
  have HH := Lib.hid h
  have H1 := Lib.hid h1
  have H2 := Lib.hid h2
  have HO := Lib.hid hops
  clear h h1 h2 hops
  have hbnd : o1.length + o2.length ≤ 2000 := by rw [List.length_append] at hcnt; omega
  go_enter Try.func36, Try.ntmps36
  go_wp2_with fail
  go_loopw [4] (fun s wr => ShRel (n + (o1 ++ o2).length) b bp bm cap Ps o1 o2 B w s wr) (fun s _ => (intOf s + 1).toNat)
  case atStart => exact ⟨o2, n, D, ov, by go_num, List.prefix_refl _, HH.out, KB.refl _ _, Nat.le_refl _⟩
  case round =>
    obtain ⟨o3, n', D', ov', rfl, hpre, h, hbw, hM⟩ := hrel
    have HMM := Lib.hid hM
    clear hM
    have HP := Lib.hid hpre
    have hcnt' := h.cnt
    have hol : (o1 ++ o3).length ≤ 2000 := by omega
    rw [List.length_append] at hol
    have hbwB := hbw.size
    clear c0 c1 c2
    obtain ⟨c0, c1, c2, hfz, hbl⟩ := h.bcells
    rcases snoc_cases o3 with rfl | ⟨o4, j, rfl⟩
    · rw [List.append_nil] at h
      rcases snoc_cases o1 with rfl | ⟨o5, i, rfl⟩
      · have HE := Lib.hid h
        clear h
        go_wp2
        go_end0
        exact ⟨rfl, ⟨n', D', ov', HE.out, by have := HMM.out; simpa using this⟩, hbw⟩
      · obtain ⟨g, c, rfl, hg, hgl, hcl, hc⟩ := last_cell h.own_ops
        have hi : i < f := H1.out i (by simp)
        have hlen : (o5 ++ [i]).length + ([] : List Nat).length = o5.length + 1 := by simp
        rw [hlen]
        have HE := Lib.hid h
        clear h
        go_wp2
        go_end0
        exact ⟨rfl, ⟨n', D', _, HE.out, by have := HMM.out; simpa using this⟩, hbw⟩
    · rw [← List.append_assoc] at h
      obtain ⟨g, c, rfl, hg, hgl, hcl, hc, hcM⟩ := last_cell h.own_ops
      have hjf : f ≤ j := H2.out j ((HP.out).subset (by simp))
      have hjl : j < Ps.length := HO.out j (List.mem_append_right _ ((HP.out).subset (by simp)))
      obtain ⟨x, hx⟩ : ∃ x, Ps[j]? = some x := ⟨_, List.getElem?_eq_getElem hjl⟩
      obtain ⟨⟨p0, p1, p2, p3, p4, p5, p6, p7⟩, pfz, hbpl, _⟩ := h.pcells hx
      have hck := fun W => kindOf_any x.1.it x.2.1 W
      unfold itV kV kindV at hck
      have hmm : ((o1.length + (o4 ++ [j]).length : Nat) : Int) - 1 = ((o1 ++ o4).length : Nat) := by simp; omega
      rw [hmm]
      have hol2 : (o1 ++ o4).length ≤ 2000 := by rw [List.length_append]; simp at hol; omega
      have HPS := Lib.hid h
      clear h
      have HM := Lib.hid (show (o1 ++ o4).length = o1.length + o4.length from List.length_append)
      generalize hm : (o1 ++ o4).length = m at *
      unfold maxLen at hcM
      have hcM2 : c ≤ 9223372036854775807 := hcM
      have hmlt : (m : Int) < (m : Int) + 1 := by omega
      have hjlt : (j : Int) < (Ps.length : Int) := by omega
      go_upto_region 3 with fail
      go_cut [5] from 27 to 41 (fun s wx => ∃ gk, s = .pointer (some ⟨gk, 0, none⟩) ∧ wx.heap[gk]? = some (.cells #[.int .u8 x.1.it.sg.toNat, .bool (x.1.it.op && x.1.it.cl), .int .i64 (x.1.it.ff.tmod 3)] 60 (0, 0)) ∧ Below wr.heap.size wr wx)
      case first =>
        have hSB : ∀ W : World, Below wr.heap.size wr W → (W.cell? ⟨b, 0, none⟩ = some (.slice (some ⟨bp, 0, none⟩) Ps.length cap) ∧ W.cell? ⟨b, 1, none⟩ = some (.slice (some ⟨g, 0, none⟩) (m + 1) c) ∧ W.cell? ⟨g, m, none⟩ = some (.int .i64 j) ∧ W.cell? ⟨bp, j * 8, none⟩ = some (.int .u8 x.1.it.sg.toNat) ∧ W.cell? ⟨bp, j * 8 + 1, none⟩ = some (.int .i64 x.1.it.ff) ∧ W.cell? ⟨bp, j * 8 + 2, none⟩ = some (.bool x.1.it.op) ∧ W.cell? ⟨bp, j * 8 + 3, none⟩ = some (.bool x.1.it.cl) ∧ W.cell? ⟨bp, j * 8 + 4, none⟩ = some x.2.1) := fun W hb =>
          ⟨(hb.cell (p := ⟨b, 0, none⟩) hbl).trans c0, (hb.cell (p := ⟨b, 1, none⟩) hbl).trans c1, (hb.cell (p := ⟨g, m, none⟩) hgl).trans hcl, (hb.cell (p := ⟨bp, j * 8, none⟩) hbpl).trans p0, (hb.cell (p := ⟨bp, j * 8 + 1, none⟩) hbpl).trans p1, (hb.cell (p := ⟨bp, j * 8 + 2, none⟩) hbpl).trans p2, (hb.cell (p := ⟨bp, j * 8 + 3, none⟩) hbpl).trans p3, (hb.cell (p := ⟨bp, j * 8 + 4, none⟩) hbpl).trans p4⟩
        have HSB := Lib.hid hSB
        have HS := Lib.hid (hSB wr.drew (Below.refl _ wr).drew)
        clear hSB c0 c1 c2 hcl p0 p1 p2 p3 p4 p5 p6 p7
        have hs0 : wr.drew.heap.size = wr.heap.size := rfl
        have hbd : Below wr.heap.size wr wr.drew := (Below.refl _ wr).drew
        refine wp_region_N (fun W => W.cell? ⟨b, 0, none⟩ = some (.slice (some ⟨bp, 0, none⟩) Ps.length cap) ∧ W.cell? ⟨b, 1, none⟩ = some (.slice (some ⟨g, 0, none⟩) (m + 1) c) ∧ W.cell? ⟨g, m, none⟩ = some (.int .i64 j) ∧ W.cell? ⟨bp, j * 8, none⟩ = some (.int .u8 x.1.it.sg.toNat) ∧ W.cell? ⟨bp, j * 8 + 1, none⟩ = some (.int .i64 x.1.it.ff) ∧ W.cell? ⟨bp, j * 8 + 2, none⟩ = some (.bool x.1.it.op) ∧ W.cell? ⟨bp, j * 8 + 3, none⟩ = some (.bool x.1.it.cl) ∧ W.cell? ⟨bp, j * 8 + 4, none⟩ = some x.2.1) (fun i => decide (i < 14) || i == 15) (by kernel_rfl) ?_
        generalize hwd : wr.drew = wd at *
        refine wpAnyN_take_at 0 27 (v := ?_) rfl rfl (by kernel_rfl) (by kernel_rfl) (by kernel_rfl) (by kernel_rfl) (by kernel_rfl) (fun _ _ _ h => h) (by rfl) ?_ HS.out ?_
        rotate_left
        · intro W hSw; (try dsimp only at hSw); obtain ⟨q0, q1, q2, q3, q4, q5, q6, q7⟩ := hSw; go_simp; (try with_reducible rfl)
        simp only [Act.put, List.setIfInBounds_toArray, List.set_cons_zero, List.set_cons_succ]
        refine wpAnyN_take_at 1 28 (v := ?_) rfl rfl (by kernel_rfl) (by kernel_rfl) (by kernel_rfl) (by kernel_rfl) (by kernel_rfl) (fun _ _ _ h => h) (by rfl) ?_ HS.out ?_
        rotate_left
        · intro W hSw; (try dsimp only at hSw); obtain ⟨q0, q1, q2, q3, q4, q5, q6, q7⟩ := hSw; go_simp; (try with_reducible rfl)
        simp only [Act.put, List.setIfInBounds_toArray, List.set_cons_zero, List.set_cons_succ]
        refine wpAnyN_take_at 2 29 (v := ?_) rfl rfl (by kernel_rfl) (by kernel_rfl) (by kernel_rfl) (by kernel_rfl) (by kernel_rfl) (fun _ _ _ h => h) (by rfl) ?_ HS.out ?_
        rotate_left
        · intro W hSw; (try dsimp only at hSw); obtain ⟨q0, q1, q2, q3, q4, q5, q6, q7⟩ := hSw; go_simp; (try with_reducible rfl)
        simp only [Act.put, List.setIfInBounds_toArray, List.set_cons_zero, List.set_cons_succ]
        refine wpAnyN_take_at 3 30 (v := ?_) rfl rfl (by kernel_rfl) (by kernel_rfl) (by kernel_rfl) (by kernel_rfl) (by kernel_rfl) (fun _ _ _ h => h) (by rfl) ?_ HS.out ?_
        rotate_left
        · intro W hSw; (try dsimp only at hSw); obtain ⟨q0, q1, q2, q3, q4, q5, q6, q7⟩ := hSw; go_simp; (try with_reducible rfl)
        simp only [Act.put, List.setIfInBounds_toArray, List.set_cons_zero, List.set_cons_succ]
        refine wpAnyN_take_at 4 31 (v := ?_) rfl rfl (by kernel_rfl) (by kernel_rfl) (by kernel_rfl) (by kernel_rfl) (by kernel_rfl) (fun _ _ _ h => h) (by rfl) ?_ HS.out ?_
        rotate_left
        · intro W hSw; (try dsimp only at hSw); obtain ⟨q0, q1, q2, q3, q4, q5, q6, q7⟩ := hSw; go_simp; (try with_reducible rfl)
        simp only [Act.put, List.setIfInBounds_toArray, List.set_cons_zero, List.set_cons_succ]
        refine wpAnyN_take_at 5 32 (v := ?_) rfl rfl (by kernel_rfl) (by kernel_rfl) (by kernel_rfl) (by kernel_rfl) (by kernel_rfl) (fun _ _ _ h => h) (by rfl) ?_ HS.out ?_
        rotate_left
        · intro W hSw; (try dsimp only at hSw); obtain ⟨q0, q1, q2, q3, q4, q5, q6, q7⟩ := hSw; go_simp; (try with_reducible rfl)
        simp only [Act.put, List.setIfInBounds_toArray, List.set_cons_zero, List.set_cons_succ]
        refine wpAnyN_take_at 6 33 (v := ?_) rfl rfl (by kernel_rfl) (by kernel_rfl) (by kernel_rfl) (by kernel_rfl) (by kernel_rfl) (fun _ _ _ h => h) (by rfl) ?_ HS.out ?_
        rotate_left
        · intro W hSw; (try dsimp only at hSw); obtain ⟨q0, q1, q2, q3, q4, q5, q6, q7⟩ := hSw; go_simp; (try with_reducible rfl)
        simp only [Act.put, List.setIfInBounds_toArray, List.set_cons_zero, List.set_cons_succ]
        refine wpAnyN_take_at 7 34 (v := ?_) rfl rfl (by kernel_rfl) (by kernel_rfl) (by kernel_rfl) (by kernel_rfl) (by kernel_rfl) (fun _ _ _ h => h) (by rfl) ?_ HS.out ?_
        rotate_left
        · intro W hSw; (try dsimp only at hSw); obtain ⟨q0, q1, q2, q3, q4, q5, q6, q7⟩ := hSw; go_simp; (try with_reducible rfl)
        simp only [Act.put, List.setIfInBounds_toArray, List.set_cons_zero, List.set_cons_succ]
        refine wpAnyN_take_at 8 35 (v := ?_) rfl rfl (by kernel_rfl) (by kernel_rfl) (by kernel_rfl) (by kernel_rfl) (by kernel_rfl) (fun _ _ _ h => h) (by rfl) ?_ HS.out ?_
        rotate_left
        · intro W hSw; (try dsimp only at hSw); obtain ⟨q0, q1, q2, q3, q4, q5, q6, q7⟩ := hSw; go_simp; (try with_reducible rfl)
        simp only [Act.put, List.setIfInBounds_toArray, List.set_cons_zero, List.set_cons_succ]
        refine wpAnyN_take_at 9 36 (v := ?_) rfl rfl (by kernel_rfl) (by kernel_rfl) (by kernel_rfl) (by kernel_rfl) (by kernel_rfl) (fun _ _ _ h => h) (by rfl) ?_ HS.out ?_
        rotate_left
        · intro W hSw; (try dsimp only at hSw); obtain ⟨q0, q1, q2, q3, q4, q5, q6, q7⟩ := hSw; go_simp; (try with_reducible rfl)
        simp only [Act.put, List.setIfInBounds_toArray, List.set_cons_zero, List.set_cons_succ]
        refine wpAnyN_take_at 10 37 (v := ?_) rfl rfl (by kernel_rfl) (by kernel_rfl) (by kernel_rfl) (by kernel_rfl) (by kernel_rfl) (fun _ _ _ h => h) (by rfl) ?_ HS.out ?_
        rotate_left
        · intro W hSw; (try dsimp only at hSw); obtain ⟨q0, q1, q2, q3, q4, q5, q6, q7⟩ := hSw; go_simp; (try with_reducible rfl)
        simp only [Act.put, List.setIfInBounds_toArray, List.set_cons_zero, List.set_cons_succ]
        refine wpAnyN_take_at 11 38 (v := ?_) rfl rfl (by kernel_rfl) (by kernel_rfl) (by kernel_rfl) (by kernel_rfl) (by kernel_rfl) (fun _ _ _ h => h) (by rfl) ?_ HS.out ?_
        rotate_left
        · intro W hSw; (try dsimp only at hSw); obtain ⟨q0, q1, q2, q3, q4, q5, q6, q7⟩ := hSw; go_simp; (try with_reducible rfl)
        simp only [Act.put, List.setIfInBounds_toArray, List.set_cons_zero, List.set_cons_succ]
        refine wpAnyN_take_at 12 39 (v := ?_) rfl rfl (by kernel_rfl) (by kernel_rfl) (by kernel_rfl) (by kernel_rfl) (by kernel_rfl) (fun _ _ _ h => h) (by rfl) ?_ HS.out ?_
        rotate_left
        · intro W hSw; (try dsimp only at hSw); obtain ⟨q0, q1, q2, q3, q4, q5, q6, q7⟩ := hSw; go_simp; (try with_reducible rfl)
        simp only [Act.put, List.setIfInBounds_toArray, List.set_cons_zero, List.set_cons_succ]
        refine wpAnyN_take_at 13 40 (v := ?_) rfl rfl (by kernel_rfl) (by kernel_rfl) (by kernel_rfl) (by kernel_rfl) (by kernel_rfl) (fun _ _ _ h => h) (by rfl) ?_ HS.out ?_
        rotate_left
        · intro W hSw; (try dsimp only at hSw); obtain ⟨q0, q1, q2, q3, q4, q5, q6, q7⟩ := hSw; go_simp; (try with_reducible rfl)
        simp only [Act.put, List.setIfInBounds_toArray, List.set_cons_zero, List.set_cons_succ]
        refine wpAnyN_two (i := 14) (j := 15) rfl rfl (by kernel_rfl) (fun K hK => ?_) (fun K hK => ?_)
        · go_simp
          go_at_call 23
          refine (hck _).mono ?_
          rintro e w3 ⟨rfl, b3⟩
          have hb3 : Below wr.heap.size wr w3 := hbd.trans (b3.mono (by omega))
          have hs3 := hb3.size
          refine hK _ _ (fun h => absurd h (by decide)) ?_
          clear hK
          (try simp only [Act.put, List.setIfInBounds_toArray, List.set_cons_zero, List.set_cons_succ])
          refine wpAnyN_one (i := 15) rfl (by kernel_rfl) (fun K hK => ?_)
          go_simp
          refine hK _ _ (fun _ => HSB.out _ (hb3.alloc hs3 _)) ?_
          clear hK
          (try simp only [Act.put, List.setIfInBounds_toArray, List.set_cons_zero, List.set_cons_succ])
          refine wpAnyN_rest 16 [_] rfl (by kernel_rfl) (by rfl) ?_
          go_wp2
          go_meet
          exact ⟨w3.heap.size, rfl, heap_alloc_new _ _, hb3.alloc hs3 _⟩
        · go_simp
          refine hK _ _ (fun _ => HSB.out _ (hbd.alloc (by omega) _)) ?_
          clear hK
          (try simp only [Act.put, List.setIfInBounds_toArray, List.set_cons_zero, List.set_cons_succ])
          refine wpAnyN_one (i := 14) rfl (by kernel_rfl) (fun K hK => ?_)
          go_simp
          go_at_call 23
          refine (hck _).mono ?_
          rintro e w3 ⟨rfl, b3⟩
          have hbx : w3.heap[wd.heap.size]? = some (.cells #[.int .u8 0, .bool false, .int .i64 0] 60 (0, 0)) := (b3.block _ (by simp)).trans (heap_alloc_new _ _)
          rw [hs0] at hbx
          obtain ⟨v0, v1, v2, vf, vlt⟩ := boxK_at hbx
          have hb3 : Below wr.heap.size wr w3 := (hbd.alloc (by omega) _).trans (b3.mono (by simp; omega))
          refine hK _ _ (fun h => absurd h (by decide)) ?_
          clear hK
          (try simp only [Act.put, List.setIfInBounds_toArray, List.set_cons_zero, List.set_cons_succ])
          refine wpAnyN_rest 16 [_] rfl (by kernel_rfl) (by rfl) ?_
          have HBX := Lib.hid hbx
          have HB3 := Lib.hid hb3
          clear hbx hb3 b3
          go_wp2
          go_meet
          exact ⟨wr.heap.size, rfl, by simp [World.setCell, Array.getElem?_modify, HBX.out], ((HB3.out.setCell (p := ⟨wr.heap.size, 0, none⟩) (Nat.le_refl _) _).setCell (p := ⟨wr.heap.size, 1, none⟩) (Nat.le_refl _) _).setCell (p := ⟨wr.heap.size, 2, none⟩) (Nat.le_refl _) _⟩
      case rest =>
        obtain ⟨gk, rfl, hbk, hbx⟩ := hcut
        have HBk := Lib.hid hbk
        have HBx := Lib.hid hbx
        clear c0 c1 c2 hcl p0 p1 p2 p3 p4 p5 p6 p7 hbk hbx hck
        go_wp2_with fail
        have hbd : Below wr.heap.size wr wc.drew := HBx.out.drew
        have hd := HPS.out.below hbd
        refine wp_region_N (fun W => W = wc.drew) (fun i => decide (i < 20)) (by kernel_rfl) ?_
        obtain ⟨b0, b1, b2, bfz, blt⟩ := boxK_at (wx := wc.drew) HBk.out
        generalize hwd : wc.drew = wd at *
        obtain ⟨gv, zs, hrun, hat, hoi, hzl, hback, hsh⟩ := groups_look hd.fam.grp (by unfold maxLen; omega) x.1.it.sg (x.1.it.op && x.1.it.cl) (x.1.it.ff.tmod 3) (em_tmod _)
        have hxp : (Ps.map Prod.fst)[j]? = some x.1 := by rw [List.getElem?_map, hx]; rfl
        have hzs : zs = natI (((o1 ++ o4).filter (kAt (Ps.map Prod.fst) x.1.it.sg (x.1.it.op && x.1.it.cl) (x.1.it.ff.tmod 3))) ++ [j]) := by
          have h1 := hd.kd.2 x.1.it.sg (x.1.it.op && x.1.it.cl) (x.1.it.ff.tmod 3) (em_tmod _).1 (em_tmod _).2
          rw [hat, zsOf_row hoi, opsK_last hxp] at h1
          exact h1
        have HKD := Lib.hid (show opsK (Ps.map Prod.fst) (o1 ++ o4) x.1.it.sg (x.1.it.op && x.1.it.cl) (x.1.it.ff.tmod 3) = natI ((o1 ++ o4).filter (kAt (Ps.map Prod.fst) x.1.it.sg (x.1.it.op && x.1.it.cl) (x.1.it.ff.tmod 3))) from rfl)
        generalize (o1 ++ o4).filter (kAt (Ps.map Prod.fst) x.1.it.sg (x.1.it.op && x.1.it.cl) (x.1.it.ff.tmod 3)) = F at *
        subst hzs
        obtain ⟨g2, cc, rfl, hg2, hg2l, _, hcc, hccM⟩ := last_cell hoi
        have hcut := cut_last hoi
        rw [natI_length, List.length_append] at hzl
        have hzl2 : F.length + 1 ≤ n' := hzl
        obtain ⟨w2, hup, hgr2, hgb2, hsh2⟩ := groups_store hd.fam.grp (by unfold maxLen; omega) (em_tmod x.1.it.ff) hoi hback (World.grownBy.refl _ _) hcut (by rw [natI_length]; omega) (Or.inl rfl) hd.fam.shun (fun g' hg' => hsh _ hd.fam.shun g' hg')
        have hd2 := hd.kinds (opsM' := o1 ++ o4) hoi hsh (World.grownBy.refl _ _) hgb2 hgr2 hsh2 (hd.kd.put (em_tmod _) _ (opsK (Ps.map Prod.fst) (o1 ++ o4)) (by rw [zsOf_row hcut, HKD.out]) (fun sg2 b2 r2 hne => (opsK_other hxp sg2 b2 r2 hne).symm)) (by have := hd.cnt; simp only [List.length_append, List.length_cons, List.length_nil] at this ⊢; omega)
        obtain ⟨d0, d1, d2, dfz, dlt⟩ := hd2.bcells
        obtain ⟨a0, a1, a2, afz, alt⟩ := hd.bcells
        have hsl := fun W => nslice_high (some ⟨g2, 0, none⟩) (F.length + 1) cc F.length (by omega) W
        have hsl2 := fun W => nslice_high (some ⟨g, 0, none⟩) (m + 1) c m (by omega) W
        have hwF : IntKind.i64.wrap (F.length : Int) = (F.length : Int) := IntWalk.i64_in _ (by omega)
        have hFc : F.length ≤ cc := by omega
        unfold kindV at hrun hup
        have hlk := hrun wd rfl
        have hopn := hd2.openers (World.grownBy.refl _ _) (cut_last (by rw [hm]; exact hd2.own_ops)) (Or.inl rfl)
        rw [hm] at hopn
        have HOP := Lib.hid hopn
        have hb2 : KB B w w2 := (hbw.thenB hbd (by omega)).grown hgb2 (by have := hbd.size; omega) (hd.row_bm hB.1)
        have hb2' : KB B w (w2.setCell ⟨b, 1, none⟩ (.slice (some ⟨g, 0, none⟩) m c)) := hb2.grown (setc_grown _ _ _ _) (by have := hb2.size; omega) (hd2.row_b hB.2.1)
        have HB2 := Lib.hid hb2'
        have HG := Lib.hid hgb2
        have HDD := Lib.hid hd2
        clear hd hback hsh hoi hat hcut hgr2 hgb2 hsh2 hd2 hopn hb2 hb2' hrun hxp HBk HBx HPS hwd
        refine wpAnyN_take_at 0 42 (v := ?_) rfl rfl (by kernel_rfl) (by kernel_rfl) (by kernel_rfl) (by kernel_rfl) (by kernel_rfl) (fun _ _ _ h => h) (by rfl) ?_ rfl ?_
        rotate_left
        · intro W hSw; (try dsimp only at hSw); subst hSw; go_simp; (try with_reducible rfl)
        simp only [Act.put, List.setIfInBounds_toArray, List.set_cons_zero, List.set_cons_succ]
        refine wpAnyN_take_at 1 43 (v := ?_) rfl rfl (by kernel_rfl) (by kernel_rfl) (by kernel_rfl) (by kernel_rfl) (by kernel_rfl) (fun _ _ _ h => h) (by rfl) ?_ rfl ?_
        rotate_left
        · intro W hSw; (try dsimp only at hSw); subst hSw; go_simp; (try with_reducible rfl)
        simp only [Act.put, List.setIfInBounds_toArray, List.set_cons_zero, List.set_cons_succ]
        refine wpAnyN_take_at 2 44 (v := ?_) rfl rfl (by kernel_rfl) (by kernel_rfl) (by kernel_rfl) (by kernel_rfl) (by kernel_rfl) (fun _ _ _ h => h) (by rfl) ?_ rfl ?_
        rotate_left
        · intro W hSw; (try dsimp only at hSw); subst hSw; go_simp; (try with_reducible rfl)
        simp only [Act.put, List.setIfInBounds_toArray, List.set_cons_zero, List.set_cons_succ]
        refine wpAnyN_take_at 3 45 (v := ?_) rfl rfl (by kernel_rfl) (by kernel_rfl) (by kernel_rfl) (by kernel_rfl) (by kernel_rfl) (fun _ _ _ h => h) (by rfl) ?_ rfl ?_
        rotate_left
        · intro W hSw; (try dsimp only at hSw); subst hSw; go_simp; (try with_reducible rfl)
        simp only [Act.put, List.setIfInBounds_toArray, List.set_cons_zero, List.set_cons_succ]
        refine wpAnyN_take_at 4 46 (v := ?_) rfl rfl (by kernel_rfl) (by kernel_rfl) (by kernel_rfl) (by kernel_rfl) (by kernel_rfl) (fun _ _ _ h => h) (by rfl) ?_ rfl ?_
        rotate_left
        · intro W hSw; (try dsimp only at hSw); subst hSw; go_simp; (try with_reducible rfl)
        simp only [Act.put, List.setIfInBounds_toArray, List.set_cons_zero, List.set_cons_succ]
        refine wpAnyN_take_at 5 47 (v := ?_) rfl rfl (by kernel_rfl) (by kernel_rfl) (by kernel_rfl) (by kernel_rfl) (by kernel_rfl) (fun _ _ _ h => h) (by rfl) ?_ rfl ?_
        rotate_left
        · intro W hSw; (try dsimp only at hSw); subst hSw; go_simp; (try with_reducible rfl)
        simp only [Act.put, List.setIfInBounds_toArray, List.set_cons_zero, List.set_cons_succ]
        refine wpAnyN_take_at 6 48 (v := ?_) rfl rfl (by kernel_rfl) (by kernel_rfl) (by kernel_rfl) (by kernel_rfl) (by kernel_rfl) (fun _ _ _ h => h) (by rfl) ?_ rfl ?_
        rotate_left
        · intro W hSw; (try dsimp only at hSw); subst hSw; go_simp; (try with_reducible rfl)
        simp only [Act.put, List.setIfInBounds_toArray, List.set_cons_zero, List.set_cons_succ]
        refine wpAnyN_take_at 7 49 (v := ?_) rfl rfl (by kernel_rfl) (by kernel_rfl) (by kernel_rfl) (by kernel_rfl) (by kernel_rfl) (fun _ _ _ h => h) (by rfl) ?_ rfl ?_
        rotate_left
        · intro W hSw; (try dsimp only at hSw); subst hSw; go_simp; (try with_reducible rfl)
        simp only [Act.put, List.setIfInBounds_toArray, List.set_cons_zero, List.set_cons_succ]
        refine wpAnyN_take_at 8 50 (v := ?_) rfl rfl (by kernel_rfl) (by kernel_rfl) (by kernel_rfl) (by kernel_rfl) (by kernel_rfl) (fun _ _ _ h => h) (by rfl) ?_ rfl ?_
        rotate_left
        · intro W hSw; (try dsimp only at hSw); subst hSw; go_simp; (try with_reducible rfl)
        simp only [Act.put, List.setIfInBounds_toArray, List.set_cons_zero, List.set_cons_succ]
        refine wpAnyN_take_at 9 51 (v := ?_) rfl rfl (by kernel_rfl) (by kernel_rfl) (by kernel_rfl) (by kernel_rfl) (by kernel_rfl) (fun _ _ _ h => h) (by rfl) ?_ rfl ?_
        rotate_left
        · intro W hSw; (try dsimp only at hSw); subst hSw; go_simp; (try with_reducible rfl)
        simp only [Act.put, List.setIfInBounds_toArray, List.set_cons_zero, List.set_cons_succ]
        refine wpAnyN_take_at 10 52 (v := ?_) rfl rfl (by kernel_rfl) (by kernel_rfl) (by kernel_rfl) (by kernel_rfl) (by kernel_rfl) (fun _ _ _ h => h) (by rfl) ?_ rfl ?_
        rotate_left
        · intro W hSw; (try dsimp only at hSw); subst hSw; go_simp; (try with_reducible rfl)
        simp only [Act.put, List.setIfInBounds_toArray, List.set_cons_zero, List.set_cons_succ]
        refine wpAnyN_take_at 11 53 (v := ?_) rfl rfl (by kernel_rfl) (by kernel_rfl) (by kernel_rfl) (by kernel_rfl) (by kernel_rfl) (fun _ _ _ h => h) (by rfl) ?_ rfl ?_
        rotate_left
        · intro W hSw; (try dsimp only at hSw); subst hSw; go_simp; (try with_reducible rfl)
        simp only [Act.put, List.setIfInBounds_toArray, List.set_cons_zero, List.set_cons_succ]
        refine wpAnyN_take_at 12 54 (v := ?_) rfl rfl (by kernel_rfl) (by kernel_rfl) (by kernel_rfl) (by kernel_rfl) (by kernel_rfl) (fun _ _ _ h => h) (by rfl) ?_ rfl ?_
        rotate_left
        · intro W hSw; (try dsimp only at hSw); subst hSw; go_simp; (try with_reducible rfl)
        simp only [Act.put, List.setIfInBounds_toArray, List.set_cons_zero, List.set_cons_succ]
        refine wpAnyN_take_at 13 55 (v := ?_) rfl rfl (by kernel_rfl) (by kernel_rfl) (by kernel_rfl) (by kernel_rfl) (by kernel_rfl) (fun _ _ _ h => h) (by rfl) ?_ rfl ?_
        rotate_left
        · intro W hSw; (try dsimp only at hSw); subst hSw; go_simp; (try with_reducible rfl)
        simp only [Act.put, List.setIfInBounds_toArray, List.set_cons_zero, List.set_cons_succ]
        refine wpAnyN_take_at 14 56 (v := ?_) rfl rfl (by kernel_rfl) (by kernel_rfl) (by kernel_rfl) (by kernel_rfl) (by kernel_rfl) (fun _ _ _ h => h) (by rfl) ?_ rfl ?_
        rotate_left
        · intro W hSw; (try dsimp only at hSw); subst hSw; go_simp; (try with_reducible rfl)
        simp only [Act.put, List.setIfInBounds_toArray, List.set_cons_zero, List.set_cons_succ]
        refine wpAnyN_take_at 15 57 (v := ?_) rfl rfl (by kernel_rfl) (by kernel_rfl) (by kernel_rfl) (by kernel_rfl) (by kernel_rfl) (fun _ _ _ h => h) (by rfl) ?_ rfl ?_
        rotate_left
        · intro W hSw; (try dsimp only at hSw); subst hSw; go_simp; (try with_reducible rfl)
        simp only [Act.put, List.setIfInBounds_toArray, List.set_cons_zero, List.set_cons_succ]
        refine wpAnyN_take_at 16 58 (v := ?_) rfl rfl (by kernel_rfl) (by kernel_rfl) (by kernel_rfl) (by kernel_rfl) (by kernel_rfl) (fun _ _ _ h => h) (by rfl) ?_ rfl ?_
        rotate_left
        · intro W hSw; (try dsimp only at hSw); subst hSw; go_simp; (try with_reducible rfl)
        simp only [Act.put, List.setIfInBounds_toArray, List.set_cons_zero, List.set_cons_succ]
        refine wpAnyN_take_at 17 59 (v := ?_) rfl rfl (by kernel_rfl) (by kernel_rfl) (by kernel_rfl) (by kernel_rfl) (by kernel_rfl) (fun _ _ _ h => h) (by rfl) ?_ rfl ?_
        rotate_left
        · intro W hSw; (try dsimp only at hSw); subst hSw; go_simp; (try with_reducible rfl)
        simp only [Act.put, List.setIfInBounds_toArray, List.set_cons_zero, List.set_cons_succ]
        refine wpAnyN_take_at 18 60 (v := ?_) rfl rfl (by kernel_rfl) (by kernel_rfl) (by kernel_rfl) (by kernel_rfl) (by kernel_rfl) (fun _ _ _ h => h) (by rfl) ?_ rfl ?_
        rotate_left
        · intro W hSw; (try dsimp only at hSw); subst hSw; go_simp; (try with_reducible rfl)
        simp only [Act.put, List.setIfInBounds_toArray, List.set_cons_zero, List.set_cons_succ]
        refine wpAnyN_take_at 19 61 (v := ?_) rfl rfl (by kernel_rfl) (by kernel_rfl) (by kernel_rfl) (by kernel_rfl) (by kernel_rfl) (fun _ _ _ h => h) (by rfl) ?_ rfl ?_
        rotate_left
        · intro W hSw; (try dsimp only at hSw); subst hSw; go_simp; (try with_reducible rfl)
        simp only [Act.put, List.setIfInBounds_toArray, List.set_cons_zero, List.set_cons_succ]
        refine wpAnyN_one (i := 20) rfl (by kernel_rfl) (fun K hK => ?_)
        go_simp
        refine hK _ _ (fun h => absurd h (by decide)) ?_
        clear hK hup hlk b0 b1 b2 bfz a0 a1 a2 afz
        (try simp only [Act.put, List.setIfInBounds_toArray, List.set_cons_zero, List.set_cons_succ])
        refine wpAnyN_rest 21 [] rfl (by kernel_rfl) (by rfl) ?_
        have df1 := dfz 1
        go_wp2
        go_roundw
        case rel => exact ⟨o4, n' + 1, _, _, by rw [← HM.out], (List.prefix_append o4 [j]).trans HP.out, HOP.out.1, HB2.out, by have := HMM.out; simp only [List.length_append, List.length_cons, List.length_nil] at this ⊢; omega⟩
        case measure => simp [intOf]

end Go.Proofs.Ytoomkhmmgjiniaa
