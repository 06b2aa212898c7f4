/- Texts joined: EmO. -/
import Derived.Test.YteihmgcphbijhaaGreatDoorQAF
namespace Go.Proofs.YteihmgcphbijhaaGreatDoor
open Go.RowKit Go.Maps Go.ChangeShapes
set_option linter.unusedSimpArgs false
set_option linter.unusedVariables false
set_option maxRecDepth 100000
def downs : Int → List Int → List Iln
  | _, [] => []
  | d, k :: ks => ⟨k, IntKind.i64.wrap d, [], [], []⟩ :: downs (d + 1) ks
theorem downs_snoc (d : Int) (ks : List Int) (k : Int) : downs d (ks ++ [k]) = downs d ks ++ [⟨k, IntKind.i64.wrap (d + ks.length), [], [], []⟩] := by
  induction ks generalizing d with
  | nil => simp [downs]
  | cons x ks ih => simp [downs, ih, Int.add_assoc, Int.add_comm 1]
theorem ren_downs (ks : List Int) (r : List Ev) : ∀ d, ren d (ks.map Ev.dn ++ r) = downs d ks ++ ren (d + ks.length) r := by
  induction ks with
  | nil => intro d; simp [downs]
  | cons k ks ih => intro d; simp [ren, downs, ih, Int.add_assoc, Int.add_comm 1]
theorem ren_ups (n : Nat) (r : List Ev) : ∀ d, ren d (List.replicate n Ev.up ++ r) = ren (d - n) r := by
  induction n with
  | zero => intro d; simp
  | succ n ih => intro d; rw [List.replicate_succ, List.cons_append]; simp only [ren]; rw [ih]; congr 1; omega
theorem ren_nodes {p : Pc} (h : p.it.sg = 0) (i : Nat) (ps : List Pc) (d : Int) : ren d (evF i (p :: ps)) = deepBy d p.it.nd ++ ren d (evF (i + 1) ps) := by
  simp [evF, evP, h, ren]
theorem ren_row {p : Pc} (h : p.it.sg ≠ 0) (i : Nat) (ps : List Pc) (d : Int) :
    ren d (evF i (p :: ps)) = rowW (d - p.en) p.it ++ downs (d - p.en) p.bg.reverse ++ ren (d - p.en + p.bg.length) (evF (i + 1) ps) := by
  simp only [evF, evP, if_neg h, List.append_assoc, List.cons_append]
  rw [ren_ups]
  simp only [ren]
  rw [ren_downs, List.length_reverse]
theorem wrapS (a b : Int) : IntKind.i64.wrap (IntKind.i64.wrap a - b) = IntKind.i64.wrap (a - b) := by
  simp only [IntKind.wrap_i64]
  omega
theorem deepBy_wrap (d : Int) (l : List Iln) : deepBy (IntKind.i64.wrap d) l = deepBy d l := by
  unfold deepBy
  refine List.map_congr_left fun x _ => ?_
  have : IntKind.i64.wrap (x.dp + IntKind.i64.wrap d) = IntKind.i64.wrap (x.dp + d) := by simp only [IntKind.wrap_i64]; omega
  rw [this]
def Marks (n0 : Nat) (W : World) (ds : List Deferred) : Prop := ∃ Ds : List Nat, ds = Ds.map (fun D => ({ target := .collected D, args := #[] } : Deferred)) ∧ Ds.Nodup ∧ ∀ D ∈ Ds, n0 ≤ D ∧ W.heap[D]? = some (.deferred (some []))
theorem Marks.nil (n0 : Nat) (W : World) : Marks n0 W [] := ⟨[], rfl, by simp, by simp⟩
theorem Marks.keep {n0 : Nat} {W W' : World} {ds : List Deferred} (h : Marks n0 W ds) (k : ∀ (g : Nat) (o : Obj), W.heap[g]? = some o → o.isCells = false → W'.heap[g]? = some o) : Marks n0 W' ds := by
  obtain ⟨Ds, h1, h2, h3⟩ := h
  exact ⟨Ds, h1, h2, fun D hD => ⟨(h3 D hD).1, k D _ (h3 D hD).2 rfl⟩⟩
theorem Marks.push {n0 : Nat} {W W' : World} {ds : List Deferred} (h : Marks n0 W ds) (h' : Marks n0 W' ds) {D : Nat} (hD : W.heap.size ≤ D) (hn : n0 ≤ D) (hk : W'.heap[D]? = some (.deferred (some []))) : Marks n0 W' ({ target := .collected D, args := #[] } :: ds) := by
  obtain ⟨Ds, h1, h2, h3⟩ := h
  obtain ⟨Ds', h1', h2', h3'⟩ := h'
  refine ⟨D :: Ds, by rw [h1]; rfl, List.nodup_cons.2 ⟨fun hm => ?_, h2⟩, fun E hE => ?_⟩
  · have := (Array.getElem?_eq_some_iff.1 (h3 D hm).2).1
    omega
  · rcases List.mem_cons.1 hE with rfl | hE
    · exact ⟨hn, hk⟩
    · have e : Ds = Ds' := by
        have h5 := h1.symm.trans h1'
        exact (List.map_inj_right (fun a b hab => by cases hab; rfl)).1 h5
      rw [e] at hE
      exact h3' E hE
theorem step_append_inls {ops : Array Oper} {o : Oper} {a : Act} {w : World} {K : Act → World → Prop} {Q : Exit → Act → World → Prop} {E : Prop} (hg : o.guard = none) (s x : Operand)
    (ho : o.op = .call { callee := .builtin .append, args := #[s, x], argTypes := #[25, 25] }) (base B2 : Nat) (v : Value) (X Y : List Iln) (hs : a.eval s = v) (hown : w.ownsRow base 28 5 v X.length (flt ilC X))
    (u : Value) (hx : a.eval x = u) (hu : w.ownsRow B2 28 5 u Y.length (flt ilC Y)) (hb : X.length + Y.length ≤ 200000000) (hbase : base ≤ w.heap.size)
    (hK : ∀ A c w', w'.ownsRow base 28 5 (.slice A (X ++ Y).length c) (X ++ Y).length (flt ilC (X ++ Y)) → w.grownBy w' v.ownBlock → K (a.put o.dst (.slice A (X ++ Y).length c)) w') :
    if Region.wanted o (yielded ops a.tmps) = true then Oper.wp Tryz.prog o a w K Q else E := by
  have hw : Region.wanted o (yielded ops a.tmps) = true := by simp [Region.wanted, hg]
  rw [if_pos hw]
  obtain ⟨i0, hi, hz0, hz1, hz2⟩ := info_parts infoInl
  obtain ⟨v', w', hr, r1, r2⟩ : ∃ v' w', (Builtin.append_ #[25, 25] o.type #[v, u]).run Tryz.prog w = .ok v' w' ∧ w'.ownsRow base 28 5 v' (X ++ Y).length (flt ilC (X ++ Y)) ∧ w.grownBy w' v.ownBlock := by
    rcases hu.2 with ⟨rfl, h0⟩ | ⟨g, cap, cur, rfl, hbg, hgg, hnc, hcm, hcs, ht⟩
    · have hY : Y = [] := List.eq_nil_of_length_eq_zero h0
      subst hY
      refine ⟨v, w, run_append_owned_none (P := Tryz.prog) (w := w) base 25 o.type 28 i0 5 Tryz.underlying25 hi v X.length (flt ilC X) hown, by rw [List.append_nil]; exact hown, World.grownBy.refl _ _⟩
    · obtain ⟨v', w', hr, h2, h3, _, _⟩ := run_append_own_at (P := Tryz.prog) w base 25 o.type 28 i0 (.agg #[.int .i64 0, .int .i64 0, .string ByteArray.empty, .string ByteArray.empty, .string ByteArray.empty]) 5 64 Tryz.underlying25 hi hz0 hz1 hz2 rfl (by decide) v X.length (flt ilC X) hown ⟨g, 0, none⟩ Y.length cap (flt ilC Y) (flt_length ilC_length Y) (hu.cells (g := g) rfl) (ils_one' Y) (by unfold maxLen; omega) (by omega) hbase
      exact ⟨v', w', hr, by rw [List.length_append, flt_append]; exact h2, h3⟩
  obtain ⟨A, c, rfl, _⟩ := own_form r1
  unfold Oper.wp execOp
  simp only [ho, resolve, invoke, builtin, Sem.run_bind, Sem.run_pure, Result.andThen_ok, List.map_toArray, List.map_cons, List.map_nil, hs, hx, hr]
  exact hK A c w' r1 r2
structure NdMem (w : World) (out : List Iln) (d : Int) (v : Value) (ds : List Deferred) (wr : World) : Prop where
  b3 : wr.heap[w.heap.size]? = some (.cells #[v] 25 (0, 0))
  b4 : wr.heap[w.heap.size + 1]? = some (.cells #[.int .i64 (IntKind.i64.wrap d)] 3 (0, 0))
  own : wr.ownsRow w.heap.size 28 5 v out.length (flt ilC out)
  below : Below w.heap.size w wr
  marks : Marks w.heap.size wr ds
theorem NdMem.keep {w : World} {out : List Iln} {d : Int} {v : Value} {ds : List Deferred} {wr wr' : World} (h : NdMem w out d v ds wr) (hb : Below wr.heap.size wr wr') : NdMem w out d v ds wr' :=
  ⟨(hb.block _ (Array.getElem?_eq_some_iff.1 h.b3).1).trans h.b3, (hb.block _ (Array.getElem?_eq_some_iff.1 h.b4).1).trans h.b4, ownsRow_below h.own hb, h.below.then hb, h.marks.keep fun g o hg _ => (hb.block g (Array.getElem?_eq_some_iff.1 hg).1).trans hg⟩
theorem NdMem.cells {w : World} {out : List Iln} {d : Int} {v : Value} {ds : List Deferred} {wr : World} (h : NdMem w out d v ds wr) : wr.cell? ⟨w.heap.size, 0, none⟩ = some v ∧ wr.frozen? ⟨w.heap.size, 0, none⟩ = false ∧ wr.cell? ⟨w.heap.size + 1, 0, none⟩ = some (.int .i64 (IntKind.i64.wrap d)) ∧ wr.frozen? ⟨w.heap.size + 1, 0, none⟩ = false :=
  ⟨(cell_of_row _ _ 0 _ _ (0, 0) h.b3).trans rfl, by simp [World.frozen?, h.b3], (cell_of_row _ _ 0 _ _ (0, 0) h.b4).trans rfl, by simp [World.frozen?, h.b4]⟩
/-- An append, and its slice's store. -/
theorem NdMem.append {w : World} {out Y : List Iln} {d : Int} {v : Value} {ds : List Deferred} {wr w1 : World} {v' : Value} (h : NdMem w out d v ds wr) (hg : wr.grownBy w1 v.ownBlock) (ho : w1.ownsRow w.heap.size 28 5 v' (out ++ Y).length (flt ilC (out ++ Y))) :
    NdMem w (out ++ Y) d v' ds (w1.setCell ⟨w.heap.size, 0, none⟩ v') := by
  have n1 := own_ne h.own h.b3 (by decide)
  have n2 := own_ne h.own h.b4 (by decide)
  have h3 := (hg.block _ (Array.getElem?_eq_some_iff.1 h.b3).1 (fun e => n1 e.symm)).trans h.b3
  have h4 := (hg.block _ (Array.getElem?_eq_some_iff.1 h.b4).1 (fun e => n2 e.symm)).trans h.b4
  have hs := setc_grown w1 w.heap.size 0 v'
  refine ⟨by simp [World.setCell, Array.getElem?_modify, h3], (hs.block _ (Array.getElem?_eq_some_iff.1 h4).1 (fun e => by have := Option.some.inj e; omega)).trans h4, own_set ho h3 (by decide) 0 _, (h.below.grown hg h.below.size (fun r e => (h.own.lt r e).1)).setCell (p := ⟨w.heap.size, 0, none⟩) (Nat.le_refl _) _, h.marks.keep fun g o hgo hoc => ?_⟩
  have e1 : some g ≠ v.ownBlock := fun e => by
    rcases h.own.2 with ⟨rfl, _⟩ | ⟨g', cap, cur, rfl, _, hh, _⟩
    · cases e
    · cases e
      rw [hh] at hgo
      cases hgo
      cases hoc
  have h5 := (hg.block g (Array.getElem?_eq_some_iff.1 hgo).1 e1).trans hgo
  refine (hs.block g (Array.getElem?_eq_some_iff.1 h5).1 (fun e => ?_)).trans h5
  rw [Option.some.inj e, h3] at h5
  cases h5
  cases hoc
theorem NdMem.depth {w : World} {out : List Iln} {d : Int} {v : Value} {ds : List Deferred} {wr : World} (h : NdMem w out d v ds wr) (d' : Int) : NdMem w out d' v ds (wr.setCell ⟨w.heap.size + 1, 0, none⟩ (.int .i64 (IntKind.i64.wrap d'))) := by
  have hs := setc_grown wr (w.heap.size + 1) 0 (.int .i64 (IntKind.i64.wrap d'))
  refine ⟨(hs.block _ (Array.getElem?_eq_some_iff.1 h.b3).1 (fun e => by have := Option.some.inj e; omega)).trans h.b3, by simp [World.setCell, Array.getElem?_modify, h.b4], own_set h.own h.b4 (by decide) 0 _, h.below.setCell (p := ⟨w.heap.size + 1, 0, none⟩) (by show w.heap.size ≤ w.heap.size + 1; omega) _, h.marks.keep fun g o hgo hoc => ?_⟩
  refine (hs.block g (Array.getElem?_eq_some_iff.1 hgo).1 (fun e => ?_)).trans hgo
  rw [Option.some.inj e, h.b4] at hgo
  cases hgo
  cases hoc
theorem cells8 {W : World} {g : Nat} {c0 c1 c2 c3 c4 c5 c6 c7 : Value} {t : TypeId} (h : W.heap[g]? = some (.cells #[c0, c1, c2, c3, c4, c5, c6, c7] t (0, 0))) :
    W.cell? ⟨g, 0, none⟩ = some c0 ∧ W.cell? ⟨g, 1, none⟩ = some c1 ∧ W.cell? ⟨g, 2, none⟩ = some c2 ∧ W.cell? ⟨g, 3, none⟩ = some c3 ∧ W.cell? ⟨g, 4, none⟩ = some c4 ∧ W.cell? ⟨g, 5, none⟩ = some c5 ∧ W.cell? ⟨g, 6, none⟩ = some c6 ∧ W.cell? ⟨g, 7, none⟩ = some c7 :=
  ⟨(cell_of_row W g 0 _ _ (0, 0) h).trans rfl, (cell_of_row W g 1 _ _ (0, 0) h).trans rfl, (cell_of_row W g 2 _ _ (0, 0) h).trans rfl, (cell_of_row W g 3 _ _ (0, 0) h).trans rfl, (cell_of_row W g 4 _ _ (0, 0) h).trans rfl, (cell_of_row W g 5 _ _ (0, 0) h).trans rfl, (cell_of_row W g 6 _ _ (0, 0) h).trans rfl, (cell_of_row W g 7 _ _ (0, 0) h).trans rfl⟩
/-- Behind an append, ahead of its store: the boxes are as they were. -/
theorem NdMem.boxes {w : World} {out : List Iln} {d : Int} {v : Value} {ds : List Deferred} {wr w1 : World} (h : NdMem w out d v ds wr) (hg : wr.grownBy w1 v.ownBlock) : (w1.cell? ⟨w.heap.size, 0, none⟩ = some v ∧ w1.frozen? ⟨w.heap.size, 0, none⟩ = false) ∧ w1.cell? ⟨w.heap.size + 1, 0, none⟩ = some (.int .i64 (IntKind.i64.wrap d)) ∧ w1.frozen? ⟨w.heap.size + 1, 0, none⟩ = false := by
  have n1 := own_ne h.own h.b3 (by decide)
  have n2 := own_ne h.own h.b4 (by decide)
  have h3 := (hg.block _ (Array.getElem?_eq_some_iff.1 h.b3).1 (fun e => n1 e.symm)).trans h.b3
  have h4 := (hg.block _ (Array.getElem?_eq_some_iff.1 h.b4).1 (fun e => n2 e.symm)).trans h.b4
  exact ⟨⟨(cell_of_row _ _ 0 _ _ (0, 0) h3).trans rfl, by simp [World.frozen?, h3]⟩, (cell_of_row _ _ 0 _ _ (0, 0) h4).trans rfl, by simp [World.frozen?, h4]⟩
theorem NdMem.turn {w : World} {out : List Iln} {d : Int} {v : Value} {ds : List Deferred} {W W' : World} {row : Option Nat} {B : Nat} (h : NdMem w out d v ds W) (hg : W.grownBy W' row)
    (hr : ∀ r, row = some r → B ≤ r ∧ ∃ o : Obj, W.heap[r]? = some o ∧ o.isCells = false) (hB : w.heap.size ≤ B) (hd : ∀ D : Nat, ({ target := .collected D, args := #[] } : Deferred) ∈ ds → D < B) : NdMem w out d v ds W' := by
  have hne : ∀ (g : Nat) (cs : Array Value) (t : TypeId) (fz : Nat × Nat), W.heap[g]? = some (.cells cs t fz) → some g ≠ row := fun g cs t fz hc e => by
    obtain ⟨_, o, ho, hoc⟩ := hr g e.symm
    rw [hc] at ho
    cases ho
    cases hoc
  have hk : ∀ (g : Nat) (cs : Array Value) (t : TypeId) (fz : Nat × Nat), W.heap[g]? = some (.cells cs t fz) → W'.heap[g]? = some (.cells cs t fz) := fun g cs t fz hc => (hg.block g (Array.getElem?_eq_some_iff.1 hc).1 (hne g cs t fz hc)).trans hc
  refine ⟨hk _ _ _ _ h.b3, hk _ _ _ _ h.b4, ?_, h.below.grown hg h.below.size (fun r e => Nat.le_trans hB (hr r e).1), ?_⟩
  · refine h.own.kept hg ?_
    rcases h.own.2 with ⟨rfl, _⟩ | ⟨g, cap, cur, rfl, _, hgb, _⟩
    · exact .inl rfl
    · exact .inr (hne g _ _ _ hgb)
  · obtain ⟨Ds, h1, h2, h3⟩ := h.marks
    refine ⟨Ds, h1, h2, fun D hD => ⟨(h3 D hD).1, (hg.block D (Array.getElem?_eq_some_iff.1 (h3 D hD).2).1 (fun e => ?_)).trans (h3 D hD).2⟩⟩
    have := hd D (by rw [h1]; exact List.mem_map.2 ⟨D, hD, rfl⟩)
    have := (hr D e.symm).1
    omega
theorem NdMem.lt {w : World} {out : List Iln} {d : Int} {v : Value} {ds : List Deferred} {W : World} (h : NdMem w out d v ds W) : ∀ D : Nat, ({ target := .collected D, args := #[] } : Deferred) ∈ ds → D < W.heap.size := by
  intro D hD
  obtain ⟨Ds, h1, h2, h3⟩ := h.marks
  rw [h1] at hD
  obtain ⟨E, hE, e⟩ := List.mem_map.1 hD
  cases e
  exact (Array.getElem?_eq_some_iff.1 (h3 _ hE).2).1
theorem leave_marks {F : Fence} {n : Nat} {fn : Func} {tmps : Array Value} {R : Ending → World → Prop} {v : Value} {n0 : Nat} (G : World → Prop)
    (hres : ∀ W, (results fn tmps).run Tryz.prog W = .ok v W) (hG : ∀ W D, G W → n0 ≤ D → W.heap[D]? = some (.deferred (some [])) → G (W.putObj D (.deferred none))) (hR : ∀ W, G W → R (.returned v) W) :
    ∀ (Ds : List Nat), Ds.Nodup → ∀ W, G W → (∀ D ∈ Ds, n0 ≤ D ∧ W.heap[D]? = some (.deferred (some []))) → LeavesInM F n Tryz.prog fn tmps R (Ds.map fun D => ({ target := .collected D, args := #[] } : Deferred)) .returning W
  | [], _, W, h, _ => ⟨v, hres W, hR W h⟩
  | D :: Ds, hn, W, h, hk => by
    obtain ⟨hd1, hd2⟩ := List.nodup_cons.1 hn
    obtain ⟨h1, h2⟩ := hk D (List.mem_cons_self ..)
    refine ⟨by simp, .inl ⟨_, _, rfl, run_takeDeferred h2, leave_marks G hres hG hR Ds hd2 _ (hG W D h h1 h2) fun E hE => ?_⟩⟩
    obtain ⟨k1, k2⟩ := hk E (List.mem_cons_of_mem _ hE)
    exact ⟨k1, (World.putObj_heap_other (by rintro rfl; exact hd1 hE)).trans k2⟩
theorem leavesM_tmps {F : Fence} {n : Nat} {fn : Func} {tmps tmps' : Array Value} {R : Ending → World → Prop} (hr : ∀ W, (results fn tmps').run Tryz.prog W = (results fn tmps).run Tryz.prog W) :
    ∀ (ds : List Deferred) (u : FrameMode) (w : World), LeavesInM F n Tryz.prog fn tmps R ds u w → LeavesInM F n Tryz.prog fn tmps' R ds u w
  | [], .returning, w, h => by obtain ⟨v, h1, h2⟩ := h; exact ⟨v, (hr w).trans h1, h2⟩
  | [], .panicking c, w, h => h
  | [], .run, w, h => h
  | d :: ds, u, w, h => by
    refine ⟨h.1, ?_⟩
    rcases h.2 with ⟨r, w', h1, h2, h3⟩ | ⟨h1, fv, cap, f, args, h2, h3, h4, h5⟩
    · exact .inl ⟨r, w', h1, h2, leavesM_tmps hr ds u w' h3⟩
    · refine .inr ⟨h1, fv, cap, f, args, h2, h3, h4, h5.mono ?_⟩
      intro e u' w' he
      cases e with
      | returned _ => exact leavesM_tmps hr ds _ _ he
      | panicked _ => exact leavesM_tmps hr ds _ _ he
      | outgrown => exact he
theorem panicM {R : Ending → World → Prop} (s : Nat) (hs : s ≠ 2) (v : Value) (c : List PanicEntry) (a : Act) (w : World) (h : bodyPostM Fence.wide 6 Tryz.prog Tryz.f29 R (.panic c) (a.put (some s) v) w) : bodyPostM Fence.wide 6 Tryz.prog Tryz.f29 R (.panic c) a w := by
  refine leavesM_tmps (fun W => ?_) _ _ _ h
  rw [results_tmp rfl, results_tmp rfl]
  simp [Act.put, Array.getD_eq_getD_getElem?, Array.getElem?_setIfInBounds, hs]
theorem ko_grown {W W' : World} {row : Option Nat} (hg : W.grownBy W' row) (hr : ∀ r o, row = some r → W.heap[r]? = some o → o.isCells = true) : KeepsOthers W W' :=
  ⟨hg.size, fun k o hk ho => (hg.block k (Array.getElem?_eq_some_iff.1 hk).1 (fun e => by have := hr k o e.symm hk; rw [ho] at this; cases this)).trans hk⟩
theorem own_cells {w : World} {B : Nat} {e : TypeId} {size n : Nat} {v : Value} {xs : List Value} (h : w.ownsRow B e size v n xs) : ∀ r o, v.ownBlock = some r → w.heap[r]? = some o → o.isCells = true := by
  intro r o hr ho
  rcases h.2 with ⟨rfl, _⟩ | ⟨g, cap, cur, rfl, _, hg, _⟩
  · cases hr
  · cases hr
    rw [hg] at ho
    cases ho
    rfl
theorem downs_length (ks : List Int) : ∀ d, (downs d ks).length = ks.length := by
  induction ks with
  | nil => intro d; rfl
  | cons k ks ih => intro d; simp [downs, ih]
theorem back_any (A : Option Addr) (n c : Nat) (w : World) : Calls Tryz.prog 60 #[.slice A n c] w fun e w' => e = .returned (.func (.func 92) #[] #[.pointer (some ⟨w.heap.size, 0, none⟩)]) ∧ w'.heap[w.heap.size]? = some (.cells #[.slice A n c] 22 (0, 0)) ∧ Below w.heap.size w w' := by
  go_enter Tryz.func60, Tryz.ntmps60
  go_wp2
  go_ret
  refine ⟨rfl, ?_, ?_⟩
  · exact heap_alloc_new _ _
  · exact (Below.refl _ w).alloc (Nat.le_refl _) _
def NdRel (Qs : List Pc) (w : World) (s : Value) (ds : List Deferred) (wr : World) : Prop :=
  ∃ (k : Nat) (out : List Iln) (d : Int) (A : Option Addr) (c : Nat), s = .int .i64 k ∧ k ≤ Qs.length ∧ NdMem w out d (.slice A out.length c) ds wr ∧ out ++ ren d (evF k (Qs.drop k)) = ren 0 (evF 0 Qs)
attribute [local go_sem] Oper.semAt_some
set_option maxHeartbeats 8000000 in
theorem nodes_any {w0 w : World} {b bp bm cap n : Nat} {D : DU} {Ps : List Pm} {ops opsM : List Nat} {ov : Value} (h : PrSt w b bp bm cap n D Ps ops opsM ov) (hbd : ∀ x ∈ Ps, PmB w0 x) (hw0 : Below w0.heap.size w0 w)
    (hL : (ren 0 (evF 0 (Ps.map Prod.fst))).length ≤ 100000000) (hnd : ∀ x ∈ Ps, x.1.it.sg = 0 → x.1.it.nd.length ≤ 100000000) :
    Calls Tryz.prog 29 #[.pointer (some ⟨b, 0, none⟩)] w fun e w' => (∃ v, e = .returned v ∧ w'.ownsRow w.heap.size 28 5 v (ren 0 (evF 0 (Ps.map Prod.fst))).length (flt ilC (ren 0 (evF 0 (Ps.map Prod.fst))))) ∧ Below w.heap.size w w' := by
  obtain ⟨c0, c1, c2, bfz, hbl⟩ := h.bcells
  have hsm := h.small
  have hln := h.len
  have HH := Lib.hid h
  clear h
  refine (callsIn_wide (n := 6)).1 (callsIn_of_wp_marks Tryz.func29 rfl trivial ?_ rfl)
  simp only [Tryz.ntmps29, List.size_toArray, List.length_cons, List.length_nil, Nat.reduceAdd, Nat.reduceSub, Array.replicate_succ, Array.replicate_zero, List.push_toArray, List.append_toArray, List.nil_append, List.cons_append]
  refine wpIn_wide.2 ?_
  go_wp2_with fail
  refine wp_loop (fun a' w' => ∃ u6 u8 u14 u15 u16 u17 u18 u19 u20 u21 u22 u23 u24 u25 u26 u27 u28 u29 u30 u31 u32 u33 u34 u35 u36 u37 u38 u39 u40 u41 u42 u43 u44 u45 u46 u47 u48 u49 u50 u51 u52 u53 u54 u55 u56 u57 u58 u59 u60 ds, NdRel (Ps.map Prod.fst) w u14 ds w' ∧ a' = ({ tmps := #[.pointer (some ⟨b, 0, none⟩), undef, .slice none 0 0, .pointer (some ⟨w.heap.size, 0, none⟩), .pointer (some ⟨w.heap.size + 1, 0, none⟩), undef, u6, undef, u8, .pointer (some ⟨b, 0, none⟩), .pointer (some ⟨b, 0, none⟩), .pointer (some ⟨b, 0, none⟩), .slice (some ⟨bp, 0, none⟩) Ps.length cap, .int .i64 (Ps.length : Int), u14, u15, u16, u17, u18, u19, u20, u21, u22, u23, u24, u25, u26, u27, u28, u29, u30, u31, u32, u33, u34, u35, u36, u37, u38, u39, u40, u41, u42, u43, u44, u45, u46, u47, u48, u49, u50, u51, u52, u53, u54, u55, u56, u57, u58, u59, u60, undef], defers := ds } : Act)) (fun a' _ => Ps.length - (intOf (a'.tmps.getD 14 undef)).toNat) ?_ ?_
  · (repeat apply Exists.intro)
    refine ⟨?_, rfl⟩
    refine ⟨0, [], 0, none, 0, rfl, Nat.zero_le _, ⟨?_, ?_, World.ownsRow_nil _ _ _ _, ((Below.refl _ w).alloc (Nat.le_refl _) _).alloc (by simp) _, Marks.nil _ _⟩, rfl⟩
    · rw [Below.heap_alloc _ _ _ (by simp)]; exact heap_alloc_new _ _
    · exact heap_alloc2_new _ _ _
  · rintro _ wr ⟨u6, u8, u14, u15, u16, u17, u18, u19, u20, u21, u22, u23, u24, u25, u26, u27, u28, u29, u30, u31, u32, u33, u34, u35, u36, u37, u38, u39, u40, u41, u42, u43, u44, u45, u46, u47, u48, u49, u50, u51, u52, u53, u54, u55, u56, u57, u58, u59, u60, ds, ⟨k, out, d, A, c, rfl, hk, hM, hren⟩, rfl⟩
    rw [List.length_map] at hk
    clear c0 c1 c2 bfz
    have hP := HH.out.below hM.below
    have hsw := hM.below.size
    by_cases hkl : k < Ps.length
    · have hx : Ps[k]? = some Ps[k] := List.getElem?_eq_getElem hkl
      obtain ⟨⟨p0, p1, p2, p3, p4, p5, p6, p7⟩, pf, pl, _⟩ := hP.pcells hx
      have hpm := hbd _ (List.mem_of_getElem? hx)
      have hoi := hP.own_at hx
      have hnn := hnd _ (List.mem_of_getElem? hx)
      have hdr : (Ps.map Prod.fst).drop k = Ps[k].1 :: (Ps.map Prod.fst).drop (k + 1) := by
        rw [List.drop_eq_getElem_cons (by rw [List.length_map]; exact hkl), List.getElem_map]
      rw [hdr] at hren
      clear hdr
      generalize Ps[k] = x at *
      obtain ⟨⟨⟨sg, nn, ff, op, cl, nd⟩, en, bg⟩, lv, bv⟩ := x
      dsimp only at *
      have HNN := Lib.hid hnn
      clear hnn
      obtain ⟨Al, ca, elv, hil⟩ := hpm.lv
      dsimp only at elv hil
      subst elv
      obtain ⟨Ab, cb, rfl, _⟩ := own_form hoi.1
      have hen : (en : Int) ≤ 4294967296 := by have h1 : (en : Int) + max nn 0 ≤ 4294967296 := hpm.en; omega
      have hbl2 : (bg.length : Int) ≤ 4294967296 := by have h1 : (bg.length : Int) + max nn 0 ≤ 4294967296 := hpm.bg; omega
      have hn1 : nn ≤ 4294967296 := hpm.n1
      have bA : Below wr.heap.size wr _ := (Below.refl _ wr).alloc (Nat.le_refl _) (.cells #[.int .u8 sg.toNat, .int .i64 ff, .bool op, .bool cl, .slice Al nd.length ca, .int .i64 nn, .int .i64 en, .slice Ab bg.length cb] 121)
      have hsA := alloc_size wr (.cells #[.int .u8 sg.toNat, .int .i64 ff, .bool op, .bool cl, .slice Al nd.length ca, .int .i64 nn, .int .i64 en, .slice Ab bg.length cb] 121)
      have hbx := heap_alloc_new wr (.cells #[.int .u8 sg.toNat, .int .i64 ff, .bool op, .bool cl, .slice Al nd.length ca, .int .i64 nn, .int .i64 en, .slice Ab bg.length cb] 121)
      obtain ⟨q0, q1, q2, q3, q4, q5, q6, q7⟩ := cells8 hbx
      have hMA := hM.keep bA
      have HOI := Lib.hid (ownsRow_below hoi.1 bA)
      have HIL := Lib.hid (EltsAt.below hil hw0)
      have hILr : InlsAt w Al ca nd := EltsAt.below hil hw0
      have HW2 := Lib.hid (show w.heap.size + 1 < wr.heap.size from (Array.getElem?_eq_some_iff.1 hM.b4).1)
      have HHB := Lib.hid hM.below
      obtain ⟨z0, z1, z2, z3⟩ := hMA.cells
      have hol : out.length ≤ 100000000 := by
        have h1 := congrArg List.length hren
        rw [List.length_append] at h1
        omega
      have HREN := Lib.hid hren
      have HMA := Lib.hid hMA
      have HBX := Lib.hid hbx
      have HBA := Lib.hid bA
      have HIL2 := Lib.hid (EltsAt.below hILr (hM.below.then bA))
      clear hren hMA hbx bA hil hM hP hpm hILr hoi HIL
      by_cases hs : sg = 0
      · subst hs
        have hnn := HNN.out rfl
        have e0 : ((UInt8.toNat 0 : Nat) : Int) = 0 := rfl
        rw [e0] at HOI HMA HBX HBA HIL2 hsA
        go_wp2_with fail
        clear p0 p1 p2 p3 p4 p5 p6 p7 pf q0 q1 q2 q3 q4 q5 q6 q7 z0 z1 z2 z3
        generalize hwA : wr.alloc (.cells #[.int .u8 0, .int .i64 ff, .bool op, .bool cl, .slice Al nd.length ca, .int .i64 nn, .int .i64 en, .slice Ab bg.length cb] 121) = wA at *
        have hbd0 : Below wA.heap.size wA wA.drew := (Below.refl _ wA).drew
        have hgx : wr.heap.size < wA.heap.size := by omega
        generalize hgxe : wr.heap.size = gx at *
        have hSB : ∀ W : World, Below wA.heap.size wA W → W.cell? ⟨w.heap.size, 0, none⟩ = some (.slice A out.length c) ∧ W.cell? ⟨w.heap.size + 1, 0, none⟩ = some (.int .i64 (IntKind.i64.wrap d)) ∧ W.cell? ⟨gx, 4, none⟩ = some (.slice Al nd.length ca) := fun W hb =>
          ⟨((HMA.out.keep hb).cells).1, ((HMA.out.keep hb).cells).2.2.1, (hb.cell (p := ⟨gx, 4, none⟩) hgx).trans (cells8 HBX.out).2.2.2.2.1⟩
        have HSB := Lib.hid hSB
        have HS := Lib.hid (hSB wA.drew hbd0)
        have HMD := Lib.hid (HMA.out.keep hbd0)
        have HILD := Lib.hid (EltsAt.below HIL2.out hbd0)
        have HBD := Lib.hid hbd0
        have hwsz : w.heap.size ≤ wA.drew.heap.size := HMD.out.below.size
        have hsz0 : wA.heap.size ≤ wA.drew.heap.size := hbd0.size
        have HGX := Lib.hid hgx
        clear hSB hbd0 hwA hgxe
        refine wp_region_N (fun W => W.cell? ⟨w.heap.size, 0, none⟩ = some (.slice A out.length c) ∧ W.cell? ⟨w.heap.size + 1, 0, none⟩ = some (.int .i64 (IntKind.i64.wrap d)) ∧ W.cell? ⟨gx, 4, none⟩ = some (.slice Al nd.length ca)) (fun i => decide (i < 6)) (by kernel_rfl) ?_
        generalize hwd : wA.drew = wd at *
        refine wpAnyN_take_at 0 22 (v := ?_) rfl rfl (by kernel_rfl) (by kernel_rfl) (by kernel_rfl) (by kernel_rfl) (by kernel_rfl) (fun c a w h => panicM 22 (by decide) _ c a w h) (by rfl) ?_ HS.out ?_
        rotate_left
        · intro W hSw; (try dsimp only at hSw); obtain ⟨q0, q1, q2⟩ := hSw; go_simp; (try with_reducible rfl)
        simp only [Act.put, List.setIfInBounds_toArray, List.set_cons_zero, List.set_cons_succ]
        refine wpAnyN_take_at 1 23 (v := ?_) rfl rfl (by kernel_rfl) (by kernel_rfl) (by kernel_rfl) (by kernel_rfl) (by kernel_rfl) (fun c a w h => panicM 23 (by decide) _ c a w h) (by rfl) ?_ HS.out ?_
        rotate_left
        · intro W hSw; (try dsimp only at hSw); obtain ⟨q0, q1, q2⟩ := hSw; go_simp; (try with_reducible rfl)
        simp only [Act.put, List.setIfInBounds_toArray, List.set_cons_zero, List.set_cons_succ]
        refine wpAnyN_take_at 2 24 (v := ?_) rfl rfl (by kernel_rfl) (by kernel_rfl) (by kernel_rfl) (by kernel_rfl) (by kernel_rfl) (fun c a w h => panicM 24 (by decide) _ c a w h) (by rfl) ?_ HS.out ?_
        rotate_left
        · intro W hSw; (try dsimp only at hSw); obtain ⟨q0, q1, q2⟩ := hSw; go_simp; (try with_reducible rfl)
        simp only [Act.put, List.setIfInBounds_toArray, List.set_cons_zero, List.set_cons_succ]
        refine wpAnyN_take_at 3 25 (v := ?_) rfl rfl (by kernel_rfl) (by kernel_rfl) (by kernel_rfl) (by kernel_rfl) (by kernel_rfl) (fun c a w h => panicM 25 (by decide) _ c a w h) (by rfl) ?_ HS.out ?_
        rotate_left
        · intro W hSw; (try dsimp only at hSw); obtain ⟨q0, q1, q2⟩ := hSw; go_simp; (try with_reducible rfl)
        simp only [Act.put, List.setIfInBounds_toArray, List.set_cons_zero, List.set_cons_succ]
        refine wpAnyN_take_at 4 26 (v := ?_) rfl rfl (by kernel_rfl) (by kernel_rfl) (by kernel_rfl) (by kernel_rfl) (by kernel_rfl) (fun c a w h => panicM 26 (by decide) _ c a w h) (by rfl) ?_ HS.out ?_
        rotate_left
        · intro W hSw; (try dsimp only at hSw); obtain ⟨q0, q1, q2⟩ := hSw; go_simp; (try with_reducible rfl)
        simp only [Act.put, List.setIfInBounds_toArray, List.set_cons_zero, List.set_cons_succ]
        refine wpAnyN_one (i := 5) rfl (by kernel_rfl) (fun K hK => ?_)
        go_simp
        refine (deeper_any (IntKind.i64.wrap d) Al ca nd _ HILD.out hnn).mono ?_
        rintro e w5 ⟨v5, rfl, ho5, b5⟩
        rw [deepBy_wrap] at ho5
        have hM5 := HMD.out.keep b5
        have hs5 := b5.size
        refine hK _ _ (fun _ => HSB.out _ (HBD.out.trans (b5.mono hsz0))) ?_
        clear hK
        (try simp only [Act.put, List.setIfInBounds_toArray, List.set_cons_zero, List.set_cons_succ])
        refine wpAnyN_one (i := 6) rfl (by kernel_rfl) (fun K hK => ?_)
        have hdl : (deepBy d nd).length = nd.length := by rw [deepBy_is, List.length_map]
        rw [← hdl] at ho5
        refine step_append_inls rfl (.tmp 22) (.tmp 27) rfl w.heap.size wd.heap.size _ out (deepBy d nd) rfl hM5.own _ rfl ho5 (by omega) (by omega) ?_
        intro A7 c7 w7 ho7 hg7
        have hM7 := hM5.append hg7 ho7
        obtain ⟨⟨r1, r2⟩, _⟩ := hM5.boxes hg7
        refine hK _ _ (fun h => absurd h (by decide)) ?_
        have HM7 := Lib.hid hM7
        have HE := Lib.hid (show (out ++ deepBy d nd) ++ ren d (evF (k + 1) ((Ps.map Prod.fst).drop (k + 1))) = ren 0 (evF 0 (Ps.map Prod.fst)) by rw [List.append_assoc, ← ren_nodes (p := ⟨⟨0, nn, ff, op, cl, nd⟩, en, bg⟩) rfl k]; exact HREN.out)
        clear hK hM7 hM5 ho7 hg7 ho5 b5 hwd HSB HS HMD HILD HBD
        (try simp only [Act.put, List.setIfInBounds_toArray, List.set_cons_zero, List.set_cons_succ])
        refine wpAnyN_rest 7 [_] rfl (by kernel_rfl) (by rfl) ?_
        clear hdl
        generalize hO : out ++ deepBy d nd = O at *
        clear hO
        go_wp2
        refine ⟨?_, ?_⟩
        · (repeat apply Exists.intro)
          refine ⟨?_, rfl⟩
          exact ⟨k + 1, O, d, A7, c7, by go_num, by rw [List.length_map]; omega, HM7.out, HE.out⟩
        · simp [intOf]
          omega
      · have hsn : ¬ ((sg.toNat : Int) = 0) := fun h => hs (UInt8.toNat_inj.1 (by simpa using h))
        have hoiw := HH.out.own_at hx
        have HOIW := Lib.hid hoiw.1
        clear hoiw
        have hwd : IntKind.i64.wrap (d - en) = wrap64 (wrap64 d - en) := by
          have e : ∀ x : Int, wrap64 x = IntKind.i64.wrap x := fun x => by first | rfl | simp only [wrap64, IntKind.wrap_i64]
          rw [e, e]
          exact (wrapS d en).symm
        go_upto_region 9 with fail
        have hw2 := HW2.out
        obtain ⟨w8, hw8⟩ : ∃ w8, w8 = (wr.alloc (.cells #[.int .u8 sg.toNat, .int .i64 ff, .bool op, .bool cl, .slice Al nd.length ca, .int .i64 nn, .int .i64 en, .slice Ab bg.length cb] 121)).setCell ⟨w.heap.size + 1, 0, none⟩ (.int .i64 (wrap64 (wrap64 d - en))) := ⟨_, rfl⟩
        rw [← hw8]
        have hM8 := HMA.out.depth (d - en)
        rw [hwd, ← hw8] at hM8
        have hg8 := setc_grown (wr.alloc (.cells #[.int .u8 sg.toNat, .int .i64 ff, .bool op, .bool cl, .slice Al nd.length ca, .int .i64 nn, .int .i64 en, .slice Ab bg.length cb] 121)) (w.heap.size + 1) 0 (.int .i64 (wrap64 (wrap64 d - en)))
        rw [← hw8] at hg8
        have hbx8 := (hg8.block wr.heap.size (by omega) (fun e => by have := Option.some.inj e; omega)).trans HBX.out
        have hgx8 : wr.heap.size < w8.heap.size := (Array.getElem?_eq_some_iff.1 hbx8).1
        clear p0 p1 p2 p3 p4 p5 p6 p7 pf q0 q1 q2 q3 q4 q5 q6 q7 z0 z1 z2 z3 hsA HMA HBA HOI HBX hg8 hw8 HIL2
        generalize hgxe : wr.heap.size = gx at *
        clear hgxe
        obtain ⟨z0, z1, z2, z3⟩ := hM8.cells
        obtain ⟨q0, q1, q2, q3, q4, q5, q6, q7⟩ := cells8 hbx8
        have HM8 := Lib.hid hM8
        have HBX8 := Lib.hid hbx8
        have HWD := Lib.hid hwd
        clear hM8 hbx8
        rw [hwd] at z2
        clear hwd
        go_upto_if 35 with fail
        have hsb : ((sg.toNat : Int) == 0) = false := by simpa using hsn
        (try rw [hsb])
        generalize hq : decide (0 < nn) = q
        have HQ := Lib.hid hq
        clear hq
        go_cut [36] from 36 to 46 (fun s wx => ∃ out' A' c', NdMem w out' (d - en) (.slice A' out'.length c') ds wx ∧ out' = out ++ rowW (d - en) ⟨sg, nn, ff, op, cl, nd⟩ ∧ wx.heap[gx]? = some (.cells #[.int .u8 sg.toNat, .int .i64 ff, .bool op, .bool cl, .slice Al nd.length ca, .int .i64 nn, .int .i64 en, .slice Ab bg.length cb] 121 (0, 0)))
        case first =>
          cases q with
          | true =>
            have hn0 : 0 < nn := of_decide_eq_true HQ.out
            clear HQ
            obtain ⟨m, rfl⟩ : ∃ m : Nat, nn = m := ⟨nn.toNat, by omega⟩
            go_wp2_with fail
            have hbd0 : Below w8.heap.size w8 w8.drew := (Below.refl _ w8).drew
            have hSB : ∀ W : World, Below w8.heap.size w8 W → W.cell? ⟨w.heap.size, 0, none⟩ = some (.slice A out.length c) ∧ W.cell? ⟨w.heap.size + 1, 0, none⟩ = some (.int .i64 (IntKind.i64.wrap (d - en))) ∧ W.cell? ⟨gx, 0, none⟩ = some (.int .u8 sg.toNat) ∧ W.cell? ⟨gx, 5, none⟩ = some (.int .i64 (m : Int)) := fun W hb =>
              ⟨((HM8.out.keep hb).cells).1, (((HM8.out.keep hb).cells).2.2.1).trans (by rw [HWD.out]), (hb.cell (p := ⟨gx, 0, none⟩) hgx8).trans q0, (hb.cell (p := ⟨gx, 5, none⟩) hgx8).trans q5⟩
            have HSB := Lib.hid hSB
            have HS := Lib.hid (hSB w8.drew hbd0)
            have HMD := Lib.hid (HM8.out.keep hbd0)
            have HBD := Lib.hid hbd0
            have hwsz : w.heap.size ≤ w8.drew.heap.size := HMD.out.below.size
            have hsz0 : w8.heap.size ≤ w8.drew.heap.size := hbd0.size
            have HGX := Lib.hid hgx8
            clear hSB hbd0 q0 q1 q2 q3 q4 q5 q6 q7 z0 z1 z2 z3
            obtain ⟨i0, hi, hz0, hz1, hz2⟩ := info_parts infoInl
            refine wp_region_N (fun W => W.cell? ⟨w.heap.size, 0, none⟩ = some (.slice A out.length c) ∧ W.cell? ⟨w.heap.size + 1, 0, none⟩ = some (.int .i64 (IntKind.i64.wrap (d - en))) ∧ W.cell? ⟨gx, 0, none⟩ = some (.int .u8 sg.toNat) ∧ W.cell? ⟨gx, 5, none⟩ = some (.int .i64 (m : Int))) (fun i => decide (i < 10)) (by kernel_rfl) ?_
            generalize hwd : w8.drew = wd at *
            refine wpAnyN_take_at 0 36 (v := ?_) rfl rfl (by kernel_rfl) (by kernel_rfl) (by kernel_rfl) (by kernel_rfl) (by kernel_rfl) (fun c a w h => panicM 36 (by decide) _ c a w h) (by rfl) ?_ HS.out ?_
            rotate_left
            · intro W hSw; (try dsimp only at hSw); obtain ⟨q0, q1, q2, q3⟩ := hSw; go_simp; (try with_reducible rfl)
            simp only [Act.put, List.setIfInBounds_toArray, List.set_cons_zero, List.set_cons_succ]
            refine wpAnyN_take_at 1 37 (v := ?_) rfl rfl (by kernel_rfl) (by kernel_rfl) (by kernel_rfl) (by kernel_rfl) (by kernel_rfl) (fun c a w h => panicM 37 (by decide) _ c a w h) (by rfl) ?_ HS.out ?_
            rotate_left
            · intro W hSw; (try dsimp only at hSw); obtain ⟨q0, q1, q2, q3⟩ := hSw; go_simp; (try with_reducible rfl)
            simp only [Act.put, List.setIfInBounds_toArray, List.set_cons_zero, List.set_cons_succ]
            refine wpAnyN_take_at 2 38 (v := ?_) rfl rfl (by kernel_rfl) (by kernel_rfl) (by kernel_rfl) (by kernel_rfl) (by kernel_rfl) (fun c a w h => panicM 38 (by decide) _ c a w h) (by rfl) ?_ HS.out ?_
            rotate_left
            · intro W hSw; (try dsimp only at hSw); obtain ⟨q0, q1, q2, q3⟩ := hSw; go_simp; (try with_reducible rfl)
            simp only [Act.put, List.setIfInBounds_toArray, List.set_cons_zero, List.set_cons_succ]
            refine wpAnyN_take_at 3 39 (v := ?_) rfl rfl (by kernel_rfl) (by kernel_rfl) (by kernel_rfl) (by kernel_rfl) (by kernel_rfl) (fun c a w h => panicM 39 (by decide) _ c a w h) (by rfl) ?_ HS.out ?_
            rotate_left
            · intro W hSw; (try dsimp only at hSw); obtain ⟨q0, q1, q2, q3⟩ := hSw; go_simp; (try with_reducible rfl)
            simp only [Act.put, List.setIfInBounds_toArray, List.set_cons_zero, List.set_cons_succ]
            refine wpAnyN_take_at 4 40 (v := ?_) rfl rfl (by kernel_rfl) (by kernel_rfl) (by kernel_rfl) (by kernel_rfl) (by kernel_rfl) (fun c a w h => panicM 40 (by decide) _ c a w h) (by rfl) ?_ HS.out ?_
            rotate_left
            · intro W hSw; (try dsimp only at hSw); obtain ⟨q0, q1, q2, q3⟩ := hSw; go_simp; (try with_reducible rfl)
            simp only [Act.put, List.setIfInBounds_toArray, List.set_cons_zero, List.set_cons_succ]
            refine wpAnyN_take_at 5 41 (v := ?_) rfl rfl (by kernel_rfl) (by kernel_rfl) (by kernel_rfl) (by kernel_rfl) (by kernel_rfl) (fun c a w h => panicM 41 (by decide) _ c a w h) (by rfl) ?_ HS.out ?_
            rotate_left
            · intro W hSw; (try dsimp only at hSw); obtain ⟨q0, q1, q2, q3⟩ := hSw; go_simp; (try with_reducible rfl)
            simp only [Act.put, List.setIfInBounds_toArray, List.set_cons_zero, List.set_cons_succ]
            refine wpAnyN_take_at 6 42 (v := ?_) rfl rfl (by kernel_rfl) (by kernel_rfl) (by kernel_rfl) (by kernel_rfl) (by kernel_rfl) (fun c a w h => panicM 42 (by decide) _ c a w h) (by rfl) ?_ HS.out ?_
            rotate_left
            · intro W hSw; (try dsimp only at hSw); obtain ⟨q0, q1, q2, q3⟩ := hSw; go_simp; (try with_reducible rfl)
            simp only [Act.put, List.setIfInBounds_toArray, List.set_cons_zero, List.set_cons_succ]
            refine wpAnyN_one (i := 7) rfl (by kernel_rfl) (fun K hK => ?_)
            go_simp
            refine (row_emph sg m _ (by omega)).mono ?_
            rintro e w5 ⟨rfl, b5⟩
            have hs5 := b5.size
            refine hK _ _ (fun _ => HSB.out _ (HBD.out.trans (b5.mono hsz0))) ?_
            clear hK
            (try simp only [Act.put, List.setIfInBounds_toArray, List.set_cons_zero, List.set_cons_succ])
            refine wpAnyN_one (i := 8) rfl (by kernel_rfl) (fun K hK => ?_)
            go_simp
            refine (words_agg _ _ _).mono ?_
            rintro e w6 ⟨rfl, b6⟩
            have hs6 := b6.size
            have b56 : Below wd.heap.size wd w6 := b5.trans (b6.mono hs5)
            refine hK _ _ (fun _ => HSB.out _ (HBD.out.trans (b56.mono hsz0))) ?_
            clear hK
            (try simp only [Act.put, List.setIfInBounds_toArray, List.set_cons_zero, List.set_cons_succ])
            refine wpAnyN_one (i := 9) rfl (by kernel_rfl) (fun K hK => ?_)
            go_simp
            have e9 : (ilC (wordsI (IntKind.i64.wrap (d - en)) (List.replicate m sg))).toArray = #[.int .i64 1, .int .i64 (IntKind.i64.wrap (d - en)), .string ⟨Array.replicate m sg⟩, .string ⟨#[]⟩, .string ⟨#[]⟩] := by simp [ilC, wordsI]
            have hnc := elt_cells w6 (ilC (wordsI (IntKind.i64.wrap (d - en)) (List.replicate m sg))) 28
            rw [e9] at hnc
            have hb9 := b56.alloc b56.size (.cells #[.int .i64 1, .int .i64 (IntKind.i64.wrap (d - en)), .string ⟨Array.replicate m sg⟩, .string ⟨#[]⟩, .string ⟨#[]⟩] 28)
            have hs9 := hb9.size
            refine hK _ _ (fun _ => HSB.out _ (HBD.out.trans (hb9.mono hsz0))) ?_
            clear hK
            (try simp only [Act.put, List.setIfInBounds_toArray, List.set_cons_zero, List.set_cons_succ])
            have hM9 := HMD.out.keep hb9
            have hbx9 := ((HBD.out.trans (hb9.mono hsz0)).block gx HGX.out).trans HBX8.out
            refine wpAnyN_one (i := 10) rfl (by kernel_rfl) (fun K hK => ?_)
            refine step_append_lies _ rfl (.tmp 36) (.tmp 45) 25 rfl w.heap.size 28 i0 (.agg #[.int .i64 0, .int .i64 0, .string ByteArray.empty, .string ByteArray.empty, .string ByteArray.empty]) 5 64 Tryz.underlying25 hi hz0 hz1 hz2 rfl (by decide) _ out.length (flt ilC out) rfl hM9.own ⟨w6.heap.size, 0, none⟩ 1 1 (ilC (wordsI (IntKind.i64.wrap (d - en)) (List.replicate m sg))) rfl rfl hnc (ilC_one _) (by omega) (by unfold maxLen; omega) (by omega) (by omega) _ rfl ?_
            intro g7 c7 w7 ho7 hg7 hat7 hlt7
            obtain ⟨⟨r1, r2⟩, _⟩ := hM9.boxes hg7
            have hM7 := hM9.append (Y := [wordsI (IntKind.i64.wrap (d - en)) (List.replicate m sg)]) hg7 (by rw [List.length_append, flt_append, flt_one]; exact ho7)
            have n7 := own_ne hM9.own hbx9 (by decide)
            have hbx7 := (hg7.block gx (Array.getElem?_eq_some_iff.1 hbx9).1 (fun e => n7 e.symm)).trans hbx9
            have hbx7' := ((setc_grown w7 w.heap.size 0 (.slice (some ⟨g7, 0, none⟩) (out.length + 1) c7)).block gx (Array.getElem?_eq_some_iff.1 hbx7).1 (fun e => by have := Option.some.inj e; have := HW2.out; omega)).trans hbx7
            refine hK _ _ (fun h => absurd h (by decide)) ?_
            have HM7 := Lib.hid hM7
            have HBX7 := Lib.hid hbx7'
            clear hK hM7 hM9 hbx9 hbx7 hbx7' ho7 hg7 hat7 hlt7 n7 hb9 hs9 hnc b56 b5 b6 hwd HSB HS HMD HBD
            (try simp only [Act.put, List.setIfInBounds_toArray, List.set_cons_zero, List.set_cons_succ])
            refine wpAnyN_rest 11 [_] rfl (by kernel_rfl) (by rfl) ?_
            go_wp2
            go_meet
            refine ⟨out ++ [wordsI (IntKind.i64.wrap (d - en)) (List.replicate m sg)], some ⟨g7, 0, none⟩, c7, ?_, ?_, HBX7.out⟩
            · rw [List.length_append, List.length_singleton]
              exact HM7.out
            · unfold rowW
              rw [if_pos hn0, Int.toNat_natCast]
          | false =>
            go_wp2
            go_meet
            have hn0 : ¬ 0 < nn := of_decide_eq_false HQ.out
            exact ⟨out, A, c, HM8.out, by simp [rowW, hn0], HBX8.out⟩
        case rest =>
          obtain ⟨out', A', c', hMc, ho', hbxc⟩ := hcut
          clear q0 q1 q2 q3 q4 q5 q6 q7 z0 z1 z2 z3 HM8 HBX8
          obtain ⟨z0, z1, z2, z3⟩ := hMc.cells
          obtain ⟨q0, q1, q2, q3, q4, q5, q6, q7⟩ := cells8 hbxc
          have hoic := ownsRow_below HOIW.out hMc.below
          have HGXC := Lib.hid (Array.getElem?_eq_some_iff.1 hbxc).1
          have HMC := Lib.hid hMc
          have HOC := Lib.hid hoic
          have HO' := Lib.hid ho'
          clear hMc hoic ho' hbxc
          go_wp2_with fail
          refine (back_any _ _ _ _).mono ?_
          rintro e wb ⟨rfl, hbb, b9⟩
          have hMb := HMC.out.keep b9
          have hob := ownsRow_below HOC.out b9
          have HMB := Lib.hid hMb
          have HOB := Lib.hid hob
          have HBB := Lib.hid hbb
          have HB9 := Lib.hid b9
          have hgxc : gx < wc.heap.size := HGXC.out
          clear hMb hob hbb b9 q0 q1 q2 q3 q4 q5 q6 q7 z0 z1 z2 z3 HMC HOC
          go_wp2_with fail
          obtain ⟨i0, hi, hz0, hz1, hz2⟩ := info_parts infoInl
          have HDS := Lib.hid HMB.out.lt
          have hwb : wc.heap.size < wb.heap.size := (Array.getElem?_eq_some_iff.1 HBB.out).1
          have hwwb : w.heap.size ≤ wb.heap.size := HMB.out.below.size
          have hol' : out'.length ≤ 100000000 := by
            have h1 := congrArg List.length HREN.out
            rw [ren_row (p := ⟨⟨sg, nn, ff, op, cl, nd⟩, en, bg⟩) hs] at h1
            have h2 := HO'.out
            have h3 := congrArg List.length h2
            simp only [List.length_append] at h1 h3
            omega
          generalize hbxe : wc.heap.size = bx at *
          clear hbxe
          refine (wpIn_wide (n := 6)).1 (wpIn_rangeFunc_ownG (F := Fence.wide) (n := 6) rfl (by decide) (gf := 92) (lb := #[.pointer (some ⟨bx, 0, none⟩)]) rfl trivial (enters_of Tryz.func92 (by kernel_rfl) rfl) (encs := bwE) (Kp := BwKp bx (.slice Ab bg.length cb)) (S := bwS bg) (Sp := fun _ => True) (N := bg.length) (w0 := wb)
            (backward_stops bx (bm + 1) (.slice Ab bg.length cb) bg wb HBB.out HOB.out (by omega) 5 (by omega)) ?hKt ?hKb (Below.refl _ _) (fun _ => rfl)
            (fun pre W => (∃ v, NdMem w (out' ++ downs (d - en) (pre.map Prod.snd)) (d - en + pre.length) v ds W) ∧ W.heap[bx]? = some (.cells #[.slice Ab bg.length cb] 22 (0, 0)))
            (fun _ _ _ => False) ?hI ?hIx ?h0 (fun x => { tmps := #[.pointer (some ⟨b, 0, none⟩), undef, .slice none 0 0, .pointer (some ⟨w.heap.size, 0, none⟩), .pointer (some ⟨w.heap.size + 1, 0, none⟩), undef, .pointer (some ⟨gx, 0, none⟩), undef, .int .i64 x.2, .pointer (some ⟨b, 0, none⟩), .pointer (some ⟨b, 0, none⟩), .pointer (some ⟨b, 0, none⟩), .slice (some ⟨bp, 0, none⟩) Ps.length cap, .int .i64 Ps.length, .int .i64 k, .bool true, .pointer (some ⟨bp, k * 8, none⟩), .agg #[.int .u8 sg.toNat, .int .i64 ff, .bool op, .bool cl, .slice Al nd.length ca, .int .i64 nn, .int .i64 en, .slice Ab bg.length cb], .pointer (some ⟨gx, 0, none⟩), .pointer (some ⟨gx, 0, none⟩), .int .u8 sg.toNat, .bool false, u22, u23, u24, u25, u26, u27, u28, .int .i64 (wrap64 d), .pointer (some ⟨gx, 6, none⟩), .int .i64 en, .int .i64 (wrap64 (wrap64 d - en)), .pointer (some ⟨gx, 5, none⟩), .int .i64 nn, .bool q, u36, u37, u38, u39, u40, u41, u42, u43, u44, u45, u46, .pointer (some ⟨gx, 7, none⟩), .slice Ab bg.length cb, .func (.func 92) #[] #[.pointer (some ⟨bx, 0, none⟩)], .int .i64 x.1, .int .i64 x.2, u52, u53, u54, u55, u56, u57, u58, u59, u60, undef], defers := [] }) ?assign ?body ?done ?stop)
          case hKt =>
            intro A B C h1 h2
            exact ⟨h2.1.trans h1.1, fun g hg => (h2.2 g hg).trans (h1.2 g hg)⟩
          case hKb =>
            intro W l o o' hl ho hc hw
            refine ⟨World.putObj_heap_other (by omega), fun g hg => World.putObj_heap_other ?_⟩
            have := (HOB.out.lt g hg).2
            omega
          case hI =>
            rintro s W W' row ⟨⟨v, hs⟩, hb⟩ hg hr
            refine ⟨⟨v, hs.turn hg hr hwwb HDS.out⟩, (hg.block bx (Array.getElem?_eq_some_iff.1 hb).1 (fun e => ?_)).trans hb⟩
            have := (hr bx e.symm).1
            omega
          case hIx => exact fun c s W W' row h _ _ => h
          case h0 => exact ⟨⟨_, by simpa [downs] using HMB.out⟩, HBB.out⟩
          case assign =>
            intro l x W K hK
            gi_wp2
            exact hK
          case body =>
            rintro l pre x W ⟨⟨v, hM⟩, hbx⟩ hlen
            obtain ⟨Av, cv, rfl, _⟩ := own_form hM.own
            obtain ⟨i, z⟩ := x
            have hOl : (out' ++ downs (d - en) (pre.map Prod.snd)).length ≤ 4500000000 := by
              rw [List.length_append, downs_length, List.length_map]
              omega
            have hnw : w.heap.size ≤ W.heap.size := hM.below.size
            have hds : out' ++ downs (d - en) ((pre ++ [(i, z)]).map Prod.snd) = (out' ++ downs (d - en) (pre.map Prod.snd)) ++ [⟨z, IntKind.i64.wrap (d - en + pre.length), [], [], []⟩] := by
              rw [List.map_append, List.map_cons, List.map_nil, downs_snoc, List.append_assoc, List.length_map]
            have hdl : d - en + ((pre ++ [(i, z)]).length : Int) = d - en + pre.length + 1 := by
              rw [List.length_append, List.length_singleton]
              omega
            generalize out' ++ downs (d - en) (pre.map Prod.snd) = O at *
            generalize hdd : d - en + (pre.length : Int) = dd at *
            obtain ⟨z0, z1, z2, z3⟩ := hM.cells
            have HM := Lib.hid hM
            have HBX := Lib.hid hbx
            have hw1 : IntKind.i64.wrap (dd + 1) = wrap64 (IntKind.i64.wrap dd + 1) := by
              have e : ∀ x : Int, wrap64 x = IntKind.i64.wrap x := fun x => by first | rfl | simp only [wrap64, IntKind.wrap_i64]
              rw [e]
              exact (wrap64_add dd 1).symm
            obtain ⟨dw, hdw⟩ : ∃ dw, dw = IntKind.i64.wrap dd := ⟨_, rfl⟩
            rw [← hdw] at z2 hw1 hds
            have HDL := Lib.hid hdl
            have HDT := Lib.hid hds
            clear hdl hds
            have HDW := Lib.hid hdw
            have HW1 := Lib.hid hw1
            have bA := (Below.refl _ W).alloc (Nat.le_refl _) (.cells #[.int .i64 z, .int .i64 dw, .string ⟨#[]⟩, .string ⟨#[]⟩, .string ⟨#[]⟩] 28)
            have HMA := Lib.hid (hM.keep bA)
            have HBA := Lib.hid bA
            have HSA := Lib.hid (alloc_size W (.cells #[.int .i64 z, .int .i64 dw, .string ⟨#[]⟩, .string ⟨#[]⟩, .string ⟨#[]⟩] 28))
            clear hM hbx hdd hdw hw1 bA
            gi_wp2_with (gi_at_builtin; refine wpListIn_append_own _ rfl _ _ 25 rfl w.heap.size 28 i0 (.agg #[.int .i64 0, .int .i64 0, .string ByteArray.empty, .string ByteArray.empty, .string ByteArray.empty]) 5 64 Tryz.underlying25 hi hz0 hz1 hz2 rfl (by decide) _ O.length (flt ilC O) rfl HMA.out.own ⟨W.heap.size, 0, none⟩ 1 1 (ilC ⟨z, dw, [], [], []⟩) rfl rfl (elt_cells W (ilC ⟨z, dw, [], [], []⟩) 28) (ilC_one _) (by unfold maxLen; omega) (by omega) (by have := HSA.out; omega) ?_; intro v' w1 hown' hgrow _; obtain ⟨g7, c7, rfl⟩ := ownsRow_succ hown'; obtain ⟨⟨r1, r2⟩, r3, r4⟩ := HMA.out.boxes hgrow; rw [← HDW.out] at r3; have HG7 := Lib.hid hgrow; have HO7 := Lib.hid hown'; clear hgrow hown')
            have hM7 := HMA.out.append (Y := [⟨z, dw, [], [], []⟩]) HG7.out (by rw [List.length_append, flt_append, flt_one]; exact HO7.out)
            have hM8 := hM7.depth (dd + 1)
            rw [HW1.out] at hM8
            have hgA : W.grownBy (W.alloc (.cells #[.int .i64 z, .int .i64 dw, .string ⟨#[]⟩, .string ⟨#[]⟩, .string ⟨#[]⟩] 28)) none := World.grownBy_alloc W _ none
            have hko := (((ko_grown hgA (fun r o h => by cases h)).trans (ko_grown HG7.out (own_cells HMA.out.own))).trans (KeepsOthers.setCell w1 ⟨w.heap.size, 0, none⟩ (.slice (some ⟨g7, 0, none⟩) (O.length + 1) c7))).trans (KeepsOthers.setCell _ ⟨w.heap.size + 1, 0, none⟩ (.int .i64 (wrap64 (dw + 1))))
            have hbxA := (HBA.out.block bx (Array.getElem?_eq_some_iff.1 HBX.out).1).trans HBX.out
            have n7 := own_ne HMA.out.own hbxA (by decide)
            have hbx7 := (HG7.out.block bx (Array.getElem?_eq_some_iff.1 hbxA).1 (fun e => n7 e.symm)).trans hbxA
            have hbx8 := ((setc_grown w1 w.heap.size 0 (.slice (some ⟨g7, 0, none⟩) (O.length + 1) c7)).block bx (Array.getElem?_eq_some_iff.1 hbx7).1 (fun e => by have := Option.some.inj e; have := HW2.out; omega)).trans hbx7
            have hbx9 := ((setc_grown (w1.setCell ⟨w.heap.size, 0, none⟩ (.slice (some ⟨g7, 0, none⟩) (O.length + 1) c7)) (w.heap.size + 1) 0 (.int .i64 (wrap64 (dw + 1)))).block bx (Array.getElem?_eq_some_iff.1 hbx8).1 (fun e => by have := Option.some.inj e; have := HW2.out; omega)).trans hbx8
            refine ⟨hko.from _, ⟨hbx9.trans HBX.out.symm, fun g hg => ?_⟩, ⟨.slice (some ⟨g7, 0, none⟩) (O.length + 1) c7, ?_⟩, hbx9⟩
            · have h1 := (HOIW.out.lt g hg).2
              exact (hM8.below.block g h1).trans (HM.out.below.block g h1).symm
            · rw [HDT.out, HDL.out]
              exact hM8
          case done =>
            rintro D xs W hD hS ⟨⟨v, hM⟩, hbx⟩ hk
            obtain ⟨Av, cv, rfl, _⟩ := own_form hM.own
            have hxl : xs.length = bg.length := by
              have := congrArg List.length hS
              rwa [List.length_map, List.length_reverse] at this
            unfold bwS at hS
            rw [hS, hxl] at hM
            have hE : (out' ++ downs (d - en) bg.reverse) ++ ren (d - en + bg.length) (evF (k + 1) ((Ps.map Prod.fst).drop (k + 1))) = ren 0 (evF 0 (Ps.map Prod.fst)) := by
              have h1 := HREN.out
              rw [ren_row (p := ⟨⟨sg, nn, ff, op, cl, nd⟩, en, bg⟩) hs] at h1
              rw [HO'.out, ← h1]
              simp only [List.append_assoc]
            have hM' : NdMem w (out' ++ downs (d - en) bg.reverse) (d - en + bg.length) (.slice Av (out' ++ downs (d - en) bg.reverse).length cv) ({ target := .collected D, args := #[] } :: ds) W := ⟨hM.b3, hM.b4, hM.own, hM.below, HMB.out.marks.push hM.marks hD (by omega) hk⟩
            generalize out' ++ downs (d - en) bg.reverse = O at *
            have HE := Lib.hid hE
            have HM := Lib.hid hM'
            clear hE hM' hM hS hxl hbx hk
            simp only [Exit.inBlock, Exit.then]
            go_wp2
            refine ⟨?_, ?_⟩
            · (repeat apply Exists.intro)
              refine ⟨?_, rfl⟩
              exact ⟨k + 1, O, d - en + bg.length, Av, cv, by go_num, by rw [List.length_map]; omega, HM.out, HE.out⟩
            · simp [intOf]
              omega
          case stop => exact fun _ _ _ _ _ _ h _ => h.elim
    · obtain rfl : k = Ps.length := by omega
      have HMM := Lib.hid hM
      have HR := Lib.hid hren
      obtain ⟨z0, z1, z2, z3⟩ := hM.cells
      clear hM hren hP
      go_wp2
      obtain ⟨Ds, rfl, hnd, hmk⟩ := HMM.out.marks
      refine leave_marks (fun W => W.ownsRow w.heap.size 28 5 (.slice A out.length c) out.length (flt ilC out) ∧ Below w.heap.size w W) (fun W => results_tmp rfl _ _ _) (fun W D hG hD hk => ⟨ownsRow_putObj hG.1 _ hk rfl, hG.2.grown (grownBy_putObj' W D _) hG.2.size (fun r e => by cases e; exact hD)⟩) (fun W hG => ⟨⟨_, rfl, ?_⟩, hG.2⟩) Ds hnd _ ⟨HMM.out.own, HMM.out.below⟩ hmk
      have hr := HR.out
      rw [show (Ps.map Prod.fst).drop Ps.length = [] from List.drop_eq_nil_of_le (by simp)] at hr
      have hr' : out = ren 0 (evF 0 (Ps.map Prod.fst)) := by rw [← hr]; simp [evF, ren]
      rw [← hr']
      exact hG.1
end Go.Proofs.YteihmgcphbijhaaGreatDoor
