/- Texts joined: InF EntA EntB TgtA InB InH. -/
import Derived.Test.YtfbaknkmpilllaaGreatDoorQAH
import Derived.Lib.MinMax
import Derived.Test.YtfbaknkmpilllaaGreatDoorQAE
import Derived.Laws.Rows
import Derived.Test.YtfbaknkmpilllaaGreatDoorQAF
import Derived.Lib.OthersKept
namespace Go.Proofs.YtfbaknkmpilllaaGreatDoor
open Go.RowKit Go.Maps
set_option linter.unusedSimpArgs false
set_option linter.unusedVariables false
set_option maxRecDepth 100000
section
variable {w : World} {B pb : Nat} {s : ByteArray} {atv tbv hv iv ov : Value} {nsh : Nat} {Z : List (Itm × Value)} {O : List Opn}
theorem itm_lit {w : World} {g : Nat} {x : Itm × Value} (hg : w.heap[g]? = some (.cells (itC x).toArray 94 (0, 0))) : EltsAt w itC 5 (some ⟨g, 0, none⟩) 1 [x] := elts_block (t := 94) (X := [x]) itC_length (by rw [hg]; simp [flt]) (by show (1 : Nat) ≤ maxLen; decide)
/-- An item more, whatever it is. -/
theorem RawSt.push (h : RawSt w B pb s atv tbv hv iv ov nsh Z O) (x : Itm × Value) (hx : NdAt w x.2 x.1.nd) {w1 : World} {iv' : Value} (hg : w.grownBy w1 iv.ownBlock) (hr : w1.ownsRow B 94 5 iv' (Z ++ [x]).length (flt itC (Z ++ [x]))) :
    RawSt (w1.setCell ⟨pb, 4, none⟩ iv') B pb s atv tbv hv iv' ov nsh (Z ++ [x]) O ∧ KI B w (w1.setCell ⟨pb, 4, none⟩ iv') :=
  h.setItems hg hr fun y hy => by
    rcases List.mem_append.1 hy with hy | hy
    · exact h.nds y hy
    · rw [List.mem_singleton] at hy; subst hy; exact hx
set_option maxHeartbeats 2000000 in
theorem inAdd_any (h : RawSt w B pb s atv tbv hv iv ov nsh Z O) (v : Value) (nd : List Iln) (hn : NdAt w v nd) (hl : Z.length ≤ 100000) :
    Calls Tryz.prog 36 #[.pointer (some ⟨pb, 0, none⟩), v] w fun e w' => e = .returned (.tuple #[]) ∧ (∃ iv', RawSt w' B pb s atv tbv hv iv' ov nsh (Z ++ [(ndI nd, v)]) O) ∧ KI B w w' := by
  obtain ⟨c0, c1, c2, c3, c4, c5, c6, cf, hlt⟩ := h.bcells
  have cf4 := cf 4
  have hbl := h.baseLe
  obtain ⟨Ai, ci, rfl, _⟩ := own_form h.row
  obtain ⟨Av, cv, rfl, _, _⟩ := id hn
  have HH := Lib.hid h
  have HN := Lib.hid hn
  clear h hn cf
  have hr2 := Lib.hid (HH.out.row.alloc (.cells #[.int .u8 0, .int .i64 0, .bool false, .bool false, .slice Av nd.length cv] 94))
  go_enter Tryz.func36, Tryz.ntmps36
  go_wp2_with (at_builtin; refine append_itms rfl _ _ rfl B _ Z rfl hr2.out (some ⟨w.heap.size, 0, none⟩) 1 [(ndI nd, .slice Av nd.length cv)] rfl (itm_lit (x := (ndI nd, .slice Av nd.length cv)) (heap_alloc_new _ _)) (by intro x hx; simp at hx; subst hx; exact ⟨Av, _, cv, rfl⟩) (by simp; omega) (by simp; omega) ?_)
  intro v6 w6 ho6 hg6
  obtain ⟨A6, c6', rfl, _⟩ := own_form ho6
  have hg := (World.grownBy_alloc w (.cells #[.int .u8 0, .int .i64 0, .bool false, .bool false, .slice Av nd.length cv] 94) (Value.slice Ai Z.length ci).ownBlock).trans hg6
  have hfin := HH.out.push (ndI nd, .slice Av nd.length cv) HN.out hg (by rw [List.length_append, List.length_singleton]; exact ho6)
  have hb6 := (hg.block pb hlt (fun e => own_ne HH.out.row HH.out.blk (by decide) e.symm)).trans HH.out.blk
  have d4 : w6.cell? ⟨pb, 4, none⟩ = some (.slice Ai Z.length ci) := (cell_of_row w6 pb 4 _ _ (0, 0) hb6).trans rfl
  have df : w6.frozen? ⟨pb, 4, none⟩ = false := by simp [World.frozen?, hb6]
  have HF := Lib.hid hfin
  clear hfin ho6 hg6 hg hb6
  go_wp2
  go_end0
  exact ⟨rfl, ⟨_, HF.out.1⟩, HF.out.2⟩
theorem elem_itms : Tryz.prog.elem 59 = 94 := by kernel_rfl
theorem mslice_high (A : Option Addr) (len cap k : Nat) (h : k ≤ cap) (W : World) : (Instr.slice 59 (.slice A len cap) none (some (.int .i64 (k : Int))) none).run Tryz.prog W = .ok (.slice A k cap) W := by
  rw [run_slice_h W 59 A len cap (by kernel_rfl) .i64 (k : Int) (by omega) (by omega)]
  rw [show Tryz.prog.elem 59 = 94 from elem_itms]
  go_simp
def opV (o : Opn) : Value := .agg #[.string ⟨(markOf o.img).toArray⟩, .int .i64 o.item, .int .i64 o.pos]
theorem inBox3 (w : World) (a b c : Value) (t : TypeId) : (w.alloc (.cells #[a, b, c] t)).cell? ⟨w.heap.size, 0, none⟩ = some a ∧ (w.alloc (.cells #[a, b, c] t)).cell? ⟨w.heap.size, 1, none⟩ = some b ∧ (w.alloc (.cells #[a, b, c] t)).cell? ⟨w.heap.size, 2, none⟩ = some c :=
  ⟨(cell_of_row _ _ 0 _ t (0, 0) (heap_alloc_new w _)).trans rfl, (cell_of_row _ _ 1 _ t (0, 0) (heap_alloc_new w _)).trans rfl, (cell_of_row _ _ 2 _ t (0, 0) (heap_alloc_new w _)).trans rfl⟩
set_option maxHeartbeats 4000000 in
theorem replace_any (h : RawSt w B pb s atv tbv hv iv ov nsh Z O) (o : Opn) (hi : o.item ≤ Z.length) (v : Value) (nd : List Iln) (hn : NdAt w v nd) (hl : Z.length ≤ 100000) :
    Calls Tryz.prog 92 #[.pointer (some ⟨pb, 0, none⟩), opV o, v] w fun e w' => e = .returned (.tuple #[]) ∧ (∃ iv', RawSt w' B pb s atv tbv hv iv' ov nsh (Z.take o.item ++ [(ndI nd, v)]) O) ∧ KI B w w' := by
  obtain ⟨img, it, po⟩ := o
  dsimp only at hi ⊢
  unfold opV
  dsimp only
  obtain ⟨Ai, ci, rfl, hci⟩ := own_form h.row
  have bA := (Below.refl _ w).alloc (Nat.le_refl _) (.cells #[.string ⟨(markOf img).toArray⟩, .int .i64 it, .int .i64 po] 126)
  have h1 := h.below bA
  obtain ⟨c0, c1, c2, c3, c4, c5, c6, cf, hlt⟩ := h1.bcells
  have cf4 := cf 4
  have hsl := fun W => mslice_high Ai Z.length ci it (by omega) W
  obtain ⟨x0, x1, x2⟩ := inBox3 w (.string ⟨(markOf img).toArray⟩) (.int .i64 it) (.int .i64 po) 126
  obtain ⟨Av, cv, rfl, _, _⟩ := id hn
  have HH := Lib.hid h1
  have HN := Lib.hid (hn.keep (KI.of (B := B) bA h.baseLe))
  have HKI := Lib.hid (KI.of (B := B) bA h.baseLe)
  have hbl := h.baseLe
  clear h h1 hn cf bA c0 c1 c2 c3 c5 c6
  generalize hw1 : w.alloc (.cells #[.string ⟨(markOf img).toArray⟩, .int .i64 it, .int .i64 po] 126) = w1 at *
  go_enter Tryz.func92, Tryz.ntmps92
  go_wp2_with fail
  have hset := HH.out.setItems (World.grownBy.refl w1 _) (iv' := .slice Ai it ci) (Z' := Z.take it) (by
    have h2 := own_short itC_length HH.out.row hi
    rw [List.length_take, Nat.min_eq_left hi]
    exact h2) (fun x hx => HH.out.nds x (List.mem_of_mem_take hx))
  have hst := hset.1.drew 1
  have hki := HKI.out.trans (hset.2.thenB (below_drewN' (Below.refl _ _) 1) (Nat.le_trans HH.out.baseLe hset.2.size))
  have hnd := (HN.out.keep hset.2).keep (KI.of (B := B) (below_drewN' (Below.refl _ (w1.setCell ⟨pb, 4, none⟩ (.slice Ai it ci))) 1) (Nat.le_trans HH.out.baseLe hset.2.size))
  have ca := inAdd_any hst (.slice Av nd.length cv) nd hnd (by rw [List.length_take]; omega)
  have HK := Lib.hid hki
  clear hset hst hki hnd
  go_region
  go_wp2_with fail
  refine ca.mono ?_
  rintro e w5 ⟨rfl, hst5, hk5⟩
  have HS5 := Lib.hid hst5
  have HK5 := Lib.hid (HK.out.trans hk5)
  clear ca hst5 hk5
  go_wp2
  go_end0
  exact ⟨rfl, HS5.out, HK5.out⟩
def OpAt (w : World) (g : Nat) (a b c : Value) : Prop := w.heap[g]? = some (.cells #[a, b, c] 126 (0, 0))
theorem OpAt.cells {w : World} {g : Nat} {a b c : Value} (h : OpAt w g a b c) : w.cell? ⟨g, 0, none⟩ = some a ∧ w.cell? ⟨g, 1, none⟩ = some b ∧ w.cell? ⟨g, 2, none⟩ = some c ∧ ∀ i, w.frozen? ⟨g, i, none⟩ = false := by
  unfold OpAt at h
  refine ⟨?_, ?_, ?_, fun i => by simp [World.frozen?, h]⟩
  · rw [cell_of_row w _ 0 _ _ (0, 0) h]; rfl
  · rw [cell_of_row w _ 1 _ _ (0, 0) h]; rfl
  · rw [cell_of_row w _ 2 _ _ (0, 0) h]; rfl
theorem OpAt.set {w : World} {g : Nat} {a b c : Value} (h : OpAt w g a b c) (x y z : Value) : OpAt (((w.setCell ⟨g, 0, none⟩ x).setCell ⟨g, 1, none⟩ y).setCell ⟨g, 2, none⟩ z) g x y z := by
  unfold OpAt at *
  simp [World.setCell, Array.getElem?_modify, h]
theorem OpAt.keep {w w' : World} {g : Nat} {a b c : Value} (h : OpAt w g a b c) (e : w'.heap[g]? = w.heap[g]?) : OpAt w' g a b c := e.trans h
theorem ret_op {fn : Func} {p u : Tmp} (hres : fn.results = #[.cell p 126, .tmp u]) {W : World} {g : Nat} {x : ByteArray} {y z : Int} (h : OpAt W g (.string x) (.int .i64 y) (.int .i64 z)) {c : Value} {tmps : Array Value} (h2 : tmps.getD p undef = .pointer (some ⟨g, 0, none⟩)) (h3 : tmps.getD u undef = c) :
    (results fn tmps).run Tryz.prog W = .ok (.tuple #[.agg #[.string x, .int .i64 y, .int .i64 z], c]) W := by
  obtain ⟨c0, c1, c2, _⟩ := h.cells
  rw [results_cell_tmp hres, h2, h3]
  go_simp
theorem elem_opns : Tryz.prog.elem 60 = 126 := by kernel_rfl
theorem oslice_high (A : Option Addr) (len cap k : Nat) (h : k ≤ cap) (W : World) : (Instr.slice 60 (.slice A len cap) none (some (.int .i64 (k : Int))) none).run Tryz.prog W = .ok (.slice A k cap) W := by
  rw [run_slice_h W 60 A len cap (by kernel_rfl) .i64 (k : Int) (by omega) (by omega)]
  rw [show Tryz.prog.elem 60 = 126 from elem_opns]
  go_simp
set_option maxHeartbeats 4000000 in
theorem pop_none (h : RawSt w B pb s atv tbv hv iv ov nsh Z []) : Calls Tryz.prog 90 #[.pointer (some ⟨pb, 0, none⟩)] w fun e w' => e = .returned (.tuple #[.agg #[.string ⟨#[]⟩, .int .i64 0, .int .i64 0], .bool false]) ∧ Below w.heap.size w w' := by
  obtain ⟨Ao, co, rfl, _⟩ := own_form h.ops
  have bA := (Below.refl _ w).alloc (Nat.le_refl _) (.cells #[.string ⟨#[]⟩, .int .i64 0, .int .i64 0] 126)
  have h1 := h.below bA
  obtain ⟨c0, c1, c2, c3, c4, c5, c6, cf, hlt⟩ := h1.bcells
  have hz : OpAt (w.alloc (.cells #[.string ⟨#[]⟩, .int .i64 0, .int .i64 0] 126)) w.heap.size (.string ⟨#[]⟩) (.int .i64 0) (.int .i64 0) := heap_alloc_new w _
  obtain ⟨z0, z1, z2, zf⟩ := hz.cells
  have zf0 := zf 0
  have zf1 := zf 1
  have zf2 := zf 2
  have HS := Lib.hid hz
  have HB := Lib.hid bA
  clear h h1 cf bA hz c0 c1 c2 c3 c4 c6 zf
  rw [List.length_nil] at c5
  go_enter Tryz.func90, Tryz.ntmps90
  go_wp2
  (try simp only [Exit.inBlock, Exit.then])
  refine bodyPost_ret (v := .tuple #[.agg #[.string ⟨#[]⟩, .int .i64 0, .int .i64 0], .bool false]) ?_ rfl ⟨rfl, HB.out⟩
  exact ret_op rfl (g := w.heap.size) HS.out rfl rfl
theorem RawSt.aside (h : RawSt w B pb s atv tbv hv iv ov nsh Z O) {w' : World} {g0 : Nat} (hg : w.grownBy w' (some g0)) (h1 : g0 ≠ pb) (h2 : iv.ownBlock ≠ some g0) (h3 : ov.ownBlock ≠ some g0) (hB : B ≤ g0) (ht : ∀ (cs : Array Value) (t : TypeId) (fz : Nat × Nat), w.heap[g0]? = some (Obj.cells cs t fz) → Nd3 t) :
    RawSt w' B pb s atv tbv hv iv ov nsh Z O ∧ KI B w w' := by
  have k : KI B w w' := KI.grown hg h.baseLe (fun g e => by cases e; exact ⟨hB, ht⟩)
  exact ⟨⟨(hg.block pb (Array.getElem?_eq_some_iff.1 h.blk).1 (fun e => h1 (Option.some.inj e).symm)).trans h.blk, h.base, h.row.kept hg (Or.inr h2), fun x hx => (h.nds x hx).keep k, h.ops.kept hg (Or.inr h3)⟩, k⟩
set_option maxHeartbeats 8000000 in
theorem pop_some {o : Opn} (h : RawSt w B pb s atv tbv hv iv ov nsh Z (O ++ [o])) (hO : O.length ≤ 100000) (hn : nsh ≤ 100000) :
    Calls Tryz.prog 90 #[.pointer (some ⟨pb, 0, none⟩)] w fun e w' => e = .returned (.tuple #[opV o, .bool (!(!o.img && decide (O.length < nsh)))]) ∧ (∃ ov', RawSt w' B pb s atv tbv hv iv ov' (min nsh O.length) Z O) ∧ KI B w w' := by
  obtain ⟨Ao, co, rfl, hco⟩ := own_form h.ops
  have hl1 : (O ++ [o]).length = O.length + 1 := by simp
  have bA := (Below.refl _ w).alloc (Nat.le_refl _) (.cells #[.string ⟨#[]⟩, .int .i64 0, .int .i64 0] 126)
  have h1 := h.below bA
  have b2 := bA.alloc bA.size (.cells #[.string ⟨(markOf o.img).toArray⟩, .int .i64 o.item, .int .i64 o.pos] 126)
  have bB := (Below.refl _ (w.alloc (.cells #[.string ⟨#[]⟩, .int .i64 0, .int .i64 0] 126))).alloc (Nat.le_refl _) (.cells #[.string ⟨(markOf o.img).toArray⟩, .int .i64 o.item, .int .i64 o.pos] 126)
  have h2 := h1.below bB
  have hz : OpAt ((w.alloc (.cells #[.string ⟨#[]⟩, .int .i64 0, .int .i64 0] 126)).alloc (.cells #[.string ⟨(markOf o.img).toArray⟩, .int .i64 o.item, .int .i64 o.pos] 126)) w.heap.size (.string ⟨#[]⟩) (.int .i64 0) (.int .i64 0) := (Below.heap_alloc _ _ _ (by simp)).trans (heap_alloc_new w _)
  have hy : OpAt ((w.alloc (.cells #[.string ⟨#[]⟩, .int .i64 0, .int .i64 0] 126)).alloc (.cells #[.string ⟨(markOf o.img).toArray⟩, .int .i64 o.item, .int .i64 o.pos] 126)) (w.heap.size + 1) (.string ⟨(markOf o.img).toArray⟩) (.int .i64 o.item) (.int .i64 o.pos) := heap_alloc2_new _ _ _
  have hop := h1.ops
  rw [hl1] at hop hco
  obtain ⟨g, cap', cur, ev, hBg, hgl, _, _, hgo, hgc⟩ := own_block hop (by omega)
  injection ev with ev1 _ ev3
  subst ev1 ev3
  have hk : ∀ j u, (opC o)[j]? = some u → (w.alloc (.cells #[.string ⟨#[]⟩, .int .i64 0, .int .i64 0] 126)).cell? ⟨g, O.length * 3 + j, none⟩ = some u := fun j u hu => own_elt opC_length (X := O ++ [o]) (k := O.length) h1.ops (by simp) j u (by simpa using hu)
  have p0 := hk 0 _ rfl
  have p1 := hk 1 _ rfl
  have p2 := hk 2 _ rfl
  simp only [Nat.add_zero] at p0
  obtain ⟨c0, c1, c2, c3, c4, c5, c6, cf, hlt⟩ := h1.bcells
  rw [hl1] at c5
  have cf5 := cf 5
  have cf6 := cf 6
  have hpw : pb < w.heap.size := h.bcells.2.2.2.2.2.2.2.2
  have hsl := fun W => oslice_high (some ⟨g, 0, none⟩) (O.length + 1) co O.length (by omega) W
  -- what is written
  have hs5 := h2.setOps (World.grownBy.refl _ _) (ov' := .slice (some ⟨g, 0, none⟩) O.length co) (O' := O) (by
    have h3 := own_short opC_length h2.ops (k := O.length) (by simp)
    rw [List.take_left' rfl] at h3
    exact h3)
  have hs6 := hs5.1.setShut (min nsh O.length)
  have hki := ((KI.of (B := B) bA h.baseLe).thenB bB h1.baseLe).trans (hs5.2.trans hs6.2)
  have hz6 : ∀ a b c x y z, OpAt (((w.alloc (.cells #[.string ⟨#[]⟩, .int .i64 0, .int .i64 0] 126)).alloc (.cells #[.string ⟨(markOf o.img).toArray⟩, .int .i64 o.item, .int .i64 o.pos] 126))) w.heap.size a b c → OpAt (((((((w.alloc (.cells #[.string ⟨#[]⟩, .int .i64 0, .int .i64 0] 126)).alloc (.cells #[.string ⟨(markOf o.img).toArray⟩, .int .i64 o.item, .int .i64 o.pos] 126)).setCell ⟨pb, 5, none⟩ (.slice (some ⟨g, 0, none⟩) O.length co)).setCell ⟨pb, 6, none⟩ (.int .i64 (min nsh O.length : Nat))).setCell ⟨w.heap.size, 0, none⟩ x).setCell ⟨w.heap.size, 1, none⟩ y).setCell ⟨w.heap.size, 2, none⟩ z) w.heap.size x y z := by
    intro a b c x y z hh
    refine OpAt.set (a := a) (b := b) (c := c) (OpAt.keep hh ?_) x y z
    rw [heap_setCell_other _ ⟨pb, 6, none⟩ _ _ (by show w.heap.size ≠ pb; omega), heap_setCell_other _ ⟨pb, 5, none⟩ _ _ (by show w.heap.size ≠ pb; omega)]
  have hiv := fun g' e => (h.row.lt g' e).2
  have hgw : g < w.heap.size := (h.ops.lt g rfl).2
  have hfin : ∀ x y z, RawSt (((((((w.alloc (.cells #[.string ⟨#[]⟩, .int .i64 0, .int .i64 0] 126)).alloc (.cells #[.string ⟨(markOf o.img).toArray⟩, .int .i64 o.item, .int .i64 o.pos] 126)).setCell ⟨pb, 5, none⟩ (.slice (some ⟨g, 0, none⟩) O.length co)).setCell ⟨pb, 6, none⟩ (.int .i64 (min nsh O.length : Nat))).setCell ⟨w.heap.size, 0, none⟩ x).setCell ⟨w.heap.size, 1, none⟩ y).setCell ⟨w.heap.size, 2, none⟩ z) B pb s atv tbv hv iv (.slice (some ⟨g, 0, none⟩) O.length co) (min nsh O.length) Z O ∧ KI B w (((((((w.alloc (.cells #[.string ⟨#[]⟩, .int .i64 0, .int .i64 0] 126)).alloc (.cells #[.string ⟨(markOf o.img).toArray⟩, .int .i64 o.item, .int .i64 o.pos] 126)).setCell ⟨pb, 5, none⟩ (.slice (some ⟨g, 0, none⟩) O.length co)).setCell ⟨pb, 6, none⟩ (.int .i64 (min nsh O.length : Nat))).setCell ⟨w.heap.size, 0, none⟩ x).setCell ⟨w.heap.size, 1, none⟩ y).setCell ⟨w.heap.size, 2, none⟩ z) := by
    intro x y z
    have hgg := ((setc_grown ((((w.alloc (.cells #[.string ⟨#[]⟩, .int .i64 0, .int .i64 0] 126)).alloc (.cells #[.string ⟨(markOf o.img).toArray⟩, .int .i64 o.item, .int .i64 o.pos] 126)).setCell ⟨pb, 5, none⟩ (.slice (some ⟨g, 0, none⟩) O.length co)).setCell ⟨pb, 6, none⟩ (.int .i64 (min nsh O.length : Nat))) w.heap.size 0 x).trans (setc_grown _ w.heap.size 1 y)).trans (setc_grown _ w.heap.size 2 z)
    have hr := hs6.1.aside hgg (by omega) (fun e => by have := hiv _ e; omega) (fun e => by have := Option.some.inj e; simp at this; omega) h.baseLe (fun cs t fz hc => by
      rw [heap_setCell_other _ ⟨pb, 6, none⟩ _ _ (by show w.heap.size ≠ pb; omega), heap_setCell_other _ ⟨pb, 5, none⟩ _ _ (by show w.heap.size ≠ pb; omega)] at hc
      unfold OpAt at hz
      rw [hz] at hc
      cases hc
      exact Or.inr (Or.inl rfl))
    exact ⟨hr.1, hki.trans hr.2⟩
  have hmin : min (nsh : Int) (O.length : Int) = ((min nsh O.length : Nat) : Int) := by omega
  obtain ⟨y0, y1, y2, yf⟩ := hy.cells
  obtain ⟨z0, z1, z2, zf⟩ := hz.cells
  obtain ⟨d0, d1, d2, d3, d4, d5, d6, df, _⟩ := h2.bcells
  rw [hl1] at d5
  have df5 := df 5
  have df6 := df 6
  have zf0 := zf 0
  have zf1 := zf 1
  have zf2 := zf 2
  have HZ6 := Lib.hid (fun x y z => hz6 _ _ _ x y z hz)
  have HFIN := Lib.hid hfin
  clear hz6 hfin hs5 hs6 hki h h1 h2 bA bB b2 hz hy hop hgo hgc hk cf df zf yf hiv d0 d1 d2 d3 d4 c0 c1 c2 c3 c4
  have ne0 : ¬ pb = w.heap.size := by omega
  have ne1 : ¬ pb = w.heap.size + 1 := by omega
  have HPW := Lib.hid hpw
  have HGW := Lib.hid hgw
  clear hpw hgw hgl hlt
  obtain ⟨img, it, po⟩ := o
  dsimp only at *
  cases img with
  | true =>
    rw [show markOf true = [33, 91] from rfl] at *
    go_enter Tryz.func90, Tryz.ntmps90
    go_wp2
    (try simp only [Exit.inBlock, Exit.then])
    refine bodyPost_ret (v := .tuple #[opV ⟨true, it, po⟩, .bool true]) ?_ rfl ⟨rfl, ⟨_, (HFIN.out _ _ _).1⟩, (HFIN.out _ _ _).2⟩
    exact ret_op rfl (g := w.heap.size) (HZ6.out _ _ _) rfl rfl
  | false =>
    rw [show markOf false = [91] from rfl] at *
    by_cases hlt : O.length < nsh
    · have g1 : decide ((O.length : Int) < (nsh : Int)) = true := by simp; omega
      have e1 : (!(!false && decide (O.length < nsh))) = false := by simp [hlt]
      rw [e1]
      go_enter Tryz.func90, Tryz.ntmps90
      go_wp2
      (try simp only [Exit.inBlock, Exit.then])
      refine bodyPost_ret (v := .tuple #[opV ⟨false, it, po⟩, .bool false]) ?_ rfl ⟨rfl, ⟨_, (HFIN.out _ _ _).1⟩, (HFIN.out _ _ _).2⟩
      exact ret_op rfl (g := w.heap.size) (HZ6.out _ _ _) rfl rfl
    · have g1 : decide ((O.length : Int) < (nsh : Int)) = false := by simp; omega
      have e1 : (!(!false && decide (O.length < nsh))) = true := by simp [hlt]
      rw [e1]
      go_enter Tryz.func90, Tryz.ntmps90
      go_wp2
      (try simp only [Exit.inBlock, Exit.then])
      refine bodyPost_ret (v := .tuple #[opV ⟨false, it, po⟩, .bool true]) ?_ rfl ⟨rfl, ⟨_, (HFIN.out _ _ _).1⟩, (HFIN.out _ _ _).2⟩
      exact ret_op rfl (g := w.heap.size) (HZ6.out _ _ _) rfl rfl
end
end Go.Proofs.YtfbaknkmpilllaaGreatDoor

namespace Go.Proofs.YtfbaknkmpilllaaGreatDoor
open Go.RowKit
set_option linter.unusedSimpArgs false
set_option linter.unusedVariables false
def namedCells : Array Value := (namedL.flatMap fun e => [Value.string ⟨e.1.toArray⟩, Value.string ⟨e.2.toArray⟩]).toArray
/-- The variable 'named' holds the names and their texts. -/
def NamedIs (w : World) : Prop := ∃ t fr, w.heap[4]? = some (.cells namedCells t fr)
theorem NamedIs.below {w w' : World} (h : NamedIs w) (hb : Below w.heap.size w w') : NamedIs w' := by
  obtain ⟨t, fr, h⟩ := h
  exact ⟨t, fr, (hb.block _ (Array.getElem?_eq_some_iff.1 h).1).trans h⟩
theorem named_index : ∀ k : Nat, k < 23 → ∀ w : World, (Instr.index 233 (.agg namedCells) (.int .i64 k)).run Tryz.prog w = .ok (.agg #[.string (nmB k), .string (txB k)]) w
  | 0, _, _ => by kernel_rfl
  | 1, _, _ => by kernel_rfl
  | 2, _, _ => by kernel_rfl
  | 3, _, _ => by kernel_rfl
  | 4, _, _ => by kernel_rfl
  | 5, _, _ => by kernel_rfl
  | 6, _, _ => by kernel_rfl
  | 7, _, _ => by kernel_rfl
  | 8, _, _ => by kernel_rfl
  | 9, _, _ => by kernel_rfl
  | 10, _, _ => by kernel_rfl
  | 11, _, _ => by kernel_rfl
  | 12, _, _ => by kernel_rfl
  | 13, _, _ => by kernel_rfl
  | 14, _, _ => by kernel_rfl
  | 15, _, _ => by kernel_rfl
  | 16, _, _ => by kernel_rfl
  | 17, _, _ => by kernel_rfl
  | 18, _, _ => by kernel_rfl
  | 19, _, _ => by kernel_rfl
  | 20, _, _ => by kernel_rfl
  | 21, _, _ => by kernel_rfl
  | 22, _, _ => by kernel_rfl
  | n + 23, h, _ => by omega
theorem nm_toList (k : Nat) : (nmB k).toList = (namedL.getD k ([], [])).1 := by rw [ByteArray.toList_eq]; rfl
theorem named_find (l : List UInt8) (k : Nat) (h : k < 23) : ((namedL.drop k).find? fun e => e.1 == l) = if (namedL.getD k ([], [])).1 = l then some (namedL.getD k ([], [])) else (namedL.drop (k + 1)).find? fun e => e.1 == l := by
  have hl := namedL_length
  rw [List.drop_eq_getElem_cons (by omega), List.find?_cons, List.getD_eq_getElem?_getD, List.getElem?_eq_getElem (by omega), Option.getD_some]
  split
  · rename_i h1; rw [if_pos (by simpa using h1)]
  · rename_i h1; rw [if_neg (by simpa using h1)]
def NamedRel (s : ByteArray) (w : World) (i : Value) (wr : World) : Prop :=
  ∃ k : Nat, i = .int .i64 k ∧ k ≤ 23 ∧ Below w.heap.size w wr ∧ ((namedL.drop k).find? fun e => e.1 == s.data.toList) = namedL.find? fun e => e.1 == s.data.toList
/-- What Named answers. -/
def namedR (l : List UInt8) : Value := match lookL l with
  | none => .tuple #[.string ByteArray.empty, .bool false]
  | some t => .tuple #[.string ⟨t.toArray⟩, .bool true]
set_option maxHeartbeats 1000000 in
theorem named_any (s : ByteArray) (w : World) (hn : NamedIs w) :
    Calls Tryz.prog 139 #[.string s] w fun e w' => e = .returned (namedR s.data.toList) ∧ Below w.heap.size w w' := by
  obtain ⟨t, fr, hg⟩ := hn
  go_enter Tryz.func139, Tryz.ntmps139
  go_wp2_with (refine wpList_load_row rfl 233 _ rfl 4 rfl t namedCells fr _ hg Tryz.underlying233 rfl (by kernel_rfl) ?_)
  go_loopw [7] (fun i wr => NamedRel s w i wr) (fun i _ => 23 - (intOf i).toNat)
  case atStart => exact ⟨0, rfl, Nat.zero_le _, Below.refl _ _, rfl⟩
  case round =>
    obtain ⟨k, rfl, hk, hbw, hf⟩ := hrel
    by_cases hp : k < 23
    · have hx := named_index k hp
      have hst := named_find s.data.toList k hp
      have HF := Lib.hid hf
      have HS := Lib.hid hst
      clear hf hst
      by_cases he : (namedL.getD k ([], [])).1 = s.data.toList
      · have fe : ((nmB k).toList == s.toList) = true := by rw [beq_iff_eq, nm_toList, ByteArray.toList_eq]; exact he
        have HR := Lib.hid (show namedR s.data.toList = .tuple #[.string (txB k), .bool true] from by
          have h1 := HS.out
          rw [if_pos he, HF.out] at h1
          unfold namedR lookL
          rw [h1]
          rfl)
        clear he
        go_wp2
        go_ret2
        exact ⟨by rw [HR.out]; rfl, hbw.alloc (by have := hbw.size; omega) _⟩
      · have fe : ((nmB k).toList == s.toList) = false := by
          rw [beq_eq_false_iff_ne, nm_toList, ByteArray.toList_eq]; exact he
        have HR := Lib.hid (show ((namedL.drop (k + 1)).find? fun e => e.1 == s.data.toList) = namedL.find? fun e => e.1 == s.data.toList from by
          have h1 := HS.out
          rw [if_neg he, HF.out] at h1
          exact h1.symm)
        clear he
        go_wp2
        go_roundw
        case rel => exact ⟨k + 1, by go_num, by omega, hbw.alloc (by have := hbw.size; omega) _, HR.out⟩
        case measure => simp [intOf]; omega
    · obtain rfl : k = 23 := by omega
      have HR := Lib.hid (show namedR s.data.toList = .tuple #[.string ByteArray.empty, .bool false] from by
          rw [List.drop_of_length_le (by rw [namedL_length]; omega)] at hf
          unfold namedR lookL
          rw [← hf]
          rfl)
      clear hf
      go_wp2
      go_ret2
      exact ⟨by rw [HR.out]; rfl, hbw⟩
end Go.Proofs.YtfbaknkmpilllaaGreatDoor

namespace Go.Proofs.YtfbaknkmpilllaaGreatDoor
open Go.RowKit
set_option linter.unusedSimpArgs false
set_option linter.unusedVariables false
theorem ret_i32b {a b : Int} {c d : Bool} (h : a = b) (k : c = d) : Ending.returned (.tuple #[.int .i32 a, .bool c]) = .returned (.tuple #[.int .i32 b, .bool d]) := by rw [h, k]
theorem ret_strint {a b : ByteArray} {c d : Int} (h : a = b) (k : c = d) : Ending.returned (.tuple #[.string a, .int .i64 c]) = .returned (.tuple #[.string b, .int .i64 d]) := by rw [h, k]
theorem digit_any (r base : Int) (w : World) (hb : base = 10 ∨ base = 16) :
    Calls Tryz.prog 138 #[.int .i32 r, .int .i32 base] w fun e w' => e = .returned (.tuple #[.int .i32 (digV base r), .bool (digOk base r)]) ∧ w = w' := by
  rcases hb with rfl | rfl
  · by_cases h1 : 48 ≤ r ∧ r ≤ 57
    · have HV := Lib.hid (show digV 10 r = r - 48 ∧ digOk 10 r = true from by simp [digV, digOk, (inR_iff _ _ _).2 h1])
      obtain ⟨h1, h2⟩ := h1
      go_enter Tryz.func138, Tryz.ntmps138
      go_wp2
      go_ret2
      exact ⟨ret_i32b HV.out.1.symm HV.out.2.symm, rfl⟩
    · have HV := Lib.hid (show digV 10 r = 0 ∧ digOk 10 r = false from by simp [digV, digOk, (inR_f _ _ _).2 h1])
      go_enter Tryz.func138, Tryz.ntmps138
      go_wp2
      all_goals first | omega | (go_ret2; exact ⟨ret_i32b HV.out.1.symm HV.out.2.symm, rfl⟩)
  · by_cases h1 : 48 ≤ r ∧ r ≤ 57
    · have HV := Lib.hid (show digV 16 r = r - 48 ∧ digOk 16 r = true from by simp [digV, digOk, (inR_iff _ _ _).2 h1])
      obtain ⟨h1, h2⟩ := h1
      go_enter Tryz.func138, Tryz.ntmps138
      go_wp2
      go_ret2
      exact ⟨ret_i32b HV.out.1.symm HV.out.2.symm, rfl⟩
    · have n1 := (inR_f _ _ _).2 h1
      by_cases h2 : 97 ≤ r ∧ r ≤ 102
      · have HV := Lib.hid (show digV 16 r = r - 97 + 10 ∧ digOk 16 r = true from by simp [digV, digOk, n1, (inR_iff _ _ _).2 h2]; omega)
        clear n1 h1
        obtain ⟨h1, h2⟩ := h2
        go_enter Tryz.func138, Tryz.ntmps138
        go_wp2
        go_ret2
        exact ⟨ret_i32b HV.out.1.symm HV.out.2.symm, rfl⟩
      · have n2 := (inR_f _ _ _).2 h2
        by_cases h3 : 65 ≤ r ∧ r ≤ 70
        · have HV := Lib.hid (show digV 16 r = r - 65 + 10 ∧ digOk 16 r = true from by simp [digV, digOk, n1, n2, (inR_iff _ _ _).2 h3]; omega)
          clear n1 n2 h1 h2
          obtain ⟨h1, h2⟩ := h3
          go_enter Tryz.func138, Tryz.ntmps138
          go_wp2
          go_ret2
          exact ⟨ret_i32b HV.out.1.symm HV.out.2.symm, rfl⟩
        · have HV := Lib.hid (show digV 16 r = 0 ∧ digOk 16 r = false from by simp [digV, digOk, n1, n2, (inR_f _ _ _).2 h3])
          clear n1 n2
          go_enter Tryz.func138, Tryz.ntmps138
          go_wp2
          all_goals first | omega | (go_ret2; exact ⟨ret_i32b HV.out.1.symm HV.out.2.symm, rfl⟩)
theorem validRune_ok (v : Int) (h : v ≠ 0) : Lib.validRune v = okRune v := by
  rw [Bool.eq_iff_iff]
  simp [Lib.validRune, okRune, inR]
  omega
theorem etext_any (v : Int) (w : World) :
    Calls Tryz.prog 137 #[.int .i32 v] w fun e w' => e = .returned (.string (chrB v)) ∧ w = w' := by
  by_cases h0 : v = 0
  · subst h0
    have HV := Lib.hid (show chrB 0 = Utf8.encode 65533 from rfl)
    go_enter Tryz.func137, Tryz.ntmps137
    go_wp2
    go_ret
    exact ⟨ret_string HV.out.symm, rfl⟩
  · have f0 : (v == 0) = false := by simpa using h0
    have hr := Tryz.utf8_ValidRune v w
    rw [validRune_ok v h0] at hr
    cases ho : okRune v with
    | false =>
      have HV := Lib.hid (show chrB v = Utf8.encode 65533 from by simp [chrB, ho])
      rw [ho] at hr
      have HR := Lib.hid hr
      clear hr ho h0
      go_enter Tryz.func137, Tryz.ntmps137
      go_wp2_with (go_at_call 167; refine HR.out.mono ?_; rintro e w' ⟨rfl, rfl⟩)
      go_ret
      exact ⟨ret_string HV.out.symm, rfl⟩
    | true =>
      have HV := Lib.hid (show chrB v = Utf8.encode v from by simp [chrB, ho])
      rw [ho] at hr
      have HR := Lib.hid hr
      clear hr ho h0
      go_enter Tryz.func137, Tryz.ntmps137
      go_wp2_with (go_at_call 167; refine HR.out.mono ?_; rintro e w' ⟨rfl, rfl⟩)
      go_ret
      exact ⟨ret_string HV.out.symm, rfl⟩
end Go.Proofs.YtfbaknkmpilllaaGreatDoor
namespace Go.Proofs.YtfbaknkmpilllaaGreatDoor
open Go.RowKit
set_option linter.unusedSimpArgs false
set_option linter.unusedVariables false
theorem drop_ext (s : ByteArray) (f : Nat) : (s.extract f s.size).data.toList = s.data.toList.drop f := by
  rw [ByteArray.data_extract, Array.toList_extract, List.extract_eq_take_drop, List.take_of_length_le]
  simp
theorem ext_size (s : ByteArray) (f : Nat) : (s.extract f s.size).size = s.size - f := by rw [ByteArray.size_extract]; omega
theorem step_lt (base v d : Int) (i : Nat) (hb : 0 ≤ base) (hv : v < base ^ i) (hd : d < base) : v * base + d < base ^ (i + 1) := by
  have h := Int.mul_le_mul_of_nonneg_right (show v + 1 ≤ base ^ i from by omega) hb
  rw [Int.pow_succ]
  rw [Int.add_mul, Int.one_mul] at h
  omega
theorem pow_le (base : Int) (hb : 0 < base) {k m : Nat} (h : k ≤ m) : base ^ k ≤ base ^ m := by
  obtain ⟨d, rfl⟩ := Nat.le.dest h
  rw [Int.pow_add]
  have h1 : 0 < base ^ k := Int.pow_pos hb
  have h2 : 1 ≤ base ^ d := by have : 0 < base ^ d := Int.pow_pos hb; omega
  have h3 := Int.mul_le_mul_of_nonneg_left h2 (Int.le_of_lt h1)
  omega
def NumRel (base : Int) (most : Nat) (T : ByteArray) (w : World) (I : Nat) (n : Value) (wr : World) : Prop :=
  ∃ (k : Nat) (v : Int), n = .int .i32 v ∧ k ≤ T.size ∧ k ≤ most ∧ 0 ≤ v ∧ v < base ^ k ∧ wr.heap[I]? = some (.stringIter T k) ∧ Below w.heap.size w wr ∧ numGo base most (T.data.toList.drop k) k v = numGo base most T.data.toList 0 0
theorem numAt_none {base : Int} {f most : Nat} {s T : ByteArray} (hT : T.data.toList = s.data.toList.drop f) (h : numGo base most T.data.toList 0 0 = none) : numAt base f most s.data.toList = (ByteArray.empty, 0) := by
  unfold numAt
  rw [← hT, h]
theorem numAt_some {base : Int} {f most : Nat} {s T : ByteArray} {v : Int} {i : Nat} (hT : T.data.toList = s.data.toList.drop f) (h : numGo base most T.data.toList 0 0 = some (v, i)) : numAt base f most s.data.toList = (chrB v, f + i + 1) := by
  unfold numAt
  rw [← hT, h]
theorem digOk_high (base r : Int) (h : 128 ≤ r) : digOk base r = false := by
  simp [digOk, inR]; omega
set_option maxHeartbeats 2000000 in
set_option maxRecDepth 100000 in
theorem byNumber10 (s : ByteArray) (w : World) (hf : 2 ≤ s.size) (hs : s.size ≤ 70368744177664) :
    Calls Tryz.prog 107 #[.string s, .int .i64 2, .int .i32 10, .int .i64 7] w fun e w' => e = .returned (.tuple #[.string (numAt 10 2 7 s.data.toList).1, .int .i64 (numAt 10 2 7 s.data.toList).2]) ∧ Below w.heap.size w w' := by
  have hT := drop_ext s 2
  have hz := ext_size s 2
  have HT := Lib.hid hT
  have hz2 : (s.extract 2 s.size).size ≤ 70368744177664 := by omega
  clear hT hz
  go_enter Tryz.func107, Tryz.ntmps107
  go_wp2_with fail
  generalize s.extract 2 s.size = T at *
  go_loopw [10] (fun n wr => NumRel 10 7 T w w.heap.size n wr) (fun _ wr => T.size - wr.iterPos w.heap.size)
  case atStart => exact ⟨0, 0, rfl, Nat.zero_le _, Nat.zero_le _, Int.le_refl _, by decide, World.iter_heap w T 0, (Below.refl _ w).alloc (Nat.le_refl _) _, by simp⟩
  case round =>
    obtain ⟨k, v, rfl, hk, hm, hv0, hv1, hit, hbw, hgo⟩ := hrel
    by_cases hp : k < T.size
    · have hnx : ∀ ty, (Instr.next (.pointer (some ⟨w.heap.size, 0, none⟩)) true ty).run Tryz.prog wr = _ := fun ty => Lib.run_next_any_at wr w.heap.size T k ty hit hp
      have hit2 := Lib.iterAt_heap wr w.heap.size T k (k + (Utf8.decode T k).2) hit
      have hbw2 := Lib.below_iterAt hbw (k := w.heap.size) (by omega) T (k + (Utf8.decode T k).2)
      have Hit := Lib.hid hit
      rw [get_list T k hp] at hgo
      have HG := Lib.hid hgo
      clear hit hbw hgo
      by_cases ha : T[k].toNat < 128
      · have hd : Utf8.decode T k = (T[k].toNat, 1) := decode_ascii T k hp ha
        rw [hd] at hnx hit2 hbw2
        simp only at hnx hit2 hbw2
        clear hd
        obtain ⟨b, hb⟩ : ∃ b, T[k] = b := ⟨_, rfl⟩
        have HB := Lib.hid hb
        rw [hb] at hnx ha
        clear hb
        by_cases h59 : b.toNat = 59
        · have f59 : ((b.toNat : Int) == 59) = true := by simp; omega
          by_cases hk0 : 0 < k
          · have HR := Lib.hid (numAt_some HT.out (HG.out.symm.trans (by rw [HB.out]; exact numGo_end h59 hk0)))
            have HV := Lib.hid hv1
            clear h59 hv1
            go_wp2_with (go_at_call 137; refine (etext_any _ _).mono ?_; rintro e w' ⟨rfl, rfl⟩)
            go_ret2
            exact ⟨ret_strint (by rw [HR.out]) (by rw [HR.out]; simp), hbw2⟩
          · obtain rfl : k = 0 := by omega
            have h59i : (b.toNat : Int) = 59 := by omega
            have hdg := fun w => digit_any b.toNat 10 w (by omega)
            have hok : digOk 10 b.toNat = false := by rw [h59i]; rfl
            rw [hok] at hdg
            have HR := Lib.hid (numAt_none HT.out (HG.out.symm.trans (by rw [HB.out]; exact numGo_none (by omega) (Or.inl hok))))
            have HV := Lib.hid hv1
            have HD := Lib.hid hdg
            clear h59 h59i hv1 hok hdg
            go_wp2_with (go_at_call 138; refine (HD.out _).mono ?_; rintro e w' ⟨rfl, rfl⟩)
            go_ret2
            exact ⟨by rw [HR.out]; rfl, hbw2⟩
        · have f59 : ((b.toNat : Int) == 59) = false := by simp; omega
          have hdg := fun w => digit_any b.toNat 10 w (by omega)
          cases hok : digOk 10 b.toNat with
          | false =>
            rw [hok] at hdg
            have HR := Lib.hid (numAt_none HT.out (HG.out.symm.trans (by rw [HB.out]; exact numGo_none (by omega) (Or.inl hok))))
            have HV := Lib.hid hv1
            have HD := Lib.hid hdg
            clear h59 hv1 hok hdg
            go_wp2_with (go_at_call 138; refine (HD.out _).mono ?_; rintro e w' ⟨rfl, rfl⟩)
            go_ret2
            exact ⟨by rw [HR.out]; rfl, hbw2⟩
          | true =>
            rw [hok] at hdg
            have hbd := digV_bd 10 b.toNat hok (by omega)
            by_cases hmm : k = 7
            · have HR := Lib.hid (numAt_none HT.out (HG.out.symm.trans (by rw [HB.out]; exact numGo_none (by omega) (Or.inr hmm))))
              have HV := Lib.hid hv1
              have HD := Lib.hid hdg
              subst hmm
              clear h59 hv1 hok hdg
              generalize digV 10 b.toNat = d at *
              go_wp2_with (go_at_call 138; refine (HD.out _).mono ?_; rintro e w' ⟨rfl, rfl⟩)
              go_ret2
              exact ⟨by rw [HR.out]; rfl, hbw2⟩
            · have HR := Lib.hid (show numGo 10 7 (T.data.toList.drop (k + 1)) (k + 1) (v * 10 + digV 10 b.toNat) = numGo 10 7 T.data.toList 0 0 from by rw [← numGo_more hok hmm, ← HG.out, HB.out])
              have HP := Lib.hid (step_lt 10 v (digV 10 b.toNat) k (by omega) hv1 hbd.2)
              have hv2 : v < 1000000 := Int.lt_of_lt_of_le hv1 (pow_le 10 (by omega) (show k ≤ 7 - 1 from by omega))
              have fm : ((k : Int) == 7) = false := by simp; omega
              have hkm : k < 7 := by omega
              have HD := Lib.hid hdg
              obtain ⟨hb0, hb1⟩ := hbd
              clear h59 hv1 hok hdg hmm
              generalize digV 10 b.toNat = d at *
              go_wp2_with (go_at_call 138; refine (HD.out _).mono ?_; rintro e w' ⟨rfl, rfl⟩)
              go_roundw
              case rel => exact ⟨k + 1, v * 10 + d, by go_num, by omega, by omega, by omega, HP.out, hit2, hbw2, HR.out⟩
              case measure => simp only [World.iterPos, hit2, Hit.out]; omega
      · have hh := (decode_high T k hp (by omega)).1
        have hdg := fun w => digit_any (Utf8.decode T k).1 10 w (by omega)
        rw [digOk_high 10 _ (by omega)] at hdg
        have f59 : (((Utf8.decode T k).1 : Int) == 59) = false := by simp; omega
        have HR := Lib.hid (numAt_none HT.out (HG.out.symm.trans (numGo_none (by omega) (Or.inl (digOk_high 10 _ (by omega))))))
        have HV := Lib.hid hv1
        have HD := Lib.hid hdg
        clear hv1 hdg hh ha
        generalize (Utf8.decode T k).1 = r at *
        go_wp2_with (go_at_call 138; refine (HD.out _).mono ?_; rintro e w' ⟨rfl, rfl⟩)
        go_ret2
        exact ⟨by rw [HR.out]; rfl, hbw2⟩
    · have hnx : ∀ ty, (Instr.next (.pointer (some ⟨w.heap.size, 0, none⟩)) true ty).run Tryz.prog wr = _ := fun ty => Lib.run_next_end_at wr w.heap.size T k ty hit hp
      have e : T.data.toList.drop k = [] := List.drop_eq_nil_of_le (by simp; omega)
      rw [e] at hgo
      have HR := Lib.hid (numAt_none HT.out (hgo.symm.trans rfl))
      have HV := Lib.hid hv1
      clear e hgo hv1
      go_wp2
      go_ret2
      exact ⟨by rw [HR.out]; rfl, hbw⟩
set_option maxHeartbeats 2000000 in
set_option maxRecDepth 100000 in
theorem byNumber16 (s : ByteArray) (w : World) (hf : 3 ≤ s.size) (hs : s.size ≤ 70368744177664) :
    Calls Tryz.prog 107 #[.string s, .int .i64 3, .int .i32 16, .int .i64 6] w fun e w' => e = .returned (.tuple #[.string (numAt 16 3 6 s.data.toList).1, .int .i64 (numAt 16 3 6 s.data.toList).2]) ∧ Below w.heap.size w w' := by
  have hT := drop_ext s 3
  have hz := ext_size s 3
  have HT := Lib.hid hT
  have hz2 : (s.extract 3 s.size).size ≤ 70368744177664 := by omega
  clear hT hz
  go_enter Tryz.func107, Tryz.ntmps107
  go_wp2_with fail
  generalize s.extract 3 s.size = T at *
  go_loopw [10] (fun n wr => NumRel 16 6 T w w.heap.size n wr) (fun _ wr => T.size - wr.iterPos w.heap.size)
  case atStart => exact ⟨0, 0, rfl, Nat.zero_le _, Nat.zero_le _, Int.le_refl _, by decide, World.iter_heap w T 0, (Below.refl _ w).alloc (Nat.le_refl _) _, by simp⟩
  case round =>
    obtain ⟨k, v, rfl, hk, hm, hv0, hv1, hit, hbw, hgo⟩ := hrel
    by_cases hp : k < T.size
    · have hnx : ∀ ty, (Instr.next (.pointer (some ⟨w.heap.size, 0, none⟩)) true ty).run Tryz.prog wr = _ := fun ty => Lib.run_next_any_at wr w.heap.size T k ty hit hp
      have hit2 := Lib.iterAt_heap wr w.heap.size T k (k + (Utf8.decode T k).2) hit
      have hbw2 := Lib.below_iterAt hbw (k := w.heap.size) (by omega) T (k + (Utf8.decode T k).2)
      have Hit := Lib.hid hit
      rw [get_list T k hp] at hgo
      have HG := Lib.hid hgo
      clear hit hbw hgo
      by_cases ha : T[k].toNat < 128
      · have hd : Utf8.decode T k = (T[k].toNat, 1) := decode_ascii T k hp ha
        rw [hd] at hnx hit2 hbw2
        simp only at hnx hit2 hbw2
        clear hd
        obtain ⟨b, hb⟩ : ∃ b, T[k] = b := ⟨_, rfl⟩
        have HB := Lib.hid hb
        rw [hb] at hnx ha
        clear hb
        by_cases h59 : b.toNat = 59
        · have f59 : ((b.toNat : Int) == 59) = true := by simp; omega
          by_cases hk0 : 0 < k
          · have HR := Lib.hid (numAt_some HT.out (HG.out.symm.trans (by rw [HB.out]; exact numGo_end h59 hk0)))
            have HV := Lib.hid hv1
            clear h59 hv1
            go_wp2_with (go_at_call 137; refine (etext_any _ _).mono ?_; rintro e w' ⟨rfl, rfl⟩)
            go_ret2
            exact ⟨ret_strint (by rw [HR.out]) (by rw [HR.out]; simp), hbw2⟩
          · obtain rfl : k = 0 := by omega
            have h59i : (b.toNat : Int) = 59 := by omega
            have hdg := fun w => digit_any b.toNat 16 w (by omega)
            have hok : digOk 16 b.toNat = false := by rw [h59i]; rfl
            rw [hok] at hdg
            have HR := Lib.hid (numAt_none HT.out (HG.out.symm.trans (by rw [HB.out]; exact numGo_none (by omega) (Or.inl hok))))
            have HV := Lib.hid hv1
            have HD := Lib.hid hdg
            clear h59 h59i hv1 hok hdg
            go_wp2_with (go_at_call 138; refine (HD.out _).mono ?_; rintro e w' ⟨rfl, rfl⟩)
            go_ret2
            exact ⟨by rw [HR.out]; rfl, hbw2⟩
        · have f59 : ((b.toNat : Int) == 59) = false := by simp; omega
          have hdg := fun w => digit_any b.toNat 16 w (by omega)
          cases hok : digOk 16 b.toNat with
          | false =>
            rw [hok] at hdg
            have HR := Lib.hid (numAt_none HT.out (HG.out.symm.trans (by rw [HB.out]; exact numGo_none (by omega) (Or.inl hok))))
            have HV := Lib.hid hv1
            have HD := Lib.hid hdg
            clear h59 hv1 hok hdg
            go_wp2_with (go_at_call 138; refine (HD.out _).mono ?_; rintro e w' ⟨rfl, rfl⟩)
            go_ret2
            exact ⟨by rw [HR.out]; rfl, hbw2⟩
          | true =>
            rw [hok] at hdg
            have hbd := digV_bd 16 b.toNat hok (by omega)
            by_cases hmm : k = 6
            · have HR := Lib.hid (numAt_none HT.out (HG.out.symm.trans (by rw [HB.out]; exact numGo_none (by omega) (Or.inr hmm))))
              have HV := Lib.hid hv1
              have HD := Lib.hid hdg
              subst hmm
              clear h59 hv1 hok hdg
              generalize digV 16 b.toNat = d at *
              go_wp2_with (go_at_call 138; refine (HD.out _).mono ?_; rintro e w' ⟨rfl, rfl⟩)
              go_ret2
              exact ⟨by rw [HR.out]; rfl, hbw2⟩
            · have HR := Lib.hid (show numGo 16 6 (T.data.toList.drop (k + 1)) (k + 1) (v * 16 + digV 16 b.toNat) = numGo 16 6 T.data.toList 0 0 from by rw [← numGo_more hok hmm, ← HG.out, HB.out])
              have HP := Lib.hid (step_lt 16 v (digV 16 b.toNat) k (by omega) hv1 hbd.2)
              have hv2 : v < 1048576 := Int.lt_of_lt_of_le hv1 (pow_le 16 (by omega) (show k ≤ 6 - 1 from by omega))
              have fm : ((k : Int) == 6) = false := by simp; omega
              have hkm : k < 6 := by omega
              have HD := Lib.hid hdg
              obtain ⟨hb0, hb1⟩ := hbd
              clear h59 hv1 hok hdg hmm
              generalize digV 16 b.toNat = d at *
              go_wp2_with (go_at_call 138; refine (HD.out _).mono ?_; rintro e w' ⟨rfl, rfl⟩)
              go_roundw
              case rel => exact ⟨k + 1, v * 16 + d, by go_num, by omega, by omega, by omega, HP.out, hit2, hbw2, HR.out⟩
              case measure => simp only [World.iterPos, hit2, Hit.out]; omega
      · have hh := (decode_high T k hp (by omega)).1
        have hdg := fun w => digit_any (Utf8.decode T k).1 16 w (by omega)
        rw [digOk_high 16 _ (by omega)] at hdg
        have f59 : (((Utf8.decode T k).1 : Int) == 59) = false := by simp; omega
        have HR := Lib.hid (numAt_none HT.out (HG.out.symm.trans (numGo_none (by omega) (Or.inl (digOk_high 16 _ (by omega))))))
        have HV := Lib.hid hv1
        have HD := Lib.hid hdg
        clear hv1 hdg hh ha
        generalize (Utf8.decode T k).1 = r at *
        go_wp2_with (go_at_call 138; refine (HD.out _).mono ?_; rintro e w' ⟨rfl, rfl⟩)
        go_ret2
        exact ⟨by rw [HR.out]; rfl, hbw2⟩
    · have hnx : ∀ ty, (Instr.next (.pointer (some ⟨w.heap.size, 0, none⟩)) true ty).run Tryz.prog wr = _ := fun ty => Lib.run_next_end_at wr w.heap.size T k ty hit hp
      have e : T.data.toList.drop k = [] := List.drop_eq_nil_of_le (by simp; omega)
      rw [e] at hgo
      have HR := Lib.hid (numAt_none HT.out (hgo.symm.trans rfl))
      have HV := Lib.hid hv1
      clear e hgo hv1
      go_wp2
      go_ret2
      exact ⟨by rw [HR.out]; rfl, hbw⟩
end Go.Proofs.YtfbaknkmpilllaaGreatDoor
namespace Go.Proofs.YtfbaknkmpilllaaGreatDoor
open Go.RowKit
set_option linter.unusedSimpArgs false
set_option linter.unusedVariables false
theorem nameGo_end {b : UInt8} {l : List UInt8} {i : Nat} (h : b.toNat = 59) : nameGo (b :: l) i = some i := by rw [nameGo, if_pos h]
theorem nameGo_more {b : UInt8} {l : List UInt8} {i : Nat} (h : ¬ b.toNat = 59) (h2 : isLow b = true) : nameGo (b :: l) i = nameGo l (i + 1) := by rw [nameGo, if_neg h, if_pos h2]
theorem nameGo_none {b : UInt8} {l : List UInt8} {i : Nat} (h : ¬ b.toNat = 59) (h2 : isLow b = false) : nameGo (b :: l) i = none := by rw [nameGo, if_neg h, if_neg (by simp [h2])]
theorem nameAt_none {s T : ByteArray} (hT : T.data.toList = s.data.toList.drop 1) (h : nameGo T.data.toList 0 = none) : nameAt s.data.toList = (ByteArray.empty, 0) := by
  unfold nameAt
  rw [← hT, h]
theorem nameAt_some {s T : ByteArray} {i : Nat} (hT : T.data.toList = s.data.toList.drop 1) (h : nameGo T.data.toList 0 = some i) : nameAt s.data.toList = nameOf T.data.toList i := by
  unfold nameAt
  rw [← hT, h]
theorem part_list (s : ByteArray) (i : Nat) : (s.extract 1 (1 + i)).data.toList = (s.data.toList.drop 1).take i := by
  rw [ByteArray.data_extract, Array.toList_extract, List.extract_eq_take_drop]
  simp
theorem slice_part (s : ByteArray) (k : Nat) (h : k + 1 ≤ s.size) (w : World) :
    (Instr.slice 9 (.string s) (some (.int .i64 1)) (some (.int .i64 (1 + (k : Int)))) none).run Tryz.prog w = .ok (.string (s.extract 1 (1 + k))) w := by
  rw [run_slice_string w 9 s .i64 .i64 1 (1 + (k : Int)) Tryz.underlying9 (by omega) (by omega) (by omega)]
  rw [show (1 + (k : Int)).toNat = 1 + k from by omega]; rfl
def ByNameRel (T : ByteArray) (w : World) (I : Nat) (wr : World) : Prop :=
  ∃ k : Nat, k ≤ T.size ∧ wr.heap[I]? = some (.stringIter T k) ∧ Below w.heap.size w wr ∧ w.heap.size < wr.heap.size ∧ nameGo (T.data.toList.drop k) k = nameGo T.data.toList 0
set_option maxHeartbeats 2000000 in
set_option maxRecDepth 100000 in
theorem byName_any (s : ByteArray) (w : World) (hn : NamedIs w) (hf : 1 ≤ s.size) (hs : s.size ≤ 70368744177664) :
    Calls Tryz.prog 108 #[.string s, .int .i64 1] w fun e w' => e = .returned (.tuple #[.string (nameAt s.data.toList).1, .int .i64 (nameAt s.data.toList).2]) ∧ Below w.heap.size w w' := by
  have hT := drop_ext s 1
  have hz := ext_size s 1
  have HT := Lib.hid hT
  have HZ := Lib.hid hz
  have hz2 : (s.extract 1 s.size).size ≤ 70368744177664 := by omega
  have HN := Lib.hid hn
  clear hT hz hn
  go_enter Tryz.func108, Tryz.ntmps108
  go_wp2_with fail
  generalize s.extract 1 s.size = T at *
  go_loopw [] (fun wr => ByNameRel T w w.heap.size wr) (fun wr => T.size - wr.iterPos w.heap.size)
  case atStart => exact ⟨0, Nat.zero_le _, World.iter_heap w T 0, (Below.refl _ w).alloc (Nat.le_refl _) _, (by show _ < (w.heap.push _).size; simp), by rw [List.drop_zero]⟩
  case round =>
    obtain ⟨k, hk, hit, hbw, hsz, hgo⟩ := hrel
    by_cases hp : k < T.size
    · have hnx : ∀ ty, (Instr.next (.pointer (some ⟨w.heap.size, 0, none⟩)) true ty).run Tryz.prog wr = _ := fun ty => Lib.run_next_any_at wr w.heap.size T k ty hit hp
      have hit2 := Lib.iterAt_heap wr w.heap.size T k (k + (Utf8.decode T k).2) hit
      have hbw2 := Lib.below_iterAt hbw (k := w.heap.size) (by omega) T (k + (Utf8.decode T k).2)
      have hsz2 : w.heap.size < (wr.iterAt w.heap.size T (k + (Utf8.decode T k).2)).heap.size := by rw [Lib.iterAt_size]; exact hsz
      have Hit := Lib.hid hit
      have hzz : k + 1 ≤ s.size := by have := HZ.out; omega
      rw [get_list T k hp] at hgo
      have HG := Lib.hid hgo
      clear hit hbw hgo
      by_cases ha : T[k].toNat < 128
      · have hd : Utf8.decode T k = (T[k].toNat, 1) := decode_ascii T k hp ha
        rw [hd] at hnx hit2 hbw2 hsz2
        simp only at hnx hit2 hbw2 hsz2
        clear hd
        obtain ⟨b, hb⟩ : ∃ b, T[k] = b := ⟨_, rfl⟩
        have HB := Lib.hid hb
        rw [hb] at hnx ha
        clear hb
        by_cases h59 : b.toNat = 59
        · have f59 : ((b.toNat : Int) == 59) = true := by simp; omega
          have HR := Lib.hid (nameAt_some HT.out (HG.out.symm.trans (by rw [HB.out]; exact nameGo_end h59)))
          clear h59
          have hc := named_any (s.extract 1 (1 + k)) _ (HN.out.below hbw2)
          have hsl := slice_part s k hzz
          rw [part_list, ← HT.out] at hc
          cases hl : lookL (T.data.toList.take k) with
          | none =>
            have HO := Lib.hid (show nameOf T.data.toList k = (ByteArray.empty, 0) from by unfold nameOf; rw [hl])
            rw [show namedR (T.data.toList.take k) = .tuple #[.string ByteArray.empty, .bool false] from by unfold namedR; rw [hl]] at hc
            have HC := Lib.hid hc
            clear hc hl
            go_wp2_with (go_at_call 139; refine HC.out.mono ?_; rintro e w2 ⟨rfl, b2⟩)
            go_ret2
            exact ⟨by rw [HR.out, HO.out]; rfl, hbw2.trans (b2.mono hbw2.size)⟩
          | some t =>
            have HO := Lib.hid (show nameOf T.data.toList k = (⟨t.toArray⟩, 1 + k + 1) from by unfold nameOf; rw [hl])
            rw [show namedR (T.data.toList.take k) = .tuple #[.string ⟨t.toArray⟩, .bool true] from by unfold namedR; rw [hl]] at hc
            have HC := Lib.hid hc
            clear hc hl
            go_wp2_with (go_at_call 139; refine HC.out.mono ?_; rintro e w2 ⟨rfl, b2⟩)
            go_ret2
            exact ⟨ret_strint (by rw [HR.out, HO.out]) (by rw [HR.out, HO.out]; simp), hbw2.trans (b2.mono hbw2.size)⟩
        · have f59 : ((b.toNat : Int) == 59) = false := by simp; omega
          cases hlow : isLow b with
          | true =>
            have hr := (inR_iff _ _ _).1 hlow
            have HR := Lib.hid (show nameGo (T.data.toList.drop (k + 1)) (k + 1) = nameGo T.data.toList 0 from by rw [← nameGo_more h59 hlow, ← HG.out, HB.out])
            obtain ⟨hr1, hr2⟩ := hr
            clear h59 hlow
            go_wp2
            go_roundw
            case rel => exact ⟨k + 1, by omega, hit2, hbw2, hsz2, HR.out⟩
            case measure => simp only [World.iterPos, hit2, Hit.out]; omega
          | false =>
            have hr := (inR_f _ _ _).1 hlow
            have HR := Lib.hid (nameAt_none HT.out (HG.out.symm.trans (by rw [HB.out]; exact nameGo_none h59 hlow)))
            clear h59 hlow
            by_cases h97 : (b.toNat : Int) < 97
            · clear hr
              go_wp2
              go_ret2
              exact ⟨by rw [HR.out]; rfl, hbw2⟩
            · have h122 : ¬ (b.toNat : Int) ≤ 122 := by omega
              clear hr
              go_wp2
              go_ret2
              exact ⟨by rw [HR.out]; rfl, hbw2⟩
      · have hh := (decode_high T k hp (by omega)).1
        have f59 : (((Utf8.decode T k).1 : Int) == 59) = false := by simp; omega
        have HR := Lib.hid (nameAt_none HT.out (HG.out.symm.trans (nameGo_none (by omega) ((inR_f _ _ _).2 (by omega)))))
        have h97 : ¬ ((Utf8.decode T k).1 : Int) < 97 := by omega
        have h122 : ¬ ((Utf8.decode T k).1 : Int) ≤ 122 := by omega
        clear ha hh
        generalize (Utf8.decode T k).1 = r at *
        go_wp2
        go_ret2
        exact ⟨by rw [HR.out]; rfl, hbw2⟩
    · have hnx : ∀ ty, (Instr.next (.pointer (some ⟨w.heap.size, 0, none⟩)) true ty).run Tryz.prog wr = _ := fun ty => Lib.run_next_end_at wr w.heap.size T k ty hit hp
      have e : T.data.toList.drop k = [] := List.drop_eq_nil_of_le (by simp; omega)
      rw [e] at hgo
      have HR := Lib.hid (nameAt_none HT.out (hgo.symm.trans rfl))
      clear e hgo
      go_wp2
      go_ret2
      exact ⟨by rw [HR.out]; rfl, hbw⟩
theorem hasPrefix_size {s : ByteArray} {p : List UInt8} (h : Lib.hasPrefix s.data.toList p = true) : p.length ≤ s.size := by
  unfold Lib.hasPrefix at h
  have := (List.isPrefixOf_iff_prefix.1 h).length_le
  simpa using this
/-- The entity that a text begins with. -/
def atRet (l : List UInt8) : Value := .tuple #[.string (atL l).1, .int .i64 (atL l).2]
set_option maxHeartbeats 1000000 in
theorem at_any (s : ByteArray) (w : World) (hn : NamedIs w) (hs : s.size ≤ 70368744177664) :
    Calls Tryz.prog 79 #[.string s] w fun e w' => e = .returned (atRet s.data.toList) ∧ Below w.heap.size w w' := by
  have p1 := fun w => Tryz.strings_HasPrefix s ⟨#[38, 35, 120]⟩ w
  have p2 := fun w => Tryz.strings_HasPrefix s ⟨#[38, 35, 88]⟩ w
  have p3 := fun w => Tryz.strings_HasPrefix s ⟨#[38, 35]⟩ w
  have p4 := fun w => Tryz.strings_HasPrefix s ⟨#[38]⟩ w
  have e1 : (⟨#[38, 35, 120]⟩ : ByteArray).data.toList = [38, 35, 120] := rfl
  have e2 : (⟨#[38, 35, 88]⟩ : ByteArray).data.toList = [38, 35, 88] := rfl
  have e3 : (⟨#[38, 35]⟩ : ByteArray).data.toList = [38, 35] := rfl
  have e4 : (⟨#[38]⟩ : ByteArray).data.toList = [38] := rfl
  rw [e1] at p1
  rw [e2] at p2
  rw [e3] at p3
  rw [e4] at p4
  have HN := Lib.hid hn
  clear e1 e2 e3 e4 hn
  cases h1 : Lib.hasPrefix s.data.toList [38, 35, 120] with
  | true =>
    rw [h1] at p1
    have hz := hasPrefix_size h1
    have HR := Lib.hid (show atL s.data.toList = numAt 16 3 6 s.data.toList from by unfold atL; rw [if_pos h1])
    have P1 := Lib.hid p1
    clear p1 p2 p3 p4 h1
    go_enter Tryz.func79, Tryz.ntmps79
    go_wp2_with (first | (go_at_call 87; refine (P1.out _).mono ?_; rintro e w' ⟨rfl, rfl⟩) | (go_at_call 107; refine (byNumber16 s _ hz hs).mono ?_; rintro e w1 ⟨rfl, b1⟩))
    go_ret2
    exact ⟨by unfold atRet; rw [HR.out]; rfl, b1⟩
  | false =>
    rw [h1] at p1
    cases h2 : Lib.hasPrefix s.data.toList [38, 35, 88] with
    | true =>
      rw [h2] at p2
      have hz := hasPrefix_size h2
      have HR := Lib.hid (show atL s.data.toList = numAt 16 3 6 s.data.toList from by unfold atL; rw [if_neg (by simp [h1]), if_pos h2])
      have P1 := Lib.hid p1
      have P2 := Lib.hid p2
      clear p1 p2 p3 p4 h1 h2
      go_enter Tryz.func79, Tryz.ntmps79
      go_wp2_with fail
      refine (P1.out _).mono ?_
      rintro e w' ⟨rfl, rfl⟩
      go_wp2_with fail
      refine (P2.out _).mono ?_
      rintro e w' ⟨rfl, rfl⟩
      go_wp2_with (go_at_call 107; refine (byNumber16 s _ hz hs).mono ?_; rintro e w1 ⟨rfl, b1⟩)
      go_ret2
      exact ⟨by unfold atRet; rw [HR.out]; rfl, b1⟩
    | false =>
      rw [h2] at p2
      cases h3 : Lib.hasPrefix s.data.toList [38, 35] with
      | true =>
        rw [h3] at p3
        have hz := hasPrefix_size h3
        have HR := Lib.hid (show atL s.data.toList = numAt 10 2 7 s.data.toList from by unfold atL; rw [if_neg (by simp [h1]), if_neg (by simp [h2]), if_pos h3])
        have P1 := Lib.hid p1
        have P2 := Lib.hid p2
        have P3 := Lib.hid p3
        clear p1 p2 p3 p4 h1 h2 h3
        go_enter Tryz.func79, Tryz.ntmps79
        go_wp2_with fail
        refine (P1.out _).mono ?_
        rintro e w' ⟨rfl, rfl⟩
        go_wp2_with fail
        refine (P2.out _).mono ?_
        rintro e w' ⟨rfl, rfl⟩
        go_wp2_with fail
        refine (P3.out _).mono ?_
        rintro e w' ⟨rfl, rfl⟩
        go_wp2_with (go_at_call 107; refine (byNumber10 s _ hz hs).mono ?_; rintro e w1 ⟨rfl, b1⟩)
        go_ret2
        exact ⟨by unfold atRet; rw [HR.out]; rfl, b1⟩
      | false =>
        rw [h3] at p3
        cases h4 : Lib.hasPrefix s.data.toList [38] with
        | true =>
          rw [h4] at p4
          have hz := hasPrefix_size h4
          have HR := Lib.hid (show atL s.data.toList = nameAt s.data.toList from by unfold atL; rw [if_neg (by simp [h1]), if_neg (by simp [h2]), if_neg (by simp [h3]), if_pos h4])
          have P1 := Lib.hid p1
          have P2 := Lib.hid p2
          have P3 := Lib.hid p3
          have P4 := Lib.hid p4
          clear p1 p2 p3 p4 h1 h2 h3 h4
          go_enter Tryz.func79, Tryz.ntmps79
          go_wp2_with fail
          refine (P1.out _).mono ?_
          rintro e w' ⟨rfl, rfl⟩
          go_wp2_with fail
          refine (P2.out _).mono ?_
          rintro e w' ⟨rfl, rfl⟩
          go_wp2_with fail
          refine (P3.out _).mono ?_
          rintro e w' ⟨rfl, rfl⟩
          go_wp2_with fail
          refine (P4.out _).mono ?_
          rintro e w' ⟨rfl, rfl⟩
          go_wp2_with (go_at_call 108; refine (byName_any s _ HN.out hz hs).mono ?_; rintro e w1 ⟨rfl, b1⟩)
          go_ret2
          exact ⟨by unfold atRet; rw [HR.out]; rfl, b1⟩
        | false =>
          rw [h4] at p4
          have HR := Lib.hid (show atL s.data.toList = (ByteArray.empty, 0) from by unfold atL; rw [if_neg (by simp [h1]), if_neg (by simp [h2]), if_neg (by simp [h3]), if_neg (by simp [h4])])
          have P1 := Lib.hid p1
          have P2 := Lib.hid p2
          have P3 := Lib.hid p3
          have P4 := Lib.hid p4
          clear p1 p2 p3 p4 h1 h2 h3 h4
          go_enter Tryz.func79, Tryz.ntmps79
          go_wp2_with fail
          refine (P1.out _).mono ?_
          rintro e w' ⟨rfl, rfl⟩
          go_wp2_with fail
          refine (P2.out _).mono ?_
          rintro e w' ⟨rfl, rfl⟩
          go_wp2_with fail
          refine (P3.out _).mono ?_
          rintro e w' ⟨rfl, rfl⟩
          go_wp2_with fail
          refine (P4.out _).mono ?_
          rintro e w' ⟨rfl, rfl⟩
          go_wp2
          go_ret2
          exact ⟨by unfold atRet; rw [HR.out]; rfl, Below.refl _ _⟩
end Go.Proofs.YtfbaknkmpilllaaGreatDoor

namespace Go.Proofs.YtfbaknkmpilllaaGreatDoor
open Go.RowKit
set_option linter.unusedSimpArgs false
set_option linter.unusedVariables false
theorem tgHidden_any (r : Int) (w : World) :
    Calls Tryz.prog 189 #[.int .i32 r] w fun e w' => e = .returned (.bool (tgHid r)) ∧ w = w' := by
  by_cases h1 : r ≤ 32
  · go_enter Tryz.func189, Tryz.ntmps189
    go_wp2
    go_ret
    exact ⟨ret_bool (by simp [tgHid, h1]), rfl⟩
  · go_enter Tryz.func189, Tryz.ntmps189
    go_wp2
    go_ret
    exact ⟨ret_bool (by
      have : decide (r ≤ 32) = false := by simpa using h1
      simp only [tgHid, this, Bool.false_or]), rfl⟩
theorem index_str (s : ByteArray) (i : Int) (k : Nat) (e : i = k) (h : k < s.size) (w : World) :
    (Instr.index 9 (.string s) (.int .i64 i)).run Tryz.prog w = .ok (.int .u8 s[k].toNat) w := by
  subst e
  rw [run_index_string _ _ _ _ _ Tryz.underlying9, dif_pos (by omega)]
  rfl
theorem hasB_index (l : List UInt8) (r : Int) (h0 : 0 ≤ r) (h1 : r < 128) : decide (0 ≤ Lib.indexByte l r.toNat.toUInt8) = hasB l r := by
  have hr : (r.toNat.toUInt8).toNat = r.toNat := by simp; omega
  generalize r.toNat.toUInt8 = c at *
  induction l with
  | nil => rfl
  | cons b l ih =>
    have hg := Lib.indexByte_ge l c
    have hbc : (b == c) = ((b.toNat : Int) == r) := by
      rw [Bool.eq_iff_iff, beq_iff_eq, beq_iff_eq]
      constructor
      · rintro rfl; omega
      · intro e; exact UInt8.toNat_inj.1 (by omega)
    show decide (0 ≤ if b == c then 0 else if Lib.indexByte l c == -1 then -1 else Lib.indexByte l c + 1) = ((b.toNat : Int) == r || hasB l r)
    rw [← ih, hbc]
    by_cases h1 : ((b.toNat : Int) == r) = true
    · rw [if_pos h1, h1]; rfl
    · rw [if_neg h1, Bool.eq_false_iff.2 h1, Bool.false_or]
      congr 1
      by_cases h2 : Lib.indexByte l c = -1
      · simp [h2]
      · rw [if_neg (by simpa using h2)]
        apply propext
        omega
theorem hasB_high {l : List UInt8} {r : Int} (hs : ∀ b ∈ l, b.toNat < 128) (h : 128 ≤ r) : hasB l r = false := by
  unfold hasB
  rw [List.any_eq_false]
  intro b hb
  have := hs b hb
  simp; omega
theorem enc_last (r : Int) (h : 128 ≤ r) : ∃ (n : Nat) (x : UInt8), (Utf8.encode r).size = n + 1 ∧ n ≤ 3 ∧ (Utf8.encode r).data[n]? = some x ∧ 128 ≤ x.toNat := by
  have tail : ∀ m : Nat, 128 ≤ (UInt8.ofNat (128 + m % 64)).toNat := by
    intro m
    rw [UInt8.toNat_ofNat']
    omega
  unfold Utf8.encode
  dsimp only
  generalize hc : (if Utf8.valid r then r.toNat else Utf8.runeError) = c
  have h1 : 128 ≤ c := by
    rw [← hc]
    split
    · omega
    · decide
  rw [if_neg (by omega)]
  split
  · exact ⟨1, _, rfl, by omega, rfl, tail _⟩
  · split
    · exact ⟨2, _, rfl, by omega, rfl, tail _⟩
    · exact ⟨3, _, rfl, by omega, rfl, tail _⟩
def RuRel (s : ByteArray) (w : World) (I : Nat) (wr : World) : Prop :=
  ∃ k : Nat, k ≤ s.size ∧ wr.heap[I]? = some (.stringIter s k) ∧ Below w.heap.size w wr
set_option maxHeartbeats 1000000 in
set_option maxRecDepth 100000 in
theorem indexRune_error (s : ByteArray) (w : World) (hs : ∀ b ∈ s.data.toList, b.toNat < 128) (hz : s.size ≤ 1000) :
    Calls Tryz.prog 176 #[.string s, .int .i32 65533] w fun e w' => e = .returned (.int .i64 (-1)) ∧ Below w.heap.size w w' := by
  have HS := Lib.hid hs
  clear hs
  go_enter Tryz.func176, Tryz.ntmps176
  go_wp2_with fail
  go_loopw [] (fun wr => RuRel s w w.heap.size wr) (fun wr => s.size - wr.iterPos w.heap.size)
  case atStart => exact ⟨0, Nat.zero_le _, World.iter_heap w s 0, (Below.refl _ w).alloc (Nat.le_refl _) _⟩
  case round =>
    obtain ⟨k, hk, hit, hbw⟩ := hrel
    by_cases hp : k < s.size
    · have hnx : ∀ ty, (Instr.next (.pointer (some ⟨w.heap.size, 0, none⟩)) true ty).run Tryz.prog wr = _ := fun ty => Lib.run_next_any_at wr w.heap.size s k ty hit hp
      have hit2 := Lib.iterAt_heap wr w.heap.size s k (k + (Utf8.decode s k).2) hit
      have hbw2 := Lib.below_iterAt hbw (k := w.heap.size) (by omega) s (k + (Utf8.decode s k).2)
      have hb := HS.out s[k] (by rw [← List.mem_iff_getElem?.symm]; exact ⟨k, by simp [hp]; rfl⟩)
      have hd : Utf8.decode s k = (s[k].toNat, 1) := decode_ascii s k hp hb
      have Hit := Lib.hid hit
      clear hit hbw
      rw [hd] at hnx hit2 hbw2
      simp only at hnx hit2 hbw2
      clear hd
      generalize s[k] = b at *
      have f1 : ((b.toNat : Int) == 65533) = false := by simp; omega
      go_wp2
      go_roundw
      case rel => exact ⟨k + 1, by omega, hit2, hbw2⟩
      case measure => simp only [World.iterPos, hit2, Hit.out]; omega
    · have hnx : ∀ ty, (Instr.next (.pointer (some ⟨w.heap.size, 0, none⟩)) true ty).run Tryz.prog wr = _ := fun ty => Lib.run_next_end_at wr w.heap.size s k ty hit hp
      go_wp2
      go_ret
      exact ⟨rfl, hbw⟩
theorem indexByte_high {l : List UInt8} {x : UInt8} (hs : ∀ b ∈ l, b.toNat < 128) (hx : 128 ≤ x.toNat) : Lib.indexByte l x = -1 := by
  induction l with
  | nil => rfl
  | cons b l ih =>
    have hb := hs b (by simp)
    show (if b == x then 0 else if Lib.indexByte l x == -1 then -1 else Lib.indexByte l x + 1) = -1
    rw [if_neg (by simp; rintro rfl; omega), ih (fun y hy => hs y (by simp [hy]))]
    rfl
def TgIdxRel (n : Nat) (w : World) (i : Value) (wr : World) : Prop := i = .int .i64 n ∧ Below w.heap.size w wr
set_option maxHeartbeats 1000000 in
set_option maxRecDepth 100000 in
theorem indexRune_other (s : ByteArray) (r : Int) (w : World) (h : 128 ≤ r) (h9 : r ≤ 1114111) (hne : r ≠ 65533) (hs : ∀ b ∈ s.data.toList, b.toNat < 128) (hz : s.size ≤ 1000) :
    Calls Tryz.prog 176 #[.string s, .int .i32 r] w fun e w' => e = .returned (.int .i64 (-1)) ∧ Below w.heap.size w w' := by
  have HS := Lib.hid hs
  clear hs
  have hv := Tryz.utf8_ValidRune r w
  have f1 : (r == 65533) = false := by simpa using hne
  cases hok : Lib.validRune r with
  | false =>
    rw [hok] at hv
    have HV := Lib.hid hv
    clear hv hok hne
    go_enter Tryz.func176, Tryz.ntmps176
    go_wp2_with fail
    refine HV.out.mono ?_
    rintro e w' ⟨rfl, rfl⟩
    go_wp2
    go_ret
    exact ⟨rfl, Below.refl _ _⟩
  | true =>
    rw [hok] at hv
    obtain ⟨n, x, e1, e2, e3, e4⟩ := enc_last r h
    have HV := Lib.hid hv
    have hx : ∀ (w : World), (Instr.index 9 (.string (Utf8.encode r)) (.int .i64 n)).run Tryz.prog w = .ok (.int .u8 x.toNat) w := by
      intro w
      rw [run_index_string _ _ _ _ _ Tryz.underlying9, dif_pos (by omega)]
      have : (Utf8.encode r).data[n]? = some x := e3
      congr 3
      have h2 := (Array.getElem?_eq_some_iff.1 e3).2
      rw [← h2]
      rfl
    clear hv hok hne e3
    go_enter Tryz.func176, Tryz.ntmps176
    go_wp2_with fail
    refine HV.out.mono ?_
    rintro e w' ⟨rfl, rfl⟩
    go_wp2_with fail
    go_step3
    go_wp2_with fail
    generalize Utf8.encode r = R at *
    go_loopw [9] (fun i wr => TgIdxRel n w' i wr) (fun _ wr => 0)
    case atStart => exact ⟨rfl, Below.refl _ _⟩
    case round =>
      obtain ⟨rfl, hbw⟩ := hrel
      by_cases hp : n < s.size
      · have hb := HS.out s[n] (by rw [List.mem_iff_getElem?]; exact ⟨n, by simp [hp]; rfl⟩)
        have f2 : ((s[n].toNat : Int) == x.toNat) = false := by simp; omega
        have hx2 := index_str s n n rfl hp
        have hsl := slice_lo s ((n : Int) + 1) (n + 1) rfl (by omega)
        have hwr : IntKind.i64.wrap ((n : Int) + 1) = (n : Int) + 1 := IntWalk.i64_in _ (by omega)
        have ci := fun w => Tryz.strings_IndexByte (s.extract (n + 1) s.size) x.toNat w
        rw [show Lib.indexByte (s.extract (n + 1) s.size).data.toList (((x.toNat : Int)).toNat.toUInt8) = -1 from by
          rw [show ((x.toNat : Int)).toNat.toUInt8 = x from by simp]
          refine indexByte_high (fun b hb => HS.out b ?_) e4
          rw [drop_ext] at hb
          exact List.mem_of_mem_drop hb] at ci
        have CI := Lib.hid ci
        clear ci hb
        go_wp2_with fail
        go_step3
        go_wp2_with fail
        go_quiet (fail)
        go_wp2_with fail
        go_quiet ((go_at_call 89; exact (CI.out _).mono (fun _ _ h => ⟨h.1, _, h.2⟩)))
        go_wp2_with fail
        simp +zetaDelta only [Exit.noGoto_ret, Exit.inBlock, Exit.then]
        go_ret
        exact ⟨rfl, below_drewN' hbw _⟩
      · go_wp2_with fail
        rw [Exit.noGoto_ret]
        go_ret
        exact ⟨rfl, hbw⟩
theorem containsRune_any (s : ByteArray) (r : Int) (w : World) (h0 : 0 ≤ r) (h9 : r ≤ 1114111) (hs : ∀ b ∈ s.data.toList, b.toNat < 128) (hz : s.size ≤ 1000) :
    Calls Tryz.prog 188 #[.string s, .int .i32 r] w fun e w' => e = .returned (.bool (hasB s.data.toList r)) ∧ Below w.heap.size w w' := by
  by_cases h : r < 128
  · refine (Tryz.strings_ContainsRune_ascii s r w h0 h).mono ?_
    rintro e w' ⟨rfl, rfl⟩
    exact ⟨ret_bool (hasB_index _ _ h0 h), Below.refl _ _⟩
  · have c : Calls Tryz.prog 176 #[.string s, .int .i32 r] w fun e w' => e = .returned (.int .i64 (-1)) ∧ Below w.heap.size w w' := by
      by_cases he : r = 65533
      · subst he
        exact indexRune_error s w hs hz
      · exact indexRune_other s r w (by omega) h9 he hs hz
    have HB := Lib.hid (hasB_high hs (show 128 ≤ r from by omega))
    clear hs h
    go_enter Tryz.func188, Tryz.ntmps188
    go_wp2_with fail
    refine c.mono ?_
    rintro e w' ⟨rfl, b1⟩
    go_wp2
    go_ret
    exact ⟨ret_bool HB.out.symm, b1⟩
def escRet (l : List UInt8) : Value := .tuple #[.string ⟨(escL l).1.toArray⟩, .int .i64 (escL l).2]
theorem escRet_at {s : ByteArray} (h : ¬ (1 < s.data.toList.length ∧ (s.data.toList.getD 0 0).toNat = 92 ∧ asciiB (s.data.toList.getD 1 0).toNat = true)) : escRet s.data.toList = atRet s.data.toList := by
  unfold escRet escL atRet
  rw [if_neg h]
theorem getD_str (s : ByteArray) (k : Nat) (h : k < s.size) : s.data.toList.getD k 0 = s[k] := by
  have : k < s.data.toList.length := by simpa using h
  rw [List.getD_eq_getElem?_getD, List.getElem?_eq_getElem this]
  rfl
set_option maxHeartbeats 1000000 in
theorem escaped_any (s : ByteArray) (w : World) (hn : NamedIs w) (hs : s.size ≤ 70368744177664) :
    Calls Tryz.prog 190 #[.string s] w fun e w' => e = .returned (escRet s.data.toList) ∧ Below w.heap.size w w' := by
  have ca := at_any s w hn hs
  unfold atRet at ca
  have hlen := Lib.hid (show s.data.toList.length = s.size from by simp)
  by_cases h1 : 1 < s.size
  · have g0 := getD_str s 0 (by omega)
    have g1 := getD_str s 1 h1
    have i0 := fun w => index_str s 0 0 rfl (by omega) w
    have i1 := fun w => index_str s 1 1 rfl h1 w
    have sl := fun w => slice_lohi s 1 2 1 2 rfl rfl (by omega) (by omega) w
    by_cases h2 : s[0].toNat = 92
    · have f2 : ((s[0].toNat : Int) == 92) = true := by simp; omega
      have c1 := fun w => ascii_any s[1].toNat w
      cases h3 : asciiB s[1].toNat with
      | true =>
        rw [h3] at c1
        have HR := Lib.hid (show escRet s.data.toList = .tuple #[.string (s.extract 1 2), .int .i64 2] from by
          unfold escRet escL
          rw [if_pos ⟨by rw [hlen.out]; omega, by rw [g0]; exact h2, by rw [g1]; exact h3⟩, g1, ext_bytes, get_list s 1 h1]
          rfl)
        have HN := Lib.hid hn
        have HC := Lib.hid c1
        clear g0 g1 h2 h3 hlen hn c1
        go_enter Tryz.func190, Tryz.ntmps190
        go_wp2_with (go_at_call 20; refine (HC.out _).mono ?_; rintro e w' ⟨rfl, rfl⟩)
        go_ret2
        exact ⟨by rw [HR.out]; rfl, Below.refl _ _⟩
      | false =>
        rw [h3] at c1
        have HR := Lib.hid (escRet_at (s := s) (by rw [g1, h3]; simp))
        have HN := Lib.hid hn
        have HC := Lib.hid c1
        have HA := Lib.hid ca
        clear g0 g1 h2 h3 hlen hn c1 ca
        go_enter Tryz.func190, Tryz.ntmps190
        go_wp2_with (first | (go_at_call 20; refine (HC.out _).mono ?_; rintro e w' ⟨rfl, rfl⟩) | (go_at_call 79; refine HA.out.mono ?_; rintro e w1 ⟨rfl, b1⟩))
        go_ret2
        exact ⟨by rw [HR.out]; rfl, b1⟩
    · have f2 : ((s[0].toNat : Int) == 92) = false := by simp; omega
      have HR := Lib.hid (escRet_at (s := s) (by rw [g0]; simp [h2]))
      have HN := Lib.hid hn
      have HA := Lib.hid ca
      clear g0 g1 h2 hlen hn ca
      go_enter Tryz.func190, Tryz.ntmps190
      go_wp2_with (go_at_call 79; refine HA.out.mono ?_; rintro e w1 ⟨rfl, b1⟩)
      go_ret2
      exact ⟨by rw [HR.out]; rfl, b1⟩
  · have HR := Lib.hid (escRet_at (s := s) (by rw [hlen.out]; simp [h1]))
    have HN := Lib.hid hn
    have HA := Lib.hid ca
    clear hlen hn ca
    go_enter Tryz.func190, Tryz.ntmps190
    go_wp2_with (go_at_call 79; refine HA.out.mono ?_; rintro e w1 ⟨rfl, b1⟩)
    go_ret2
    exact ⟨by rw [HR.out]; rfl, b1⟩
end Go.Proofs.YtfbaknkmpilllaaGreatDoor

namespace Go.Proofs.YtfbaknkmpilllaaGreatDoor
open Go.RowKit
set_option linter.unusedSimpArgs false
set_option linter.unusedVariables false
set_option maxRecDepth 100000
def anchP (r : Nat) : Bool := !(decide (97 ≤ r) && decide (r ≤ 122) || decide (48 ≤ r) && decide (r ≤ 57) || r == 45)
theorem anchP_byte (b : UInt8) : anchP b.toNat = !anchorB b := by
  unfold anchP anchorB inR
  congr 1
  congr 1
  · congr 1
    · congr 1 <;> exact decide_eq_decide.2 (by omega)
    · congr 1 <;> exact decide_eq_decide.2 (by omega)
  · rw [Bool.eq_iff_iff]
    simp only [beq_iff_eq]
    constructor
    · intro h; exact UInt8.toNat_inj.1 h
    · intro h; rw [h]; rfl
theorem anch1_any (x : Nat) (w : World) : Calls Tryz.prog 148 #[.int .i32 x] w fun e w' => e = .returned (.bool (anchP x)) ∧ ∃ q, w' = w.drewN q := by
  unfold anchP
  by_cases h1 : 97 ≤ x
  · have g1 : decide ((97 : Int) ≤ x) = true := by simp; omega
    by_cases h2 : x ≤ 122
    · have g2 : decide ((x : Int) ≤ 122) = true := by simp; omega
      go_enter Tryz.func148, Tryz.ntmps148
      go_wp2
      go_ret
      exact ⟨ret_bool (by simp [h1, h2]), 0, rfl⟩
    · have g2 : decide ((x : Int) ≤ 122) = false := by simp; omega
      have g3 : decide ((48 : Int) ≤ x) = true := by simp; omega
      have g4 : decide ((x : Int) ≤ 57) = false := by simp; omega
      have g5 : ((x : Int) == 45) = false := by simp; omega
      go_enter Tryz.func148, Tryz.ntmps148
      go_wp2
      go_ret
      exact ⟨ret_bool (by simp [h2]; omega), 0, rfl⟩
  · have g1 : decide ((97 : Int) ≤ x) = false := by simp; omega
    by_cases h3 : 48 ≤ x
    · have g3 : decide ((48 : Int) ≤ x) = true := by simp; omega
      by_cases h4 : x ≤ 57
      · have g4 : decide ((x : Int) ≤ 57) = true := by simp; omega
        go_enter Tryz.func148, Tryz.ntmps148
        go_wp2
        go_ret
        exact ⟨ret_bool (by simp [h3, h4]), 0, rfl⟩
      · have g4 : decide ((x : Int) ≤ 57) = false := by simp; omega
        have g5 : ((x : Int) == 45) = false := by simp; omega
        go_enter Tryz.func148, Tryz.ntmps148
        go_wp2
        go_ret
        exact ⟨ret_bool (by simp [h1, h4]; omega), 0, rfl⟩
    · have g3 : decide ((48 : Int) ≤ x) = false := by simp; omega
      by_cases h5 : x = 45
      · subst h5
        go_enter Tryz.func148, Tryz.ntmps148
        go_wp2
        go_ret
        exact ⟨rfl, 0, rfl⟩
      · have g5 : ((x : Int) == 45) = false := by simp; omega
        go_enter Tryz.func148, Tryz.ntmps148
        go_wp2
        go_ret
        exact ⟨ret_bool (by simp [h1, h3, h5]), 0, rfl⟩
theorem anch_from (s : ByteArray) : ∀ (f pos : Nat), s.size ≤ pos + f → (decide (Lib.idxFuncFrom anchP true s f pos < 0)) = (s.data.toList.drop pos).all anchorB
  | 0, pos, h => by
    rw [List.drop_eq_nil_of_le (by simp; omega)]
    rfl
  | f + 1, pos, h => by
    unfold Lib.idxFuncFrom
    by_cases hp : pos < s.size
    · rw [if_pos hp, get_list s pos hp, List.all_cons]
      by_cases ha : s[pos].toNat < 128
      · have hd : Utf8.decode s pos = (s[pos].toNat, 1) := decode_ascii s pos hp ha
        rw [hd]
        simp only
        rw [anchP_byte]
        cases hb : anchorB s[pos] with
        | true =>
          rw [if_neg (by simp), anch_from s f (pos + 1) (by omega)]
          simp
        | false =>
          rw [if_pos (by simp)]
          simp
      · obtain ⟨h1, h2⟩ := decode_high s pos hp (by omega)
        have e : anchP (Utf8.decode s pos).1 = true := by
          unfold anchP
          simp
          omega
        have e2 : anchorB s[pos] = false := by
          rw [← Bool.not_eq_true']
          rw [← anchP_byte]
          unfold anchP
          simp
          omega
        rw [if_pos e, e2]
        simp
    · rw [if_neg hp, List.drop_eq_nil_of_le (by simp; omega)]
      rfl
theorem anchor_any (s : ByteArray) (w : World) : Calls Tryz.prog 122 #[.string s] w fun e w' => e = .returned (.bool (anchorL s.data.toList)) ∧ Below w.heap.size w w' := by
  have ci := Tryz.strings_IndexFunc 148 #[] (fun _ _ => by kernel_rfl) anchP s w (fun W x _ => anch1_any x W)
  have hfr := anch_from s s.size 0 (by omega)
  rw [List.drop_zero] at hfr
  unfold Lib.idxFunc at ci
  generalize Lib.idxFuncFrom anchP true s s.size 0 = r at *
  have HF := Lib.hid hfr
  clear hfr
  go_enter Tryz.func122, Tryz.ntmps122
  go_wp2_with fail
  refine ci.mono ?_
  rintro e w1 ⟨rfl, b1⟩
  by_cases h0 : s.data.toList = []
  · have he : s.toList.isEmpty = true := by rw [ByteArray.toList_eq, h0]; rfl
    go_wp2
    all_goals go_ret
    all_goals exact ⟨ret_bool (by unfold anchorL; rw [h0]; rfl), b1⟩
  · have he : s.toList.isEmpty = false := by rw [ByteArray.toList_eq]; cases h : s.data.toList with | nil => exact absurd h h0 | cons a b => rfl
    have h1 : s.data.toList.isEmpty = false := by rw [← ByteArray.toList_eq]; exact he
    go_wp2
    all_goals go_ret
    all_goals exact ⟨ret_bool (by unfold anchorL; rw [h1, ← HF.out]; simp_all), b1⟩
def ch3 : ByteArray := ⟨#[91, 93, 0]⟩
theorem noBr_is (b : UInt8) : ([91, 93, 0] : List UInt8).contains b = !noBr b := by
  unfold noBr
  simp
  cases h1 : (b == 91) <;> cases h2 : (b == 93) <;> cases h3 : (b == 0) <;> simp_all
theorem idx3 (l : List UInt8) : Lib.indexAny l [91, 93, 0] = if l.all noBr then -1 else ((l.takeWhile noBr).length : Int) := by
  induction l with
  | nil => rfl
  | cons b l ih =>
    unfold Lib.indexAny
    rw [noBr_is, List.all_cons]
    cases hb : noBr b with
    | true =>
      rw [ih, List.takeWhile_cons, hb]
      cases ha : l.all noBr with
      | true => simp
      | false => simp
    | false =>
      rw [List.takeWhile_cons, hb]
      simp
theorem ch3_ascii : ∀ b ∈ ch3.data.toList, b.toNat < 128 := by decide
/-- Which of the signs a rune is: none, if it is no byte. -/
theorem idxRune3 (r : Int) (w : World) (h : 128 ≤ r) (h9 : r ≤ 1114111) : Calls Tryz.prog 176 #[.string ch3, .int .i32 r] w fun e w' => e = .returned (.int .i64 (-1)) ∧ Below w.heap.size w w' := by
  by_cases he : r = 65533
  · rw [he]; exact indexRune_error ch3 w ch3_ascii (by decide)
  · exact indexRune_other ch3 r w h h9 he ch3_ascii (by decide)
def ixF (m : List UInt8) (k : Nat) : Int := if m.all noBr then -1 else (k : Int) + ((m.takeWhile noBr).length : Nat)
theorem ixF_zero (l : List UInt8) : Lib.indexAny l [91, 93, 0] = ixF l 0 := by
  rw [idx3]
  unfold ixF
  split <;> simp
theorem ixF_nil (k : Nat) : ixF [] k = -1 := rfl
theorem ixF_no {b : UInt8} (m : List UInt8) (k : Nat) (h : noBr b = true) : ixF (b :: m) k = ixF m (k + 1) := by
  unfold ixF
  rw [List.all_cons, h, List.takeWhile_cons, h]
  simp only [Bool.true_and, if_true, List.length_cons]
  split
  · rfl
  · omega
theorem ixF_yes {b : UInt8} (m : List UInt8) (k : Nat) (h : noBr b = false) : ixF (b :: m) k = k := by
  unfold ixF
  rw [List.all_cons, h, List.takeWhile_cons, h]
  simp
theorem ixF_many (r : List UInt8) : ∀ (m : List UInt8) (k : Nat), (∀ b ∈ m, noBr b = true) → ixF (m ++ r) k = ixF r (k + m.length)
  | [], k, _ => by simp
  | b :: m, k, h => by
    rw [List.cons_append, ixF_no _ _ (h b (List.mem_cons_self ..)), ixF_many r m (k + 1) fun x hx => h x (List.mem_cons_of_mem _ hx), List.length_cons]
    congr 1
    omega
theorem noBr_high {b : UInt8} (h : 128 ≤ b.toNat) : noBr b = true := by
  cases hb : noBr b with
  | true => rfl
  | false =>
    have h1 : ([91, 93, 0] : List UInt8).contains b = true := by rw [noBr_is, hb]; rfl
    simp at h1
    rcases h1 with rfl | rfl | rfl <;> revert h <;> decide
theorem ib3 (b : UInt8) : decide (0 ≤ Lib.indexByte [91, 93, 0] b) = !noBr b := by
  unfold noBr
  simp only [Lib.indexByte]
  by_cases h1 : b = 91
  · subst h1; rfl
  · by_cases h2 : b = 93
    · subst h2; rfl
    · by_cases h3 : b = 0
      · subst h3; rfl
      · have e1 : ((91 : UInt8) == b) = false := by simpa using fun e => h1 e.symm
        have e2 : ((93 : UInt8) == b) = false := by simpa using fun e => h2 e.symm
        have e3 : ((0 : UInt8) == b) = false := by simpa using fun e => h3 e.symm
        simp [e1, e2, e3, h1, h2, h3]
theorem should_any (n : Int) (w : World) : Calls Tryz.prog 177 #[.int .i64 n] w fun e w' => e = .returned (.bool (decide (8 < n))) ∧ w' = w := by
  go_enter Tryz.func177, Tryz.ntmps177
  go_wp2
  go_ret
  exact ⟨rfl, rfl⟩
set_option maxHeartbeats 2000000 in
theorem indexAny3_any (s : ByteArray) (w : World) (hs : s.size ≤ 4000000000) :
    Calls Tryz.prog 155 #[.string s, .string ⟨#[91, 93, 0]⟩] w fun e w' => e = .returned (.int .i64 (Lib.indexAny s.data.toList [91, 93, 0])) ∧ Below w.heap.size w w' := by
  by_cases h8 : 8 < s.size
  · refine (Tryz.strings_IndexAny_long (fun w => by kernel_rfl) s ch3 w (by decide) h8 (by omega) (by decide) (fun j b hb => ch3_ascii b (List.mem_of_getElem? hb))).mono ?_
    rintro e w' ⟨rfl, rfl⟩
    exact ⟨rfl, ((Below.refl _ w).alloc (Nat.le_refl _) _).alloc (by simp) _⟩
  · have h8b : decide (8 < (s.size : Int)) = false := by simp; omega
    have cs := should_any (s.size : Int) w
    rw [h8b] at cs
    have cr := fun (r : Int) (W : World) (h : 128 ≤ r) (h9 : r ≤ 1114111) => idxRune3 r W h h9
    have ca := fun (r : Int) (W : World) (h0 : 0 ≤ r) (h1 : r < 128) => Tryz.strings_IndexRune_ascii ch3 r W h0 h1
    unfold ch3 at cr ca
    rw [ixF_zero]
    generalize hL : ixF s.data.toList 0 = L
    have HL := Lib.hid hL
    clear hL
    go_enter Tryz.func155, Tryz.ntmps155
    go_wp2_with fail
    refine cs.mono ?_
    rintro e w1 ⟨rfl, rfl⟩
    clear cs
    go_wp2_with fail
    go_loopw [9, 10] (fun iv cv wr => ∃ k : Nat, k ≤ s.size ∧ wr.heap[w1.heap.size]? = some (.stringIter s k) ∧ Below w1.heap.size w1 wr ∧ ixF (s.data.toList.drop k) k = L) (fun _ _ wr => s.size - wr.iterPos w1.heap.size)
    case atStart => exact ⟨0, Nat.zero_le _, World.iter_heap w1 s 0, (Below.refl _ w1).alloc (Nat.le_refl _) _, by rw [List.drop_zero]; exact HL.out⟩
    case round =>
      obtain ⟨k, hk, hit, hbw, hst⟩ := hrel
      by_cases hp : k < s.size
      · have hnx : ∀ ty, (Instr.next (.pointer (some ⟨w1.heap.size, 0, none⟩)) true ty).run Tryz.prog wr = _ := fun ty => Lib.run_next_any_at wr w1.heap.size s k ty hit hp
        have hit2 := Lib.iterAt_heap wr w1.heap.size s k (k + (Utf8.decode s k).2) hit
        have hbw2 := Lib.below_iterAt hbw (k := w1.heap.size) (by omega) s (k + (Utf8.decode s k).2)
        have Hit := Lib.hid hit
        clear hit hbw
        by_cases ha : s[k].toNat < 128
        · have hd : Utf8.decode s k = (s[k].toNat, 1) := decode_ascii s k hp ha
          rw [hd] at hnx hit2 hbw2
          simp only at hnx hit2 hbw2
          clear hd
          rw [get_list s k hp] at hst
          generalize s[k] = b at *
          have cb := fun W => ca b.toNat W (by omega) (by omega)
          rw [show ((b.toNat : Int)).toNat.toUInt8 = b from by simp] at cb
          have hib := ib3 b
          generalize hz : Lib.indexByte _ b = z at cb
          rw [show Lib.indexByte ([91, 93, 0] : List UInt8) b = z from hz] at hib
          clear hz
          cases hb : noBr b with
          | true =>
            rw [ixF_no _ _ hb] at hst
            rw [hb] at hib
            have hz0 : decide (0 ≤ z) = false := hib
            have HS := Lib.hid hst
            clear hst hb hib ca cr
            go_wp2_with (go_at_call 176; refine (cb _).mono ?_; rintro e w' ⟨rfl, rfl⟩)
            go_roundw
            case rel => exact ⟨k + 1, by omega, hit2, hbw2, HS.out⟩
            case measure => simp only [World.iterPos, hit2, Hit.out]; omega
          | false =>
            rw [ixF_yes _ _ hb] at hst
            rw [hb] at hib
            have hz0 : decide (0 ≤ z) = true := hib
            have HS := Lib.hid hst
            clear hst hb hib ca cr
            go_wp2_with (go_at_call 176; refine (cb _).mono ?_; rintro e w' ⟨rfl, rfl⟩)
            go_ret
            exact ⟨by rw [HS.out]; rfl, hbw2⟩
        · obtain ⟨d1, d2, d3, m, hm1, hm2, hm3⟩ := rune_high s k hp (by omega)
          have hd9 := decode_max s k
          rw [hm1, ixF_many _ m k (fun b hb => noBr_high (hm3 b hb)), hm2] at hst
          have HS := Lib.hid hst
          have cb := fun W => cr (Utf8.decode s k).1 W (by omega) (by omega)
          clear hm1 hm2 hm3 ha hst ca cr
          generalize (Utf8.decode s k).1 = r at *
          generalize (Utf8.decode s k).2 = d at *
          go_wp2_with fail
          refine (cb _).mono ?_
          rintro e w5 ⟨rfl, b5⟩
          have hit5 := (b5.block _ (Array.getElem?_eq_some_iff.1 hit2).1).trans hit2
          go_wp2
          go_roundw
          case rel => exact ⟨k + d, by omega, hit5, hbw2.then b5, HS.out⟩
          case measure => simp only [World.iterPos, hit5, Hit.out]; omega
      · obtain rfl : k = s.size := by omega
        rw [List.drop_eq_nil_of_le (by simp), ixF_nil] at hst
        have hnx : ∀ ty, (Instr.next (.pointer (some ⟨w1.heap.size, 0, none⟩)) true ty).run Tryz.prog wr = _ := fun ty => Lib.run_next_end_at wr w1.heap.size s s.size ty hit (by omega)
        have HS := Lib.hid hst
        clear hst
        go_wp2
        go_ret
        exact ⟨by rw [← HS.out]; rfl, hbw⟩
def brL (l : List UInt8) : List UInt8 × Nat := match pairL l with | some x => x | none => ([], 0)
theorem brL_no {l : List UInt8} (h : Lib.hasPrefix l [91] = false) : brL l = ([], 0) := by unfold brL pairL; simp [h]
theorem all_takeWhile {m : List UInt8} (h : m.all noBr = true) : m.dropWhile noBr = [] := by
  induction m with
  | nil => rfl
  | cons b m ih =>
    rw [List.all_cons, Bool.and_eq_true] at h
    rw [List.dropWhile_cons, if_pos h.1]
    exact ih h.2
theorem brL_all {l : List UInt8} (h : (l.drop 1).all noBr = true) : brL l = ([], 0) := by
  unfold brL pairL
  rw [all_takeWhile h]
  simp [Lib.hasPrefix]
theorem drop_tw (m : List UInt8) : m.drop (m.takeWhile noBr).length = m.dropWhile noBr := by
  conv => lhs; arg 2; rw [← List.takeWhile_append_dropWhile (p := noBr) (l := m)]
  rw [List.drop_left' rfl]
theorem take_tw (m : List UInt8) : m.take (m.takeWhile noBr).length = m.takeWhile noBr := by
  conv => lhs; arg 2; rw [← List.takeWhile_append_dropWhile (p := noBr) (l := m)]
  rw [List.take_left' rfl]
set_option maxHeartbeats 2000000 in
theorem bracket_any (s : ByteArray) (w : World) (hs : s.size ≤ 4000000000) :
    Calls Tryz.prog 125 #[.string s] w fun e w' => e = .returned (.tuple #[.string ⟨(brL s.data.toList).1.toArray⟩, .int .i64 (brL s.data.toList).2]) ∧ Below w.heap.size w w' := by
  have cc := Tryz.strings_CutPrefix s ⟨#[91]⟩ w
  rw [show (⟨#[91]⟩ : ByteArray).data.toList = [91] from rfl] at cc
  by_cases hp : Lib.hasPrefix s.data.toList [91] = true
  · rw [hp] at cc
    have hlen : (s.data.toList.drop 1).length ≤ 4000000000 := by simp; omega
    have htr : Lib.trimPrefix s.data.toList [91] = s.data.toList.drop 1 := by unfold Lib.trimPrefix; simp [hp]
    rw [htr] at cc
    have hbr : brL s.data.toList = if (s.data.toList.drop 1).all noBr then ([], 0) else if Lib.hasPrefix ((s.data.toList.drop 1).dropWhile noBr) [93] then ((s.data.toList.drop 1).takeWhile noBr, ((s.data.toList.drop 1).takeWhile noBr).length + 2) else ([], 0) := by
      split
      · next h => exact brL_all h
      · unfold brL pairL
        rw [hp]
        simp only [Bool.true_and]
        cases Lib.hasPrefix ((s.data.toList.drop 1).dropWhile noBr) [93] <;> rfl
    rw [hbr]
    clear hbr htr hp
    generalize s.data.toList.drop 1 = M at *
    have ci := fun W => indexAny3_any ⟨M.toArray⟩ W (by show M.length ≤ _; omega)
    rw [show (⟨M.toArray⟩ : ByteArray).data.toList = M from rfl, idx3] at ci
    by_cases ha : M.all noBr = true
    · rw [if_pos ha] at ci
      rw [if_pos ha]
      clear ha
      go_enter Tryz.func125, Tryz.ntmps125
      go_wp2_with fail
      refine cc.mono ?_
      rintro e w1 ⟨rfl, rfl⟩
      go_wp2_with fail
      refine (ci _).mono ?_
      rintro e w2 ⟨rfl, b2⟩
      go_wp2
      go_ret2
      exact ⟨rfl, b2⟩
    · rw [if_neg ha] at ci
      rw [if_neg ha]
      have hsl := fun W => slice_lo ⟨M.toArray⟩ ((M.takeWhile noBr).length : Int) (M.takeWhile noBr).length rfl (by show _ ≤ M.length; exact (List.takeWhile_prefix _).length_le) W
      have hsh := fun W => slice_hi ⟨M.toArray⟩ ((M.takeWhile noBr).length : Int) (M.takeWhile noBr).length rfl (by show _ ≤ M.length; exact (List.takeWhile_prefix _).length_le) W
      have e1 : (⟨M.toArray⟩ : ByteArray).extract (M.takeWhile noBr).length (⟨M.toArray⟩ : ByteArray).size = ⟨(M.dropWhile noBr).toArray⟩ := by
        rw [ext_bytes]
        show (⟨((M.drop (M.takeWhile noBr).length).take (M.length - (M.takeWhile noBr).length)).toArray⟩ : ByteArray) = _
        rw [List.take_of_length_le (by simp), drop_tw]
      have e2 : (⟨M.toArray⟩ : ByteArray).extract 0 (M.takeWhile noBr).length = ⟨(M.takeWhile noBr).toArray⟩ := by
        rw [ext_bytes, List.drop_zero]
        rw [Nat.sub_zero]
        show (⟨(M.take (M.takeWhile noBr).length).toArray⟩ : ByteArray) = _
        rw [take_tw]
      rw [e1] at hsl
      rw [e2] at hsh
      have ch := fun W => Tryz.strings_HasPrefix ⟨(M.dropWhile noBr).toArray⟩ ⟨#[93]⟩ W
      rw [show (⟨#[93]⟩ : ByteArray).data.toList = [93] from rfl, show (⟨(M.dropWhile noBr).toArray⟩ : ByteArray).data.toList = M.dropWhile noBr from rfl] at ch
      have hnl : (M.takeWhile noBr).length ≤ 4000000000 := Nat.le_trans (List.takeWhile_prefix _).length_le hlen
      clear e1 e2 ha
      generalize Lib.hasPrefix (M.dropWhile noBr) [93] = hb at *
      generalize M.dropWhile noBr = D at *
      generalize (M.takeWhile noBr) = T at *
      generalize hTn : T.length = n at *
      clear hTn
      cases hb with
      | false =>
        go_enter Tryz.func125, Tryz.ntmps125
        go_wp2_with fail
        refine cc.mono ?_
        rintro e w1 ⟨rfl, rfl⟩
        go_wp2_with fail
        refine (ci _).mono ?_
        rintro e w2 ⟨rfl, b2⟩
        go_wp2_with fail
        refine (ch _).mono ?_
        rintro e w3 ⟨rfl, rfl⟩
        go_wp2
        go_ret2
        exact ⟨rfl, b2⟩
      | true =>
        go_enter Tryz.func125, Tryz.ntmps125
        go_wp2_with fail
        refine cc.mono ?_
        rintro e w1 ⟨rfl, rfl⟩
        go_wp2_with fail
        refine (ci _).mono ?_
        rintro e w2 ⟨rfl, b2⟩
        go_wp2_with fail
        refine (ch _).mono ?_
        rintro e w3 ⟨rfl, rfl⟩
        go_wp2
        go_ret2
        exact ⟨rfl, b2⟩

  · have hpf : Lib.hasPrefix s.data.toList [91] = false := by simpa using hp
    rw [hpf] at cc
    rw [brL_no hpf]
    go_enter Tryz.func125, Tryz.ntmps125
    go_wp2_with fail
    refine cc.mono ?_
    rintro e w1 ⟨rfl, rfl⟩
    go_wp2
    go_ret2
    exact ⟨rfl, Below.refl _ _⟩
end Go.Proofs.YtfbaknkmpilllaaGreatDoor

namespace Go.Proofs.YtfbaknkmpilllaaGreatDoor
open Go.RowKit
set_option linter.unusedSimpArgs false
set_option linter.unusedVariables false
theorem blk_hid {b : UInt8} (h : blkB b.toNat = true) : tgHid b.toNat = true := by
  simp [blkB] at h
  simp [tgHid]
  omega
/-- No target begins at p: a bracket is left open in its destination. -/
def Hop (s : List UInt8) (p : Nat) : Prop := 0 < (bareGo (s.drop (p + 1)) 0 false 0).2 ∧ s.getD (p + 1) 0 ≠ 60
theorem hop_inside {s : List UInt8} {p : Nat} (h : Hop s p) : (insideL (s.drop p)).2.2.2 = false := by
  obtain ⟨h1, h2⟩ := h
  unfold insideL
  split
  · next hp =>
    have e1 : s.drop (p + 1) = (s.drop p).drop 1 := by rw [List.drop_drop]
    rw [e1] at h1
    have e2 : s.getD (p + 1) 0 = ((s.drop p).drop 1).headD 0 := by
      rw [List.drop_drop, List.getD_eq_getElem?_getD, List.headD_eq_head?_getD, List.head?_drop]
    rw [e2] at h2
    generalize s.drop p = l at *
    match l, hp with
    | c :: l, hp =>
      have hc : c = 40 := by
        have : 40 = c := by simpa [Lib.hasPrefix] using hp
        exact this.symm
      subst hc
      rw [List.drop_one, List.tail_cons] at h1 h2
      match l, h1, h2 with
      | b :: l, h1, h2 =>
        have hnb : tgHid b.toNat = false := by
          cases hb : tgHid b.toNat with
          | false => rfl
          | true => rw [bareGo, hb] at h1; simp at h1
        have hn41 : b.toNat ≠ 41 := by
          intro hb
          rw [bareGo, hb] at h1
          simp at h1
        have hblk : blkB b.toNat = false := by
          cases hb : blkB b.toNat with
          | false => rfl
          | true => rw [blk_hid hb] at hnb; cases hnb
        have hB : behL (40 :: b :: l) 1 = 1 := by
          simp [behL, hblk]
        rw [hB]
        have hd : destL (b :: l) = (unL ((b :: l).take (bareL (b :: l))), bareL (b :: l), decide (0 < bareL (b :: l))) := by
          unfold destL
          rw [if_neg (by
            intro e
            apply h2
            have e2 : 60 = b := by simpa [Lib.hasPrefix] using e
            exact e2.symm)]
        have hz : bareL (b :: l) = 0 := by unfold bareL; rw [if_pos h1]
        rw [List.drop_one, List.tail_cons, hd, hz, Nat.add_zero, hB]
        unfold insL2
        have h40 : ¬ blkB (((40 :: b :: l : List UInt8).getD (1 - 1) 0).toNat) = true := by
          show ¬ blkB ((40 : UInt8).toNat) = true
          decide
        rw [if_neg h40]
        unfold shutL
        rw [if_neg]
        intro e
        have e2 : 41 = b := by simpa [Lib.hasPrefix] using e
        subst e2
        exact hn41 rfl
  · rfl
/-- What is known of the brackets that are left open (opn: the first first) behind i bytes. -/
def OpenI (s : List UInt8) (i : Nat) (esc : Bool) (opn : List Nat) : Prop :=
  ∀ j (h : j < opn.length), opn[j] < i ∧ bareGo (s.drop (opn[j] + 1)) 0 false 0 = bareGo (s.drop i) (opn.length - 1 - j) esc (i - opn[j] - 1)
theorem openI_nil (s : List UInt8) (i : Nat) (esc : Bool) : OpenI s i esc [] := fun j h => by simp at h
/-- A byte that ends no destination, behind the bracket, or where none is left open. -/
theorem openI_other {s : List UInt8} {i : Nat} {esc : Bool} {opn : List Nat} (h : OpenI s i esc opn) (hi : i < s.length) (esc' : Bool)
    (hs : ∀ o k, bareGo (s[i] :: s.drop (i + 1)) o esc k = bareGo (s.drop (i + 1)) o esc' (k + 1)) : OpenI s (i + 1) esc' opn := by
  intro j hj
  obtain ⟨h1, h2⟩ := h j hj
  refine ⟨by omega, ?_⟩
  rw [h2, List.drop_eq_getElem_cons hi, hs]
  congr 1
  omega
theorem bareGo_esc {b : UInt8} (h : tgHid b.toNat = false) (l : List UInt8) (o k : Nat) : bareGo (b :: l) o true k = bareGo l o false (k + 1) := by
  rw [bareGo]; simp [h]
theorem bareGo_back {b : UInt8} (hb : b.toNat = 92) (l : List UInt8) (o k : Nat) : bareGo (b :: l) o false k = bareGo l o true (k + 1) := by
  have : tgHid 92 = false := by decide
  rw [bareGo]; simp [hb, this]
theorem bareGo_plain {b : UInt8} (h : tgHid b.toNat = false) (h1 : b.toNat ≠ 92) (h2 : b.toNat ≠ 40) (h3 : b.toNat ≠ 41) (l : List UInt8) (o k : Nat) : bareGo (b :: l) o false k = bareGo l o false (k + 1) := by
  rw [bareGo]; simp [h, h1, h2, h3]
theorem bareGo_open {b : UInt8} (hb : b.toNat = 40) (l : List UInt8) (o k : Nat) : bareGo (b :: l) o false k = bareGo l (o + 1) false (k + 1) := by
  have : tgHid 40 = false := by decide
  rw [bareGo]; simp [hb, this]
theorem bareGo_shut {b : UInt8} (hb : b.toNat = 41) (l : List UInt8) (o k : Nat) (ho : 0 < o) : bareGo (b :: l) o false k = bareGo l (o - 1) false (k + 1) := by
  have : tgHid 41 = false := by decide
  rw [bareGo]
  have h0 : o ≠ 0 := by omega
  simp [hb, this, h0]
theorem openI_open {s : List UInt8} {i : Nat} {opn : List Nat} (h : OpenI s i false opn) (hi : i < s.length) (hb : s[i].toNat = 40) : OpenI s (i + 1) false (opn ++ [i]) := by
  intro j hj
  rw [List.length_append, List.length_singleton] at hj ⊢
  by_cases hl : j < opn.length
  · rw [List.getElem_append_left hl]
    obtain ⟨h1, h2⟩ := h j hl
    refine ⟨by omega, ?_⟩
    rw [h2, List.drop_eq_getElem_cons hi, bareGo_open hb]
    congr 1 <;> omega
  · have e : j = opn.length := by omega
    subst e
    simp only [List.getElem_concat_length]
    refine ⟨by omega, ?_⟩
    congr 1 <;> omega
theorem openI_shut {s : List UInt8} {i : Nat} {opn : List Nat} (h : OpenI s i false opn) (hi : i < s.length) (hb : s[i].toNat = 41) : OpenI s (i + 1) false opn.dropLast := by
  intro j hj
  rw [List.length_dropLast] at hj ⊢
  rw [List.getElem_dropLast]
  obtain ⟨h1, h2⟩ := h j (by omega)
  refine ⟨by omega, ?_⟩
  rw [h2, List.drop_eq_getElem_cons hi, bareGo_shut hb _ _ _ (by omega)]
  congr 1 <;> omega
/-- At a blank, or at the end, all but the last are without hope. -/
theorem openI_end {s : List UInt8} {i : Nat} {esc : Bool} {opn : List Nat} (h : OpenI s i esc opn) (hi : ∀ b ∈ (s.drop i).head?, tgHid b.toNat = true) : ∀ p ∈ opn.dropLast, p + 1 < i ∧ (s.getD (p + 1) 0 ≠ 60 → Hop s p) := by
  intro p hp
  obtain ⟨j, hj, rfl⟩ := List.mem_iff_getElem.1 hp
  rw [List.length_dropLast] at hj
  rw [List.getElem_dropLast]
  obtain ⟨h1, h2⟩ := h j (by omega)
  have e : ∀ o k, bareGo (s.drop i) o esc k = (k, o) := by
    intro o k
    cases hd : s.drop i with
    | nil => rfl
    | cons b l =>
      have := hi b (by rw [hd]; rfl)
      rw [bareGo, this]
      simp
  rw [e] at h2
  have hpos : 0 < (bareGo (s.drop (opn[j] + 1)) 0 false 0).2 := by rw [h2]; show 0 < opn.length - 1 - j; omega
  refine ⟨?_, fun h60 => ⟨hpos, h60⟩⟩
  rcases Nat.lt_or_ge (opn[j] + 1) i with h3 | h3
  · exact h3
  · exfalso
    have e2 : opn[j] + 1 = i := by omega
    have := h2
    rw [e2, show i - opn[j] - 1 = 0 from by omega] at this
    have h4 : bareGo (s.drop i) 0 false 0 = (0, 0) := by
      cases hd : s.drop i with
      | nil => rfl
      | cons b l =>
        have := hi b (by rw [hd]; rfl)
        rw [bareGo, this]
        simp
    rw [h4] at this
    have := congrArg Prod.snd this
    simp at this
    omega
end Go.Proofs.YtfbaknkmpilllaaGreatDoor
