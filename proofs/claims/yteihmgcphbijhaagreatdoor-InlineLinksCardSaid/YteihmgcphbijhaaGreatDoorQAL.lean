/- Texts joined: InG InI TkA. -/
import Derived.Test.YteihmgcphbijhaaGreatDoorQAI
import Derived.Test.YteihmgcphbijhaaGreatDoorQAJ
import Derived.Test.YteihmgcphbijhaaGreatDoorQAK
import Derived.Test.YteihmgcphbijhaaGreatDoorQAB
import Derived.Test.YteihmgcphbijhaaGreatDoorQAD
import Derived.BigQuiet
import Derived.StillTailTactics
import Derived.Test.YteihmgcphbijhaaGreatDoorQAA
import Derived.WalkKit
import Derived.Laws.ResultCell
import Derived.Lib.AtoiErrMem
namespace Go.Proofs.YteihmgcphbijhaaGreatDoor
open Go.RowKit Go.Maps
set_option linter.unusedSimpArgs false
set_option linter.unusedVariables false
set_option maxRecDepth 100000
/-- The table of definitions, or none. -/
def TbAt (w : World) (tbv : Value) (D : List Dfn) : Prop := (tbv = .pointer none ∧ D = []) ∨ ∃ B b v m, tbv = .pointer (some ⟨b, 0, none⟩) ∧ TableIs w B b v m D
theorem TbAt.below {w w' : World} {tbv : Value} {D : List Dfn} (h : TbAt w tbv D) (hb : Below w.heap.size w w') : TbAt w' tbv D := by
  rcases h with h | ⟨B, b, v, m, e, h⟩
  · exact Or.inl h
  · exact Or.inr ⟨B, b, v, m, e, h.below hb⟩
theorem findL_nil (s : List UInt8) (nt : Bool) : findL [] s nt = (noDfn, false) := by unfold findL fdL; simp
theorem tbFind_any {w : World} {tbv : Value} {D : List Dfn} (h : TbAt w tbv D) (s : ByteArray) (nt : Bool) (hs : s.size ≤ 1000) (hl : D.length ≤ 1000) :
    Calls Tryz.prog 110 #[tbv, .string s, .bool nt] w fun e w' => e = .returned (dfTib (findL D s.data.toList nt)) ∧ Below w.heap.size w w' := by
  rcases h with ⟨rfl, rfl⟩ | ⟨B, b, v, m, rfl, h⟩
  · rw [findL_nil]; exact find_none s nt w hs
  · exact find_any h s nt hs hl
theorem findL_fold {D : List Dfn} {s : List UInt8} {nt : Bool} (h : (findL D s nt).2 = true) : foldL s ≠ [] := by
  unfold findL at h
  intro e
  unfold dnL at h
  rw [e] at h
  simp at h
def IlAt (w : World) (g : Nat) (x : Iln) : Prop := w.heap[g]? = some (.cells #[.int .i64 x.kd, .int .i64 x.dp, .string ⟨x.txt.toArray⟩, .string ⟨x.url.toArray⟩, .string ⟨x.ttl.toArray⟩] 28 (0, 0))
theorem IlAt.below {w w' : World} {g : Nat} {b : Iln} (h : IlAt w g b) (hb : Below w.heap.size w w') : IlAt w' g b := (hb.block g (Array.getElem?_eq_some_iff.1 h).1).trans h
theorem IlAt.cells {w : World} {g : Nat} {x : Iln} (h : IlAt w g x) : w.cell? ⟨g, 0, none⟩ = some (.int .i64 x.kd) ∧ w.cell? ⟨g, 1, none⟩ = some (.int .i64 x.dp) ∧ w.cell? ⟨g, 2, none⟩ = some (.string ⟨x.txt.toArray⟩) ∧
    w.cell? ⟨g, 3, none⟩ = some (.string ⟨x.url.toArray⟩) ∧ w.cell? ⟨g, 4, none⟩ = some (.string ⟨x.ttl.toArray⟩) ∧ ∀ i, w.frozen? ⟨g, i, none⟩ = false := by
  unfold IlAt at h
  refine ⟨?_, ?_, ?_, ?_, ?_, fun i => by simp [World.frozen?, h]⟩
  · rw [cell_of_row w _ 0 _ _ (0, 0) h]; rfl
  · rw [cell_of_row w _ 1 _ _ (0, 0) h]; rfl
  · rw [cell_of_row w _ 2 _ _ (0, 0) h]; rfl
  · rw [cell_of_row w _ 3 _ _ (0, 0) h]; rfl
  · rw [cell_of_row w _ 4 _ _ (0, 0) h]; rfl
theorem IlAt.set {w : World} {g : Nat} {b : Iln} (h : IlAt w g b) (y : Iln) :
    IlAt (((((w.setCell ⟨g, 0, none⟩ (.int .i64 y.kd)).setCell ⟨g, 1, none⟩ (.int .i64 y.dp)).setCell ⟨g, 2, none⟩ (.string ⟨y.txt.toArray⟩)).setCell ⟨g, 3, none⟩ (.string ⟨y.url.toArray⟩)).setCell ⟨g, 4, none⟩ (.string ⟨y.ttl.toArray⟩)) g y := by
  unfold IlAt at *
  simp [World.setCell, Array.getElem?_modify, h]
def noIln : Iln := ⟨0, 0, [], [], []⟩
theorem ilAt_zero (w : World) : IlAt (w.alloc (.cells #[.int .i64 0, .int .i64 0, .string ⟨#[]⟩, .string ⟨#[]⟩, .string ⟨#[]⟩] 28)) w.heap.size noIln := heap_alloc_new w _
theorem ret_il {fn : Func} {p u : Tmp} (hres : fn.results = #[.cell p 28, .tmp u]) {W : World} {g : Nat} {b : Iln} (h : IlAt W g b) {c : Value} {tmps : Array Value} (h2 : tmps.getD p undef = .pointer (some ⟨g, 0, none⟩)) (h3 : tmps.getD u undef = c) :
    (results fn tmps).run Tryz.prog W = .ok (.tuple #[ilV b, c]) W := by
  obtain ⟨c0, c1, c2, c3, c4, _⟩ := h.cells
  rw [results_cell_tmp hres, h2, h3]
  go_simp
  rfl
def askR (D : List Dfn) (x : List UInt8) : Iln × Bool :=
  if Lib.hasPrefix x [94] then (⟨10, 0, (findL D (x.drop 1) true).1.nm, [], []⟩, (findL D (x.drop 1) true).2)
  else (⟨11, 0, Lib.trimPrefix x [35], [], []⟩, Lib.hasPrefix x [35] && anchorL (Lib.trimPrefix x [35]))
section
variable {w : World} {B pb : Nat} {s : ByteArray} {atv tbv hv iv ov : Value} {nsh : Nat} {Z : List (Itm × Value)} {O : List Opn} {D : List Dfn}
set_option maxHeartbeats 4000000 in
theorem asked_any (h : RawSt w B pb s atv tbv hv iv ov nsh Z O) (ht : TbAt w tbv D) (x : ByteArray) (hx : x.size ≤ 1000) (hD : D.length ≤ 1000) :
    Calls Tryz.prog 80 #[.pointer (some ⟨pb, 0, none⟩), .string x] w fun e w' => e = .returned (.tuple #[ilV (askR D x.data.toList).1, .bool (askR D x.data.toList).2]) ∧ Below w.heap.size w w' := by
  have c1 := fun W => Tryz.strings_CutPrefix x ⟨#[94]⟩ W
  rw [show (⟨#[94]⟩ : ByteArray).data.toList = [94] from rfl] at c1
  have b0 : Below w.heap.size w (w.alloc (.cells #[.int .i64 0, .int .i64 0, .string ⟨#[]⟩, .string ⟨#[]⟩, .string ⟨#[]⟩] 28)) := (Below.refl _ w).alloc (Nat.le_refl _) _
  have HB0 := Lib.hid b0
  have HZ0 := Lib.hid (ilAt_zero w)
  have h1 := h.below b0
  have HT1 := Lib.hid (ht.below b0)
  obtain ⟨p0, p1, p2, p3, p4, p5, p6, pf, hlt⟩ := h1.bcells
  have hs0 := alloc_size w (.cells #[.int .i64 0, .int .i64 0, .string ⟨#[]⟩, .string ⟨#[]⟩, .string ⟨#[]⟩] 28)
  have HLT := Lib.hid hlt
  clear b0 h h1 ht p0 p1 p3 p4 p5 p6 pf hlt
  unfold askR
  by_cases hp : Lib.hasPrefix x.data.toList [94] = true
  · rw [hp] at c1
    rw [if_pos hp]
    have htr : Lib.trimPrefix x.data.toList [94] = x.data.toList.drop 1 := by unfold Lib.trimPrefix; rw [if_pos hp]; rfl
    rw [htr] at c1
    have hlen : (x.data.toList.drop 1).length ≤ 1000 := by simp; omega
    clear hp htr
    generalize x.data.toList.drop 1 = y at *
    have cf := tbFind_any HT1.out ⟨y.toArray⟩ true (by show y.length ≤ 1000; exact hlen) hD
    rw [show (⟨y.toArray⟩ : ByteArray).data.toList = y from rfl] at cf
    generalize findL D y true = f at *
    obtain ⟨d, ok⟩ := f
    unfold dfTib dfV at cf
    dsimp only at cf ⊢
    go_enter Tryz.func80, Tryz.ntmps80
    go_wp2_with fail
    refine (c1 _).mono ?_
    rintro e w1 ⟨rfl, rfl⟩
    go_wp2_with fail
    refine cf.mono ?_
    rintro e w2 ⟨rfl, b2⟩
    have HB2 := Lib.hid (HB0.out.then b2)
    have hz2 := HZ0.out.below b2
    have bD := (Below.refl _ w2).alloc (Nat.le_refl _) (.cells #[.string ⟨d.nm.toArray⟩, .string ⟨d.url.toArray⟩, .string ⟨d.ttl.toArray⟩, .string ⟨d.txt.toArray⟩, .bool d.nt] 153)
    have hz3 := hz2.below bD
    obtain ⟨k0, k1, k2, k3, k4, kf⟩ := hz3.cells
    have kf0 := kf 0
    have kf1 := kf 1
    have kf2 := kf 2
    have kf3 := kf 3
    have kf4 := kf 4
    unfold noIln at k0 k1 k2 k3 k4
    dsimp only at k0 k1 k2 k3 k4
    have HS := Lib.hid (hz3.set ⟨10, 0, d.nm, [], []⟩)
    have HW := Lib.hid (below_set5 (HB2.out.then bD) (Nat.le_refl _) (.int .i64 10) (.int .i64 0) (.string ⟨d.nm.toArray⟩) (.string ⟨#[]⟩) (.string ⟨#[]⟩))
    clear cf c1 b2 kf hz3 hz2 bD
    go_wp2
    (try simp only [Exit.inBlock, Exit.then])
    refine bodyPost_ret (v := .tuple #[ilV ⟨10, 0, d.nm, [], []⟩, .bool ok]) ?_ rfl ⟨rfl, HW.out⟩
    exact ret_il rfl (g := w.heap.size) HS.out rfl rfl
  · have hpf : Lib.hasPrefix x.data.toList [94] = false := by simpa using hp
    rw [hpf] at c1
    rw [if_neg (by simp [hpf])]
    have c2 := fun W => Tryz.strings_CutPrefix x ⟨#[35]⟩ W
    rw [show (⟨#[35]⟩ : ByteArray).data.toList = [35] from rfl] at c2
    generalize Lib.trimPrefix x.data.toList [35] = y at *
    have ca := fun W => anchor_any ⟨y.toArray⟩ W
    rw [show (⟨y.toArray⟩ : ByteArray).data.toList = y from rfl] at ca
    generalize anchorL y = an at *
    generalize Lib.trimPrefix x.data.toList [94] = y' at *
    obtain ⟨k0, k1, k2, k3, k4, kf⟩ := HZ0.out.cells
    cases hh : Lib.hasPrefix x.data.toList [35] with
    | true =>
      rw [hh] at c2
      dsimp only
      go_enter Tryz.func80, Tryz.ntmps80
      go_wp2_with fail
      refine (c1 _).mono ?_
      rintro e w1 ⟨rfl, rfl⟩
      go_wp2_with fail
      refine (c2 _).mono ?_
      rintro e w1 ⟨rfl, rfl⟩
      go_wp2_with fail
      refine (ca _).mono ?_
      rintro e w2 ⟨rfl, b2⟩
      have hz2 := HZ0.out.below b2
      obtain ⟨k0, k1, k2, k3, k4, kf⟩ := hz2.cells
      have kf0 := kf 0
      have kf1 := kf 1
      have kf2 := kf 2
      have kf3 := kf 3
      have kf4 := kf 4
      have HS := Lib.hid (hz2.set ⟨11, 0, y, [], []⟩)
      have HW := Lib.hid (below_set5 (HB0.out.then b2) (Nat.le_refl _) (.int .i64 11) (.int .i64 0) (.string ⟨y.toArray⟩) (.string ⟨#[]⟩) (.string ⟨#[]⟩))
      clear ca c1 c2 b2 kf hz2
      go_wp2
      (try simp only [Exit.inBlock, Exit.then])
      refine bodyPost_ret (v := .tuple #[ilV ⟨11, 0, y, [], []⟩, .bool an]) ?_ rfl ⟨rfl, HW.out⟩
      exact ret_il rfl (g := w.heap.size) HS.out rfl rfl
    | false =>
      rw [hh] at c2
      dsimp only
      have HW := Lib.hid HB0.out
      go_enter Tryz.func80, Tryz.ntmps80
      go_wp2_with fail
      refine (c1 _).mono ?_
      rintro e w1 ⟨rfl, rfl⟩
      go_wp2_with fail
      refine (c2 _).mono ?_
      rintro e w1 ⟨rfl, rfl⟩
      have kf0 := kf 0
      have kf1 := kf 1
      have kf2 := kf 2
      have kf3 := kf 3
      have kf4 := kf 4
      clear c1 c2 ca
      go_wp2
      (try simp only [Exit.inBlock, Exit.then])
      refine bodyPost_ret (v := .tuple #[ilV ⟨11, 0, y, [], []⟩, .bool false]) ?_ rfl ⟨rfl, (Below.refl _ w).alloc (Nat.le_refl _) _⟩
      exact ret_il rfl (g := w.heap.size) (b := ⟨11, 0, y, [], []⟩) (heap_alloc_new w _) rfl rfl
/-- Where a pair of brackets leads, and how many bytes behind belong to it. -/
def ldR (D : List Dfn) (x behind : List UInt8) : Dfn × Nat × Bool :=
  if (insideL behind).2.2.2 then (⟨[], (insideL behind).1, (insideL behind).2.1, [], false⟩, (insideL behind).2.2.1, true)
  else if foldL (brL behind).1 = [] then ((findL D x false).1, (brL behind).2, (findL D x false).2) else ((findL D (brL behind).1 false).1, (brL behind).2, (findL D (brL behind).1 false).2)
theorem results_cell_tmp2 {fn : Func} {p u t : Tmp} {ty : TypeId} (h : fn.results = #[.cell p ty, .tmp u, .tmp t]) (tmps : Array Value) (P : Program) (w : World) :
    (results fn tmps).run P w =
      ((asAddr (tmps.getD p undef)).run P w).andThen fun a w₁ => ((loadVar ty a).run P w₁).andThen fun v w₂ => .ok (.tuple #[v, tmps.getD u undef, tmps.getD t undef]) w₂ := by
  simp only [results, h]
  simp [Sem.run_bind, Result.andThen]
theorem ret_df3 {fn : Func} {p u t : Tmp} (hres : fn.results = #[.cell p 153, .tmp u, .tmp t]) {W : World} {g : Nat} {b : Dfn} (h : DfAt W g b) {c c' : Value} {tmps : Array Value} (h2 : tmps.getD p undef = .pointer (some ⟨g, 0, none⟩)) (h3 : tmps.getD u undef = c) (h4 : tmps.getD t undef = c') :
    (results fn tmps).run Tryz.prog W = .ok (.tuple #[dfV b, c, c']) W := by
  obtain ⟨c0, c1, c2, c3, c4, _⟩ := h.cells
  rw [results_cell_tmp2 hres, h2, h3, h4]
  go_simp
  rfl
theorem natI_contains (al : List Nat) (k : Nat) : (natI al).contains (k : Int) = al.contains k := by
  rw [Bool.eq_iff_iff]
  simp only [List.contains_iff_mem]
  unfold natI
  constructor
  · intro h
    obtain ⟨a, ha, e⟩ := List.mem_map.1 h
    have : a = k := by omega
    rw [← this]; exact ha
  · intro h
    exact List.mem_map.2 ⟨k, h, rfl⟩
theorem search_any (al : List Nat) (v : Value) (Bh : Nat) (k : Nat) (w : World) (ho : w.ownsInts Bh 3 .i64 v (natI al)) (hs : al.Pairwise (· < ·)) (hlen : al.length ≤ 1000001) :
    Calls Tryz.prog 112 #[v, .int .i64 k] w fun e w' => (∃ i : Int, e = .returned (.tuple #[.int .i64 i, .bool (al.contains k)])) ∧ ∃ q, w' = w.drewN q := by
  have hnl : (natI al).length = al.length := by simp [natI]
  obtain ⟨⟨hx1, hx2⟩, hwf⟩ := id ho
  rcases hx2 with ⟨e, h0⟩ | ⟨g, cap, cur, e, hb, hg, hnc, hcm, hcs, ht⟩
  · subst e
    have hal : al = [] := List.eq_nil_of_length_eq_zero (by omega)
    subst hal
    refine (Tryz.slices_BinarySearch_int_empty none 0 k w).mono ?_
    rintro e w' ⟨rfl, rfl⟩
    exact ⟨⟨0, rfl⟩, 0, rfl⟩
  · subst e
    unfold maxLen at hcm
    by_cases hbig : (natI al).length < 4611686018427387904
    · have hpw : (natI al).Pairwise (· ≤ ·) := by
        unfold natI
        rw [List.pairwise_map]
        exact hs.imp fun h => by omega
      have hcl := ho.1.cells (g := g) rfl
      refine (Tryz.slices_BinarySearch_int g 0 (natI al).length cap (natI al) k w (Nat.le_refl _) hbig (fun j hj => by
        have h1 := hcl j (.int .i64 ((natI al).getD j 0)) (by rw [List.getElem?_map, List.getElem?_eq_getElem hj, List.getD_eq_getElem?_getD, List.getElem?_eq_getElem hj]; rfl)
        rw [addr_add] at h1
        exact h1) (by rw [List.take_length]; exact hpw)).mono ?_
      rintro e w' ⟨rfl, q, rfl⟩
      rw [List.take_length, natI_contains]
      exact ⟨⟨_, rfl⟩, q, rfl⟩
    · exact absurd (by rw [hnl]; omega) hbig
theorem shutL_len (l url ttl : List UInt8) (k : Nat) : (shutL l url ttl k).2.2.1 ≤ l.length := by
  unfold shutL
  split
  · next h =>
    show k + 1 ≤ l.length
    rcases Nat.lt_or_ge k l.length with h1 | h1
    · exact h1
    · rw [List.drop_eq_nil_of_le h1] at h; simp [Lib.hasPrefix] at h
  · exact Nat.zero_le _
theorem insideL_len (l : List UInt8) : (insideL l).2.2.1 ≤ l.length := by
  unfold insideL
  split
  · unfold insL2
    split <;> exact shutL_len _ _ _ _
  · exact Nat.zero_le _
theorem brL_len (l : List UInt8) : (brL l).1.length ≤ l.length ∧ (brL l).2 ≤ l.length + 2 := by
  have h1 : ((l.drop 1).takeWhile noBr).length ≤ l.length := by
    have := (List.takeWhile_prefix noBr (l := l.drop 1)).length_le
    rw [List.length_drop] at this
    omega
  unfold brL pairL
  split
  · next x hx =>
    split at hx
    · cases hx; exact ⟨h1, by omega⟩
    · cases hx
  · simp
set_option maxHeartbeats 8000000 in
theorem leads_any (h : RawSt w B pb s atv tbv hv iv ov nsh Z O) (ht : TbAt w tbv D) (hn : NamedIs w) (x : ByteArray) (hx : x.size ≤ 1000) (hD : D.length ≤ 1000) (hs : s.size ≤ 1000) (k : Nat) (hk : k ≤ s.size)
    {al : List Nat} {Bh : Nat} (ha : w.ownsInts Bh 3 .i64 hv (natI al)) (hal : ∀ p ∈ al, Hop s.data.toList p) (has : al.Pairwise (· < ·)) (hall : al.length ≤ 1000001) :
    Calls Tryz.prog 82 #[.pointer (some ⟨pb, 0, none⟩), .string x, .int .i64 k] w fun e w' =>
      e = .returned (.tuple #[dfV (ldR D x.data.toList (s.data.toList.drop k)).1, .int .i64 ((k : Int) + (ldR D x.data.toList (s.data.toList.drop k)).2.1), .bool (ldR D x.data.toList (s.data.toList.drop k)).2.2]) ∧ Below w.heap.size w w' := by
  have hsl := fun W => slice_lo s (k : Int) k rfl hk W
  have hX : s.extract k s.size = ⟨(s.data.toList.drop k).toArray⟩ := by
    rw [ext_bytes]
    rw [List.take_of_length_le (by simp)]
  rw [hX] at hsl
  have hdl : (s.data.toList.drop k).length ≤ 1000 := by simp; omega
  have hXs : (⟨(s.data.toList.drop k).toArray⟩ : ByteArray).size ≤ 1000 := by show (s.data.toList.drop k).length ≤ 1000; exact hdl
  have hho : al.contains k = true → (insideL (s.data.toList.drop k)).2.2.2 = false := fun e => hop_inside (hal k (by simpa using e))
  have b0 : Below w.heap.size w (w.alloc (.cells #[.string ⟨#[]⟩, .string ⟨#[]⟩, .string ⟨#[]⟩, .string ⟨#[]⟩, .bool false] 153)) := (Below.refl _ w).alloc (Nat.le_refl _) _
  have HW0 := Lib.hid b0
  have HZ0 := Lib.hid (dfAt_zero w)
  have h1 := h.below b0
  have HT1 := Lib.hid (ht.below b0)
  have hsz0 := alloc_size w (.cells #[.string ⟨#[]⟩, .string ⟨#[]⟩, .string ⟨#[]⟩, .string ⟨#[]⟩, .bool false] 153)
  have cs := search_any al hv Bh k (w.alloc (.cells #[.string ⟨#[]⟩, .string ⟨#[]⟩, .string ⟨#[]⟩, .string ⟨#[]⟩, .bool false] 153)) ⟨ownsRow_below ha.1 b0, ha.2⟩ has hall
  obtain ⟨p0, p1, p2, p3, p4, p5, p6, pf, hlt⟩ := h1.bcells
  have hn1 := NamedIs.below hn b0
  have HN1 := Lib.hid hn1
  have HLT := Lib.hid hlt
  unfold ldR
  have hbl := brL_len (s.data.toList.drop k)
  have cb := fun W => bracket_any ⟨(s.data.toList.drop k).toArray⟩ W (by omega)
  have ci := fun W hW => inside_any ⟨(s.data.toList.drop k).toArray⟩ W hW (by omega)
  rw [show (⟨(s.data.toList.drop k).toArray⟩ : ByteArray).data.toList = s.data.toList.drop k from rfl] at cb ci
  clear h h1 ht hn b0 hX p1 p4 p5 p6 pf hlt hn1 ha hal
  generalize s.data.toList.drop k = X at *
  generalize brL X = br at *
  obtain ⟨y, n⟩ := br
  dsimp only at cb hbl ⊢
  have cfo := fun W => fold_any ⟨y.toArray⟩ W (by show y.length ≤ _; omega)
  rw [foldB_segs, show (⟨y.toArray⟩ : ByteArray).data.toList = y from rfl] at cfo
  have hyl : y.length ≤ 1000 := by omega
  unfold ttib at ci
  have hinl : (insideL X).2.2.1 ≤ 2000 := by have := insideL_len X; omega
  generalize insideL X = r at *
  obtain ⟨ru, rt, rn, ro⟩ := r
  dsimp only at ci hho hinl ⊢
  have HNK := Lib.hid hall
  have hrn : rn ≤ 2000 := hinl
  cases hcon : al.contains k with
  | true =>
    rw [hcon] at cs hho
    have hro : ro = false := hho rfl
    subst hro
    rw [if_neg (by simp)]
    clear hho ci
    by_cases hfe : foldL y = []
    · rw [if_pos hfe]
      have hfe2 : (foldL y).isEmpty = true := by rw [hfe]; rfl
      have cf := fun W hT => tbFind_any (w := W) (tbv := tbv) (D := D) hT x false hx hD
      generalize findL D x.data.toList false = f at *
      obtain ⟨d, ok⟩ := f
      unfold dfTib dfV at cf
      dsimp only at cf ⊢
      go_enter Tryz.func82, Tryz.ntmps82
      go_wp2_with fail
      refine cs.mono ?_
      rintro e w2 ⟨⟨i, rfl⟩, q, rfl⟩
      have HB1 := Lib.hid (below_drewN' (Below.refl (w.alloc (.cells #[.string ⟨#[]⟩, .string ⟨#[]⟩, .string ⟨#[]⟩, .string ⟨#[]⟩, .bool false] 153)).heap.size (w.alloc (.cells #[.string ⟨#[]⟩, .string ⟨#[]⟩, .string ⟨#[]⟩, .string ⟨#[]⟩, .bool false] 153))) q)
      clear cs
      go_wp2_with fail
      refine (cb _).mono ?_
      rintro e w3 ⟨rfl, b3⟩
      have HB3 := Lib.hid (HB1.out.then b3)
      clear b3
      go_wp2_with fail
      refine (cfo _).mono ?_
      rintro e w4 ⟨rfl, b4⟩
      have HB4 := Lib.hid (HB3.out.then b4)
      clear b4
      have p2b := (HB4.out.cell (p := ⟨pb, 2, none⟩) HLT.out).trans p2
      have cf2 := cf _ (HT1.out.below HB4.out)
      clear cf
      go_wp2_with fail
      refine cf2.mono ?_
      rintro e w5 ⟨rfl, b5⟩
      have bD := (Below.refl _ w5).alloc (Nat.le_refl _) (.cells #[.string ⟨d.nm.toArray⟩, .string ⟨d.url.toArray⟩, .string ⟨d.ttl.toArray⟩, .string ⟨d.txt.toArray⟩, .bool d.nt] 153)
      have HB5 := Lib.hid (HB4.out.then b5)
      have hz5 := (HZ0.out.below (HB5.out.then bD))
      obtain ⟨k0, k1, k2, k3, k4, kf⟩ := hz5.cells
      have kf0 := kf 0
      have kf1 := kf 1
      have kf2 := kf 2
      have kf3 := kf 3
      have kf4 := kf 4
      unfold noDfn at k0 k1 k2 k3 k4
      dsimp only at k0 k1 k2 k3 k4
      have HS := Lib.hid (hz5.set d)
      have HW := Lib.hid (below_set5 ((HW0.out.trans (HB5.out.mono HW0.out.size)).then bD) (Nat.le_refl _) (.string ⟨d.nm.toArray⟩) (.string ⟨d.url.toArray⟩) (.string ⟨d.ttl.toArray⟩) (.string ⟨d.txt.toArray⟩) (.bool d.nt))
      clear cf2 b5 bD kf hz5
      go_wp2
      (try simp only [Exit.inBlock, Exit.then])
      refine bodyPost_ret (v := .tuple #[dfV d, .int .i64 ((k : Int) + (n : Nat)), .bool ok]) ?_ rfl ⟨rfl, HW.out⟩
      exact ret_df3 rfl (g := w.heap.size) HS.out rfl rfl rfl
    · rw [if_neg hfe]
      have hfe2 : (foldL y).isEmpty = false := by cases h : foldL y with | nil => exact absurd h hfe | cons a b => rfl
      have cf := fun W hT => tbFind_any (w := W) (tbv := tbv) (D := D) hT ⟨y.toArray⟩ false (by show y.length ≤ 1000; exact hyl) hD
      rw [show (⟨y.toArray⟩ : ByteArray).data.toList = y from rfl] at cf
      generalize findL D y false = f at *
      obtain ⟨d, ok⟩ := f
      unfold dfTib dfV at cf
      dsimp only at cf ⊢
      go_enter Tryz.func82, Tryz.ntmps82
      go_wp2_with fail
      refine cs.mono ?_
      rintro e w2 ⟨⟨i, rfl⟩, q, rfl⟩
      have HB1 := Lib.hid (below_drewN' (Below.refl (w.alloc (.cells #[.string ⟨#[]⟩, .string ⟨#[]⟩, .string ⟨#[]⟩, .string ⟨#[]⟩, .bool false] 153)).heap.size (w.alloc (.cells #[.string ⟨#[]⟩, .string ⟨#[]⟩, .string ⟨#[]⟩, .string ⟨#[]⟩, .bool false] 153))) q)
      clear cs
      go_wp2_with fail
      refine (cb _).mono ?_
      rintro e w3 ⟨rfl, b3⟩
      have HB3 := Lib.hid (HB1.out.then b3)
      clear b3
      go_wp2_with fail
      refine (cfo _).mono ?_
      rintro e w4 ⟨rfl, b4⟩
      have HB4 := Lib.hid (HB3.out.then b4)
      clear b4
      have p2b := (HB4.out.cell (p := ⟨pb, 2, none⟩) HLT.out).trans p2
      have cf2 := cf _ (HT1.out.below HB4.out)
      clear cf
      go_wp2_with fail
      refine cf2.mono ?_
      rintro e w5 ⟨rfl, b5⟩
      have bD := (Below.refl _ w5).alloc (Nat.le_refl _) (.cells #[.string ⟨d.nm.toArray⟩, .string ⟨d.url.toArray⟩, .string ⟨d.ttl.toArray⟩, .string ⟨d.txt.toArray⟩, .bool d.nt] 153)
      have HB5 := Lib.hid (HB4.out.then b5)
      have hz5 := (HZ0.out.below (HB5.out.then bD))
      obtain ⟨k0, k1, k2, k3, k4, kf⟩ := hz5.cells
      have kf0 := kf 0
      have kf1 := kf 1
      have kf2 := kf 2
      have kf3 := kf 3
      have kf4 := kf 4
      unfold noDfn at k0 k1 k2 k3 k4
      dsimp only at k0 k1 k2 k3 k4
      have HS := Lib.hid (hz5.set d)
      have HW := Lib.hid (below_set5 ((HW0.out.trans (HB5.out.mono HW0.out.size)).then bD) (Nat.le_refl _) (.string ⟨d.nm.toArray⟩) (.string ⟨d.url.toArray⟩) (.string ⟨d.ttl.toArray⟩) (.string ⟨d.txt.toArray⟩) (.bool d.nt))
      clear cf2 b5 bD kf hz5
      go_wp2
      (try simp only [Exit.inBlock, Exit.then])
      refine bodyPost_ret (v := .tuple #[dfV d, .int .i64 ((k : Int) + (n : Nat)), .bool ok]) ?_ rfl ⟨rfl, HW.out⟩
      exact ret_df3 rfl (g := w.heap.size) HS.out rfl rfl rfl
  | false =>
    rw [hcon] at cs
    clear hho
    cases ro with
    | true =>
      rw [if_pos rfl]
      dsimp only
      go_enter Tryz.func82, Tryz.ntmps82
      go_wp2_with fail
      refine cs.mono ?_
      rintro e w2 ⟨⟨i, rfl⟩, q, rfl⟩
      have HB1 := Lib.hid (below_drewN' (Below.refl (w.alloc (.cells #[.string ⟨#[]⟩, .string ⟨#[]⟩, .string ⟨#[]⟩, .string ⟨#[]⟩, .bool false] 153)).heap.size (w.alloc (.cells #[.string ⟨#[]⟩, .string ⟨#[]⟩, .string ⟨#[]⟩, .string ⟨#[]⟩, .bool false] 153))) q)
      clear cs
      have ci2 := ci _ (HN1.out.below HB1.out)
      clear ci
      go_wp2_with fail
      refine ci2.mono ?_
      rintro e w2b ⟨rfl, b2b⟩
      have HB2 := Lib.hid (HB1.out.then b2b)
      clear ci2 b2b
      have hz5 := HZ0.out.below HB2.out
      obtain ⟨k0, k1, k2, k3, k4, kf⟩ := hz5.cells
      have kf0 := kf 0
      have kf1 := kf 1
      have kf2 := kf 2
      have kf3 := kf 3
      have kf4 := kf 4
      unfold noDfn at k0 k1 k2 k3 k4
      dsimp only at k0 k1 k2 k3 k4
      have HS := Lib.hid (hz5.set ⟨[], ru, rt, [], false⟩)
      have HW := Lib.hid (below_set5 (HW0.out.trans (HB2.out.mono HW0.out.size)) (Nat.le_refl _) (.string ⟨#[]⟩) (.string ⟨ru.toArray⟩) (.string ⟨rt.toArray⟩) (.string ⟨#[]⟩) (.bool false))
      clear kf hz5 cb cfo
      go_wp2
      (try simp only [Exit.inBlock, Exit.then])
      refine bodyPost_ret (v := .tuple #[dfV ⟨[], ru, rt, [], false⟩, .int .i64 ((k : Int) + (rn : Nat)), .bool true]) ?_ rfl ⟨rfl, HW.out⟩
      exact ret_df3 rfl (g := w.heap.size) HS.out rfl rfl rfl
    | false =>
      rw [if_neg (by simp)]
      by_cases hfe : foldL y = []
      · rw [if_pos hfe]
        have hfe2 : (foldL y).isEmpty = true := by rw [hfe]; rfl
        have cf := fun W hT => tbFind_any (w := W) (tbv := tbv) (D := D) hT x false hx hD
        generalize findL D x.data.toList false = f at *
        obtain ⟨d, ok⟩ := f
        unfold dfTib dfV at cf
        dsimp only at cf ⊢
        go_enter Tryz.func82, Tryz.ntmps82
        go_wp2_with fail
        refine cs.mono ?_
        rintro e w2 ⟨⟨i, rfl⟩, q, rfl⟩
        have HB1 := Lib.hid (below_drewN' (Below.refl (w.alloc (.cells #[.string ⟨#[]⟩, .string ⟨#[]⟩, .string ⟨#[]⟩, .string ⟨#[]⟩, .bool false] 153)).heap.size (w.alloc (.cells #[.string ⟨#[]⟩, .string ⟨#[]⟩, .string ⟨#[]⟩, .string ⟨#[]⟩, .bool false] 153))) q)
        clear cs
        have ci2 := ci _ (HN1.out.below HB1.out)
        clear ci
        go_wp2_with fail
        refine ci2.mono ?_
        rintro e w2b ⟨rfl, b2b⟩
        have HB2 := Lib.hid (HB1.out.then b2b)
        clear ci2 b2b
        go_wp2_with fail
        refine (cb _).mono ?_
        rintro e w3 ⟨rfl, b3⟩
        have HB3 := Lib.hid (HB2.out.then b3)
        clear b3
        go_wp2_with fail
        refine (cfo _).mono ?_
        rintro e w4 ⟨rfl, b4⟩
        have HB4 := Lib.hid (HB3.out.then b4)
        clear b4
        have p2b := (HB4.out.cell (p := ⟨pb, 2, none⟩) HLT.out).trans p2
        have cf2 := cf _ (HT1.out.below HB4.out)
        clear cf
        go_wp2_with fail
        refine cf2.mono ?_
        rintro e w5 ⟨rfl, b5⟩
        have bD := (Below.refl _ w5).alloc (Nat.le_refl _) (.cells #[.string ⟨d.nm.toArray⟩, .string ⟨d.url.toArray⟩, .string ⟨d.ttl.toArray⟩, .string ⟨d.txt.toArray⟩, .bool d.nt] 153)
        have HB5 := Lib.hid (HB4.out.then b5)
        have hz5 := (HZ0.out.below (HB5.out.then bD))
        obtain ⟨k0, k1, k2, k3, k4, kf⟩ := hz5.cells
        have kf0 := kf 0
        have kf1 := kf 1
        have kf2 := kf 2
        have kf3 := kf 3
        have kf4 := kf 4
        unfold noDfn at k0 k1 k2 k3 k4
        dsimp only at k0 k1 k2 k3 k4
        have HS := Lib.hid (hz5.set d)
        have HW := Lib.hid (below_set5 ((HW0.out.trans (HB5.out.mono HW0.out.size)).then bD) (Nat.le_refl _) (.string ⟨d.nm.toArray⟩) (.string ⟨d.url.toArray⟩) (.string ⟨d.ttl.toArray⟩) (.string ⟨d.txt.toArray⟩) (.bool d.nt))
        clear cf2 b5 bD kf hz5
        go_wp2
        (try simp only [Exit.inBlock, Exit.then])
        refine bodyPost_ret (v := .tuple #[dfV d, .int .i64 ((k : Int) + (n : Nat)), .bool ok]) ?_ rfl ⟨rfl, HW.out⟩
        exact ret_df3 rfl (g := w.heap.size) HS.out rfl rfl rfl
      · rw [if_neg hfe]
        have hfe2 : (foldL y).isEmpty = false := by cases h : foldL y with | nil => exact absurd h hfe | cons a b => rfl
        have cf := fun W hT => tbFind_any (w := W) (tbv := tbv) (D := D) hT ⟨y.toArray⟩ false (by show y.length ≤ 1000; exact hyl) hD
        rw [show (⟨y.toArray⟩ : ByteArray).data.toList = y from rfl] at cf
        generalize findL D y false = f at *
        obtain ⟨d, ok⟩ := f
        unfold dfTib dfV at cf
        dsimp only at cf ⊢
        go_enter Tryz.func82, Tryz.ntmps82
        go_wp2_with fail
        refine cs.mono ?_
        rintro e w2 ⟨⟨i, rfl⟩, q, rfl⟩
        have HB1 := Lib.hid (below_drewN' (Below.refl (w.alloc (.cells #[.string ⟨#[]⟩, .string ⟨#[]⟩, .string ⟨#[]⟩, .string ⟨#[]⟩, .bool false] 153)).heap.size (w.alloc (.cells #[.string ⟨#[]⟩, .string ⟨#[]⟩, .string ⟨#[]⟩, .string ⟨#[]⟩, .bool false] 153))) q)
        clear cs
        have ci2 := ci _ (HN1.out.below HB1.out)
        clear ci
        go_wp2_with fail
        refine ci2.mono ?_
        rintro e w2b ⟨rfl, b2b⟩
        have HB2 := Lib.hid (HB1.out.then b2b)
        clear ci2 b2b
        go_wp2_with fail
        refine (cb _).mono ?_
        rintro e w3 ⟨rfl, b3⟩
        have HB3 := Lib.hid (HB2.out.then b3)
        clear b3
        go_wp2_with fail
        refine (cfo _).mono ?_
        rintro e w4 ⟨rfl, b4⟩
        have HB4 := Lib.hid (HB3.out.then b4)
        clear b4
        have p2b := (HB4.out.cell (p := ⟨pb, 2, none⟩) HLT.out).trans p2
        have cf2 := cf _ (HT1.out.below HB4.out)
        clear cf
        go_wp2_with fail
        refine cf2.mono ?_
        rintro e w5 ⟨rfl, b5⟩
        have bD := (Below.refl _ w5).alloc (Nat.le_refl _) (.cells #[.string ⟨d.nm.toArray⟩, .string ⟨d.url.toArray⟩, .string ⟨d.ttl.toArray⟩, .string ⟨d.txt.toArray⟩, .bool d.nt] 153)
        have HB5 := Lib.hid (HB4.out.then b5)
        have hz5 := (HZ0.out.below (HB5.out.then bD))
        obtain ⟨k0, k1, k2, k3, k4, kf⟩ := hz5.cells
        have kf0 := kf 0
        have kf1 := kf 1
        have kf2 := kf 2
        have kf3 := kf 3
        have kf4 := kf 4
        unfold noDfn at k0 k1 k2 k3 k4
        dsimp only at k0 k1 k2 k3 k4
        have HS := Lib.hid (hz5.set d)
        have HW := Lib.hid (below_set5 ((HW0.out.trans (HB5.out.mono HW0.out.size)).then bD) (Nat.le_refl _) (.string ⟨d.nm.toArray⟩) (.string ⟨d.url.toArray⟩) (.string ⟨d.ttl.toArray⟩) (.string ⟨d.txt.toArray⟩) (.bool d.nt))
        clear cf2 b5 bD kf hz5
        go_wp2
        (try simp only [Exit.inBlock, Exit.then])
        refine bodyPost_ret (v := .tuple #[dfV d, .int .i64 ((k : Int) + (n : Nat)), .bool ok]) ?_ rfl ⟨rfl, HW.out⟩
        exact ret_df3 rfl (g := w.heap.size) HS.out rfl rfl rfl
end
end Go.Proofs.YteihmgcphbijhaaGreatDoor

namespace Go.Proofs.YteihmgcphbijhaaGreatDoor
open Go.RowKit Go.Maps
set_option linter.unusedSimpArgs false
set_option linter.unusedVariables false
set_option maxRecDepth 100000
/-- Items from one on. -/
theorem itms_drop {w : World} {A : Option Addr} {cap : Nat} {X : List (Itm × Value)} (h : EltsAt w itC 5 A cap X) {k : Nat} (hk : k ≤ X.length) : EltsAt w itC 5 (dropI A cap k) (cap - k) (X.drop k) := by
  have h1 := h.le
  have h2 := h.cap
  refine ⟨by rw [List.length_drop]; omega, by omega, ?_⟩
  by_cases h0 : X.drop k = []
  · exact Or.inl h0
  · have hlt : k < X.length := by
      rw [List.drop_eq_nil_iff] at h0
      omega
    obtain ⟨b, off, e, hb, _⟩ := h.at hlt
    subst e
    refine Or.inr ⟨b, off + k * 5, ?_, hb, fun i hi j u hu => ?_⟩
    · unfold dropI
      rw [if_neg (by omega), Option.map_some, addr_add]
    · rw [List.length_drop] at hi
      rw [List.getElem_drop] at hu
      obtain ⟨b', off', e', _, hc⟩ := h.at (k := k + i) (by omega)
      cases e'
      have := hc j u hu
      rw [show off + k * 5 + i * 5 + j = off + (k + i) * 5 + j from by rw [Nat.add_mul]; omega]
      exact this
theorem mslice_low (A : Option Addr) (len cap : Nat) (i : Int) (k : Nat) (e : i = k) (h : k ≤ len) (W : World) : (Instr.slice 45 (.slice A len cap) (some (.int .i64 i)) none none).run Tryz.prog W = .ok (.slice (dropI A cap k) (len - k) (cap - k)) W := by
  subst e
  rw [run_slice_l W 45 A len cap (by kernel_rfl) .i64 (k : Int) (by omega) (by omega)]
  rw [show Tryz.prog.elem 45 = 75 from elem_itms]
  go_simp
  simp [sliced, dropI]
section
variable {w : World} {B pb : Nat} {s : ByteArray} {atv tbv hv iv ov : Value} {nsh : Nat} {Z : List (Itm × Value)} {O : List Opn} {D : List Dfn}
/-- What is asked of items that are to be paired. -/
structure ZOk (Z : List (Itm × Value)) : Prop where
  len : Z.length ≤ 1000
  sg : ∀ x ∈ Z, x.1.n = x.1.ff ∧ x.1.n ≤ 1000
  wd : WrapD (allI (Z.map Prod.fst))
  pot : potI (Z.map Prod.fst) ≤ 1000000
theorem ZOk.drop (h : ZOk Z) (k : Nat) : ZOk (Z.drop k) := by
  have e : Z.map Prod.fst = (Z.take k).map Prod.fst ++ (Z.drop k).map Prod.fst := by rw [← List.map_append, List.take_append_drop]
  have hw := h.wd
  have hp := h.pot
  rw [e, allI_append, wrapD_append] at hw
  rw [e, potI_append] at hp
  exact ⟨by have := h.len; rw [List.length_drop]; omega, fun x hx => h.sg x (List.mem_of_mem_drop hx), hw.2, by omega⟩
theorem sumN_le2 : ∀ X : List (Itm × Value), (∀ x ∈ X, x.1.ff ≤ 1000) → sumN X ≤ 1000 * X.length
  | [], _ => by simp [sumN]
  | x :: X, h => by
    have h1 := sumN_le2 X fun y hy => h y (List.mem_cons_of_mem _ hy)
    have h2 := h x (List.mem_cons_self ..)
    rw [sumN, List.length_cons]
    split <;> omega
theorem nd_elts {v : Value} {nd : List Iln} (h : NdAt w v nd) : ∃ Av cv, v = Value.slice Av nd.length cv ∧ InlsAt w Av cv nd := by
  obtain ⟨Av, cv, e, hi, _⟩ := h
  exact ⟨Av, cv, e, hi⟩
/-- Items, paired. -/
theorem zgroup_any {A : Option Addr} {cap : Nat} (hz : ZOk Z) (hrow : EltsAt w itC 5 A cap Z) (hn : ∀ x ∈ Z, NdAt w x.2 x.1.nd) :
    Calls Tryz.prog 15 #[.slice A Z.length cap] w fun e w' => (∃ v, e = .returned v ∧ NdAt w' v (groupI (Z.map Prod.fst))) ∧ Below w.heap.size w w' := by
  refine (group_any Z A cap w hrow (fun x hx => nd_elts (hn x hx)) (fun x hx => by have := hz.sg x hx; exact ⟨this.1, by omega⟩) (by
    have := sumN_le2 Z (fun x hx => by have := hz.sg x hx; omega)
    have := hz.len
    omega) hz.len hz.wd (by have := hz.pot; omega)).mono ?_
  rintro e w' ⟨⟨v, rfl, ho⟩, hb⟩
  exact ⟨⟨v, rfl, NdAt.own ho⟩, hb⟩
theorem results_none {fn : Func} (h : fn.results = #[]) (tmps : Array Value) (P : Program) (w : World) : (results fn tmps).run P w = .ok (.tuple #[]) w := by
  simp [results, h]
set_option maxHeartbeats 8000000 in
theorem lead_any (h : RawSt w B pb s atv tbv hv iv ov nsh Z O) (hz : ZOk Z) (o : Opn) (hi : o.item < Z.length) (d : Dfn) (hO : O.length ≤ 1000) :
    Calls Tryz.prog 83 #[.pointer (some ⟨pb, 0, none⟩), opV o, dfV d] w fun e w' => e = .returned (.tuple #[]) ∧
      (∃ iv' v' nd, (nd = if o.img then [⟨6, 0, textI (groupI ((Z.drop (o.item + 1)).map Prod.fst)), d.url, d.ttl⟩] else ⟨5, 0, [], d.url, d.ttl⟩ :: deepI (groupI ((Z.drop (o.item + 1)).map Prod.fst))) ∧
        RawSt w' B pb s atv tbv hv iv' ov (if o.img then nsh else O.length) (Z.take o.item ++ [(ndI nd, v')]) O) ∧ KI B w w' := by
  obtain ⟨img, it, po⟩ := o
  obtain ⟨dn, du, dt, dx, db⟩ := d
  dsimp only at hi ⊢
  obtain ⟨G, hGG⟩ : ∃ G, groupI ((Z.drop (it + 1)).map Prod.fst) = G := ⟨_, rfl⟩
  rw [hGG]
  have HGG := Lib.hid hGG
  clear hGG
  unfold opV dfV
  dsimp only
  obtain ⟨Ai, ci, rfl, hci⟩ := own_form h.row
  have bA := (Below.refl _ w).alloc (Nat.le_refl _) (.cells #[.string ⟨(markOf img).toArray⟩, .int .i64 it, .int .i64 po] 103)
  have bB := bA.alloc bA.size (.cells #[.string ⟨dn.toArray⟩, .string ⟨du.toArray⟩, .string ⟨dt.toArray⟩, .string ⟨dx.toArray⟩, .bool db] 153)
  have h1 := h.below bB
  obtain ⟨c0, c1, c2, c3, c4, c5, c6, cf, hlt⟩ := h1.bcells
  have hsl := fun W => mslice_low Ai Z.length ci ((it : Int) + 1) (it + 1) (by omega) (by omega) W
  have hg1 : ((w.alloc (.cells #[.string ⟨(markOf img).toArray⟩, .int .i64 it, .int .i64 po] 103)).alloc (.cells #[.string ⟨dn.toArray⟩, .string ⟨du.toArray⟩, .string ⟨dt.toArray⟩, .string ⟨dx.toArray⟩, .bool db] 153)).heap[w.heap.size]? = some (.cells #[.string ⟨(markOf img).toArray⟩, .int .i64 it, .int .i64 po] 103 (0, 0)) := (Below.heap_alloc _ _ _ (by simp)).trans (heap_alloc_new w _)
  have hg2 : DfAt ((w.alloc (.cells #[.string ⟨(markOf img).toArray⟩, .int .i64 it, .int .i64 po] 103)).alloc (.cells #[.string ⟨dn.toArray⟩, .string ⟨du.toArray⟩, .string ⟨dt.toArray⟩, .string ⟨dx.toArray⟩, .bool db] 153)) (w.heap.size + 1) ⟨dn, du, dt, dx, db⟩ := heap_alloc2_new _ _ _
  obtain ⟨A', c', e', hE⟩ := EltsAt.own itC_length h1.row
  injection e' with e1 _ e3
  subst e1 e3
  have hdr := itms_drop hE (k := it + 1) (by omega)
  have hki := KI.of (B := B) bB h.baseLe
  have HZ := Lib.hid hz
  generalize hw1 : (w.alloc (.cells #[.string ⟨(markOf img).toArray⟩, .int .i64 it, .int .i64 po] 103)).alloc (.cells #[.string ⟨dn.toArray⟩, .string ⟨du.toArray⟩, .string ⟨dt.toArray⟩, .string ⟨dx.toArray⟩, .bool db] 153) = w1 at *
  have hcells : w1.cell? ⟨w.heap.size, 0, none⟩ = some (.string ⟨(markOf img).toArray⟩) ∧ w1.cell? ⟨w.heap.size, 1, none⟩ = some (.int .i64 it) ∧ w1.cell? ⟨w.heap.size, 2, none⟩ = some (.int .i64 po) :=
    ⟨(cell_of_row _ _ 0 _ _ (0, 0) hg1).trans rfl, (cell_of_row _ _ 1 _ _ (0, 0) hg1).trans rfl, (cell_of_row _ _ 2 _ _ (0, 0) hg1).trans rfl⟩
  obtain ⟨x0, x1, x2⟩ := hcells
  have cg := fun W (hb : Below w1.heap.size w1 W) => zgroup_any (w := W) (hz.drop (it + 1)) (EltsAt.below hdr hb) (fun x hx => (h1.nds x (List.mem_of_mem_drop hx)).keep (KI.of hb (Nat.le_refl _)))
  rw [List.length_drop, HGG.out] at cg
  have HH := Lib.hid h1
  have HG1 := Lib.hid hg1
  have HG2 := Lib.hid hg2
  have HK := Lib.hid hki
  have hzl := hz.len
  clear hz h h1 hg1 hg2 hki hdr hE bA bB c0 c1 c2 c3 c5 cf
  have hwr : IntKind.i64.wrap ((it : Int) + 1) = (it : Int) + 1 := IntWalk.i64_in _ (by omega)
  go_enter Tryz.func83, Tryz.ntmps83
  go_wp2_with fail
  go_still_tail 8, (by kernel_rfl)
  change wpList _ _ _ _ _ w1.drew
  go_wp2_with fail
  refine (cg _ (Below.refl _ _).drew).mono ?_
  rintro e w2 ⟨⟨v2, rfl, hv2⟩, b2⟩
  obtain ⟨A2, c2, rfl, hi2⟩ := nd_elts hv2
  have b2' : Below w1.heap.size w1 w2 := ((Below.refl w1.heap.size w1).drew).then b2
  have hgl : w.heap.size + 1 < w1.heap.size := by rw [← hw1]; simp
  have hR2 := HH.out.below b2'
  have HR2 := Lib.hid hR2
  have HK2 := Lib.hid (HK.out.thenB b2' HH.out.baseLe)
  have HV2 := Lib.hid hv2
  have HI2 := Lib.hid hi2
  obtain ⟨f0, f1, f2, f3, f4, _⟩ := HG2.out.cells
  dsimp only at f1 f2
  have hcell : ∀ W, Below w2.heap.size w2 W → W.cell? ⟨w.heap.size, 0, none⟩ = some (.string ⟨(markOf img).toArray⟩) ∧ W.cell? ⟨w.heap.size, 1, none⟩ = some (.int .i64 it) ∧ W.cell? ⟨w.heap.size, 2, none⟩ = some (.int .i64 po) ∧ W.cell? ⟨w.heap.size + 1, 1, none⟩ = some (.string ⟨du.toArray⟩) ∧ W.cell? ⟨w.heap.size + 1, 2, none⟩ = some (.string ⟨dt.toArray⟩) := by
    intro W hb
    have hb1 : Below w1.heap.size w1 W := b2'.then hb
    exact ⟨(hb1.cell (p := ⟨w.heap.size, 0, none⟩) (by show w.heap.size < _; omega)).trans x0, (hb1.cell (p := ⟨w.heap.size, 1, none⟩) (by show w.heap.size < _; omega)).trans x1, (hb1.cell (p := ⟨w.heap.size, 2, none⟩) (by show w.heap.size < _; omega)).trans x2,
      (hb1.cell (p := ⟨w.heap.size + 1, 1, none⟩) hgl).trans f1, (hb1.cell (p := ⟨w.heap.size + 1, 2, none⟩) hgl).trans f2⟩
  have HC := Lib.hid hcell
  obtain ⟨y0, y1, y2, y3, y4⟩ := hcell w2 (Below.refl _ _)
  have hgrp := group_pot ((Z.drop (it + 1)).map Prod.fst)
  have hpd := (HZ.out.drop (it + 1)).pot
  unfold sizI at hgrp
  rw [HGG.out] at hgrp
  have hGl : G.length ≤ 1000000 := by omega
  have hGt : (textI G).length ≤ 1000000 := by omega
  clear hgrp hpd hR2 hv2 hi2 b2 cg hwr hsl x0 x1 x2 f0 f1 f2 f3 f4 HG1 HG2 c4 hcell hlt
  cases img with
  | true =>
    rw [show markOf true = [33, 91] from rfl] at *
    go_wp2_with fail
    have HS0 := Lib.hid (HC.out w2.drew (Below.refl _ _).drew)
    refine wp_region_N (fun W => W.cell? ⟨w.heap.size, 0, none⟩ = some (.string ⟨#[33, 91]⟩) ∧ W.cell? ⟨w.heap.size, 1, none⟩ = some (.int .i64 it) ∧ W.cell? ⟨w.heap.size, 2, none⟩ = some (.int .i64 po) ∧ W.cell? ⟨w.heap.size + 1, 1, none⟩ = some (.string ⟨du.toArray⟩) ∧ W.cell? ⟨w.heap.size + 1, 2, none⟩ = some (.string ⟨dt.toArray⟩)) (fun n => decide (n < 10)) (by kernel_rfl) ?_
    have HS := HS0
    have ct := text_inl A2 c2 G w2.drew (EltsAt.below HI2.out (Below.refl _ w2).drew) (by omega)
    have hR3 := Lib.hid (HR2.out.below (Below.refl _ w2).drew)
    have hK3 := Lib.hid (HK2.out.thenB (Below.refl _ w2).drew HR2.out.baseLe)
    have hsd : w2.heap.size = w2.drew.heap.size := rfl
    generalize hwd : w2.drew = wd at *
    refine wpAnyN_take_at 0 19 (v := ?_) rfl rfl (by kernel_rfl) (by kernel_rfl) (by kernel_rfl) (by kernel_rfl) (by kernel_rfl) (fun _ _ _ h => h) (by rfl) ?_ HS.out ?_
    rotate_left
    · intro W hSw; (try dsimp only at hSw); obtain ⟨q0, q1, q2, q3, q4⟩ := hSw; go_simp; (try with_reducible rfl)
    simp only [Act.put, List.setIfInBounds_toArray, List.set_cons_zero, List.set_cons_succ]
    refine wpAnyN_take_at 1 20 (v := ?_) rfl rfl (by kernel_rfl) (by kernel_rfl) (by kernel_rfl) (by kernel_rfl) (by kernel_rfl) (fun _ _ _ h => h) (by rfl) ?_ HS.out ?_
    rotate_left
    · intro W hSw; (try dsimp only at hSw); obtain ⟨q0, q1, q2, q3, q4⟩ := hSw; go_simp; (try with_reducible rfl)
    simp only [Act.put, List.setIfInBounds_toArray, List.set_cons_zero, List.set_cons_succ]
    refine wpAnyN_take_at 2 21 (v := ?_) rfl rfl (by kernel_rfl) (by kernel_rfl) (by kernel_rfl) (by kernel_rfl) (by kernel_rfl) (fun _ _ _ h => h) (by rfl) ?_ HS.out ?_
    rotate_left
    · intro W hSw; (try dsimp only at hSw); obtain ⟨q0, q1, q2, q3, q4⟩ := hSw; go_simp; (try with_reducible rfl)
    simp only [Act.put, List.setIfInBounds_toArray, List.set_cons_zero, List.set_cons_succ]
    refine wpAnyN_take_at 4 23 (v := ?_) rfl rfl (by kernel_rfl) (by kernel_rfl) (by kernel_rfl) (by kernel_rfl) (by kernel_rfl) (fun _ _ _ h => h) (by rfl) ?_ HS.out ?_
    rotate_left
    · intro W hSw; (try dsimp only at hSw); obtain ⟨q0, q1, q2, q3, q4⟩ := hSw; go_simp; (try with_reducible rfl)
    simp only [Act.put, List.setIfInBounds_toArray, List.set_cons_zero, List.set_cons_succ]
    refine wpAnyN_take_at 5 24 (v := ?_) rfl rfl (by kernel_rfl) (by kernel_rfl) (by kernel_rfl) (by kernel_rfl) (by kernel_rfl) (fun _ _ _ h => h) (by rfl) ?_ HS.out ?_
    rotate_left
    · intro W hSw; (try dsimp only at hSw); obtain ⟨q0, q1, q2, q3, q4⟩ := hSw; go_simp; (try with_reducible rfl)
    simp only [Act.put, List.setIfInBounds_toArray, List.set_cons_zero, List.set_cons_succ]
    refine wpAnyN_take_at 6 25 (v := ?_) rfl rfl (by kernel_rfl) (by kernel_rfl) (by kernel_rfl) (by kernel_rfl) (by kernel_rfl) (fun _ _ _ h => h) (by rfl) ?_ HS.out ?_
    rotate_left
    · intro W hSw; (try dsimp only at hSw); obtain ⟨q0, q1, q2, q3, q4⟩ := hSw; go_simp; (try with_reducible rfl)
    simp only [Act.put, List.setIfInBounds_toArray, List.set_cons_zero, List.set_cons_succ]
    refine wpAnyN_take_at 7 26 (v := ?_) rfl rfl (by kernel_rfl) (by kernel_rfl) (by kernel_rfl) (by kernel_rfl) (by kernel_rfl) (fun _ _ _ h => h) (by rfl) ?_ HS.out ?_
    rotate_left
    · intro W hSw; (try dsimp only at hSw); obtain ⟨q0, q1, q2, q3, q4⟩ := hSw; go_simp; (try with_reducible rfl)
    simp only [Act.put, List.setIfInBounds_toArray, List.set_cons_zero, List.set_cons_succ]
    refine wpAnyN_one (i := 3) rfl (by kernel_rfl) (fun K hK => ?_)
    go_simp
    go_at_call 7
    refine ct.mono ?_
    rintro e w3 ⟨rfl, b3⟩
    have hb3 := Lib.hid (show Below w2.heap.size w2 w3 by have b3' := b3; rw [← hwd] at b3'; exact (Below.refl _ _).drew.then b3')
    refine hK _ _ (fun _ => HC.out _ hb3.out) ?_
    clear hK
    (try simp only [Act.put, List.setIfInBounds_toArray, List.set_cons_zero, List.set_cons_succ])
    refine wpAnyN_one (i := 8) rfl (by kernel_rfl) (fun K hK => ?_)
    go_simp
    refine hK _ _ (fun _ => HC.out _ hb3.out) ?_
    clear hK
    (try simp only [Act.put, List.setIfInBounds_toArray, List.set_cons_zero, List.set_cons_succ])
    refine wpAnyN_one (i := 9) rfl (by kernel_rfl) (fun K hK => ?_)
    go_simp
    refine hK _ _ (fun _ => HC.out _ (hb3.out.alloc hb3.out.size _)) ?_
    clear hK
    (try simp only [Act.put, List.setIfInBounds_toArray, List.set_cons_zero, List.set_cons_succ])
    refine wpAnyN_rest 10 [_] rfl (by kernel_rfl) (by rfl) ?_
    have hR4 := hR3.out.below b3
    have hK4 := hK3.out.thenB b3 hR3.out.baseLe
    have bL := (Below.refl _ w3).alloc (Nat.le_refl _) (.cells #[.int .i64 6, .int .i64 0, .string ⟨(textI G).toArray⟩, .string ⟨du.toArray⟩, .string ⟨dt.toArray⟩] 28)
    have cr := replace_any (hR4.below bL) ⟨true, it, po⟩ (by show it ≤ Z.length; omega) (.slice (some ⟨w3.heap.size, 0, none⟩) 1 1) [⟨6, 0, textI G, du, dt⟩] (NdAt.box (x := ⟨6, 0, textI G, du, dt⟩) (heap_alloc_new _ _)) (by omega)
    unfold opV at cr
    rw [show markOf true = [33, 91] from rfl] at cr
    have HK5 := Lib.hid (hK4.thenB bL hR4.baseLe)
    clear ct hR4 hK4 bL b3
    dsimp only at cr
    go_wp2_with fail
    refine cr.mono ?_
    rintro e w6 ⟨rfl, ⟨iv6, hst6⟩, hk6⟩
    have HST6 := Lib.hid hst6
    have HK6 := Lib.hid (HK5.out.trans hk6)
    clear cr hst6 hk6
    go_wp2
    (try simp only [Exit.inBlock, Exit.then])
    refine bodyPost_ret (v := .tuple #[]) (results_none rfl _ _ _) rfl ⟨rfl, ⟨iv6, _, HST6.out⟩, HK6.out⟩
  | false =>
    rw [show markOf false = [91] from rfl] at *
    have cho := fun W (hb : Below w2.heap.size w2 W) => holding_any ⟨5, 0, [], du, dt⟩ (.slice A2 G.length c2) G W (HV2.out.keep (KI.of hb (Nat.le_refl _))) hGl
    unfold ilV at cho
    dsimp only at cho
    go_wp2_with fail
    have HS0 := Lib.hid (HC.out w2.drew (Below.refl _ _).drew)
    refine wp_region_N (fun W => W.cell? ⟨w.heap.size, 0, none⟩ = some (.string ⟨#[91]⟩) ∧ W.cell? ⟨w.heap.size, 1, none⟩ = some (.int .i64 it) ∧ W.cell? ⟨w.heap.size, 2, none⟩ = some (.int .i64 po) ∧ W.cell? ⟨w.heap.size + 1, 1, none⟩ = some (.string ⟨du.toArray⟩) ∧ W.cell? ⟨w.heap.size + 1, 2, none⟩ = some (.string ⟨dt.toArray⟩)) (fun n => decide (n < 9)) (by kernel_rfl) ?_
    have HS := HS0
    have ch0 := cho w2.drew (Below.refl _ _).drew
    have hR3 := Lib.hid (HR2.out.below (Below.refl _ w2).drew)
    have hK3 := Lib.hid (HK2.out.thenB (Below.refl _ w2).drew HR2.out.baseLe)
    generalize hwd : w2.drew = wd at *
    refine wpAnyN_take_at 0 30 (v := ?_) rfl rfl (by kernel_rfl) (by kernel_rfl) (by kernel_rfl) (by kernel_rfl) (by kernel_rfl) (fun _ _ _ h => h) (by rfl) ?_ HS.out ?_
    rotate_left
    · intro W hSw; (try dsimp only at hSw); obtain ⟨q0, q1, q2, q3, q4⟩ := hSw; go_simp; (try with_reducible rfl)
    simp only [Act.put, List.setIfInBounds_toArray, List.set_cons_zero, List.set_cons_succ]
    refine wpAnyN_take_at 1 31 (v := ?_) rfl rfl (by kernel_rfl) (by kernel_rfl) (by kernel_rfl) (by kernel_rfl) (by kernel_rfl) (fun _ _ _ h => h) (by rfl) ?_ HS.out ?_
    rotate_left
    · intro W hSw; (try dsimp only at hSw); obtain ⟨q0, q1, q2, q3, q4⟩ := hSw; go_simp; (try with_reducible rfl)
    simp only [Act.put, List.setIfInBounds_toArray, List.set_cons_zero, List.set_cons_succ]
    refine wpAnyN_take_at 2 32 (v := ?_) rfl rfl (by kernel_rfl) (by kernel_rfl) (by kernel_rfl) (by kernel_rfl) (by kernel_rfl) (fun _ _ _ h => h) (by rfl) ?_ HS.out ?_
    rotate_left
    · intro W hSw; (try dsimp only at hSw); obtain ⟨q0, q1, q2, q3, q4⟩ := hSw; go_simp; (try with_reducible rfl)
    simp only [Act.put, List.setIfInBounds_toArray, List.set_cons_zero, List.set_cons_succ]
    refine wpAnyN_take_at 3 33 (v := ?_) rfl rfl (by kernel_rfl) (by kernel_rfl) (by kernel_rfl) (by kernel_rfl) (by kernel_rfl) (fun _ _ _ h => h) (by rfl) ?_ HS.out ?_
    rotate_left
    · intro W hSw; (try dsimp only at hSw); obtain ⟨q0, q1, q2, q3, q4⟩ := hSw; go_simp; (try with_reducible rfl)
    simp only [Act.put, List.setIfInBounds_toArray, List.set_cons_zero, List.set_cons_succ]
    refine wpAnyN_take_at 4 34 (v := ?_) rfl rfl (by kernel_rfl) (by kernel_rfl) (by kernel_rfl) (by kernel_rfl) (by kernel_rfl) (fun _ _ _ h => h) (by rfl) ?_ HS.out ?_
    rotate_left
    · intro W hSw; (try dsimp only at hSw); obtain ⟨q0, q1, q2, q3, q4⟩ := hSw; go_simp; (try with_reducible rfl)
    simp only [Act.put, List.setIfInBounds_toArray, List.set_cons_zero, List.set_cons_succ]
    refine wpAnyN_take_at 5 35 (v := ?_) rfl rfl (by kernel_rfl) (by kernel_rfl) (by kernel_rfl) (by kernel_rfl) (by kernel_rfl) (fun _ _ _ h => h) (by rfl) ?_ HS.out ?_
    rotate_left
    · intro W hSw; (try dsimp only at hSw); obtain ⟨q0, q1, q2, q3, q4⟩ := hSw; go_simp; (try with_reducible rfl)
    simp only [Act.put, List.setIfInBounds_toArray, List.set_cons_zero, List.set_cons_succ]
    refine wpAnyN_take_at 6 36 (v := ?_) rfl rfl (by kernel_rfl) (by kernel_rfl) (by kernel_rfl) (by kernel_rfl) (by kernel_rfl) (fun _ _ _ h => h) (by rfl) ?_ HS.out ?_
    rotate_left
    · intro W hSw; (try dsimp only at hSw); obtain ⟨q0, q1, q2, q3, q4⟩ := hSw; go_simp; (try with_reducible rfl)
    simp only [Act.put, List.setIfInBounds_toArray, List.set_cons_zero, List.set_cons_succ]
    refine wpAnyN_take_at 7 37 (v := ?_) rfl rfl (by kernel_rfl) (by kernel_rfl) (by kernel_rfl) (by kernel_rfl) (by kernel_rfl) (fun _ _ _ h => h) (by rfl) ?_ HS.out ?_
    rotate_left
    · intro W hSw; (try dsimp only at hSw); obtain ⟨q0, q1, q2, q3, q4⟩ := hSw; go_simp; (try with_reducible rfl)
    simp only [Act.put, List.setIfInBounds_toArray, List.set_cons_zero, List.set_cons_succ]
    refine wpAnyN_one (i := 8) rfl (by kernel_rfl) (fun K hK => ?_)
    go_simp
    go_at_call 50
    refine ch0.mono ?_
    rintro e w3 ⟨⟨v3, rfl, hv3⟩, b3⟩
    refine hK _ _ (fun _ => HC.out _ (by rw [← hwd] at b3; exact (Below.refl _ _).drew.then b3)) ?_
    clear hK
    (try simp only [Act.put, List.setIfInBounds_toArray, List.set_cons_zero, List.set_cons_succ])
    refine wpAnyN_rest 9 [_] rfl (by kernel_rfl) (by rfl) ?_
    obtain ⟨A3, c3, rfl, _⟩ := nd_elts hv3
    have hR4 := hR3.out.below b3
    have hK4 := hK3.out.thenB b3 hR3.out.baseLe
    have cr := replace_any hR4 ⟨false, it, po⟩ (by show it ≤ Z.length; omega) _ (⟨5, 0, [], du, dt⟩ :: deepI G) hv3 (by omega)
    unfold opV at cr
    rw [show markOf false = [91] from rfl] at cr
    dsimp only at cr
    have HK4 := Lib.hid hK4
    clear cho ch0 hR4 hK4 hv3 b3
    go_wp2_with fail
    refine cr.mono ?_
    rintro e w6 ⟨rfl, ⟨iv6, hst6⟩, hk6⟩
    have hst7 := hst6.setShut O.length
    obtain ⟨d0, d1, d2, d3, d4, d5, d6, df, _⟩ := hst6.bcells
    have df6 := df 6
    obtain ⟨Ao, co, rfl, _⟩ := own_form hst6.ops
    have HST7 := Lib.hid hst7.1
    have HK7 := Lib.hid ((HK4.out.trans hk6).trans hst7.2)
    clear cr hst6 hk6 hst7 d0 d1 d2 d3 d4 df
    go_wp2
    go_end0
    exact ⟨rfl, ⟨iv6, _, HST7.out⟩, HK7.out⟩
end
end Go.Proofs.YteihmgcphbijhaaGreatDoor

namespace Go.Proofs.YteihmgcphbijhaaGreatDoor
open Go.RowKit
set_option linter.unusedSimpArgs false
set_option linter.unusedVariables false
theorem tkLetter_any (x : Int) (w : World) :
    Calls Tryz.prog 101 #[.int .u8 x] w fun e w' => e = .returned (.bool (tkLetterI x)) ∧ w = w' := by
  go_enter Tryz.func101, Tryz.ntmps101
  go_wp2
  all_goals (go_ret; exact ⟨ret_bool (by simp [tkLetterI, inR, *] <;> omega), rfl⟩)
theorem tkDigit_any (x : Int) (w : World) :
    Calls Tryz.prog 63 #[.int .u8 x] w fun e w' => e = .returned (.bool (tkDigitI x)) ∧ w = w' := by
  go_enter Tryz.func63, Tryz.ntmps63
  go_wp2
  all_goals (go_ret; exact ⟨ret_bool (by simp [tkDigitI, inR, *] <;> omega), rfl⟩)
theorem tkBlank_any (x : Int) (w : World) :
    Calls Tryz.prog 66 #[.int .u8 x] w fun e w' => e = .returned (.bool (tkBlankI x)) ∧ w = w' := by
  go_enter Tryz.func66, Tryz.ntmps66
  go_wp2
  all_goals (go_ret; exact ⟨ret_bool (by simp [tkBlankI, *]), rfl⟩)
theorem tkInTag_any (x : Int) (w : World) :
    Calls Tryz.prog 106 #[.int .u8 x] w fun e w' => e = .returned (.bool (tkInTagI x)) ∧ w = w' := by
  go_enter Tryz.func106, Tryz.ntmps106
  go_wp2
  all_goals (go_ret; exact ⟨ret_bool (by simp [tkInTagI, *]), rfl⟩)
theorem tkUrl_any (x : Int) (w : World) :
    Calls Tryz.prog 102 #[.int .u8 x] w fun e w' => e = .returned (.bool (tkUrlI x)) ∧ w = w' := by
  go_enter Tryz.func102, Tryz.ntmps102
  go_wp2
  all_goals (go_ret; exact ⟨ret_bool (by simp [tkUrlI, *] <;> omega), rfl⟩)
theorem tkTagName_any (x : Int) (w : World) :
    Calls Tryz.prog 105 #[.int .u8 x] w fun e w' => e = .returned (.bool (tkTagNameI x)) ∧ w = w' := by
  go_enter Tryz.func105, Tryz.ntmps105
  go_wp2_with (first | (go_at_call 101; refine (tkLetter_any _ _).mono ?_; rintro e w' ⟨rfl, rfl⟩) | (go_at_call 63; refine (tkDigit_any _ _).mono ?_; rintro e w' ⟨rfl, rfl⟩))
  all_goals (go_ret; exact ⟨ret_bool (by simp [tkTagNameI, *]), rfl⟩)
theorem tkScheme_any (x : Int) (w : World) :
    Calls Tryz.prog 100 #[.int .u8 x] w fun e w' => e = .returned (.bool (tkSchemeI x)) ∧ w = w' := by
  go_enter Tryz.func100, Tryz.ntmps100
  go_wp2_with (first | (go_at_call 101; refine (tkLetter_any _ _).mono ?_; rintro e w' ⟨rfl, rfl⟩) | (go_at_call 63; refine (tkDigit_any _ _).mono ?_; rintro e w' ⟨rfl, rfl⟩))
  all_goals (go_ret; exact ⟨ret_bool (by simp [tkSchemeI, *]), rfl⟩)
theorem tkHost_any (x : Int) (w : World) :
    Calls Tryz.prog 104 #[.int .u8 x] w fun e w' => e = .returned (.bool (tkHostI x)) ∧ w = w' := by
  go_enter Tryz.func104, Tryz.ntmps104
  go_wp2_with (go_at_call 105; refine (tkTagName_any _ _).mono ?_; rintro e w' ⟨rfl, rfl⟩)
  all_goals (go_ret; exact ⟨ret_bool (by simp [tkHostI, *]), rfl⟩)
theorem tkMail_any (x : Int) (w : World) :
    Calls Tryz.prog 103 #[.int .u8 x] w fun e w' => e = .returned (.bool (tkMailI x)) ∧ w = w' := by
  go_enter Tryz.func103, Tryz.ntmps103
  go_wp2_with (go_at_call 104; refine (tkHost_any _ _).mono ?_; rintro e w' ⟨rfl, rfl⟩)
  all_goals (go_ret; exact ⟨ret_bool (by simp [tkMailI, *]), rfl⟩)
theorem tkWord_any (b : UInt8) (w : World) :
    Calls Tryz.prog 42 #[.int .u8 b.toNat] w fun e w' => e = .returned (.bool (tkWord b)) ∧ w = w' := by
  have c1 := fun W => Tryz.strings_IndexByte ⟨tkStops.toArray⟩ b.toNat W
  go_enter Tryz.func42, Tryz.ntmps42
  go_wp2_with (go_at_call 78; refine (c1 _).mono ?_; rintro e w' ⟨rfl, rfl⟩)
  go_ret
  exact ⟨ret_bool (by simp [tkWord]), rfl⟩
end Go.Proofs.YteihmgcphbijhaaGreatDoor
namespace Go.Proofs.YteihmgcphbijhaaGreatDoor
open Go.RowKit
set_option linter.unusedSimpArgs false
set_option linter.unusedVariables false
theorem tkHas_any (s : ByteArray) (k : Nat) (b : UInt8) (w : World) (hs : s.size ≤ 35184372088832) (hk : k ≤ 70368744177664) :
    Calls Tryz.prog 64 #[.string s, .int .i64 k, .int .u8 b.toNat] w fun e w' => e = .returned (.bool (hasL s.data.toList k b)) ∧ w = w' := by
  by_cases hp : k < s.size
  · by_cases hb : s[k] = b
    · have HV := Lib.hid (show hasL s.data.toList k b = true from by
        unfold hasL
        rw [List.getElem?_eq_getElem (by simpa using hp)]
        exact beq_iff_eq.2 (congrArg some hb))
      have f1 : ((s[k].toNat : Int) == (b.toNat : Int)) = true := by rw [hb]; simp
      clear hb
      go_enter Tryz.func64, Tryz.ntmps64
      go_wp2
      go_ret
      exact ⟨ret_bool HV.out.symm, rfl⟩
    · have HV := Lib.hid (show hasL s.data.toList k b = false from by
        unfold hasL
        rw [List.getElem?_eq_getElem (by simpa using hp)]
        exact beq_eq_false_iff_ne.2 (fun e => hb (Option.some.inj e)))
      have f1 : ((s[k].toNat : Int) == (b.toNat : Int)) = false := by
        rw [beq_eq_false_iff_ne]
        exact fun e => hb (UInt8.toNat_inj.1 (by omega))
      clear hb
      go_enter Tryz.func64, Tryz.ntmps64
      go_wp2
      go_ret
      exact ⟨ret_bool HV.out.symm, rfl⟩
  · have HV := Lib.hid (show hasL s.data.toList k b = false from hasL_no (by simpa using hp))
    go_enter Tryz.func64, Tryz.ntmps64
    go_wp2
    go_ret
    exact ⟨ret_bool HV.out.symm, rfl⟩
/-- What is asked of a function that tells a kind of bytes. -/
def KindAt (g : Nat) (lb : Array Value) (p : UInt8 → Bool) (w : World) : Prop :=
  ∀ (W : World) (b : UInt8), Below w.heap.size w W → Calls Tryz.prog g (#[.int .u8 b.toNat] ++ lb) W fun e w' => e = .returned (.bool (p b)) ∧ W = w'
def PastRel (p : UInt8 → Bool) (l : List UInt8) (n k : Nat) (w : World) (v : Value) (wr : World) : Prop :=
  ∃ j : Nat, v = .int .i64 j ∧ k ≤ j ∧ j ≤ n ∧ pastL p l k = pastL p l j ∧ Below w.heap.size w wr
set_option maxHeartbeats 1000000 in
theorem tkPast_any (s : ByteArray) (k : Nat) (g : Nat) (lb : Array Value) (p : UInt8 → Bool) (w : World) (hs : s.size ≤ 35184372088832) (hk : k ≤ s.size)
    (he : ∀ args w, (callFunc g args).run Tryz.prog w = .ok (.enter g args) w) (hp : KindAt g lb p w) :
    Calls Tryz.prog 41 #[.string s, .int .i64 k, .func (.func g) #[] lb] w fun e w' => e = .returned (.int .i64 (pastL p s.data.toList k)) ∧ Below w.heap.size w w' := by
  go_enter Tryz.func41, Tryz.ntmps41
  go_wp2_with fail
  go_loopw [1] (fun v wr => PastRel p s.data.toList s.size k w v wr) (fun v _ => s.size - (intOf v).toNat)
  case atStart => exact ⟨k, rfl, Nat.le_refl _, hk, rfl, Below.refl _ _⟩
  case round =>
    obtain ⟨j, rfl, hkj, hj, hpl, hbw⟩ := hrel
    by_cases hlt : j < s.size
    · have c1 := hp wr s[j] hbw
      cases hv : p s[j] with
      | true =>
        rw [hv] at c1
        have HP := Lib.hid (show pastL p s.data.toList k = pastL p s.data.toList (j + 1) from by
          rw [hpl]
          exact pastL_step p _ j (by simpa using hlt) hv)
        have HB := Lib.hid hbw
        clear hpl hv hbw
        go_wp2_with (go_at_fn g; refine c1.mono ?_; rintro e w' ⟨rfl, rfl⟩)
        go_roundw
        case rel => exact ⟨j + 1, by go_num, by omega, by omega, HP.out, HB.out⟩
        case measure => simp [intOf]; omega
      | false =>
        rw [hv] at c1
        have HP := Lib.hid (show pastL p s.data.toList k = j from by
          rw [hpl]
          exact pastL_stop p _ j (by simpa using hlt) hv)
        have HB := Lib.hid hbw
        clear hpl hv hbw
        go_wp2_with (go_at_fn g; refine c1.mono ?_; rintro e w' ⟨rfl, rfl⟩)
        go_ret
        exact ⟨by rw [HP.out]; rfl, HB.out⟩
    · have HP := Lib.hid (show pastL p s.data.toList k = j from by
        rw [hpl]
        exact pastL_end p _ j (by simp; omega))
      have HB := Lib.hid hbw
      clear hpl hbw hp
      go_wp2
      go_ret
      exact ⟨by rw [HP.out]; rfl, HB.out⟩
end Go.Proofs.YteihmgcphbijhaaGreatDoor
namespace Go.Proofs.YteihmgcphbijhaaGreatDoor
open Go.RowKit
set_option linter.unusedSimpArgs false
set_option linter.unusedVariables false
theorem kind_of {g : Nat} {p : UInt8 → Bool} (w : World) (h : ∀ (b : UInt8) (W : World), Calls Tryz.prog g #[.int .u8 b.toNat] W fun e w' => e = .returned (.bool (p b)) ∧ W = w') : KindAt g #[] p w :=
  fun W b _ => by rw [Array.append_empty]; exact h b W
theorem kDigit (w : World) : KindAt 63 #[] tkDigit w := kind_of w fun b W => tkDigit_any _ W
theorem kBlank (w : World) : KindAt 66 #[] tkBlank w := kind_of w fun b W => tkBlank_any _ W
theorem kInTag (w : World) : KindAt 106 #[] tkInTag w := kind_of w fun b W => tkInTag_any _ W
theorem kUrl (w : World) : KindAt 102 #[] tkUrl w := kind_of w fun b W => tkUrl_any _ W
theorem kTagName (w : World) : KindAt 105 #[] tkTagName w := kind_of w fun b W => tkTagName_any _ W
theorem kScheme (w : World) : KindAt 100 #[] tkScheme w := kind_of w fun b W => tkScheme_any _ W
theorem kHost (w : World) : KindAt 104 #[] tkHost w := kind_of w fun b W => tkHost_any _ W
theorem kMail (w : World) : KindAt 103 #[] tkMail w := kind_of w fun b W => tkMail_any _ W
theorem kWord (w : World) : KindAt 42 #[] tkWord w := kind_of w fun b W => tkWord_any b W
theorem eq_byte (a b : UInt8) : ((a.toNat : Int) == (b.toNat : Int)) = (a == b) := by
  rw [Bool.eq_iff_iff]
  simp only [beq_iff_eq]
  exact ⟨fun e => UInt8.toNat_inj.1 (by omega), fun e => by rw [e]⟩
theorem kIs32 (w : World) : KindAt 77 #[] (fun b => b == 32) w := kind_of w fun b W => by
  have e := eq_byte b 32
  rw [show (((32 : UInt8).toNat : Nat) : Int) = 32 from rfl] at e
  cases h : (b == 32) with
  | true =>
    rw [h] at e
    go_enter Tryz.func77, Tryz.ntmps77
    go_wp2
    go_ret
    exact ⟨rfl, rfl⟩
  | false =>
    rw [h] at e
    go_enter Tryz.func77, Tryz.ntmps77
    go_wp2
    go_ret
    exact ⟨rfl, rfl⟩
theorem kRow (s : ByteArray) (h0 : 0 < s.size) (b : Nat) (w : World) (hb : b < w.heap.size) (hc : w.cell? ⟨b, 0, none⟩ = some (.string s)) :
    KindAt 75 #[.pointer (some ⟨b, 0, none⟩)] (fun x => x == s.data.toList.headD 0) w := fun W x hw => by
  have hcell : W.cell? ⟨b, 0, none⟩ = some (.string s) := by rw [hw.cell (p := ⟨b, 0, none⟩) hb]; exact hc
  have e := eq_byte x s[0]
  have hh : s.data.toList.headD 0 = s[0] := by
    rw [show s.data.toList = s[0] :: s.data.toList.drop 1 from by have := get_list s 0 h0; rwa [List.drop_zero] at this]
    rfl
  rw [hh]
  clear hh hc hw
  show Calls _ _ #[.int .u8 x.toNat, .pointer (some ⟨b, 0, none⟩)] _ _
  cases h : (x == s[0]) with
  | true =>
    rw [h] at e
    go_enter Tryz.func75, Tryz.ntmps75
    go_wp2
    go_ret
    exact ⟨ret_bool h.symm, rfl⟩
  | false =>
    rw [h] at e
    go_enter Tryz.func75, Tryz.ntmps75
    go_wp2
    go_ret
    exact ⟨ret_bool h.symm, rfl⟩
theorem tkRow_any (s : ByteArray) (h0 : 0 < s.size) (w : World) (hs : s.size ≤ 35184372088832) :
    Calls Tryz.prog 38 #[.string s] w fun e w' => e = .returned (.int .i64 (rowL s.data.toList)) ∧ Below w.heap.size w w' := by
  have hmf : ∀ (fn : Fn) (first cap : Array Value) (w : World), (Instr.makeFunc fn first cap).run Tryz.prog w = .ok (.func fn first cap) w := fun _ _ _ _ => rfl
  have hk := kRow s h0 w.heap.size (w.alloc (.cells #[.string s] 9)) (by rw [alloc_size]; omega) (cells_one w (.string s) 9 0 _ rfl)
  have c1 := tkPast_any s 1 75 #[.pointer (some ⟨w.heap.size, 0, none⟩)] _ (w.alloc (.cells #[.string s] 9)) hs h0 (fun _ _ => by kernel_rfl) hk
  rw [show pastL (fun x => x == s.data.toList.headD 0) s.data.toList 1 = rowL s.data.toList from rfl] at c1
  have C1 := Lib.hid c1
  clear hk c1
  go_enter Tryz.func38, Tryz.ntmps38
  go_wp2_with (go_at_call 41; refine (C1.out).mono ?_; rintro e w1 ⟨rfl, b1⟩)
  go_ret
  exact ⟨rfl, ((Below.refl _ w).alloc (Nat.le_refl _) _).then b1⟩
/-- A struct of one field in a block of its own. -/
def OneAt (w : World) (g : Nat) (v : Value) (t : TypeId) : Prop := w.heap[g]? = some (.cells #[v] t (0, 0))
theorem OneAt.cells {w : World} {g : Nat} {v : Value} {t : TypeId} (h : OneAt w g v t) : w.cell? ⟨g, 0, none⟩ = some v ∧ w.frozen? ⟨g, 0, none⟩ = false := by
  unfold OneAt at h
  exact ⟨(cell_of_row w _ 0 _ _ (0, 0) h).trans rfl, by simp [World.frozen?, h]⟩
theorem OneAt.below {w w' : World} {g : Nat} {v : Value} {t : TypeId} (h : OneAt w g v t) (hb : Below w.heap.size w w') : OneAt w' g v t := by
  unfold OneAt at *
  rw [hb.block g (Array.getElem?_eq_some_iff.1 h).1]
  exact h
theorem OneAt.set {w : World} {g : Nat} {v : Value} {t : TypeId} (h : OneAt w g v t) (u : Value) : OneAt (w.setCell ⟨g, 0, none⟩ u) g u t := by
  unfold OneAt at *
  simp [World.setCell, Array.getElem?_modify, h]
theorem oneAt_new (w : World) (v : Value) (t : TypeId) : OneAt (w.alloc (.cells #[v] t)) w.heap.size v t := heap_alloc_new w _
theorem ret_brk {fn : Func} {p u : Tmp} (hres : fn.results = #[.cell p 96, .tmp u]) {W : World} {g : Nat} {b c : Value} (h : OneAt W g b 96) {tmps : Array Value} (h2 : tmps.getD p undef = .pointer (some ⟨g, 0, none⟩)) (h3 : tmps.getD u undef = c) :
    (results fn tmps).run Tryz.prog W = .ok (.tuple #[.agg #[b], c]) W := by
  obtain ⟨c0, _⟩ := h.cells
  rw [results_cell_tmp hres, h2, h3]
  go_simp
theorem ret_mark {fn : Func} {p u : Tmp} (hres : fn.results = #[.cell p 65, .tmp u]) {W : World} {g : Nat} {b c : Value} (h : OneAt W g b 65) {tmps : Array Value} (h2 : tmps.getD p undef = .pointer (some ⟨g, 0, none⟩)) (h3 : tmps.getD u undef = c) :
    (results fn tmps).run Tryz.prog W = .ok (.tuple #[.agg #[b], c]) W := by
  obtain ⟨c0, _⟩ := h.cells
  rw [results_cell_tmp hres, h2, h3]
  go_simp
theorem ret_atom {fn : Func} {p u : Tmp} (hres : fn.results = #[.cell p 89, .tmp u]) {W : World} {g : Nat} {b c : Value} (h : OneAt W g b 89) {tmps : Array Value} (h2 : tmps.getD p undef = .pointer (some ⟨g, 0, none⟩)) (h3 : tmps.getD u undef = c) :
    (results fn tmps).run Tryz.prog W = .ok (.tuple #[.agg #[b], c]) W := by
  obtain ⟨c0, _⟩ := h.cells
  rw [results_cell_tmp hres, h2, h3]
  go_simp
/-- The end of a line: blanks, an LF, blanks. -/
def brkV (x : Tk × Nat) : Value := .tuple #[.agg #[.bool (x.1 == .brk true)], .int .i64 x.2]
theorem size_len' (S : ByteArray) : S.data.toList.length = S.size := by simp
set_option maxHeartbeats 1000000 in
theorem tkLineEnd_any (s : ByteArray) (w : World) (hs : s.size ≤ 35184372088832) :
    Calls Tryz.prog 40 #[.string s] w fun e w' => e = .returned (brkV (lineTk s.data.toList)) ∧ Below w.heap.size w w' := by
  have hle := pastL_le (fun b => b == 32) s.data.toList 0 (Nat.zero_le _)
  rw [size_len'] at hle
  have c1 := fun W => tkPast_any s 0 77 #[] _ W hs (Nat.zero_le _) (fun _ _ => by kernel_rfl) (kIs32 W)
  have HL := Lib.hid (show lineTk s.data.toList = if hasL s.data.toList (pastL (fun b => b == 32) s.data.toList 0) 10 = false then (.brk false, 0) else (.brk (decide (2 ≤ pastL (fun b => b == 32) s.data.toList 0)), pastL tkBlank s.data.toList (pastL (fun b => b == 32) s.data.toList 0 + 1)) from rfl)
  generalize pastL (fun b => b == 32) s.data.toList 0 = k at *
  have c2 := fun W => tkHas_any s k 10 W hs (by omega)
  have HB0 := Lib.hid (show Below w.heap.size w (w.alloc (.cells #[.bool false] 96)) from (Below.refl _ w).alloc (Nat.le_refl _) _)
  have HZ0 := Lib.hid (oneAt_new w (.bool false) 96)
  cases hh : hasL s.data.toList k 10 with
  | false =>
    rw [hh] at c2
    have HR := Lib.hid (show lineTk s.data.toList = (.brk false, 0) from by rw [HL.out, hh]; rfl)
    have C1 := Lib.hid c1
    have C2 := Lib.hid c2
    clear c1 c2 HL hh
    go_enter Tryz.func40, Tryz.ntmps40
    go_wp2_with fail
    refine (C1.out _).mono ?_
    rintro e w1 ⟨rfl, b1⟩
    have HB1 := Lib.hid (HB0.out.then b1)
    have hz1 := HZ0.out.below b1
    have hst := hz1.set (.bool false)
    obtain ⟨k0, k1⟩ := hz1.cells
    have HS := Lib.hid hst
    clear b1 hst hz1
    go_wp2_with fail
    refine (C2.out _).mono ?_
    rintro e w2 ⟨rfl, rfl⟩
    go_wp2
    (try simp only [Exit.inBlock, Exit.then])
    refine bodyPost_ret (v := brkV (.brk false, 0)) (ret_brk rfl HS.out rfl rfl) rfl ⟨by rw [HR.out], HB1.out.setCell (Nat.le_refl _) _⟩
  | true =>
    rw [hh] at c2
    have hlt := hasL_lt hh
    rw [size_len'] at hlt
    have c3 := fun W => tkPast_any s (k + 1) 66 #[] _ W hs hlt (fun _ _ => by kernel_rfl) (kBlank W)
    have HR := Lib.hid (show lineTk s.data.toList = (.brk (decide (2 ≤ k)), pastL tkBlank s.data.toList (k + 1)) from by rw [HL.out, hh]; rfl)
    generalize pastL tkBlank s.data.toList (k + 1) = z at *
    have C1 := Lib.hid c1
    have C2 := Lib.hid c2
    have C3 := Lib.hid c3
    clear c1 c2 c3 HL hh
    obtain ⟨h2, hh2⟩ : ∃ h2, decide (2 ≤ k) = h2 := ⟨_, rfl⟩
    have f2 : decide ((2 : Int) ≤ (k : Int)) = h2 := by rw [← hh2]; simp; omega
    rw [hh2] at HR
    clear hh2
    go_enter Tryz.func40, Tryz.ntmps40
    go_wp2_with fail
    refine (C1.out _).mono ?_
    rintro e w1 ⟨rfl, b1⟩
    have HB1 := Lib.hid (HB0.out.then b1)
    have hz1 := HZ0.out.below b1
    clear b1
    go_wp2_with fail
    refine (C2.out _).mono ?_
    rintro e w2 ⟨rfl, rfl⟩
    go_wp2_with fail
    refine (C3.out _).mono ?_
    rintro e w3 ⟨rfl, b3⟩
    have HB3 := Lib.hid (HB1.out.then b3)
    have hz3 := hz1.below b3
    have hst := hz3.set (.bool h2)
    obtain ⟨k0, k1⟩ := hz3.cells
    have HS := Lib.hid hst
    clear b3 hst hz3 hz1
    go_wp2
    (try simp only [Exit.inBlock, Exit.then])
    refine bodyPost_ret (v := brkV (.brk h2, z)) ?_ rfl ⟨by rw [HR.out], HB3.out.setCell (Nat.le_refl _) _⟩
    cases h2 <;> exact ret_brk rfl HS.out rfl rfl
end Go.Proofs.YteihmgcphbijhaaGreatDoor
namespace Go.Proofs.YteihmgcphbijhaaGreatDoor
open Go.RowKit
set_option linter.unusedSimpArgs false
set_option linter.unusedVariables false
set_option maxRecDepth 100000
/-- A token, as an interface value. -/
def tkV : Tk → Value
  | .no => .nilIface
  | .word l => .iface 60 (.string ⟨l.toArray⟩)
  | .code l => .iface 108 (.string ⟨l.toArray⟩)
  | .tag l => .iface 111 (.string ⟨l.toArray⟩)
  | .auto u t => .iface 114 (.agg #[.string ⟨u.toArray⟩, .string ⟨t.toArray⟩])
  | .run b n => .iface 69 (.agg #[.int .u8 b.toNat, .int .i64 n])
  | .mark l => .iface 65 (.agg #[.string ⟨l.toArray⟩])
  | .brk h => .iface 96 (.agg #[.bool h])
  | .atom n => .iface 89 (.agg #[.int .i64 n])
def tkR (x : Tk × Nat) : Value := .tuple #[tkV x.1, .int .i64 x.2]
theorem tkGet0 (s : ByteArray) (h : 0 < s.size) : s.data.toList.headD 1 = s[0] := by
  have := get_list s 0 h
  rw [List.drop_zero] at this
  rw [this]; rfl
theorem tkExt0 (s : ByteArray) (n : Nat) : s.extract 0 n = ⟨(s.data.toList.take n).toArray⟩ := by rw [ext_bytes]; simp
theorem tkWordAt_any (s : ByteArray) (h0 : 0 < s.size) (w : World) (hs : s.size ≤ 35184372088832) :
    Calls Tryz.prog 19 #[.string s] w fun e w' => e = .returned (.tuple #[.string ⟨(s.data.toList.take (wordTk s.data.toList).2).toArray⟩, .int .i64 (wordTk s.data.toList).2]) ∧ Below w.heap.size w w' := by
  have hle := pastL_le tkWord s.data.toList 1 (by rw [size_len']; exact h0)
  have hle2 := rowL_le s.data.toList (by intro e; have := size_len' s; rw [e] at this; simp at this; omega)
  rw [size_len'] at hle hle2
  have c1 := fun W => tkPast_any s 1 42 #[] _ W hs h0 (fun _ _ => by kernel_rfl) (kWord W)
  have c2 := fun W => tkRow_any s h0 W hs
  have HL := Lib.hid (show (wordTk s.data.toList).2 = if s.data.toList.headD 1 = 32 then rowL s.data.toList else pastL tkWord s.data.toList 1 from rfl)
  rw [tkGet0 s h0] at HL
  have e0 := eq_byte s[0] 32
  rw [show (((32 : UInt8).toNat : Nat) : Int) = 32 from rfl] at e0
  generalize pastL tkWord s.data.toList 1 = k at *
  generalize rowL s.data.toList = z at *
  generalize (wordTk s.data.toList).2 = r at *
  by_cases h : s[0] = 32
  · have hr := HL.out
    rw [if_pos h] at hr
    have f0 : ((s[0].toNat : Int) == 32) = true := by rw [e0, h]; rfl
    subst hr
    have HX := Lib.hid (tkExt0 s r)
    have C1 := Lib.hid c1
    have C2 := Lib.hid c2
    clear c1 c2 HL h e0
    go_enter Tryz.func19, Tryz.ntmps19
    go_wp2_with fail
    refine (C1.out _).mono ?_
    rintro e w1 ⟨rfl, b1⟩
    go_wp2_with fail
    refine (C2.out _).mono ?_
    rintro e w2 ⟨rfl, b2⟩
    go_wp2
    go_ret2
    exact ⟨by rw [← HX.out]; rfl, b1.then b2⟩
  · have hr := HL.out
    rw [if_neg h] at hr
    have f0 : ((s[0].toNat : Int) == 32) = false := by rw [e0]; simpa using h
    subst hr
    have HX := Lib.hid (tkExt0 s r)
    have C1 := Lib.hid c1
    clear c1 c2 HL h e0
    go_enter Tryz.func19, Tryz.ntmps19
    go_wp2_with fail
    refine (C1.out _).mono ?_
    rintro e w1 ⟨rfl, b1⟩
    go_wp2
    go_ret2
    exact ⟨by rw [← HX.out]; rfl, b1⟩
theorem named_tk (s : ByteArray) (w : World) (hn : NamedIs w) (hs : s.size ≤ 35184372088832) :
    Calls Tryz.prog 35 #[.string s] w fun e w' => e = .returned (.tuple #[.string ⟨(atL s.data.toList).1.data.toList.toArray⟩, .int .i64 (atL s.data.toList).2]) ∧ Below w.heap.size w w' := by
  have c1 := at_any s w hn (by omega)
  unfold atRet at c1
  rw [Lib.mk_data]
  generalize atL s.data.toList = x at *
  obtain ⟨t, n⟩ := x
  simp only at c1 ⊢
  have C1 := Lib.hid c1
  clear c1 hn
  go_enter Tryz.func35, Tryz.ntmps35
  go_wp2_with fail
  refine (C1.out).mono ?_
  rintro e w1 ⟨rfl, b1⟩
  go_wp2
  go_ret2
  exact ⟨rfl, b1⟩
def atomN : Tk → Int
  | .atom n => n
  | _ => 0
def atomV (x : Tk × Nat) : Value := .tuple #[.agg #[.int .i64 (atomN x.1)], .int .i64 x.2]
set_option maxHeartbeats 1000000 in
theorem tkAtom_any (s : ByteArray) (h0 : 0 < s.size) (w : World) (hs : s.size ≤ 35184372088832) :
    Calls Tryz.prog 33 #[.string s] w fun e w' => e = .returned (atomV (atomL s.data.toList)) ∧ Below w.heap.size w w' := by
  have hge := pastL_ge tkDigit s.data.toList 1
  have hle := pastL_le tkDigit s.data.toList 1 (by rw [size_len']; exact h0)
  rw [size_len'] at hle
  have c1 := fun W => tkPast_any s 1 63 #[] _ W hs h0 (fun _ _ => by kernel_rfl) (kDigit W)
  have hpp := past_part tkDigit s.data.toList 1
  have HL := Lib.hid (show atomL s.data.toList = if pastL tkDigit s.data.toList 1 = 1 ∨ 5 < pastL tkDigit s.data.toList 1 ∨ hasL s.data.toList (pastL tkDigit s.data.toList 1) 0 = false then (.atom 0, 0) else (.atom ((Lib.atoi ((s.data.toList.take (pastL tkDigit s.data.toList 1)).drop 1)).getD 0), pastL tkDigit s.data.toList 1 + 1) from rfl)
  generalize pastL tkDigit s.data.toList 1 = k at *
  have c2 := fun W => tkHas_any s k 0 W hs (by omega)
  have HB0 := Lib.hid (show Below w.heap.size w (w.alloc (.cells #[.int .i64 0] 89)) from (Below.refl _ w).alloc (Nat.le_refl _) _)
  have HZ0 := Lib.hid (oneAt_new w (.int .i64 0) 89)
  have C1 := Lib.hid c1
  clear c1
  by_cases h1 : k = 1 ∨ 5 < k
  · have HR := Lib.hid (show atomL s.data.toList = (.atom 0, 0) from by rw [HL.out, if_pos (by omega)])
    have h1' : decide ((k : Int) > 5) = true ∨ ((k : Int) == 1) = true := by
      rcases h1 with rfl | h
      · exact Or.inr rfl
      · exact Or.inl (by simp; omega)
    clear HL hpp c2
    rcases h1 with h1 | h1
    · subst h1
      clear h1'
      go_enter Tryz.func33, Tryz.ntmps33
      go_wp2_with fail
      refine (C1.out _).mono ?_
      rintro e w1 ⟨rfl, b1⟩
      have HB1 := Lib.hid (HB0.out.then b1)
      have hz1 := HZ0.out.below b1
      have HS := Lib.hid (hz1.set (.int .i64 0))
      obtain ⟨k0, k1⟩ := hz1.cells
      clear b1 hz1
      go_wp2
      (try simp only [Exit.inBlock, Exit.then])
      exact bodyPost_ret (v := atomV (.atom 0, 0)) (ret_atom rfl HS.out rfl rfl) rfl ⟨by rw [HR.out], HB1.out.setCell (Nat.le_refl _) _⟩
    · clear h1'
      have f1 : ((k : Int) == 1) = false := by simp; omega
      have f5 : decide ((k : Int) > 5) = true := by simp; omega
      go_enter Tryz.func33, Tryz.ntmps33
      go_wp2_with fail
      refine (C1.out _).mono ?_
      rintro e w1 ⟨rfl, b1⟩
      have HB1 := Lib.hid (HB0.out.then b1)
      have hz1 := HZ0.out.below b1
      have HS := Lib.hid (hz1.set (.int .i64 0))
      obtain ⟨k0, k1⟩ := hz1.cells
      clear b1 hz1
      go_wp2
      (try simp only [Exit.inBlock, Exit.then])
      exact bodyPost_ret (v := atomV (.atom 0, 0)) (ret_atom rfl HS.out rfl rfl) rfl ⟨by rw [HR.out], HB1.out.setCell (Nat.le_refl _) _⟩
  · have f1 : ((k : Int) == 1) = false := by simp; omega
    have f5 : decide ((k : Int) > 5) = false := by simp; omega
    have hk2 : 2 ≤ k := by omega
    have hk5 : k ≤ 5 := by omega
    cases hh : hasL s.data.toList k 0 with
    | false =>
      rw [hh] at c2
      have HR := Lib.hid (show atomL s.data.toList = (.atom 0, 0) from by rw [HL.out, if_pos (Or.inr (Or.inr hh))])
      have C2 := Lib.hid c2
      clear HL hpp c2 h1 hh
      go_enter Tryz.func33, Tryz.ntmps33
      go_wp2_with fail
      refine (C1.out _).mono ?_
      rintro e w1 ⟨rfl, b1⟩
      have HB1 := Lib.hid (HB0.out.then b1)
      have hz1 := HZ0.out.below b1
      have HS := Lib.hid (hz1.set (.int .i64 0))
      obtain ⟨k0, k1⟩ := hz1.cells
      clear b1 hz1
      go_wp2_with fail
      refine (C2.out _).mono ?_
      rintro e w2 ⟨rfl, rfl⟩
      go_wp2
      (try simp only [Exit.inBlock, Exit.then])
      exact bodyPost_ret (v := atomV (.atom 0, 0)) (ret_atom rfl HS.out rfl rfl) rfl ⟨by rw [HR.out], HB1.out.setCell (Nat.le_refl _) _⟩
    | true =>
      rw [hh] at c2
      have hlt := hasL_lt hh
      rw [size_len'] at hlt
      have hdig : ∀ b ∈ (s.data.toList.take k).drop 1, tkDigit b = true := by rw [hpp]; exact takeWhile_all _ _
      have hlen : ((s.data.toList.take k).drop 1).length = k - 1 := by rw [List.length_drop, List.length_take, size_len']; omega
      obtain ⟨n, hn, hnb⟩ := atoi_digits _ hdig (by intro e; rw [e] at hlen; simp at hlen; omega)
      have HR := Lib.hid (show atomL s.data.toList = (.atom n, k + 1) from by rw [HL.out, if_neg (by rintro (e | e | e) <;> first | omega | (rw [hh] at e; cases e)), hn]; rfl)
      have hex : (s.extract 1 k).data.toList = (s.data.toList.take k).drop 1 := by rw [ext_bytes]; simp [List.drop_take]
      have c3 := fun W => Tryz.strconv_Atoi (s.extract 1 k) n (by rw [ByteArray.size_extract]; omega) (by rw [hex]; exact hn) W
      have C2 := Lib.hid c2
      have C3 := Lib.hid c3
      have hsl := fun W => slice_lohi s 1 (k : Int) 1 k rfl rfl (by omega) (by omega) W
      clear HL hpp c2 h1 hh c3 hex hn hdig hlen hnb
      go_enter Tryz.func33, Tryz.ntmps33
      go_wp2_with fail
      refine (C1.out _).mono ?_
      rintro e w1 ⟨rfl, b1⟩
      have HB1 := Lib.hid (HB0.out.then b1)
      have HZ1 := Lib.hid (HZ0.out.below b1)
      clear b1
      go_wp2_with fail
      refine (C2.out _).mono ?_
      rintro e w2 ⟨rfl, rfl⟩
      go_wp2_with fail
      refine (C3.out _).mono ?_
      rintro e w3 ⟨rfl, t3, rfl⟩
      have b3 := Lib.bytesWorld_below w1 5 t3
      generalize Lib.bytesWorld w1 5 t3 = w3 at *
      have HB3 := Lib.hid (HB1.out.then b3)
      have hz3 := HZ1.out.below b3
      have HS := Lib.hid (hz3.set (.int .i64 n))
      obtain ⟨k0, k1⟩ := hz3.cells
      clear b3 hz3
      go_wp2
      (try simp only [Exit.inBlock, Exit.then])
      exact bodyPost_ret (v := atomV (.atom n, k + 1)) (ret_atom rfl HS.out rfl rfl) rfl ⟨by rw [HR.out], HB3.out.setCell (Nat.le_refl _) _⟩
set_option maxHeartbeats 1000000 in
theorem escaped_tk (s : ByteArray) (h0 : 0 < s.size) (w : World) (hs : s.size ≤ 35184372088832) :
    Calls Tryz.prog 34 #[.string s] w fun e w' => e = .returned (tkR (escapedL s.data.toList)) ∧ Below w.heap.size w w' := by
  have c1 := fun W => tkHas_any s 1 10 W hs (by omega)
  cases hh : hasL s.data.toList 1 10 with
  | true =>
    rw [hh] at c1
    have hlt := hasL_lt hh
    rw [size_len'] at hlt
    have HR := Lib.hid (show escapedL s.data.toList = (.brk true, pastL tkBlank s.data.toList 2) from by unfold escapedL; rw [if_pos hh])
    have c2 := fun W => tkPast_any s 2 66 #[] _ W hs (by omega) (fun _ _ => by kernel_rfl) (kBlank W)
    generalize pastL tkBlank s.data.toList 2 = k at *
    have C1 := Lib.hid c1
    have C2 := Lib.hid c2
    clear c1 c2 hh
    go_enter Tryz.func34, Tryz.ntmps34
    go_wp2_with fail
    refine (C1.out _).mono ?_
    rintro e w1 ⟨rfl, rfl⟩
    go_wp2_with fail
    refine (C2.out _).mono ?_
    rintro e w2 ⟨rfl, b2⟩
    go_wp2
    go_ret2
    exact ⟨by rw [HR.out]; rfl, b2⟩
  | false =>
    rw [hh] at c1
    have C1 := Lib.hid c1
    clear c1
    by_cases hz : 1 < s.size
    · have hg : s.data.toList[1]? = some s[1] := by rw [List.getElem?_eq_getElem (by simpa using hz)]; rfl
      have ca := fun W => ascii_any (s[1].toNat : Int) W
      have hasc : asciiB (s[1].toNat : Int) = tkAscii s[1] := rfl
      rw [hasc] at ca
      have HX := Lib.hid (show s.extract 1 2 = ⟨#[s[1]]⟩ from by
        rw [ext_bytes, get_list s 1 hz]; rfl)
      cases hb : tkAscii s[1] with
      | true =>
        rw [hb] at ca
        have HR := Lib.hid (show escapedL s.data.toList = (.word [s[1]], 2) from by unfold escapedL; rw [if_neg (by simp [hh]), hg]; simp only; rw [if_pos hb])
        have CA := Lib.hid ca
        have hsl := fun W => slice_lohi s 1 2 1 2 rfl rfl (by omega) (by omega) W
        clear ca hb hasc hg hh
        go_enter Tryz.func34, Tryz.ntmps34
        go_wp2_with fail
        refine (C1.out _).mono ?_
        rintro e w1 ⟨rfl, rfl⟩
        go_wp2_with fail
        refine (CA.out _).mono ?_
        rintro e w2 ⟨rfl, rfl⟩
        go_wp2
        go_ret2
        exact ⟨by rw [HR.out]; simp only [tkR, tkV]; rw [← HX.out]; rfl, Below.refl _ _⟩
      | false =>
        rw [hb] at ca
        have HR := Lib.hid (show escapedL s.data.toList = (.no, 0) from by unfold escapedL; rw [if_neg (by simp [hh]), hg]; simp only; rw [if_neg (by simp [hb])])
        have CA := Lib.hid ca
        clear ca hb hasc hg hh
        go_enter Tryz.func34, Tryz.ntmps34
        go_wp2_with fail
        refine (C1.out _).mono ?_
        rintro e w1 ⟨rfl, rfl⟩
        go_wp2_with fail
        refine (CA.out _).mono ?_
        rintro e w2 ⟨rfl, rfl⟩
        go_wp2
        go_ret2
        exact ⟨by rw [HR.out]; rfl, Below.refl _ _⟩
    · have hg : s.data.toList[1]? = none := List.getElem?_eq_none (by rw [size_len']; omega)
      have HR := Lib.hid (show escapedL s.data.toList = (.no, 0) from by unfold escapedL; rw [if_neg (by simp [hh]), hg])
      clear hg hh
      go_enter Tryz.func34, Tryz.ntmps34
      go_wp2_with fail
      refine (C1.out _).mono ?_
      rintro e w1 ⟨rfl, rfl⟩
      go_wp2
      go_ret2
      exact ⟨by rw [HR.out]; rfl, Below.refl _ _⟩
end Go.Proofs.YteihmgcphbijhaaGreatDoor
namespace Go.Proofs.YteihmgcphbijhaaGreatDoor
open Go.RowKit
set_option linter.unusedSimpArgs false
set_option linter.unusedVariables false
set_option maxRecDepth 100000
theorem tkBetween_any (s : ByteArray) (k : Nat) (hk : k ≤ s.size) (h0 : 0 < s.size) (w : World) (hs : s.size ≤ 35184372088832) :
    Calls Tryz.prog 71 #[.string s, .int .i64 k] w fun e w' => e = .returned (.tuple #[.string ⟨(betweenL s.data.toList k).1.toArray⟩, .int .i64 (betweenL s.data.toList k).2]) ∧ w = w' := by
  by_cases hz : k = 0
  · subst hz
    have HR := Lib.hid (show betweenL s.data.toList 0 = ([], 0) from by unfold betweenL; rw [if_pos (Or.inl rfl)])
    go_enter Tryz.func71, Tryz.ntmps71
    go_wp2
    go_ret2
    exact ⟨by rw [HR.out]; rfl, rfl⟩
  · have f0 : ((k : Int) == 0) = false := by simp; omega
    have c1 := fun W => tkHas_any s k 62 W hs (by omega)
    cases hh : hasL s.data.toList k 62 with
    | false =>
      rw [hh] at c1
      have HR := Lib.hid (show betweenL s.data.toList k = ([], 0) from by unfold betweenL; rw [if_pos (Or.inr hh)])
      have C1 := Lib.hid c1
      clear c1 hh
      go_enter Tryz.func71, Tryz.ntmps71
      go_wp2_with fail
      refine (C1.out _).mono ?_
      rintro e w1 ⟨rfl, rfl⟩
      go_wp2
      go_ret2
      exact ⟨by rw [HR.out]; rfl, rfl⟩
    | true =>
      rw [hh] at c1
      have hlt := hasL_lt hh
      rw [size_len'] at hlt
      have HR := Lib.hid (show betweenL s.data.toList k = ((s.data.toList.take k).drop 1, k + 1) from by unfold betweenL; rw [if_neg (by simp [hz, hh])])
      have HX := Lib.hid (show s.extract 1 k = ⟨((s.data.toList.take k).drop 1).toArray⟩ from by rw [ext_bytes, List.drop_take])
      have hsl := fun W => slice_lohi s 1 (k : Int) 1 k rfl rfl (by omega) (by omega) W
      have C1 := Lib.hid c1
      clear c1 hh
      go_enter Tryz.func71, Tryz.ntmps71
      go_wp2_with fail
      refine (C1.out _).mono ?_
      rintro e w1 ⟨rfl, rfl⟩
      go_wp2
      go_ret2
      exact ⟨by rw [HR.out]; simp only; rw [← HX.out]; rfl, rfl⟩
theorem tkGetE (s : ByteArray) (k : Nat) (h : k < s.size) : (((s.data.toList[k]?).map tkLetter).getD false) = tkLetterI (s[k].toNat : Int) := by
  rw [List.getElem?_eq_getElem (by simpa using h)]; rfl
set_option maxHeartbeats 1000000 in
theorem tkAddress_any (s : ByteArray) (h0 : 0 < s.size) (w : World) (hs : s.size ≤ 35184372088832) :
    Calls Tryz.prog 72 #[.string s] w fun e w' => e = .returned (.int .i64 (addressL s.data.toList)) ∧ addressL s.data.toList ≤ s.size ∧ Below w.heap.size w w' := by
  have hle := pastL_le tkScheme s.data.toList 1 (by rw [size_len']; exact h0)
  rw [size_len'] at hle
  have hge := pastL_ge tkScheme s.data.toList 1
  have c1 := fun W => tkPast_any s 1 100 #[] _ W hs h0 (fun _ _ => by kernel_rfl) (kScheme W)
  have HL := Lib.hid (show addressL s.data.toList = if pastL tkScheme s.data.toList 1 < 3 ∨ 33 < pastL tkScheme s.data.toList 1 ∨ ((s.data.toList[1]?).map tkLetter).getD false = false ∨ hasL s.data.toList (pastL tkScheme s.data.toList 1) 58 = false then 0 else pastL tkUrl s.data.toList (pastL tkScheme s.data.toList 1 + 1) from rfl)
  generalize pastL tkScheme s.data.toList 1 = k at *
  have C1 := Lib.hid c1
  clear c1
  by_cases h3 : k < 3
  · have HR := Lib.hid (show addressL s.data.toList = 0 from by rw [HL.out, if_pos (Or.inl h3)])
    clear HL
    go_enter Tryz.func72, Tryz.ntmps72
    go_wp2_with fail
    refine (C1.out _).mono ?_
    rintro e w1 ⟨rfl, b1⟩
    go_wp2
    go_ret
    exact ⟨by rw [HR.out]; rfl, by rw [HR.out]; omega, b1⟩
  · by_cases h33 : 33 < k
    · have HR := Lib.hid (show addressL s.data.toList = 0 from by rw [HL.out, if_pos (Or.inr (Or.inl h33))])
      clear HL
      go_enter Tryz.func72, Tryz.ntmps72
      go_wp2_with fail
      refine (C1.out _).mono ?_
      rintro e w1 ⟨rfl, b1⟩
      go_wp2
      go_ret
      exact ⟨by rw [HR.out]; rfl, by rw [HR.out]; omega, b1⟩
    · have h1 : 1 < s.size := by omega
      have c2 := fun W => tkLetter_any (s[1].toNat : Int) W
      have hg := tkGetE s 1 h1
      cases hl : tkLetterI (s[1].toNat : Int) with
      | false =>
        rw [hl] at c2 hg
        have HR := Lib.hid (show addressL s.data.toList = 0 from by rw [HL.out, if_pos (Or.inr (Or.inr (Or.inl hg)))])
        have C2 := Lib.hid c2
        clear HL c2 hg hl
        go_enter Tryz.func72, Tryz.ntmps72
        go_wp2_with fail
        refine (C1.out _).mono ?_
        rintro e w1 ⟨rfl, b1⟩
        go_wp2_with fail
        refine (C2.out _).mono ?_
        rintro e w2 ⟨rfl, rfl⟩
        go_wp2
        go_ret
        exact ⟨by rw [HR.out]; rfl, by rw [HR.out]; omega, b1⟩
      | true =>
        rw [hl] at c2 hg
        have c3 := fun W => tkHas_any s k 58 W hs (by omega)
        cases hh : hasL s.data.toList k 58 with
        | false =>
          rw [hh] at c3
          have HR := Lib.hid (show addressL s.data.toList = 0 from by rw [HL.out, if_pos (Or.inr (Or.inr (Or.inr hh)))])
          have C2 := Lib.hid c2
          have C3 := Lib.hid c3
          clear HL c2 hg hl c3 hh
          go_enter Tryz.func72, Tryz.ntmps72
          go_wp2_with fail
          refine (C1.out _).mono ?_
          rintro e w1 ⟨rfl, b1⟩
          go_wp2_with fail
          refine (C2.out _).mono ?_
          rintro e w2 ⟨rfl, rfl⟩
          go_wp2_with fail
          refine (C3.out _).mono ?_
          rintro e w3 ⟨rfl, rfl⟩
          go_wp2
          go_ret
          exact ⟨by rw [HR.out]; rfl, by rw [HR.out]; omega, b1⟩
        | true =>
          rw [hh] at c3
          have hlt := hasL_lt hh
          rw [size_len'] at hlt
          have HR := Lib.hid (show addressL s.data.toList = pastL tkUrl s.data.toList (k + 1) from by rw [HL.out, if_neg (by rw [hg, hh]; simp; omega)])
          have hle2 := pastL_le tkUrl s.data.toList (k + 1) (by rw [size_len']; omega)
          rw [size_len'] at hle2
          have c4 := fun W => tkPast_any s (k + 1) 102 #[] _ W hs hlt (fun _ _ => by kernel_rfl) (kUrl W)
          generalize pastL tkUrl s.data.toList (k + 1) = z at *
          have C2 := Lib.hid c2
          have C3 := Lib.hid c3
          have C4 := Lib.hid c4
          clear HL c2 hg hl c3 hh c4
          go_enter Tryz.func72, Tryz.ntmps72
          go_wp2_with fail
          refine (C1.out _).mono ?_
          rintro e w1 ⟨rfl, b1⟩
          go_wp2_with fail
          refine (C2.out _).mono ?_
          rintro e w2 ⟨rfl, rfl⟩
          go_wp2_with fail
          refine (C3.out _).mono ?_
          rintro e w3 ⟨rfl, rfl⟩
          go_wp2_with fail
          refine (C4.out _).mono ?_
          rintro e w4 ⟨rfl, b4⟩
          go_wp2
          go_ret
          exact ⟨by rw [HR.out]; rfl, by rw [HR.out]; exact hle2, b1.then b4⟩
set_option maxHeartbeats 1000000 in
theorem tkMailbox_any (s : ByteArray) (h0 : 0 < s.size) (w : World) (hs : s.size ≤ 35184372088832) :
    Calls Tryz.prog 73 #[.string s] w fun e w' => e = .returned (.int .i64 (mailboxL s.data.toList)) ∧ mailboxL s.data.toList ≤ s.size ∧ Below w.heap.size w w' := by
  have hle := pastL_le tkMail s.data.toList 1 (by rw [size_len']; exact h0)
  rw [size_len'] at hle
  have hge := pastL_ge tkMail s.data.toList 1
  have c1 := fun W => tkPast_any s 1 103 #[] _ W hs h0 (fun _ _ => by kernel_rfl) (kMail W)
  have HL := Lib.hid (show mailboxL s.data.toList = if pastL tkMail s.data.toList 1 = 1 ∨ hasL s.data.toList (pastL tkMail s.data.toList 1) 64 = false then 0 else if pastL tkHost s.data.toList (pastL tkMail s.data.toList 1 + 1) = pastL tkMail s.data.toList 1 + 1 then 0 else pastL tkHost s.data.toList (pastL tkMail s.data.toList 1 + 1) from rfl)
  generalize pastL tkMail s.data.toList 1 = k at *
  have C1 := Lib.hid c1
  clear c1
  by_cases h1 : k = 1
  · have HR := Lib.hid (show mailboxL s.data.toList = 0 from by rw [HL.out, if_pos (Or.inl h1)])
    clear HL
    subst h1
    go_enter Tryz.func73, Tryz.ntmps73
    go_wp2_with fail
    refine (C1.out _).mono ?_
    rintro e w1 ⟨rfl, b1⟩
    go_wp2
    go_ret
    exact ⟨by rw [HR.out]; rfl, by rw [HR.out]; omega, b1⟩
  · have f1 : ((k : Int) == 1) = false := by simp; omega
    have c3 := fun W => tkHas_any s k 64 W hs (by omega)
    cases hh : hasL s.data.toList k 64 with
    | false =>
      rw [hh] at c3
      have HR := Lib.hid (show mailboxL s.data.toList = 0 from by rw [HL.out, if_pos (Or.inr hh)])
      have C3 := Lib.hid c3
      clear HL c3 hh h1
      go_enter Tryz.func73, Tryz.ntmps73
      go_wp2_with fail
      refine (C1.out _).mono ?_
      rintro e w1 ⟨rfl, b1⟩
      go_wp2_with fail
      refine (C3.out _).mono ?_
      rintro e w3 ⟨rfl, rfl⟩
      go_wp2
      go_ret
      exact ⟨by rw [HR.out]; rfl, by rw [HR.out]; omega, b1⟩
    | true =>
      rw [hh] at c3
      have hlt := hasL_lt hh
      rw [size_len'] at hlt
      have hle2 := pastL_le tkHost s.data.toList (k + 1) (by rw [size_len']; omega)
      have hge2 := pastL_ge tkHost s.data.toList (k + 1)
      rw [size_len'] at hle2
      have hr := HL.out
      rw [if_neg (by rw [hh]; simp [h1])] at hr
      have c4 := fun W => tkPast_any s (k + 1) 104 #[] _ W hs hlt (fun _ _ => by kernel_rfl) (kHost W)
      generalize pastL tkHost s.data.toList (k + 1) = z at *
      have C3 := Lib.hid c3
      have C4 := Lib.hid c4
      clear HL c3 hh c4 h1
      by_cases hz : z = k + 1
      · rw [if_pos hz] at hr
        have HR := Lib.hid hr
        have f2 : ((z : Int) == (k : Int) + 1) = true := by simp; omega
        clear hr hz
        go_enter Tryz.func73, Tryz.ntmps73
        go_wp2_with fail
        refine (C1.out _).mono ?_
        rintro e w1 ⟨rfl, b1⟩
        go_wp2_with fail
        refine (C3.out _).mono ?_
        rintro e w3 ⟨rfl, rfl⟩
        go_wp2_with fail
        refine (C4.out _).mono ?_
        rintro e w4 ⟨rfl, b4⟩
        go_wp2
        go_ret
        exact ⟨by rw [HR.out]; rfl, by rw [HR.out]; omega, b1.then b4⟩
      · rw [if_neg hz] at hr
        have HR := Lib.hid hr
        have f2 : ((z : Int) == (k : Int) + 1) = false := by simp; omega
        clear hr hz
        go_enter Tryz.func73, Tryz.ntmps73
        go_wp2_with fail
        refine (C1.out _).mono ?_
        rintro e w1 ⟨rfl, b1⟩
        go_wp2_with fail
        refine (C3.out _).mono ?_
        rintro e w3 ⟨rfl, rfl⟩
        go_wp2_with fail
        refine (C4.out _).mono ?_
        rintro e w4 ⟨rfl, b4⟩
        go_wp2
        go_ret
        exact ⟨by rw [HR.out]; rfl, by rw [HR.out]; exact hle2, b1.then b4⟩
/-- What stands from the sign's name on. -/
def tagGo (l : List UInt8) (f : Nat) : Nat :=
  if f = l.length ∨ ((l[f]?).map tkLetter).getD false = false then 0
  else if hasL l (pastL tkTagName l f) 32 || hasL l (pastL tkTagName l f) 10 || hasL l (pastL tkTagName l f) 47 then pastL tkInTag l (pastL tkTagName l f) else pastL tkTagName l f
theorem tagL_go (l : List UInt8) : tagL l = tagGo l (if hasL l 1 47 then 2 else 1) := rfl
set_option maxHeartbeats 4000000 in
theorem tkTag_any (s : ByteArray) (h0 : 0 < s.size) (w : World) (hs : s.size ≤ 35184372088832) :
    Calls Tryz.prog 74 #[.string s] w fun e w' => e = .returned (.int .i64 (tagL s.data.toList)) ∧ tagL s.data.toList ≤ s.size ∧ Below w.heap.size w w' := by
  have c1 := fun W => tkHas_any s 1 47 W hs (by omega)
  have ht := tagL_go s.data.toList
  have hf : ∃ b f, hasL s.data.toList 1 47 = b ∧ (if b then 2 else 1) = f ∧ 1 ≤ f ∧ f ≤ s.size ∧ (b = true ∧ f = 2 ∨ b = false ∧ f = 1) := by
    cases hh : hasL s.data.toList 1 47 with
    | true =>
      have hlt := hasL_lt hh
      rw [size_len'] at hlt
      exact ⟨true, 2, rfl, rfl, by omega, by omega, Or.inl ⟨rfl, rfl⟩⟩
    | false => exact ⟨false, 1, rfl, rfl, by omega, by omega, Or.inr ⟨rfl, rfl⟩⟩
  obtain ⟨b, f, e1, e2, hf1, hf2, hbf⟩ := hf
  rw [e1] at c1 ht
  rw [e2] at ht
  have C1 := Lib.hid c1
  clear e1 e2 c1
  by_cases hfs : f = s.size
  · have HR := Lib.hid (show tagL s.data.toList = 0 from by rw [ht]; unfold tagGo; rw [if_pos (Or.inl (by rw [size_len']; exact hfs))])
    have f1 : ((f : Int) == (s.size : Int)) = true := by simp; omega
    clear ht hfs
    rcases hbf with ⟨rfl, rfl⟩ | ⟨rfl, rfl⟩ <;>
    · (first | rw [show ((2 : Nat) : Int) = 2 from rfl] at f1 | rw [show ((1 : Nat) : Int) = 1 from rfl] at f1)
      go_enter Tryz.func74, Tryz.ntmps74
      go_wp2_with fail
      refine (C1.out _).mono ?_
      rintro e w1 ⟨rfl, rfl⟩
      go_wp2
      go_ret
      exact ⟨by rw [HR.out]; rfl, by rw [HR.out]; omega, Below.refl _ _⟩
  · have hlt : f < s.size := by omega
    have f1 : ((f : Int) == (s.size : Int)) = false := by simp; omega
    have c2 := fun W => tkLetter_any (s[f].toNat : Int) W
    have hg := tkGetE s f hlt
    cases hl : tkLetterI (s[f].toNat : Int) with
    | false =>
      rw [hl] at c2 hg
      have HR := Lib.hid (show tagL s.data.toList = 0 from by rw [ht]; unfold tagGo; rw [if_pos (Or.inr hg)])
      have C2 := Lib.hid c2
      clear ht c2 hg hl hfs
      rcases hbf with ⟨rfl, rfl⟩ | ⟨rfl, rfl⟩ <;>
      · go_enter Tryz.func74, Tryz.ntmps74
        go_wp2_with fail
        refine (C1.out _).mono ?_
        rintro e w1 ⟨rfl, rfl⟩
        go_wp2_with fail
        refine (C2.out _).mono ?_
        rintro e w2 ⟨rfl, rfl⟩
        go_wp2
        go_ret
        exact ⟨by rw [HR.out]; rfl, by rw [HR.out]; omega, Below.refl _ _⟩
    | true =>
      rw [hl] at c2 hg
      have hr : tagL s.data.toList = if hasL s.data.toList (pastL tkTagName s.data.toList f) 32 || hasL s.data.toList (pastL tkTagName s.data.toList f) 10 || hasL s.data.toList (pastL tkTagName s.data.toList f) 47 then pastL tkInTag s.data.toList (pastL tkTagName s.data.toList f) else pastL tkTagName s.data.toList f := by
        rw [ht]; unfold tagGo; rw [if_neg (by rw [size_len', hg]; simp; omega)]
      have hle := pastL_le tkTagName s.data.toList f (by rw [size_len']; exact hf2)
      rw [size_len'] at hle
      have c3 := fun W => tkPast_any s f 105 #[] _ W hs hf2 (fun _ _ => by kernel_rfl) (kTagName W)
      generalize pastL tkTagName s.data.toList f = k at *
      have d1 := fun W => tkHas_any s k 32 W hs (by omega)
      have d2 := fun W => tkHas_any s k 10 W hs (by omega)
      have d3 := fun W => tkHas_any s k 47 W hs (by omega)
      have hle2 := pastL_le tkInTag s.data.toList k (by rw [size_len']; exact hle)
      rw [size_len'] at hle2
      have c4 := fun W => tkPast_any s k 106 #[] _ W hs hle (fun _ _ => by kernel_rfl) (kInTag W)
      generalize pastL tkInTag s.data.toList k = z at *
      have C2 := Lib.hid c2
      have C3 := Lib.hid c3
      have C4 := Lib.hid c4
      have D1 := Lib.hid d1
      have D2 := Lib.hid d2
      have D3 := Lib.hid d3
      have hcase : (hasL s.data.toList k 32 = true) ∨ (hasL s.data.toList k 32 = false ∧ hasL s.data.toList k 10 = true) ∨ (hasL s.data.toList k 32 = false ∧ hasL s.data.toList k 10 = false ∧ hasL s.data.toList k 47 = true) ∨ (hasL s.data.toList k 32 = false ∧ hasL s.data.toList k 10 = false ∧ hasL s.data.toList k 47 = false) := by
        cases hasL s.data.toList k 32 <;> cases hasL s.data.toList k 10 <;> cases hasL s.data.toList k 47 <;> simp
      clear ht c2 hg hl hfs c3 c4 d1 d2 d3
      rcases hcase with h1 | ⟨h1, h2⟩ | ⟨h1, h2, h3⟩ | ⟨h1, h2, h3⟩
      · have HR := Lib.hid (show tagL s.data.toList = z from by rw [hr, h1]; rfl)
        rw [h1] at D1
        clear hr h1
        rcases hbf with ⟨rfl, rfl⟩ | ⟨rfl, rfl⟩ <;>
        · go_enter Tryz.func74, Tryz.ntmps74
          go_wp2_with fail
          refine (C1.out _).mono ?_
          rintro e w1 ⟨rfl, rfl⟩
          go_wp2_with fail
          refine (C2.out _).mono ?_
          rintro e w2 ⟨rfl, rfl⟩
          go_wp2_with fail
          refine (C3.out _).mono ?_
          rintro e w3 ⟨rfl, b3⟩
          go_wp2_with fail
          refine (D1.out _).mono ?_
          rintro e w4 ⟨rfl, rfl⟩
          go_wp2_with fail
          refine (C4.out _).mono ?_
          rintro e w5 ⟨rfl, b5⟩
          go_wp2
          go_ret
          exact ⟨by rw [HR.out]; rfl, by rw [HR.out]; exact hle2, b3.then b5⟩
      · have HR := Lib.hid (show tagL s.data.toList = z from by rw [hr, h1, h2]; rfl)
        rw [h1] at D1
        rw [h2] at D2
        clear hr h1 h2
        rcases hbf with ⟨rfl, rfl⟩ | ⟨rfl, rfl⟩ <;>
        · go_enter Tryz.func74, Tryz.ntmps74
          go_wp2_with fail
          refine (C1.out _).mono ?_
          rintro e w1 ⟨rfl, rfl⟩
          go_wp2_with fail
          refine (C2.out _).mono ?_
          rintro e w2 ⟨rfl, rfl⟩
          go_wp2_with fail
          refine (C3.out _).mono ?_
          rintro e w3 ⟨rfl, b3⟩
          go_wp2_with fail
          refine (D1.out _).mono ?_
          rintro e w4 ⟨rfl, rfl⟩
          go_wp2_with fail
          refine (D2.out _).mono ?_
          rintro e w4 ⟨rfl, rfl⟩
          go_wp2_with fail
          refine (C4.out _).mono ?_
          rintro e w5 ⟨rfl, b5⟩
          go_wp2
          go_ret
          exact ⟨by rw [HR.out]; rfl, by rw [HR.out]; exact hle2, b3.then b5⟩
      · have HR := Lib.hid (show tagL s.data.toList = z from by rw [hr, h1, h2, h3]; rfl)
        rw [h1] at D1
        rw [h2] at D2
        rw [h3] at D3
        clear hr h1 h2 h3
        rcases hbf with ⟨rfl, rfl⟩ | ⟨rfl, rfl⟩ <;>
        · go_enter Tryz.func74, Tryz.ntmps74
          go_wp2_with fail
          refine (C1.out _).mono ?_
          rintro e w1 ⟨rfl, rfl⟩
          go_wp2_with fail
          refine (C2.out _).mono ?_
          rintro e w2 ⟨rfl, rfl⟩
          go_wp2_with fail
          refine (C3.out _).mono ?_
          rintro e w3 ⟨rfl, b3⟩
          go_wp2_with fail
          refine (D1.out _).mono ?_
          rintro e w4 ⟨rfl, rfl⟩
          go_wp2_with fail
          refine (D2.out _).mono ?_
          rintro e w4 ⟨rfl, rfl⟩
          go_wp2_with fail
          refine (D3.out _).mono ?_
          rintro e w4 ⟨rfl, rfl⟩
          go_wp2_with fail
          refine (C4.out _).mono ?_
          rintro e w5 ⟨rfl, b5⟩
          go_wp2
          go_ret
          exact ⟨by rw [HR.out]; rfl, by rw [HR.out]; exact hle2, b3.then b5⟩
      · have HR := Lib.hid (show tagL s.data.toList = k from by rw [hr, h1, h2, h3]; rfl)
        rw [h1] at D1
        rw [h2] at D2
        rw [h3] at D3
        clear hr h1 h2 h3
        rcases hbf with ⟨rfl, rfl⟩ | ⟨rfl, rfl⟩ <;>
        · go_enter Tryz.func74, Tryz.ntmps74
          go_wp2_with fail
          refine (C1.out _).mono ?_
          rintro e w1 ⟨rfl, rfl⟩
          go_wp2_with fail
          refine (C2.out _).mono ?_
          rintro e w2 ⟨rfl, rfl⟩
          go_wp2_with fail
          refine (C3.out _).mono ?_
          rintro e w3 ⟨rfl, b3⟩
          go_wp2_with fail
          refine (D1.out _).mono ?_
          rintro e w4 ⟨rfl, rfl⟩
          go_wp2_with fail
          refine (D2.out _).mono ?_
          rintro e w4 ⟨rfl, rfl⟩
          go_wp2_with fail
          refine (D3.out _).mono ?_
          rintro e w4 ⟨rfl, rfl⟩
          go_wp2
          go_ret
          exact ⟨by rw [HR.out]; rfl, by rw [HR.out]; exact hle, b3⟩
end Go.Proofs.YteihmgcphbijhaaGreatDoor
