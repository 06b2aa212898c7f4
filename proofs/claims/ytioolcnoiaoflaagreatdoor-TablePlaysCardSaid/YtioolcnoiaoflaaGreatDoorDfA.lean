/-
  The statements' book of lists of definitions: a definition's cells, markDefs.
  SameDefs, of two lists that hold the same definitions.
  The statements' book where it holds definitions alone: what it holds; one list more.
  The statements' book of definitions: stillDefs, markedDefs.
  The statements' book of definitions: putDefs.
  The statements' book of definitions: growDefs: what is seen stays seen while lists are grown.
  The statements' book of definitions: growDefs: the walk.
-/
import Derived.Test.YtioolcnoiaoflaaGreatDoorFlt
import Derived.Test.YtioolcnoiaoflaaGreatDoorDfn
import Derived.Test.YtioolcnoiaoflaaGreatDoorBookA
import Derived.Test.YtioolcnoiaoflaaGreatDoorGrw
import Derived.Deep.AppendLies
import Derived.Deep.RegionHeld3
import Derived.BigRegion
import Derived.Maps.Range
namespace Go.Proofs.YtioolcnoiaoflaaGreatDoor
open Go.RowKit
set_option linter.unusedSimpArgs false
set_option linter.unusedVariables false

/-- The marks of list i from 'from' on. -/
def dmark (i k : Int) : Dfn := ⟨nameL i k, [], [], [], false⟩
def dmarks (i : Int) (from' n : Nat) : List Dfn := (List.range n).map fun j => dmark i ((from' + j : Nat) : Int)
theorem dmarks_length (i : Int) (f n : Nat) : (dmarks i f n).length = n := by simp [dmarks]
theorem dmarks_succ (i : Int) (f n : Nat) : dmarks i f (n + 1) = dmarks i f n ++ [dmark i ((f + n : Nat) : Int)] := by simp [dmarks, List.range_succ]
theorem dmarks_add (i : Int) (a b : Nat) : dmarks i 0 a ++ dmarks i a b = dmarks i 0 (a + b) := by
  induction b with
  | zero => simp [dmarks]
  | succ b ih => rw [dmarks_succ, ← List.append_assoc, ih, ← Nat.add_assoc, dmarks_succ]; simp
theorem dmarks_take (i : Int) (n k : Nat) (h : k ≤ n) : (dmarks i 0 n).take k = dmarks i 0 k := by
  obtain ⟨d, rfl⟩ := Nat.le.dest h
  rw [← dmarks_add, List.take_append_of_le_length (by rw [dmarks_length]; omega), List.take_of_length_le (by rw [dmarks_length]; omega)]

def DmarkRel (i : Int) (f n : Nat) (w : World) (v k : Value) (wr : World) : Prop :=
  ∃ j q : Nat, k = .int .i64 q ∧ q = f + j ∧ j ≤ n ∧ wr.ownsRow w.heap.size 26 5 v j (flt dfC (dmarks i f j)) ∧ Below w.heap.size w wr

set_option maxHeartbeats 1000000 in
set_option maxRecDepth 100000 in
theorem markDefs_any (i : Int) (f n : Nat) (w : World) (hi : 0 ≤ i) (hi2 : i ≤ 100000) (hf : f ≤ 1000000) (hn : n ≤ 1000000) :
    Calls Tryz.prog 94 #[.int .i64 i, .int .i64 f, .int .i64 n] w fun e w' => ∃ v, e = .returned v ∧ w'.ownsRow w.heap.size 26 5 v n (flt dfC (dmarks i f n)) ∧ Below w.heap.size w w' := by
  obtain ⟨i0, hi0, hz0, hz1, hz2⟩ := info_parts infoDef
  go_enter Tryz.func94, Tryz.ntmps94
  go_wp2_with fail
  go_loopw [7, 8] (fun v k wr => DmarkRel i f n w v k wr) (fun _ k _ => f + n - (intOf k).toNat)
  case atStart => exact ⟨0, f, rfl, rfl, Nat.zero_le _, World.ownsRow_nil _ _ _ _, Below.refl _ _⟩
  case round =>
    obtain ⟨j, q, rfl, hq, hj, hown, hbw⟩ := hrel
    have hsz := hbw.size
    have hq0 : f ≤ q := by omega
    have hq1 : q ≤ f + n := by omega
    by_cases hp : j < n
    · have HM := Lib.hid (show dmarks i f (j + 1) = dmarks i f j ++ [⟨nameL i (q : Int), [], [], [], false⟩] from by rw [dmarks_succ, hq]; rfl)
      have hcn := name_any i (q : Int) wr hi hi2 (by omega) (by omega)
      have hq2 : q < f + n := by omega
      have HQ := Lib.hid hq
      have HU : flt dfC (dmarks i f j ++ [⟨nameL i (q : Int), [], [], [], false⟩]) = flt dfC (dmarks i f j) ++ dfC ⟨nameL i (q : Int), [], [], [], false⟩ := by rw [flt_append, flt_one]
      replace HU := Lib.hid HU
      generalize nameL i (q : Int) = X at *
      clear hq
      go_wp2_with fail
      refine hcn.mono ?_
      rintro e w1 ⟨rfl, b1⟩
      have hown1 := ownsRow_below hown b1
      have hsz1 := b1.size
      have hnw := elt_cells w1 (dfC ⟨X, [], [], [], false⟩) 26
      go_wp2_with (at_builtin; refine wpList_append_own _ rfl _ _ 40 rfl w.heap.size 26 i0 (.agg #[.string ByteArray.empty, .string ByteArray.empty, .string ByteArray.empty, .string ByteArray.empty, .bool false]) 5 72 Tryz.underlying40 hi0 hz0 hz1 hz2 rfl (by decide) _ _ _ rfl (hown1.alloc _) ⟨w1.heap.size, 0, none⟩ 1 1 (dfC ⟨X, [], [], [], false⟩) rfl rfl hnw (dfC_one _) (by unfold maxLen; omega) (by omega) (by simp; omega) ?_)
      · intro v' w2 hown' hgrow _
        have hbw3 := ((hbw.trans (b1.mono hsz)).alloc (by omega) _).grown hgrow (by simp; omega) (fun k hk => (hown1.lt k hk).1)
        rw [← HU.out] at hown'
        have HO := Lib.hid hown'
        clear hown' hgrow
        go_wp2
        go_roundw
        case rel => exact ⟨j + 1, q + 1, by go_num, by rw [HQ.out]; omega, by omega, by rw [HM.out]; exact HO.out, hbw3⟩
        case measure => simp [intOf]; omega
    · obtain rfl : j = n := by omega
      have hq3 : ¬ q < f + j := by omega
      clear hq
      go_wp2
      go_ret
      exact ⟨_, rfl, hown, hbw⟩

end Go.Proofs.YtioolcnoiaoflaaGreatDoor

namespace Go.Proofs.YtioolcnoiaoflaaGreatDoor
open Go.RowKit
set_option linter.unusedSimpArgs false
set_option linter.unusedVariables false
set_option maxRecDepth 100000

abbrev DefsAt (w : World) (A : Option Addr) (cap : Nat) (X : List Dfn) : Prop := EltsAt w dfC 5 A cap X
theorem DefsAt.cells5 {w : World} {A : Option Addr} {cap : Nat} {X : List Dfn} (h : DefsAt w A cap X) {k : Nat} (hk : k < X.length) :
    ∃ b off, A = some ⟨b, off, none⟩ ∧ b < w.heap.size ∧ w.cell? ⟨b, off + k * 5, none⟩ = some (.string ⟨X[k].nm.toArray⟩) ∧ w.cell? ⟨b, off + k * 5 + 1, none⟩ = some (.string ⟨X[k].url.toArray⟩) ∧
      w.cell? ⟨b, off + k * 5 + 2, none⟩ = some (.string ⟨X[k].ttl.toArray⟩) ∧ w.cell? ⟨b, off + k * 5 + 3, none⟩ = some (.string ⟨X[k].txt.toArray⟩) ∧ w.cell? ⟨b, off + k * 5 + 4, none⟩ = some (.bool X[k].nt) := by
  obtain ⟨b, off, e, hlt, hc⟩ := h.at hk
  exact ⟨b, off, e, hlt, hc 0 _ rfl, hc 1 _ rfl, hc 2 _ rfl, hc 3 _ rfl, hc 4 _ rfl⟩

def SdRel (X : List Dfn) (w : World) (i : Value) (wr : World) : Prop := ∃ k n : Nat, i = .int .i64 k ∧ k ≤ X.length ∧ wr = w.drewN n
theorem DefsAt.drew {w : World} {A : Option Addr} {cap : Nat} {X : List Dfn} (h : DefsAt w A cap X) (n : Nat) : DefsAt (w.drewN n) A cap X := EltsAt.heap (w := w) (w' := w.drewN n) rfl h

set_option maxHeartbeats 8000000 in
theorem sameDefs_same (A B : Option Addr) (ca cb : Nat) (X : List Dfn) (w : World) (ha : DefsAt w A ca X) (hb : DefsAt w B cb X) :
    Calls Tryz.prog 13 #[.slice A X.length ca, .slice B X.length cb] w (QuietBool w true) := by
  have ha1 := ha.le
  have ha2 := ha.cap
  have hb1 := hb.le
  have hb2 := hb.cap
  unfold maxLen at ha2 hb2
  have HA := Lib.hid ha
  have HB := Lib.hid hb
  clear ha hb
  go_enter Tryz.func13, Tryz.ntmps13
  go_wp2_with fail
  go_loopw [5] (fun i wr => SdRel X w i wr) (fun i _ => X.length - (intOf i).toNat)
  case atStart => exact ⟨0, 0, rfl, Nat.zero_le _, rfl⟩
  case round =>
    obtain ⟨k, n, rfl, hk, rfl⟩ := hrel
    by_cases hp : k < X.length
    · obtain ⟨b1, o1, hA1, _, c0, c1, c2, c3, c4⟩ := DefsAt.cells5 HA.out hp
      obtain ⟨b2, o2, hB1, _, d0, d1, d2, d3, d4⟩ := DefsAt.cells5 HB.out hp
      generalize X[k] = x at *
      obtain ⟨xn, xu, xt, xx, xb⟩ := x
      dsimp only at c0 c1 c2 c3 c4 d0 d1 d2 d3 d4
      subst hA1
      subst hB1
      go_wp2_with fail
      go_quiet (fail)
      go_wp2
      exact ⟨⟨k + 1, _, by go_num, by omega, rfl⟩, by simp [intOf]; omega⟩
    · obtain rfl : k = X.length := by omega
      go_wp2
      go_ret
      exact ⟨rfl, n, rfl⟩

end Go.Proofs.YtioolcnoiaoflaaGreatDoor

namespace Go.Proofs.YtioolcnoiaoflaaGreatDoor
open Go.RowKit
set_option linter.unusedSimpArgs false
set_option linter.unusedVariables false

theorem dinfoSlice : (Tryz.prog.info? 40).map (fun i => (i.zero, i.size, i.bytes)) = some (some (.slice none 0 0), 1, 24) := by kernel_rfl

/-- The book's cells where it holds texts alone. -/
def dbookCells (tv uv : Value) : Array Value := #[.slice none 0 0, .slice none 0 0, .slice none 0 0, .slice none 0 0, .slice none 0 0, .slice none 0 0, .slice none 0 0, .slice none 0 0, .slice none 0 0, .slice none 0 0, tv, uv, .slice none 0 0, .slice none 0 0, .slice none 0 0, .slice none 0 0]

/-- Rows of texts, one behind the other in blocks of their own. -/
def DRows1 (w : World) (B : Nat) (vs : List Value) (lss : List (List Dfn)) : Prop :=
  vs.length = lss.length ∧ ∀ (i : Nat) (v : Value) (ls : List Dfn), vs[i]? = some v → lss[i]? = some ls → w.ownsRow B 26 5 v ls.length (flt dfC ls)

/-- What the book at b holds: texts (and copies of what was in them). -/
structure DBookIs (w : World) (B b : Nat) (tv uv : Value) (vs us : List Value) (lss : List (List Dfn)) : Prop where
  blk : w.heap[b]? = some (.cells (dbookCells tv uv) 39 (0, 0))
  base : B ≤ b
  tvs : w.ownsRow B 40 1 tv vs.length vs
  uvs : w.ownsRow B 40 1 uv us.length us
  ne : Apart tv uv
  tl : DRows1 w B vs lss
  ul : DRows1 w B us lss
  dist : Dist (vs ++ us)

theorem DBookIs.lt {w : World} {B b : Nat} {tv uv : Value} {vs us : List Value} {lss : List (List Dfn)} (h : DBookIs w B b tv uv vs us lss) : b < w.heap.size := (Array.getElem?_eq_some_iff.1 h.blk).1
theorem DBookIs.cell {w : World} {B b : Nat} {tv uv : Value} {vs us : List Value} {lss : List (List Dfn)} (h : DBookIs w B b tv uv vs us lss) (i : Nat) : w.cell? ⟨b, i, none⟩ = (dbookCells tv uv)[i]? := cell_of_row w b i _ _ (0, 0) h.blk
theorem DBookIs.free {w : World} {B b : Nat} {tv uv : Value} {vs us : List Value} {lss : List (List Dfn)} (h : DBookIs w B b tv uv vs us lss) (i : Nat) : w.frozen? ⟨b, i, none⟩ = false := by
  have := h.blk
  simp [World.frozen?, this]

/-- Every row of texts stays as it was. -/
def DStrKept (w w' : World) : Prop := ∀ (g : Nat) (cs : Array Value) (fz : Nat × Nat), w.heap[g]? = some (.cells cs 26 fz) → w'.heap[g]? = some (.cells cs 26 fz)
theorem DStrKept.row {w w' : World} (h : DStrKept w w') {B : Nat} {v : Value} {n : Nat} {xs : List Value} (k : w.ownsRow B 26 5 v n xs) : w'.ownsRow B 26 5 v n xs := by
  refine ⟨k.1, ?_⟩
  rcases k.2 with hn | ⟨g, cap, cur, rfl, hB, hg, rest⟩
  · exact .inl hn
  · exact .inr ⟨g, cap, cur, rfl, hB, h _ _ _ hg, rest⟩
theorem DStrKept.rows {w w' : World} (h : DStrKept w w') {B : Nat} {vs : List Value} {lss : List (List Dfn)} (k : DRows1 w B vs lss) : DRows1 w' B vs lss :=
  ⟨k.1, fun i v ls hv hl => h.row (k.2 i v ls hv hl)⟩
theorem DStrKept.refl (w : World) : DStrKept w w := fun _ _ _ h => h
theorem DStrKept.trans {a b c : World} (h : DStrKept a b) (k : DStrKept b c) : DStrKept a c := fun g cs fz hg => k g cs fz (h g cs fz hg)
theorem DStrKept.below {w w' : World} (h : Below w.heap.size w w') : DStrKept w w' := fun g cs fz hg => (h.block g (Array.getElem?_eq_some_iff.1 hg).1).trans hg
theorem DStrKept.drew (w : World) : DStrKept w w.drew := fun _ _ _ h => h
theorem DStrKept.alloc (w : World) (o : Obj) : DStrKept w (w.alloc o) := fun g cs fz hg => (Below.heap_alloc w o g (Array.getElem?_eq_some_iff.1 hg).1).trans hg
theorem DStrKept.grown {w w' : World} {B : Nat} {e : TypeId} {size : Nat} {v : Value} {n : Nat} {xs : List Value} (h : w.ownsRow B e size v n xs) (hg : w.grownBy w' v.ownBlock) (hne : e ≠ 26) : DStrKept w w' := by
  intro g cs fz hgg
  rw [hg.block g (Array.getElem?_eq_some_iff.1 hgg).1 (fun e1 => own_ne h hgg hne e1.symm)]
  exact hgg
theorem DStrKept.setCell {w : World} {b : Nat} {cs : Array Value} {t : TypeId} {fz : Nat × Nat} (hb : w.heap[b]? = some (.cells cs t fz)) (hne : t ≠ 26) (i : Nat) (u : Value) : DStrKept w (w.setCell ⟨b, i, none⟩ u) := by
  intro g cs' fz' hg
  have hgb : g ≠ b := by
    rintro rfl
    rw [hb] at hg
    injection hg with hg
    injection hg with _ ht
    exact hne ht
  rw [Below.heap_setCell w ⟨b, i, none⟩ u g hgb]
  exact hg


/-- What stands behind a copy that was made while the book's second list is known. -/
structure DCopyPost (B b : Nat) (ls : List Dfn) (tv uv : Value) (us : List Value) (W : World) (Au : Option Addr) (cu : Nat) (w3 : World) : Prop where
  below : Below W.heap.size W w3
  blk : w3.heap[b]? = some (.cells (dbookCells tv uv) 39 (0, 0))
  own : w3.ownsRow B 40 1 uv us.length us
  new : w3.ownsRow W.heap.size 26 5 (.slice Au ls.length cu) ls.length (flt dfC ls)

theorem dbook_cell {w : World} {b : Nat} {tv uv : Value} (h : w.heap[b]? = some (.cells (dbookCells tv uv) 39 (0, 0))) : w.cell? ⟨b, 11, none⟩ = some uv ∧ w.frozen? ⟨b, 1, none⟩ = false :=
  ⟨(cell_of_row w b 11 _ _ (0, 0) h).trans rfl, by simp [World.frozen?, h]⟩

theorem dgrow_book {w3 w4 : World} {B b : Nat} {tv uv v : Value} {n : Nat} {xs : List Value} (blk : w3.heap[b]? = some (.cells (dbookCells tv uv) 39 (0, 0))) (own : w3.ownsRow B 40 1 v n xs) {o : Obj}
    (hg : (w3.alloc o).grownBy w4 v.ownBlock) : w4.heap[b]? = some (.cells (dbookCells tv uv) 39 (0, 0)) := by
  have hb := (Array.getElem?_eq_some_iff.1 blk).1
  rw [hg.block b (by simp; omega) (fun e => own_ne own blk (by decide) e.symm), Below.heap_alloc w3 _ b hb]
  exact blk

theorem dbook_set0 {w : World} {b : Nat} {tv uv : Value} (h : w.heap[b]? = some (.cells (dbookCells tv uv) 39 (0, 0))) (tv' : Value) :
    (w.setCell ⟨b, 10, none⟩ tv').heap[b]? = some (.cells (dbookCells tv' uv) 39 (0, 0)) := by
  simp [World.setCell, Array.getElem?_modify, h, dbookCells]
theorem dbook_set1 {w : World} {b : Nat} {tv uv : Value} (h : w.heap[b]? = some (.cells (dbookCells tv uv) 39 (0, 0))) (uv' : Value) :
    (w.setCell ⟨b, 11, none⟩ uv').heap[b]? = some (.cells (dbookCells tv uv') 39 (0, 0)) := by
  simp [World.setCell, Array.getElem?_modify, h, dbookCells]

set_option maxHeartbeats 1000000 in
theorem dtexts_end (B b : Nat) (tv uv : Value) (vs us : List Value) (lss : List (List Dfn)) (A : Option Addr) (cap : Nat) (ls : List Dfn) (w : World) (hB : B ≤ w.heap.size)
    (h : DBookIs w B b tv uv vs us lss) (hown : w.ownsRow B 26 5 (.slice A ls.length cap) ls.length (flt dfC ls)) (hd : ∀ u ∈ vs ++ us, Apart (.slice A ls.length cap) u)
    (o1 : Obj) (w1 : World) (g1 cap1 : Nat) (hown1 : w1.ownsRow B 40 1 (.slice (some ⟨g1, 0, none⟩) (vs.length + 1) cap1) (vs.length + 1) (vs ++ [.slice A ls.length cap])) (hg1 : (w.alloc o1).grownBy w1 tv.ownBlock)
    (hat1 : tv.ownBlock = some g1 ∨ g1 = w.heap.size + 1) (hlt1 : g1 < w1.heap.size)
    (w2 : World) (hw2 : w2 = w1.setCell ⟨b, 10, none⟩ (.slice (some ⟨g1, 0, none⟩) (vs.length + 1) cap1))
    (w3 : World) (Au : Option Addr) (cu : Nat) (hp : DCopyPost B b ls (.slice (some ⟨g1, 0, none⟩) (vs.length + 1) cap1) uv us w2 Au cu w3)
    (o3 : Obj) (w4 : World) (g4 cap4 : Nat) (hown4 : w4.ownsRow B 40 1 (.slice (some ⟨g4, 0, none⟩) (us.length + 1) cap4) (us.length + 1) (us ++ [.slice Au ls.length cu])) (hg4 : (w3.alloc o3).grownBy w4 uv.ownBlock)
    (hat4 : uv.ownBlock = some g4 ∨ g4 = (w3.alloc o3).heap.size) :
    (∃ tv' uv' u, DBookIs (w4.setCell ⟨b, 11, none⟩ (.slice (some ⟨g4, 0, none⟩) (us.length + 1) cap4)) B b tv' uv' (vs ++ [.slice A ls.length cap]) (us ++ [u]) (lss ++ [ls]) ∧ ∀ g, u.ownBlock = some g → w.heap.size ≤ g) ∧
      DStrKept w (w4.setCell ⟨b, 11, none⟩ (.slice (some ⟨g4, 0, none⟩) (us.length + 1) cap4)) ∧ Below B w (w4.setCell ⟨b, 11, none⟩ (.slice (some ⟨g4, 0, none⟩) (us.length + 1) cap4)) := by
  have hbl := h.lt
  have s0 : (w.alloc o1).heap.size = w.heap.size + 1 := by show (w.heap.push _).size = _; simp
  have s1 := hg1.size
  have blk1 : w1.heap[b]? = some (.cells (dbookCells tv uv) 39 (0, 0)) := dgrow_book h.blk h.tvs hg1
  have blk2 : w2.heap[b]? = some (.cells (dbookCells (.slice (some ⟨g1, 0, none⟩) (vs.length + 1) cap1) uv) 39 (0, 0)) := by rw [hw2]; exact dbook_set0 blk1 _
  have s2 : w2.heap.size = w1.heap.size := by rw [hw2]; simp [World.setCell]
  have hown2 : w2.ownsRow B 40 1 (.slice (some ⟨g1, 0, none⟩) (vs.length + 1) cap1) (vs.length + 1) (vs ++ [.slice A ls.length cap]) := by rw [hw2]; exact own_set hown1 blk1 (by decide) 10 _
  have s3 := hp.below.size
  have s3a : (w3.alloc o3).heap.size = w3.heap.size + 1 := by show (w3.heap.push _).size = _; simp
  have s4 := hg4.size
  have hown3 := ownsRow_below hown2 hp.below
  have blk4 := dgrow_book hp.blk hp.own hg4
  have sk12 : DStrKept w w2 := by
    rw [hw2]
    exact ((DStrKept.alloc w o1).trans (DStrKept.grown (h.tvs.alloc o1) hg1 (by decide))).trans (DStrKept.setCell blk1 (by decide) 10 _)
  have sk35 : DStrKept w3 (w4.setCell ⟨b, 11, none⟩ (.slice (some ⟨g4, 0, none⟩) (us.length + 1) cap4)) :=
    ((DStrKept.alloc w3 o3).trans (DStrKept.grown (hp.own.alloc o3) hg4 (by decide))).trans (DStrKept.setCell blk4 (by decide) 11 _)
  have sk := (sk12.trans (DStrKept.below hp.below)).trans sk35
  have ne1 : Apart (.slice (some ⟨g1, 0, none⟩) (vs.length + 1) cap1) uv := by
    intro g hg hu
    simp [Value.ownBlock] at hg
    subst hg
    rcases hat1 with e | e
    · exact h.ne _ e hu
    · have := (h.uvs.lt _ hu).2
      omega
  have tv4 : w4.ownsRow B 40 1 (.slice (some ⟨g1, 0, none⟩) (vs.length + 1) cap1) (vs.length + 1) (vs ++ [.slice A ls.length cap]) := (hown3.alloc o3).kept hg4 ne1.ne
  refine ⟨⟨.slice (some ⟨g1, 0, none⟩) (vs.length + 1) cap1, .slice (some ⟨g4, 0, none⟩) (us.length + 1) cap4, .slice Au ls.length cu, ⟨dbook_set1 blk4 _, h.base, ?_, ?_, ?_, ?_, ?_, ?_⟩, fun g hg => by have := (hp.new.lt g hg).1; omega⟩, sk, ?_⟩
  · rw [List.length_append]; exact own_set tv4 blk4 (by decide) 11 _
  · rw [List.length_append]; exact own_set hown4 blk4 (by decide) 11 _
  · intro g hg hu
    simp [Value.ownBlock] at hg hu
    subst hg
    rcases hat4 with e | e
    · exact ne1 _ rfl (by rw [e, hu])
    · omega
  · refine ⟨by simp [h.tl.1], fun i v l hv hl => ?_⟩
    have e1 := h.tl.1
    by_cases hi : i < vs.length
    · rw [List.getElem?_append_left hi] at hv
      rw [List.getElem?_append_left (by omega)] at hl
      exact sk.row (h.tl.2 i v l hv hl)
    · rw [List.getElem?_append_right (by omega)] at hv hl
      rw [← e1] at hl
      have h0 : i - vs.length = 0 := by
        have := (List.getElem?_eq_some_iff.1 hv).1
        simp at this
        omega
      rw [h0] at hv hl
      simp at hv hl
      subst hv hl
      exact sk.row hown
  · refine ⟨by simp [h.ul.1], fun i v l hv hl => ?_⟩
    have e1 := h.ul.1
    by_cases hi : i < us.length
    · rw [List.getElem?_append_left hi] at hv
      rw [List.getElem?_append_left (by omega)] at hl
      exact sk.row (h.ul.2 i v l hv hl)
    · rw [List.getElem?_append_right (by omega)] at hv hl
      rw [← e1] at hl
      have h0 : i - us.length = 0 := by
        have := (List.getElem?_eq_some_iff.1 hv).1
        simp at this
        omega
      rw [h0] at hv hl
      simp at hv hl
      subst hv hl
      have hn := sk35.row hp.new
      exact own_low hn (by omega)
  · have hnew : ∀ x ∈ vs ++ us, Apart x (.slice Au ls.length cu) := by
      intro x hx
      rw [List.mem_append] at hx
      rcases hx with hx | hx
      · obtain ⟨i, hi⟩ := List.mem_iff_getElem?.1 hx
        have hil := (List.getElem?_eq_some_iff.1 hi).1
        have e1 := h.tl.1
        exact own_new (h.tl.2 i x lss[i] hi (List.getElem?_eq_getElem (by omega))) hp.new (by omega)
      · obtain ⟨i, hi⟩ := List.mem_iff_getElem?.1 hx
        have hil := (List.getElem?_eq_some_iff.1 hi).1
        have e1 := h.ul.1
        exact own_new (h.ul.2 i x lss[i] hi (List.getElem?_eq_getElem (by omega))) hp.new (by omega)
    have hln : Apart (.slice A ls.length cap) (.slice Au ls.length cu) := own_new hown hp.new (by omega)
    have hdd := h.dist
    unfold Dist at hdd ⊢
    rw [List.pairwise_append] at hdd
    simp only [List.pairwise_append, List.mem_append, List.mem_singleton, List.pairwise_cons, List.Pairwise.nil, List.not_mem_nil, false_implies, implies_true, and_true, true_and]
    refine ⟨⟨hdd.1, fun a ha c hc => ?_⟩, ⟨hdd.2.1, fun a ha c hc => ?_⟩, fun a ha c hc => ?_⟩
    · subst hc; exact (hd a (by simp [ha])).symm
    · subst hc; exact hnew a (by simp [ha])
    · rcases ha with ha | rfl
      · rcases hc with hc | rfl
        · exact hdd.2.2 a ha c hc
        · exact hnew a (by simp [ha])
      · rcases hc with hc | rfl
        · exact hd c (by simp [hc])
        · exact hln
  · have q1 : Below B w w1 := ((Below.refl B w).alloc hB o1).grown hg1 (by omega) (fun k hk => (h.tvs.lt k hk).1)
    have q2 : Below B w w2 := by rw [hw2]; exact q1.setCell (p := ⟨b, 10, none⟩) h.base _
    have q3 : Below B w w3 := q2.trans (hp.below.mono (by omega))
    have q4 : Below B w w4 := (q3.alloc (by omega) o3).grown hg4 (by omega) (fun k hk => (hp.own.lt k hk).1)
    exact q4.setCell (p := ⟨b, 11, none⟩) h.base _

end Go.Proofs.YtioolcnoiaoflaaGreatDoor

namespace Go.Proofs.YtioolcnoiaoflaaGreatDoor
open Go.RowKit
set_option linter.unusedSimpArgs false
set_option linter.unusedVariables false

theorem DBookIs.heap {w w' : World} (hh : w'.heap = w.heap) {B b : Nat} {tv uv : Value} {vs us : List Value} {lss : List (List Dfn)} (h : DBookIs w B b tv uv vs us lss) : DBookIs w' B b tv uv vs us lss :=
  ⟨by rw [hh]; exact h.blk, h.base, own_heap hh h.tvs, own_heap hh h.uvs, h.ne, ⟨h.tl.1, fun i v ls hv hl => own_heap hh (h.tl.2 i v ls hv hl)⟩, ⟨h.ul.1, fun i v ls hv hl => own_heap hh (h.ul.2 i v ls hv hl)⟩, h.dist⟩

theorem DBookIs.below {w w' : World} {B b : Nat} {tv uv : Value} {vs us : List Value} {lss : List (List Dfn)} (h : DBookIs w B b tv uv vs us lss) (hb : Below w.heap.size w w') : DBookIs w' B b tv uv vs us lss :=
  ⟨(hb.block b h.lt).trans h.blk, h.base, ownsRow_below h.tvs hb, ownsRow_below h.uvs hb, h.ne, ⟨h.tl.1, fun i v ls hv hl => ownsRow_below (h.tl.2 i v ls hv hl) hb⟩, ⟨h.ul.1, fun i v ls hv hl => ownsRow_below (h.ul.2 i v ls hv hl) hb⟩, h.dist⟩
/-- A new book. -/
theorem DBookIs.new {w : World} {B b : Nat} (hb : w.heap[b]? = some (.cells (dbookCells (.slice none 0 0) (.slice none 0 0)) 39 (0, 0))) (hB : B ≤ b) : DBookIs w B b (.slice none 0 0) (.slice none 0 0) [] [] [] :=
  ⟨hb, hB, World.ownsRow_nil _ _ _ _, World.ownsRow_nil _ _ _ _, fun g hg => by simp [Value.ownBlock] at hg, ⟨rfl, fun i v ls hv => by simp at hv⟩, ⟨rfl, fun i v ls hv => by simp at hv⟩, List.Pairwise.nil⟩

def DStillRel (m : Nat) (w : World) (i : Value) (wr : World) : Prop := ∃ k n : Nat, i = .int .i64 k ∧ k ≤ m ∧ wr = w.drewN n

set_option maxHeartbeats 1000000 in
theorem stillDefs_any (B b : Nat) (tv uv : Value) (vs us : List Value) (lss : List (List Dfn)) (w : World) (h : DBookIs w B b tv uv vs us lss) (hm : vs.length ≤ 1000) :
    Calls Tryz.prog 38 #[.pointer (some ⟨b, 0, none⟩)] w (QuietBool w true) := by
  have H := Lib.hid h
  clear h
  go_enter Tryz.func38, Tryz.ntmps38
  go_wp2_with fail
  go_loopw [3] (fun i wr => DStillRel vs.length w i wr) (fun i _ => vs.length - (intOf i).toNat)
  case atStart => exact ⟨0, 0, rfl, Nat.zero_le _, rfl⟩
  case round =>
    obtain ⟨k, n, rfl, hk, hw⟩ := hrel
    have hbk : DBookIs wr B b tv uv vs us lss := H.out.heap (by rw [hw]; rfl)
    have HW := Lib.hid hw
    clear hw
    obtain ⟨At, ct, rfl, _, _⟩ := RowOf.own hbk.tvs
    obtain ⟨Au, cu, rfl, _, _⟩ := RowOf.own hbk.uvs
    have hc0 : wr.cell? ⟨b, 10, none⟩ = some (.slice At vs.length ct) := (hbk.cell 10).trans rfl
    have hc1 : wr.cell? ⟨b, 11, none⟩ = some (.slice Au us.length cu) := (hbk.cell 11).trans rfl
    have hlu : us.length = vs.length := by rw [hbk.ul.1, hbk.tl.1]
    have hls : lss.length = vs.length := by rw [hbk.tl.1]
    by_cases hp : k < vs.length
    · obtain ⟨gt, rfl, hgt, hct⟩ := row_cell hbk.tvs hp
      obtain ⟨gu, rfl, hgu, hcu⟩ := row_cell hbk.uvs (k := k) (by omega)
      have hv := hbk.tl.2 k vs[k] (lss[k]'(by omega)) (List.getElem?_eq_getElem hp) (List.getElem?_eq_getElem (by omega))
      have hu := hbk.ul.2 k (us[k]'(by omega)) (lss[k]'(by omega)) (List.getElem?_eq_getElem (by omega)) (List.getElem?_eq_getElem (by omega))
      obtain ⟨A1, c1, e1, hr1⟩ := EltsAt.own dfC_length hv
      obtain ⟨A2, c2, e2, hr2⟩ := EltsAt.own dfC_length hu
      rw [e1] at hct
      rw [e2] at hcu
      have hsm := fun W hh => sameDefs_same A1 A2 c1 c2 (lss[k]'(by omega)) W (hr1.heap hh) (hr2.heap hh)
      generalize (lss[k]'(by omega)) = ls at *
      have hpu : k < us.length := by omega
      have HB := Lib.hid hbk
      clear hbk hlu hls e1 e2 hv hu
      have HS := Lib.hid hsm
      clear hsm
      go_wp2_with fail
      go_quiet ((go_at_call 13; exact Calls.quiet_of (HS.out _ rfl)))
      rename_i nq
      go_wp2
      go_roundw
      case rel => exact ⟨k + 1, n + nq, by go_num, by omega, by rw [HW.out, World.drewN_drewN]⟩
      case measure => simp [intOf]; omega
    · have HB := Lib.hid hbk
      clear hbk hlu hls
      go_wp2
      go_ret
      exact ⟨rfl, n, HW.out⟩


/-- Each list of vs is read as its dmarks. -/
def DMarked (w : World) (vs : List Value) : Prop := ∀ (i : Nat) (v : Value), vs[i]? = some v → ∃ A n c, v = .slice A n c ∧ n ≤ 1000000 ∧ DefsAt w A c (dmarks i 0 n)
theorem DMarked.below {w w' : World} {vs : List Value} (h : DMarked w vs) (hb : Below w.heap.size w w') : DMarked w' vs := fun i v hv => by
  obtain ⟨A, n, c, e, hn, hr⟩ := h i v hv
  exact ⟨A, n, c, e, hn, hr.below hb⟩

/-- What is held while a list is looked at: a cell, and that nothing below has turned. -/
def DHeldC (w : World) (p : Addr) (u : Value) (W : World) : Prop := W.cell? p = some u ∧ Below w.heap.size w W

theorem dmark_at (w : World) (p : Addr) (u : Value) (hp : p.block < w.heap.size) (i : Int) (n : Nat) (hi : 0 ≤ i) (hi2 : i ≤ 100000) (hn : n ≤ 1000000) (W : World) (h : W.cell? p = some u ∧ Below w.heap.size w W) :
    Calls Tryz.prog 94 #[.int .i64 i, .int .i64 0, .int .i64 n] W fun e w' => ∃ A2 c2, e = .returned (.slice A2 n c2) ∧ (w'.cell? p = some u ∧ Below w.heap.size w w') ∧ DefsAt w' A2 c2 (dmarks i 0 n) := by
  refine (markDefs_any i 0 n W hi hi2 (by omega) hn).mono ?_
  rintro e w' ⟨v, rfl, hown, hb⟩
  obtain ⟨A2, c2, rfl, hr⟩ := EltsAt.own dfC_length (X := dmarks i 0 n) (by rw [dmarks_length]; exact hown)
  rw [dmarks_length]
  exact ⟨A2, c2, rfl, ⟨(hb.cell (p := p) (Nat.lt_of_lt_of_le hp h.2.size)).trans h.1, h.2.then hb⟩, hr⟩

theorem dsame_at (w : World) (p : Addr) (u : Value) (A1 : Option Addr) (c1 : Nat) (ls : List Dfn) (n : Nat) (hl : ls.length = n) (hr1 : DefsAt w A1 c1 ls) (A2 : Option Addr) (c2 : Nat) (W : World) (h : W.cell? p = some u ∧ Below w.heap.size w W)
    (hr2 : DefsAt W A2 c2 ls) :
    Calls Tryz.prog 13 #[.slice A1 n c1, .slice A2 n c2] W fun e w' => e = .returned (.bool true) ∧ (w'.cell? p = some u ∧ Below w.heap.size w w') := by
  subst hl
  refine (sameDefs_same A1 A2 c1 c2 ls W (hr1.below h.2) hr2).mono ?_
  rintro e w' ⟨rfl, n, rfl⟩
  exact ⟨rfl, h.1, below_drewN' h.2 n⟩

def DMarkedRel (m : Nat) (w : World) (i : Value) (wr : World) : Prop := ∃ k : Nat, i = .int .i64 k ∧ k ≤ m ∧ Below w.heap.size w wr

set_option maxHeartbeats 2000000 in
theorem markedDefs_any (A : Option Addr) (cap : Nat) (vs : List Value) (w : World) (hrow : RowOf w A cap vs) (hm : DMarked w vs) (hl : vs.length ≤ 1000) :
    Calls Tryz.prog 62 #[.slice A vs.length cap] w fun e w' => e = .returned (.bool true) ∧ Below w.heap.size w w' := by
  have hc1 := hrow.1
  have hc2 := hrow.2.1
  unfold maxLen at hc2
  have HM := Lib.hid hm
  clear hm
  go_enter Tryz.func62, Tryz.ntmps62
  go_wp2_with fail
  go_loopw [3] (fun i wr => DMarkedRel vs.length w i wr) (fun i _ => vs.length - (intOf i).toNat)
  case atStart => exact ⟨0, rfl, Nat.zero_le _, Below.refl _ _⟩
  case round =>
    obtain ⟨k, rfl, hk, hbw⟩ := hrel
    by_cases hp : k < vs.length
    · have hne : vs ≠ [] := by intro e; rw [e] at hp; simp at hp
      obtain ⟨g, off, rfl, hg, hc⟩ := hrow.at hne
      have hck := (hbw.cell (p := ⟨g, off + k, none⟩) hg).trans (hc k hp)
      obtain ⟨A1, n, c1, e1, hn, hr⟩ := HM.out k vs[k] (List.getElem?_eq_getElem hp)
      rw [e1] at hck
      have hgw : (⟨g, off + k, none⟩ : Addr).block < wr.heap.size := Nat.lt_of_lt_of_le hg hbw.size
      have ca := dmark_at wr ⟨g, off + k, none⟩ (.slice A1 n c1) hgw k n (by omega) (by omega) hn
      have cb := fun A2 c2 => dsame_at wr ⟨g, off + k, none⟩ (.slice A1 n c1) A1 c1 (dmarks k 0 n) n (dmarks_length _ _ _) (hr.below hbw) A2 c2
      have CA := Lib.hid ca
      have CB := Lib.hid cb
      have hS : wr.drew.cell? ⟨g, off + k, none⟩ = some (.slice A1 n c1) ∧ Below wr.heap.size wr wr.drew := ⟨hck, (Below.refl _ _).drew⟩
      have hgk : g < wr.heap.size := hgw
      clear ca cb hc hr hne
      go_wp2_with fail
      go_region_held3 (fun W => W.cell? ⟨g, off + k, none⟩ = some (.slice A1 n c1) ∧ Below wr.heap.size wr W) (assumption) (first | (go_at_call 94; (with_reducible refine (CA.out _ (by assumption)).mono ?_); rintro e w5 ⟨A2, c2, rfl, hS5, hr5⟩) | (go_at_call 13; (with_reducible refine (CB.out _ _ _ (by assumption) (by assumption)).mono ?_); rintro e w6 ⟨rfl, hS6⟩))
      go_wp2
      go_roundw
      case rel => exact ⟨k + 1, by go_num, by omega, hbw.then hS6.2⟩
      case measure => simp [intOf]; omega
    · go_wp2
      go_ret
      exact ⟨rfl, hbw⟩

end Go.Proofs.YtioolcnoiaoflaaGreatDoor

namespace Go.Proofs.YtioolcnoiaoflaaGreatDoor
open Go.RowKit
set_option linter.unusedSimpArgs false
set_option linter.unusedVariables false

/-- Rows of texts: the i-th holds f i. -/
def DRowsF (w : World) (B : Nat) (vs : List Value) (f : Nat → List Dfn) : Prop :=
  ∀ (i : Nat) (v : Value), vs[i]? = some v → w.ownsRow B 26 5 v (f i).length (flt dfC (f i))
/-- The book's texts alone. -/
structure DBookV (w : World) (B b : Nat) (tv uv : Value) (vs : List Value) (f : Nat → List Dfn) : Prop where
  blk : w.heap[b]? = some (.cells (dbookCells tv uv) 39 (0, 0))
  base : B ≤ b
  tvs : w.ownsRow B 40 1 tv vs.length vs
  tl : DRowsF w B vs f
  dist : Dist vs

theorem DBookIs.toV {w : World} {B b : Nat} {tv uv : Value} {vs us : List Value} {lss : List (List Dfn)} (h : DBookIs w B b tv uv vs us lss) : DBookV w B b tv uv vs (fun i => lss.getD i []) :=
  ⟨h.blk, h.base, h.tvs, fun i v hv => by
    have hi := (List.getElem?_eq_some_iff.1 hv).1
    have e := h.tl.1
    have h1 := h.tl.2 i v (lss[i]'(by omega)) hv (List.getElem?_eq_getElem (by omega))
    rw [List.getD_eq_getElem?_getD, List.getElem?_eq_getElem (by omega)]
    exact h1, (List.pairwise_append.1 h.dist).1⟩

/-- What a step that touches the k-th row alone does to the book. -/
theorem DBookV.step {w w' : World} {B b : Nat} {tv uv : Value} {vs : List Value} {f : Nat → List Dfn} (h : DBookV w B b tv uv vs f) {k : Nat} {v : Value} (hv : vs[k]? = some v) (hg : w.grownBy w' v.ownBlock)
    {g : Nat → List Dfn} (hk : w'.ownsRow B 26 5 v (g k).length (flt dfC (g k))) (ho : ∀ j, j ≠ k → g j = f j) : DBookV w' B b tv uv vs g := by
  have hrow := h.tl k v hv
  refine ⟨?_, h.base, h.tvs.kept hg (own_apart h.tvs hrow (by decide)).ne, fun i u hu => ?_, h.dist⟩
  · rw [hg.block b (Array.getElem?_eq_some_iff.1 h.blk).1 (fun e => own_ne hrow h.blk (by decide) e.symm)]
    exact h.blk
  · by_cases e : i = k
    · subst e
      rw [hv] at hu
      cases hu
      exact hk
    · rw [ho i e]
      exact (h.tl i u hu).kept hg (h.dist.get hu hv e).ne
theorem DBookV.below {w w' : World} {B b : Nat} {tv uv : Value} {vs : List Value} {f : Nat → List Dfn} (h : DBookV w B b tv uv vs f) (hb : Below w.heap.size w w') : DBookV w' B b tv uv vs f :=
  ⟨(hb.block b (Array.getElem?_eq_some_iff.1 h.blk).1).trans h.blk, h.base, ownsRow_below h.tvs hb, fun i u hu => ownsRow_below (h.tl i u hu) hb, h.dist⟩

/-- The world where a definition's five cells were written. -/
def put5 (w : World) (g o : Nat) (x : Dfn) : World :=
  ((((w.setCell ⟨g, o, none⟩ (.string ⟨x.nm.toArray⟩)).setCell ⟨g, o + 1, none⟩ (.string ⟨x.url.toArray⟩)).setCell ⟨g, o + 2, none⟩ (.string ⟨x.ttl.toArray⟩)).setCell ⟨g, o + 3, none⟩ (.string ⟨x.txt.toArray⟩)).setCell ⟨g, o + 4, none⟩ (.bool x.nt)

theorem dput_facts {wr w1 wq : World} {B b : Nat} {uv : Value} {vs : List Value} {f' : Nat → List Dfn} {gt ct k gi c1 gm cm n q : Nat} {ls ms : List Dfn} (hms : ms.length = n)
    (h : DBookV wr B b (.slice (some ⟨gt, 0, none⟩) vs.length ct) uv vs f') (hct : wr.cell? ⟨gt, k, none⟩ = some (.slice (some ⟨gi, 0, none⟩) n c1)) (b1 : Below wr.heap.size wr w1)
    (hr : wr.ownsRow B 26 5 (.slice (some ⟨gi, 0, none⟩) n c1) n (flt dfC ls)) (hm : w1.ownsRow wr.heap.size 26 5 (.slice (some ⟨gm, 0, none⟩) n cm) n (flt dfC ms))
    (hgr : w1.grownBy wq (Value.slice (some ⟨gi, 0, none⟩) n c1).ownBlock) (hown : wq.ownsRow B 26 5 (.slice (some ⟨gi, 0, none⟩) n c1) n (flt dfC (ms.take q ++ ls.drop q))) (hq : q < n) :
    wq.cell? ⟨b, 10, none⟩ = some (.slice (some ⟨gt, 0, none⟩) vs.length ct) ∧ wq.cell? ⟨gt, k, none⟩ = some (.slice (some ⟨gi, 0, none⟩) n c1) ∧
      (∀ j u, (dfC (ms[q]'(by omega)))[j]? = some u → wq.cell? ⟨gm, q * 5 + j, none⟩ = some u) ∧
      (∀ j, j < 5 → ∃ u, wq.cell? ⟨gi, q * 5 + j, none⟩ = some u) ∧ (∀ i, wq.frozen? ⟨gi, i, none⟩ = false) ∧ gi ≠ b ∧ gi ≠ gt ∧ gi ≠ gm := by
  have n1 : gi ≠ b := fun e => own_ne hr h.blk (by decide) (by rw [e]; rfl)
  have n2 : gi ≠ gt := fun e => own_apart h.tvs hr (by decide) gt rfl (by rw [e]; rfl)
  have n3 : gi ≠ gm := fun e => own_new hr hm (Nat.le_refl _) gi rfl (by rw [e]; rfl)
  have hbl := (Array.getElem?_eq_some_iff.1 h.blk).1
  have htl := (h.tvs.lt gt rfl).2
  have e1 : wr.cell? ⟨b, 10, none⟩ = some (.slice (some ⟨gt, 0, none⟩) vs.length ct) := (cell_of_row wr b 10 _ _ (0, 0) h.blk).trans rfl
  refine ⟨hgr.cell ((b1.cell (p := ⟨b, 10, none⟩) hbl).trans e1) (fun e => n1 (by cases e; rfl)), hgr.cell ((b1.cell (p := ⟨gt, k, none⟩) htl).trans hct) (fun e => n2 (by cases e; rfl)), fun j u hu => ?_, fun j hj => ?_, fun i => hown.frozenAt i, n1, n2, n3⟩
  · exact hgr.cell (own_elt dfC_length hm (by omega) j u hu) (fun e => n3 (by cases e; rfl))
  · have hl := hown.1
    have hc := hown.cellAt (q * 5 + j) (by omega)
    exact ⟨_, hc.trans (List.getElem?_eq_getElem (by omega))⟩

theorem dput_step {w1 wq : World} {B : Nat} {gi c1 n q : Nat} {ls ms : List Dfn} (hms : ms.length = n)
    (hgr : w1.grownBy wq (Value.slice (some ⟨gi, 0, none⟩) n c1).ownBlock) (hown : wq.ownsRow B 26 5 (.slice (some ⟨gi, 0, none⟩) n c1) n (flt dfC (ms.take q ++ ls.drop q))) (hq : q < n) :
    w1.grownBy (put5 wq gi (q * 5) (ms[q]'(by omega))) (Value.slice (some ⟨gi, 0, none⟩) n c1).ownBlock ∧
      (put5 wq gi (q * 5) (ms[q]'(by omega))).ownsRow B 26 5 (.slice (some ⟨gi, 0, none⟩) n c1) n (flt dfC (ms.take (q + 1) ++ ls.drop (q + 1))) := by
  have hl := hown.1
  rw [flt_length dfC_length, List.length_append, List.length_take, List.length_drop] at hl
  obtain ⟨s1, g1⟩ := hown.stored (q * 5) (.string ⟨(ms[q]'(by omega)).nm.toArray⟩)
  obtain ⟨s2, g2⟩ := s1.stored (q * 5 + 1) (.string ⟨(ms[q]'(by omega)).url.toArray⟩)
  obtain ⟨s3, g3⟩ := s2.stored (q * 5 + 2) (.string ⟨(ms[q]'(by omega)).ttl.toArray⟩)
  obtain ⟨s4, g4⟩ := s3.stored (q * 5 + 3) (.string ⟨(ms[q]'(by omega)).txt.toArray⟩)
  obtain ⟨s5, g5⟩ := s4.stored (q * 5 + 4) (.bool (ms[q]'(by omega)).nt)
  rw [flt_set5 dfC_length _ _ _ _ _ (ms[q]'(by omega)) rfl _ q (by rw [List.length_append, List.length_take, List.length_drop]; omega), take_set ms ls q (by omega) (by omega)] at s5
  exact ⟨((((hgr.trans g1).trans g2).trans g3).trans g4).trans g5, s5⟩
theorem dput_end {wr w1 w2 : World} {B b : Nat} {tv uv v : Value} {vs : List Value} {f : Nat → List Dfn} {k : Nat} (h : DBookV wr B b tv uv vs (fun j => if j < k then dmarks j 0 (f j).length else f j)) (hv : vs[k]? = some v)
    (b1 : Below wr.heap.size wr w1) (hgr : w1.grownBy w2 v.ownBlock) (hown : w2.ownsRow B 26 5 v (f k).length (flt dfC (dmarks k 0 (f k).length))) :
    DBookV w2 B b tv uv vs (fun j => if j < k + 1 then dmarks j 0 (f j).length else f j) := by
  refine (h.below b1).step hv hgr ?_ ?_
  · simp only [Nat.lt_succ_self, if_true]
    rw [dmarks_length]
    exact hown
  · intro j hj
    by_cases h1 : j < k
    · rw [if_pos h1, if_pos (by omega)]
    · rw [if_neg h1, if_neg (by omega)]
def DPutIn (w1 : World) (B : Nat) (v : Value) (ms ls : List Dfn) (n : Nat) (q : Value) (wr : World) : Prop :=
  ∃ k : Nat, q = .int .i64 k ∧ k ≤ n ∧ w1.grownBy wr v.ownBlock ∧ wr.ownsRow B 26 5 v n (flt dfC (ms.take k ++ ls.drop k))
def DPutRel (w : World) (B b : Nat) (tv uv : Value) (vs : List Value) (f : Nat → List Dfn) (i : Value) (wr : World) : Prop :=
  ∃ k : Nat, i = .int .i64 k ∧ k ≤ vs.length ∧ DBookV wr B b tv uv vs (fun j => if j < k then dmarks j 0 (f j).length else f j) ∧ Below B w wr

set_option maxHeartbeats 4000000 in
set_option maxRecDepth 100000 in
theorem putDefs_any (B b : Nat) (tv uv : Value) (vs : List Value) (f : Nat → List Dfn) (w : World) (hB : B ≤ w.heap.size) (h : DBookV w B b tv uv vs f) (hm : vs.length ≤ 1000) (hf : ∀ i, (f i).length ≤ 100000) :
    Calls Tryz.prog 46 #[.pointer (some ⟨b, 0, none⟩)] w fun e w' => e = .returned (.tuple #[]) ∧ DBookV w' B b tv uv vs (fun j => if j < vs.length then dmarks j 0 (f j).length else f j) ∧ Below B w w' := by
  have H := Lib.hid h
  have HF := Lib.hid hf
  clear h hf
  go_enter Tryz.func46, Tryz.ntmps46
  go_wp2_with fail
  go_loopw [2] (fun i wr => DPutRel w B b tv uv vs f i wr) (fun i _ => vs.length - (intOf i).toNat)
  case atStart => exact ⟨0, rfl, Nat.zero_le _, by simpa using H.out, Below.refl _ _⟩
  case round =>
    obtain ⟨k, rfl, hk, hbk, hbw⟩ := hrel
    obtain ⟨At, ct, rfl, _, _⟩ := RowOf.own hbk.tvs
    have hc0 : wr.cell? ⟨b, 10, none⟩ = some (.slice At vs.length ct) := (cell_of_row wr b 10 _ _ (0, 0) hbk.blk).trans rfl
    by_cases hp : k < vs.length
    · obtain ⟨gt, rfl, hgt, hct⟩ := row_cell hbk.tvs hp
      have hv := List.getElem?_eq_getElem hp
      have hrow := hbk.tl k _ hv
      simp only [Nat.lt_irrefl, if_false] at hrow
      have hfk := HF.out k
      generalize hvk : vs[k] = v at *
      obtain ⟨A1, c1, rfl, hr1⟩ := EltsAt.own dfC_length hrow
      have hsz := hbw.size
      have HB := Lib.hid hbk
      have HV := Lib.hid hv
      have HR := Lib.hid hrow
      have hbl := (Array.getElem?_eq_some_iff.1 hbk.blk).1
      clear hbk hv hvk hrow
      go_wp2_with fail
      refine (markDefs_any k 0 (f k).length wr (by omega) (by omega) (by omega) (by omega)).mono ?_
      rintro e w1 ⟨mv, rfl, hownm, b1⟩
      obtain ⟨Am, cm, rfl, hrm⟩ := EltsAt.own dfC_length (X := dmarks k 0 (f k).length) (by rw [dmarks_length]; exact hownm)
      rw [dmarks_length] at *
      have hs1 := b1.size
      have HMO := Lib.hid hownm
      clear hownm
      go_wp2_with fail
      go_loopw [4] (fun q w' => DPutIn w1 B (.slice A1 (f k).length c1) (dmarks k 0 (f k).length) (f k) (f k).length q w') (fun q _ => (f k).length - (intOf q).toNat)
      case atStart => exact ⟨0, rfl, Nat.zero_le _, World.grownBy.refl _ _, by simpa using ownsRow_below HR.out b1⟩
      case round =>
        obtain ⟨q, rfl, hq, hgr, hown⟩ := hrel
        by_cases hp2 : q < (f k).length
        · obtain ⟨gi, ci, ei, hBi, hgi⟩ := hown.form (by omega)
          cases ei
          obtain ⟨gm, cm2, em, _, _⟩ := HMO.out.form (by omega)
          cases em
          obtain ⟨d1, d2, d3, d4, d5, d6, d7, d8⟩ := dput_facts (ms := dmarks k 0 (f k).length) (dmarks_length _ _ _) HB.out hct b1 HR.out HMO.out hgr hown hp2
          have d30 : wr.cell? ⟨gm, q * 5, none⟩ = _ := d3 0 _ rfl
          have d31 := d3 1 _ rfl
          have d32 := d3 2 _ rfl
          have d33 := d3 3 _ rfl
          have d34 := d3 4 _ rfl
          obtain ⟨u0, d40⟩ : ∃ u, wr.cell? ⟨gi, q * 5, none⟩ = some u := d4 0 (by omega)
          obtain ⟨u1, d41⟩ := d4 1 (by omega)
          obtain ⟨u2, d42⟩ := d4 2 (by omega)
          obtain ⟨u3, d43⟩ := d4 3 (by omega)
          obtain ⟨u4, d44⟩ := d4 4 (by omega)
          have d50 := d5 (q * 5)
          have d51 := d5 (q * 5 + 1)
          have d52 := d5 (q * 5 + 2)
          have d53 := d5 (q * 5 + 3)
          have d54 := d5 (q * 5 + 4)
          clear d3 d4 d5
          have HS := Lib.hid (dput_step (dmarks_length _ _ _) hgr hown hp2)
          clear hgr hown
          go_wp2_with fail
          go_region
          go_wp2
          go_roundw
          case rel => exact ⟨q + 1, by go_num, by omega, grown_drew HS.out.1, HS.out.2⟩
          case measure => simp [intOf]; omega
        · obtain rfl : q = (f k).length := by omega
          have hfin : wr.ownsRow B 26 5 (.slice A1 (f k).length c1) (f k).length (flt dfC (dmarks k 0 (f k).length)) := by
            rw [List.take_of_length_le (by rw [dmarks_length]; omega), List.drop_of_length_le (by omega), List.append_nil] at hown
            exact hown
          have hbv := dput_end HB.out HV.out b1 hgr hfin
          have hbw2 := hbw.trans ((b1.mono (show B ≤ _ by omega)).trans (below_of_grown hgr (fun g hg => (HR.out.lt g hg).1) (by omega)))
          have HE := Lib.hid hbv
          have HE2 := Lib.hid hbw2
          clear hgr hown hfin hbv hbw2
          go_wp2
          go_roundw
          case rel => exact ⟨k + 1, by go_num, by omega, HE.out, HE2.out⟩
          case measure => simp [intOf]; omega
    · obtain rfl : k = vs.length := by omega
      have HB := Lib.hid hbk
      clear hbk
      go_wp2
      go_end0
      exact ⟨rfl, HB.out, hbw⟩

end Go.Proofs.YtioolcnoiaoflaaGreatDoor

namespace Go.Proofs.YtioolcnoiaoflaaGreatDoor
open Go.RowKit
set_option linter.unusedSimpArgs false
set_option linter.unusedVariables false

/-- A list of definitions that can be read in a block whose cells are definitions. -/
def DSeen (w : World) (v : Value) (X : List Dfn) : Prop :=
  ∃ A c, v = .slice A X.length c ∧ c ≤ maxLen ∧ X.length ≤ c ∧ (X = [] ∨ ∃ g cur, A = some ⟨g, 0, none⟩ ∧ w.heap[g]? = some (.cells cur 26 (0, 0)) ∧ cur.toList.take (X.length * 5) = flt dfC X)

section
variable {w w' : World} {v : Value} {X : List Dfn}
theorem DSeen.of_own {B n : Nat} (h : w.ownsRow B 26 5 v n (flt dfC X)) : DSeen w v X := by
  obtain ⟨hl, h⟩ := h
  rw [flt_length dfC_length] at hl
  obtain rfl : X.length = n := by omega
  rcases h with ⟨rfl, h0⟩ | ⟨g, cap, cur, rfl, hb, hg, hnc, hcm, hcs, ht⟩
  · have h0' : X.length = 0 := h0
    have e : X = [] := List.eq_nil_of_length_eq_zero h0'
    subst e
    exact ⟨none, 0, rfl, Nat.zero_le _, Nat.le_refl _, Or.inl rfl⟩
  · exact ⟨_, cap, rfl, hcm, hnc, Or.inr ⟨g, cur, rfl, hg, ht⟩⟩
theorem DSeen.row (h : DSeen w v X) : ∃ A c, v = .slice A X.length c ∧ DefsAt w A c X := by
  obtain ⟨A, c, rfl, hc, hl, h⟩ := h
  refine ⟨A, c, rfl, hl, hc, ?_⟩
  rcases h with h | ⟨g, cur, rfl, hg, ht⟩
  · exact Or.inl h
  · refine Or.inr ⟨g, 0, rfl, (Array.getElem?_eq_some_iff.1 hg).1, fun k hk j u hu => ?_⟩
    rw [Nat.zero_add, cell_of_row w g _ cur _ (0, 0) hg]
    have h1 := flt_get dfC_length X k hk j u hu
    rw [← ht, List.getElem?_take] at h1
    split at h1
    · simpa using h1
    · cases h1
theorem DSeen.kept (h : DSeen w v X) {row : Option Nat} (hg : w.grownBy w' row) (hn : ∀ g, v.ownBlock = some g → row ≠ some g) : DSeen w' v X := by
  obtain ⟨A, c, rfl, hc, hl, h⟩ := h
  refine ⟨A, c, rfl, hc, hl, ?_⟩
  rcases h with h | ⟨g, cur, rfl, hh, ht⟩
  · exact Or.inl h
  · exact Or.inr ⟨g, cur, rfl, (hg.block g (Array.getElem?_eq_some_iff.1 hh).1 (fun e => hn g rfl e.symm)).trans hh, ht⟩
theorem DSeen.below (h : DSeen w v X) (hb : Below w.heap.size w w') : DSeen w' v X := h.kept (grownBy_of_below hb none) (fun g _ => by simp)
theorem DSeen.str (h : DSeen w v X) (hs : DStrKept w w') : DSeen w' v X := by
  obtain ⟨A, c, rfl, hc, hl, h⟩ := h
  refine ⟨A, c, rfl, hc, hl, ?_⟩
  rcases h with h | ⟨g, cur, rfl, hh, ht⟩
  · exact Or.inl h
  · exact Or.inr ⟨g, cur, rfl, hs g cur _ hh, ht⟩
theorem DSeen.in_place {B n : Nat} {u : Value} {ys : List Value} (h : DSeen w v X) (hu : w'.ownsRow B 26 5 u n (flt dfC X ++ ys)) (he : u.ownBlock = v.ownBlock) : DSeen w' v X := by
  obtain ⟨A, c, rfl, hc, hl, h⟩ := h
  refine ⟨A, c, rfl, hc, hl, ?_⟩
  rcases h with h | ⟨g, cur, rfl, hh, ht⟩
  · exact Or.inl h
  · rcases hu.2 with ⟨rfl, _⟩ | ⟨g', cap', cur', rfl, _, hg', _, _, _, ht'⟩
    · simp [Value.ownBlock] at he
    · simp [Value.ownBlock] at he
      subst he
      refine Or.inr ⟨_, cur', rfl, hg', ?_⟩
      have hl2 := hu.1
      have hl3 := flt_length dfC_length X
      rw [List.length_append] at hl2
      have e2 : (cur'.toList.take (n * 5)).take (X.length * 5) = (flt dfC X ++ ys).take (X.length * 5) := by rw [ht']
      rw [List.take_take, Nat.min_eq_left (by omega), ← hl3, List.take_left] at e2
      rw [hl3] at e2
      exact e2
end

/-- The texts while they are grown: the first k are done. -/
structure DGrowSt (w0 w : World) (B b : Nat) (tv uv ov : Value) (vs gs : List Value) (f : Nat → List Dfn) (k : Nat) : Prop where
  blk : w.heap[b]? = some (.cells (dbookCells tv uv) 39 (0, 0))
  base : B ≤ b
  tvs : w.ownsRow B 40 1 tv vs.length vs
  tlt : ∀ g, tv.ownBlock = some g → g < w0.heap.size
  rows : ∀ (j : Nat) (v : Value), vs[j]? = some v → k ≤ j → w.ownsRow B 26 5 v (f j).length (flt dfC (f j))
  seen : ∀ (j : Nat) (v : Value), vs[j]? = some v → DSeen w v (f j)
  ovs : w.ownsRow w0.heap.size 40 1 ov k gs
  outs : ∀ (j : Nat) (u : Value), gs[j]? = some u → DSeen w u (dmarks j 0 ((f j).length + 72))
  far : ∀ (j : Nat) (u : Value) (i : Nat) (v : Value), gs[j]? = some u → vs[i]? = some v → k ≤ i → Apart u v
  dist : Dist vs
  bel : Below B w0 w
  low : B ≤ w0.heap.size

theorem DGrowSt.start {w : World} {B b : Nat} {tv uv : Value} {vs : List Value} {f : Nat → List Dfn} (h : DBookV w B b tv uv vs f) (hB : B ≤ w.heap.size) : DGrowSt w w B b tv uv (.slice none 0 0) vs [] f 0 :=
  ⟨h.blk, h.base, h.tvs, fun g hg => (h.tvs.lt g hg).2, fun j v hv _ => h.tl j v hv, fun j v hv => DSeen.of_own (h.tl j v hv), World.ownsRow_nil _ _ _ _, fun j u hu => by simp at hu, fun j u i v hu => by simp at hu, h.dist, Below.refl _ _, hB⟩

theorem DGrowSt.round {w0 w w1 w2 : World} {B b : Nat} {tv uv ov ov' v l : Value} {vs gs : List Value} {f : Nat → List Dfn} {k : Nat} {o : Obj} (h : DGrowSt w0 w B b tv uv ov vs gs f k) (hv : vs[k]? = some v)
    (hg1 : w.grownBy w1 v.ownBlock) (hsv : DSeen w1 v (f k)) (hl : w1.ownsRow B 26 5 l ((f k).length + 72) (flt dfC (dmarks k 0 ((f k).length + 72)))) (hlb : l.ownBlock = v.ownBlock ∨ ∃ g, l.ownBlock = some g ∧ w.heap.size ≤ g)
    (hov : w2.ownsRow w0.heap.size 40 1 ov' (k + 1) (gs ++ [l])) (hg2 : (w1.alloc o).grownBy w2 ov.ownBlock) : DGrowSt w0 w2 B b tv uv ov' vs (gs ++ [l]) f (k + 1) := by
  have hrow := h.rows k v hv (Nat.le_refl _)
  have hgl : gs.length = k := by have := h.ovs.1; omega
  have ovs1 : w1.ownsRow w0.heap.size 40 1 ov k gs := h.ovs.kept hg1 (own_apart h.ovs hrow (by decide)).ne
  have blk1 : w1.heap[b]? = some (.cells (dbookCells tv uv) 39 (0, 0)) := by
    rw [hg1.block b (Array.getElem?_eq_some_iff.1 h.blk).1 (fun e => own_ne hrow h.blk (by decide) e.symm)]
    exact h.blk
  have tvs1 : w1.ownsRow B 40 1 tv vs.length vs := h.tvs.kept hg1 (own_apart h.tvs hrow (by decide)).ne
  have sk : DStrKept w1 w2 := (DStrKept.alloc w1 o).trans (DStrKept.grown (ovs1.alloc o) hg2 (by decide))
  have hto : Apart tv ov := fun g hg hu => by
    have a1 := h.tlt g hg
    have a2 := (h.ovs.lt g hu).1
    omega
  have low := h.low
  have sb := h.bel.size
  have s1 := hg1.size
  have sa : (w1.alloc o).heap.size = w1.heap.size + 1 := by show (w1.heap.push _).size = _; simp
  refine ⟨dgrow_book blk1 ovs1 hg2, h.base, (tvs1.alloc o).kept hg2 hto.ne, h.tlt, fun j u hu hj => ?_, fun j u hu => ?_, hov, fun j u hu => ?_, fun j u i x hu hx hi => ?_, h.dist, ?_, h.low⟩
  · exact sk.row ((h.rows j u hu (by omega)).kept hg1 (h.dist.get hu hv (by omega)).ne)
  · by_cases e : j = k
    · subst e
      rw [hv] at hu
      cases hu
      exact hsv.str sk
    · exact ((h.seen j u hu).kept hg1 (fun g hg e1 => h.dist.get hu hv e g hg e1)).str sk
  · by_cases hj : j < k
    · rw [List.getElem?_append_left (by omega)] at hu
      exact ((h.outs j u hu).kept hg1 (fun g hg e1 => h.far j u k v hu hv (Nat.le_refl _) g hg e1)).str sk
    · rw [List.getElem?_append_right (by omega)] at hu
      have h0 : j = k := by
        have := (List.getElem?_eq_some_iff.1 hu).1
        simp at this
        omega
      subst h0
      rw [hgl, Nat.sub_self] at hu
      simp at hu
      subst hu
      exact (DSeen.of_own hl).str sk
  · by_cases hj : j < k
    · rw [List.getElem?_append_left (by omega)] at hu
      exact h.far j u i x hu hx (by omega)
    · rw [List.getElem?_append_right (by omega)] at hu
      have h0 : j = k := by
        have := (List.getElem?_eq_some_iff.1 hu).1
        simp at this
        omega
      subst h0
      rw [hgl, Nat.sub_self] at hu
      simp at hu
      subst hu
      intro g hg hx2
      rcases hlb with e | ⟨g', e, hg'⟩
      · exact h.dist.get hv hx (by omega) g (by rw [← e]; exact hg) hx2
      · rw [e] at hg
        cases hg
        have := ((h.rows i x hx (by omega)).lt g hx2).2
        omega
  · have q1 : Below B w0 w1 := h.bel.trans (below_of_grown hg1 (fun g hg => (hrow.lt g hg).1) (by omega))
    exact (q1.alloc (by omega) o).grown hg2 (by omega) (fun g hg => by have := (h.ovs.lt g hg).1; omega)

end Go.Proofs.YtioolcnoiaoflaaGreatDoor

namespace Go.Proofs.YtioolcnoiaoflaaGreatDoor
open Go.RowKit
set_option linter.unusedSimpArgs false
set_option linter.unusedVariables false

theorem dfs_one (X : List Dfn) : ∀ u ∈ flt dfC X, u.oneCell' = true := by
  intro u hu
  obtain ⟨x, _, hx⟩ := List.mem_flatMap.1 hu
  exact dfC_one x u hx

/-- One list while it is grown: it has N dmarks now. -/
structure DGrowMid (w1 wr : World) (B : Nat) (v : Value) (k n N : Nat) (l : Value) : Prop where
  own : wr.ownsRow B 26 5 l N (flt dfC (dmarks k 0 N))
  seen : DSeen wr v (dmarks k 0 n)
  grown : w1.grownBy wr v.ownBlock
  at_ : l.ownBlock = v.ownBlock ∨ ∃ g, l.ownBlock = some g ∧ w1.heap.size ≤ g
  ge : n ≤ N
  low : B ≤ wr.heap.size

theorem DGrowMid.step {w1 wr w2 w3 : World} {B k n N m : Nat} {v l l' : Value} (h : DGrowMid w1 wr B v k n N l) (hv : ∀ g, v.ownBlock = some g → g < w1.heap.size) (hb : Below wr.heap.size wr w2)
    (ho : w3.ownsRow B 26 5 l' (N + m) (flt dfC (dmarks k 0 N) ++ flt dfC (dmarks k N m))) (hg : Grew w2 w3 l l') : DGrowMid w1 w3 B v k n (N + m) l' := by
  have s1 := h.grown.size
  have s2 := hb.size
  have hge := h.ge
  rw [← flt_append, dmarks_add] at ho
  have sv := h.seen.below hb
  have g12 : w1.grownBy w2 v.ownBlock := h.grown.trans (grownBy_of_below hb _)
  rcases hg with ⟨e, hg⟩ | ⟨hg, g, e, hge2⟩
  · refine ⟨ho, ?_, ?_, ?_, by omega, by have := hg.size; have := h.low; omega⟩
    · rcases h.at_ with e2 | ⟨g, e2, hg2⟩
      · have e3 : flt dfC (dmarks k 0 (N + m)) = flt dfC (dmarks k 0 n) ++ flt dfC (dmarks k n (N + m - n)) := by
          rw [← flt_append, dmarks_add, show n + (N + m - n) = N + m from by omega]
        rw [e3] at ho
        exact sv.in_place ho (by rw [e, e2])
      · refine sv.kept hg (fun g' hg' e4 => ?_)
        rw [e2] at e4
        cases e4
        have := hv _ hg'
        omega
    · exact g12.andThen hg (fun j hj => by
        rcases h.at_ with e2 | ⟨g, e2, hg2⟩
        · exact Or.inr (by rw [← e2]; exact hj)
        · rw [e2] at hj; cases hj; exact Or.inl hg2)
    · rcases h.at_ with e2 | ⟨g, e2, hg2⟩
      · exact Or.inl (by rw [e, e2])
      · exact Or.inr ⟨g, by rw [e, e2], hg2⟩
  · exact ⟨ho, sv.kept hg (fun _ _ e4 => by cases e4), g12.andThen hg (fun j hj => by cases hj), Or.inr ⟨g, e, by omega⟩, by omega, by have := hg.size; have := h.low; omega⟩

def DGrowIn (w1 : World) (B : Nat) (v : Value) (k n : Nat) (l q : Value) (wr : World) : Prop := ∃ j : Nat, q = .int .i64 j ∧ j ≤ 12 ∧ DGrowMid w1 wr B v k n (n + j) l
def DGrowRel (w0 : World) (B b : Nat) (tv uv : Value) (vs : List Value) (f : Nat → List Dfn) (ov i : Value) (wr : World) : Prop :=
  ∃ (k : Nat) (gs : List Value), i = .int .i64 k ∧ k ≤ vs.length ∧ DGrowSt w0 wr B b tv uv ov vs gs f k

set_option maxHeartbeats 4000000 in
set_option maxRecDepth 100000 in
theorem growDefs_any (B b : Nat) (tv uv : Value) (vs : List Value) (f : Nat → List Dfn) (w : World) (hB : B ≤ w.heap.size) (h : DBookV w B b tv uv vs f) (hm : vs.length ≤ 1000) (hf : ∀ i, i < vs.length → f i = dmarks i 0 (f i).length ∧ (f i).length ≤ 100000) :
    Calls Tryz.prog 54 #[.pointer (some ⟨b, 0, none⟩)] w fun e w' => ∃ ov gs, e = .returned ov ∧ DGrowSt w w' B b tv uv ov vs gs f vs.length := by
  obtain ⟨i0, hi, hz0, hz1, hz2⟩ := info_parts infoDef
  obtain ⟨j0, hj, hy0, hy1, hy2⟩ := info_parts dinfoSlice
  have H := Lib.hid h
  have HF := Lib.hid hf
  clear h hf
  go_enter Tryz.func54, Tryz.ntmps54
  go_wp2_with fail
  go_loopw [3, 4] (fun ov i wr => DGrowRel w B b tv uv vs f ov i wr) (fun _ i _ => vs.length - (intOf i).toNat)
  case atStart => exact ⟨0, [], rfl, Nat.zero_le _, DGrowSt.start H.out hB⟩
  case round =>
    obtain ⟨k, gs, rfl, hk, hst⟩ := hrel
    obtain ⟨At, ct, rfl, _, _⟩ := RowOf.own hst.tvs
    have hc0 : wr.cell? ⟨b, 10, none⟩ = some (.slice At vs.length ct) := (cell_of_row wr b 10 _ _ (0, 0) hst.blk).trans rfl
    by_cases hp : k < vs.length
    · obtain ⟨gt, rfl, hgt, hct⟩ := row_cell hst.tvs hp
      have hv := List.getElem?_eq_getElem hp
      have hrow := hst.rows k _ hv (Nat.le_refl _)
      obtain ⟨hfk, hfn⟩ := HF.out k hp
      generalize hvk : vs[k] = v at *
      obtain ⟨A1, c1, rfl, hr1⟩ := EltsAt.own dfC_length hrow
      generalize hn : (f k).length = n at *
      rw [hfk] at hrow
      have hvl : ∀ g, (Value.slice A1 n c1).ownBlock = some g → g < wr.heap.size := fun g hg => (hrow.lt g hg).2
      have hlow : B ≤ wr.heap.size := by have := hst.bel.size; omega
      have hmid : DGrowMid wr wr B (.slice A1 n c1) k n (n + 0) (.slice A1 n c1) := ⟨hrow, DSeen.of_own hrow, World.grownBy.refl _ _, Or.inl rfl, by omega, hlow⟩
      have HST := Lib.hid hst
      have HV := Lib.hid hv
      have HFK := Lib.hid hfk
      have HN := Lib.hid hn
      have HVL := Lib.hid hvl
      have HM := Lib.hid hmid
      clear hst hv hvk hrow hfk hn hvl hmid hr1
      obtain ⟨wo, rfl⟩ : ∃ wo : World, wo = wr := ⟨_, rfl⟩
      go_wp2_with fail
      go_loopw [5, 6] (fun l q w' => DGrowIn wo B (.slice A1 n c1) k n l q w') (fun _ q _ => 12 - (intOf q).toNat)
      case atStart => exact ⟨0, rfl, by omega, HM.out⟩
      case round =>
        obtain ⟨j, rfl, hj12, hgm⟩ := hrel
        obtain ⟨A2, c2, rfl, _⟩ := own_form hgm.own
        by_cases hp2 : j < 12
        · have hlo := hgm.low
          have HG := Lib.hid hgm
          clear hgm
          go_wp2_with fail
          refine (markDefs_any k (n + j) 1 wr (by omega) (by omega) (by omega) (by omega)).mono ?_
          rintro e w2 ⟨mv, rfl, hownm, b2⟩
          obtain ⟨gm, cm, rfl, _, _⟩ := hownm.form (by omega)
          have hnews := hownm.cells (g := gm) rfl
          have hs2 := b2.size
          have hl1 : (flt dfC (dmarks k (n + j) 1)).length = 1 * 5 := by rw [flt_length dfC_length, dmarks_length]
          have h1c := dfs_one (dmarks k (n + j) 1)
          have hown2 := ownsRow_below HG.out.own b2
          have HL1 := Lib.hid hl1
          clear hownm hl1
          go_wp2_with (at_builtin; refine wpList_append_two _ rfl _ _ 40 rfl B 26 i0 (.agg #[.string ByteArray.empty, .string ByteArray.empty, .string ByteArray.empty, .string ByteArray.empty, .bool false]) 5 72 Tryz.underlying40 hi hz0 hz1 hz2 rfl (by decide) A2 (n + j) c2 _ rfl hown2 (by omega) ⟨gm, 0, none⟩ 1 cm (flt dfC (dmarks k (n + j) 1)) rfl HL1.out hnews h1c (by omega) (by unfold maxLen; omega) (by omega) ?_)
          intro l' w3 hown3 hgrew
          have HMid := Lib.hid (HG.out.step HVL.out b2 hown3 hgrew)
          clear hown3 hgrew hnews hown2 h1c
          go_wp2
          go_roundw
          case rel => exact ⟨j + 1, by go_num, by omega, HMid.out⟩
          case measure => simp [intOf]; omega
        · obtain rfl : j = 12 := by omega
          have hlo := hgm.low
          have HG := Lib.hid hgm
          clear hgm
          go_wp2_with fail
          refine (markDefs_any k (n + 12) 60 wr (by omega) (by omega) (by omega) (by omega)).mono ?_
          rintro e w2 ⟨mv, rfl, hownm, b2⟩
          obtain ⟨gm, cm, rfl, _, _⟩ := hownm.form (by omega)
          have hnews := hownm.cells (g := gm) rfl
          have hs2 := b2.size
          have hl1 : (flt dfC (dmarks k (n + 12) 60)).length = 60 * 5 := by rw [flt_length dfC_length, dmarks_length]
          have h1c := dfs_one (dmarks k (n + 12) 60)
          have hown2 := ownsRow_below HG.out.own b2
          have HL1 := Lib.hid hl1
          clear hownm hl1
          go_wp2_with (at_builtin; refine wpList_append_two _ rfl (.tmp 34) (.tmp 38) 40 rfl B 26 i0 (.agg #[.string ByteArray.empty, .string ByteArray.empty, .string ByteArray.empty, .string ByteArray.empty, .bool false]) 5 72 Tryz.underlying40 hi hz0 hz1 hz2 rfl (by decide) A2 (n + 12) c2 _ rfl hown2 (by omega) ⟨gm, 0, none⟩ 60 cm (flt dfC (dmarks k (n + 12) 60)) rfl HL1.out hnews h1c (by omega) (by unfold maxLen; omega) (by omega) ?_)
          intro l' w3 hown3 hgrew
          obtain ⟨A3, c3, rfl, _⟩ := own_form hown3
          have hmd := HG.out.step HVL.out b2 hown3 hgrew
          have hov3 := HST.out.ovs.kept hmd.grown (own_apart HST.out.ovs (HST.out.rows k _ HV.out (Nat.le_refl _)) (by decide)).ne
          have hs3 := hmd.grown.size
          have hbl := HST.out.bel.size
          have HMid := Lib.hid hmd
          clear hown3 hgrew hnews hown2 h1c hmd
          go_wp2_with (at_builtin; refine wpList_append_own _ rfl (.tmp 33) (.tmp 40) 35 rfl w.heap.size 40 j0 (.slice none 0 0) 1 24 Tryz.underlying35 hj hy0 hy1 hy2 rfl (by decide) _ k gs rfl (hov3.alloc _) ⟨w3.heap.size, 0, none⟩ 1 1 [.slice A3 (n + 12 + 60) c3] rfl rfl ?c1 ?c2 ?c3 ?c4 ?c5 ?_)
          case c1 => exact cells_one w3 _ _
          case c2 => exact one_slice _ _ _
          case c3 => unfold maxLen; omega
          case c4 => omega
          case c5 => simp; omega
          · intro ov' w4 hown4 hgrow4 _
            have HR := Lib.hid (HST.out.round HV.out HMid.out.grown (by rw [HFK.out]; exact HMid.out.seen) (by rw [HN.out]; exact HMid.out.own) HMid.out.at_ hown4 hgrow4)
            clear hown4 hgrow4
            go_wp2
            go_roundw
            case rel => exact ⟨k + 1, _, by go_num, by omega, HR.out⟩
            case measure => simp [intOf]; omega
    · obtain rfl : k = vs.length := by omega
      have HST := Lib.hid hst
      clear hst
      go_wp2
      go_ret
      exact ⟨_, gs, rfl, HST.out⟩

end Go.Proofs.YtioolcnoiaoflaaGreatDoor
