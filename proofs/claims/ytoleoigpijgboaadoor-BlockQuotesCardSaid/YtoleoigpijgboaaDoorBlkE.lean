/-
  Package block: the finder in memory; put: a block more.
-/
import Derived.Test.YtoleoigpijgboaaDoorBlkD
import Derived.Deep.RegionLaw
import Derived.Deep.RegionHeld3
namespace Go.Proofs.YtoleoigpijgboaaDoor
open Go.RowKit
set_option linter.unusedSimpArgs false
set_option linter.unusedVariables false
set_option maxRecDepth 100000

def blksC (L : List Blk) : List Value := L.flatMap blkC
theorem blksC_length (L : List Blk) : (blksC L).length = L.length * 6 := by
  induction L with
  | nil => rfl
  | cons p L ih =>
    have e : blksC (p :: L) = blkC p ++ blksC L := rfl
    rw [e, List.length_append, ih, List.length_cons]
    simp [blkC]; omega
theorem blksC_append (a b : List Blk) : blksC (a ++ b) = blksC a ++ blksC b := by simp [blksC]
theorem blksC_one (x : Blk) : blksC [x] = blkC x := by simp [blksC]
theorem blksC_get : ∀ (X : List Blk) (k : Nat) (h : k < X.length) (j : Nat) (u : Value), (blkC X[k])[j]? = some u → (blksC X)[k * 6 + j]? = some u
  | x :: X, 0, h, j, u, hu => by
    have e : blksC (x :: X) = blkC x ++ blksC X := rfl
    have hu' : (blkC x)[j]? = some u := hu
    have hj := (List.getElem?_eq_some_iff.1 hu').1
    rw [e, List.getElem?_append_left (by omega), Nat.zero_mul, Nat.zero_add]
    exact hu'
  | x :: X, k + 1, h, j, u, hu => by
    have e : blksC (x :: X) = blkC x ++ blksC X := rfl
    have hl : (blkC x).length = 6 := rfl
    have ih := blksC_get X k (by simpa using h) j u (by simpa using hu)
    rw [e, List.getElem?_append_right (by omega), hl, show (k + 1) * 6 + j - 6 = k * 6 + j from by omega]
    exact ih
theorem blksC_set : ∀ (X : List Blk) (k : Nat) (h : k < X.length) (j : Nat) (hj : j < 6) (y : Blk) (u : Value), blkC y = (blkC X[k]).set j u → blksC (X.set k y) = (blksC X).set (k * 6 + j) u
  | x :: X, 0, h, j, hj, y, u, hu => by
    have e : ∀ x, blksC (x :: X) = blkC x ++ blksC X := fun _ => rfl
    rw [List.set_cons_zero, e, e, hu, List.set_append_left _ _ (by show 0 * 6 + j < 6; omega), Nat.zero_mul, Nat.zero_add]
    rfl
  | x :: X, k + 1, h, j, hj, y, u, hu => by
    have e : ∀ X, blksC (x :: X) = blkC x ++ blksC X := fun _ => rfl
    have hl : (blkC x).length = 6 := rfl
    have ih := blksC_set X k (by simpa using h) j hj y u (by simpa using hu)
    rw [List.set_cons_succ, e, e, ih, List.set_append_right _ _ (by omega), hl, show (k + 1) * 6 + j - 6 = k * 6 + j from by omega]
theorem blkC_one (x : Blk) : ∀ u ∈ blkC x, u.oneCell' = true := by
  intro u hu
  simp [blkC] at hu
  rcases hu with rfl | rfl | rfl | rfl | rfl | rfl <;> rfl
theorem infoBlk : (Tryd.prog.info? 28).map (fun i => (i.zero, i.size, i.bytes)) = some (some (.agg #[.int .i64 0, .int .i64 0, .int .i64 0, .bool false, .string ByteArray.empty, .string ByteArray.empty]), 6, 64) := by kernel_rfl

/-! ### What stands -/
/-- Blocks below number B stand, and all lists of texts. -/
structure Kpt (B : Nat) (w w' : World) : Prop where
  os : w'.os = w.os
  tape : w'.tape = w.tape
  output : w'.output = w.output
  size : w.heap.size ≤ w'.heap.size
  block : ∀ k, k < B → w'.heap[k]? = w.heap[k]?
  strs : ∀ (g : Nat) (cs : Array Value) (fz : Nat × Nat), w.heap[g]? = some (Obj.cells cs 9 fz) → w'.heap[g]? = some (Obj.cells cs 9 fz)
theorem Kpt.refl (B : Nat) (w : World) : Kpt B w w := ⟨rfl, rfl, rfl, Nat.le_refl _, fun _ _ => rfl, fun _ _ _ h => h⟩
theorem Kpt.trans {B : Nat} {a b c : World} (h : Kpt B a b) (k : Kpt B b c) : Kpt B a c :=
  ⟨k.os.trans h.os, k.tape.trans h.tape, k.output.trans h.output, Nat.le_trans h.size k.size, fun i hi => (k.block i hi).trans (h.block i hi), fun g cs fz hg => k.strs g cs fz (h.strs g cs fz hg)⟩
theorem Kpt.of {B : Nat} {w w' : World} (h : Below w.heap.size w w') (hB : B ≤ w.heap.size) : Kpt B w w' :=
  ⟨h.os, h.tape, h.output, h.size, fun k hk => h.block k (by omega), fun g cs fz hg => (h.block g (Array.getElem?_eq_some_iff.1 hg).1).trans hg⟩
theorem Kpt.below {B : Nat} {w w' : World} (h : Kpt B w w') : Below B w w' := ⟨h.os, h.tape, h.output, h.size, h.block⟩
/-- Behind an append to a row of another type. -/
theorem Kpt.grown {B n size : Nat} {e : TypeId} {v : Value} {xs : List Value} {w w' : World} (ho : w.ownsRow B e size v n xs) (hne : e ≠ 9) (hg : w.grownBy w' v.ownBlock) (hB : B ≤ w.heap.size) : Kpt B w w' :=
  ⟨hg.os, hg.tape, hg.output, hg.size, fun k hk => hg.block k (by omega) (fun e1 => by have := (ho.lt k e1.symm).1; omega), fun g cs fz hh => (hg.block g (Array.getElem?_eq_some_iff.1 hh).1 (fun e1 => own_ne ho hh hne e1.symm)).trans hh⟩
/-- Behind a store into a block of another type. -/
theorem Kpt.set {B b : Nat} {w : World} {cs : Array Value} {t : TypeId} {fz : Nat × Nat} (hb : w.heap[b]? = some (.cells cs t fz)) (hne : t ≠ 9) (hB : B ≤ b) (i : Nat) (u : Value) : Kpt B w (w.setCell ⟨b, i, none⟩ u) :=
  ⟨rfl, rfl, rfl, by simp only [World.setCell, Array.size_modify]; exact Nat.le_refl _, fun k hk => Below.heap_setCell w ⟨b, i, none⟩ u k (by show k ≠ b; omega), fun g cs' fz' hg => by
    have : g ≠ b := by rintro rfl; rw [hb] at hg; injection hg with hg; injection hg with _ ht; exact hne ht
    rw [Below.heap_setCell w ⟨b, i, none⟩ u g this]; exact hg⟩

/-- A list of lines that stays. -/
structure Lns (B : Nat) (w : World) (A : Option Addr) (cap : Nat) (ls : List (List UInt8)) : Prop where
  row : RowOf w A cap (strs ls)
  lies : ls = [] ∨ ∃ b off, A = some ⟨b, off, none⟩ ∧ (b < B ∨ ∃ cs fz, w.heap[b]? = some (Obj.cells cs 9 fz))
theorem Lns.kept {B : Nat} {w w' : World} {A : Option Addr} {cap : Nat} {ls : List (List UInt8)} (h : Lns B w A cap ls) (k : Kpt B w w') : Lns B w' A cap ls := by
  rcases h.lies with h0 | ⟨b, off, rfl, hl⟩
  · exact ⟨⟨h.row.1, h.row.2.1, Or.inl (by rw [h0]; rfl)⟩, Or.inl h0⟩
  · have hbe : w'.heap[b]? = w.heap[b]? := by
      rcases hl with hl | ⟨cs, fz, hl⟩
      · exact k.block b hl
      · rw [k.strs b cs fz hl, hl]
    refine ⟨⟨h.row.1, h.row.2.1, ?_⟩, Or.inr ⟨b, off, rfl, ?_⟩⟩
    · rcases h.row.2.2 with h1 | ⟨b2, off2, e, hb, hc⟩
      · exact Or.inl h1
      · cases e
        exact Or.inr ⟨b, off, rfl, Nat.lt_of_lt_of_le hb k.size, fun i hi => by have := hc i hi; simpa [World.cell?, hbe] using this⟩
    · rcases hl with hl | ⟨cs, fz, hl⟩
      · exact Or.inl hl
      · exact Or.inr ⟨cs, fz, hbe.trans hl⟩
theorem Lns.drop {B : Nat} {w : World} {A : Option Addr} {cap : Nat} {ls : List (List UInt8)} (h : Lns B w A cap ls) {k : Nat} (hk : k ≤ ls.length) : Lns B w (dropA A cap k) (cap - k) (ls.drop k) := by
  refine ⟨h.row.dropL hk, ?_⟩
  by_cases h0 : ls.drop k = []
  · exact Or.inl h0
  · have hlt : k < ls.length := by rw [List.drop_eq_nil_iff] at h0; omega
    have hcl := h.row.strs_le
    rcases h.lies with h1 | ⟨b, off, rfl, hl⟩
    · rw [h1] at hlt; simp at hlt
    · refine Or.inr ⟨b, off + k, ?_, hl⟩
      unfold dropA
      rw [if_neg (by omega), Option.map_some, addr_add]
theorem Lns.take {B : Nat} {w : World} {A : Option Addr} {cap : Nat} {ls : List (List UInt8)} (h : Lns B w A cap ls) (k : Nat) : Lns B w A cap (ls.take k) := by
  refine ⟨h.row.takeL k, ?_⟩
  rcases h.lies with h1 | h1
  · exact Or.inl (by rw [h1]; simp)
  · exact Or.inr h1
theorem Lns.own {B B' : Nat} {w : World} {v : Value} {n : Nat} {ls : List (List UInt8)} (h : w.ownsRow B' 9 1 v n (strs ls)) : ∃ A cap, v = .slice A n cap ∧ Lns B w A cap ls := by
  obtain ⟨hl, h⟩ := h
  rcases h with ⟨rfl, rfl⟩ | ⟨g, cap, cur, rfl, hb, hg, hnc, hcm, hcs, ht⟩
  · have h0 : ls = [] := by
      rw [strs_length] at hl
      exact List.eq_nil_of_length_eq_zero (by omega)
    exact ⟨none, 0, rfl, ⟨by rw [h0]; exact Nat.le_refl _, Nat.zero_le _, Or.inl (by rw [h0]; rfl)⟩, Or.inl h0⟩
  · have hr : w.ownsRow B' 9 1 (.slice (some ⟨g, 0, none⟩) n cap) n (strs ls) := ⟨hl, .inr ⟨g, cap, cur, rfl, hb, hg, hnc, hcm, hcs, ht⟩⟩
    obtain ⟨A, cap', e, hr2, _⟩ := RowOf.own hr
    cases e
    exact ⟨_, _, rfl, hr2, Or.inr ⟨g, 0, rfl, Or.inr ⟨cur, _, hg⟩⟩⟩

/-! ### The finder -/
/-- The finder at b holds the blocks L; its list lies from block number B on. -/
structure FinIs (w : World) (B b : Nat) (v : Value) (L : List Blk) : Prop where
  blk : w.heap[b]? = some (.cells #[v] 44 (0, 0))
  row : w.ownsRow B 28 6 v L.length (blksC L)
  low : B ≤ b
section
variable {w w' : World} {B b : Nat} {v : Value} {L : List Blk}
theorem FinIs.lt (h : FinIs w B b v L) : b < w.heap.size := (Array.getElem?_eq_some_iff.1 h.blk).1
theorem FinIs.c0 (h : FinIs w B b v L) : w.cell? ⟨b, 0, none⟩ = some v := (cell_of_row w b 0 _ _ (0, 0) h.blk).trans rfl
theorem FinIs.fz (h : FinIs w B b v L) (i : Nat) : w.frozen? ⟨b, i, none⟩ = false := by simp [World.frozen?, h.blk]
theorem FinIs.below (h : FinIs w B b v L) (hb : Below w.heap.size w w') : FinIs w' B b v L := ⟨(hb.block b h.lt).trans h.blk, ownsRow_below h.row hb, h.low⟩
theorem FinIs.heap (hh : w'.heap = w.heap) (h : FinIs w B b v L) : FinIs w' B b v L := ⟨by rw [hh]; exact h.blk, own_heap hh h.row, h.low⟩
/-- Behind an append to its blocks: the finder's own block stands. -/
theorem FinIs.grownBlk (h : FinIs w B b v L) {w2 w1 : World} (hg : w2.grownBy w1 v.ownBlock) (hbw : Below w.heap.size w w2) : w1.heap[b]? = some (.cells #[v] 44 (0, 0)) := by
  have hb := h.lt
  have hs := hbw.size
  rw [hg.block b (by omega) (fun e => own_ne h.row h.blk (by decide) e.symm), hbw.block b hb]
  exact h.blk
theorem FinIs.grownC (h : FinIs w B b v L) {w2 w1 : World} (hg : w2.grownBy w1 v.ownBlock) (hbw : Below w.heap.size w w2) : w1.cell? ⟨b, 0, none⟩ = some v ∧ w1.frozen? ⟨b, 0, none⟩ = false := by
  have hblk := h.grownBlk hg hbw
  exact ⟨(cell_of_row w1 b 0 _ _ (0, 0) hblk).trans rfl, by simp [World.frozen?, hblk]⟩
/-- And the store of what was answered. -/
theorem FinIs.put (h : FinIs w B b v L) {w2 w1 : World} {v' : Value} {L' : List Blk} (hg : w2.grownBy w1 v.ownBlock) (hbw : Below w.heap.size w w2) (hB : B ≤ w.heap.size) (hn : w1.ownsRow B 28 6 v' L'.length (blksC L')) :
    FinIs (w1.setCell ⟨b, 0, none⟩ v') B b v' L' ∧ Kpt B w (w1.setCell ⟨b, 0, none⟩ v') := by
  have hblk := h.grownBlk hg hbw
  have hs := hbw.size
  exact ⟨⟨by simp [World.setCell, Array.getElem?_modify, hblk], own_set hn hblk (by decide) 0 _, h.low⟩,
    ((Kpt.of hbw hB).trans (Kpt.grown (ownsRow_below h.row hbw) (by decide) hg (by omega))).trans (Kpt.set hblk (by decide) h.low 0 v')⟩
theorem Below.same {B : Nat} {a w w' : World} (h : Below B a w) (e1 : w'.os = w.os) (e2 : w'.tape = w.tape) (e3 : w'.output = w.output) (e4 : w'.heap = w.heap) : Below B a w' :=
  ⟨e1.trans h.os, e2.trans h.tape, e3.trans h.output, by rw [e4]; exact h.size, fun k hk => by rw [e4]; exact h.block k hk⟩
end
theorem blk_cells (w : World) (x : Blk) (t : TypeId) : ∀ (j : Nat) (u : Value), (blkC x)[j]? = some u → (w.alloc (.cells (blkC x).toArray t)).cell? ((⟨w.heap.size, 0, none⟩ : Addr).add j) = some u := by
  intro j u hj
  rw [addr_add, cell_of_row _ _ _ _ t (0, 0) (heap_alloc_new w _), Nat.zero_add]
  simpa using hj

set_option maxHeartbeats 4000000 in
theorem put_any (B b : Nat) (v : Value) (L : List Blk) (d : Int) (x : Blk) (w : World) (hB : B ≤ w.heap.size) (h : FinIs w B b v L) (hm : L.length ≤ 100000000) :
    Calls Tryd.prog 38 #[.pointer (some ⟨b, 0, none⟩), .int .i64 d, blkV x] w fun e w' => e = .returned (.tuple #[]) ∧ ∃ v', FinIs w' B b v' (L ++ [{ x with depth := d }]) ∧ Kpt B w w' := by
  obtain ⟨i0, hi, hz0, hz1, hz2⟩ := info_parts infoBlk
  obtain ⟨xk, xd, xn, xt, xs, xi⟩ := x
  simp only [blkV]
  have hb0 : Below w.heap.size w (w.alloc (.cells #[.int .i64 xk, .int .i64 d, .int .i64 xn, .bool xt, .string ⟨xs.toArray⟩, .string ⟨xi.toArray⟩] 28)) := (Below.refl _ w).alloc (Nat.le_refl _) _
  have hz0b : BlkAt (w.alloc (.cells #[.int .i64 xk, .int .i64 d, .int .i64 xn, .bool xt, .string ⟨xs.toArray⟩, .string ⟨xi.toArray⟩] 28)) w.heap.size ⟨xk, d, xn, xt, xs, xi⟩ := heap_alloc_new w _
  have hs0 := alloc_size w (.cells #[.int .i64 xk, .int .i64 d, .int .i64 xn, .bool xt, .string ⟨xs.toArray⟩, .string ⟨xi.toArray⟩] 28)
  have h1 := h.below hb0
  have HK0 := Lib.hid (Kpt.of hb0 hB)
  clear h
  go_enter Tryd.func38, Tryd.ntmps38
  go_wp2_with fail
  generalize hw0 : w.alloc (.cells #[.int .i64 xk, .int .i64 d, .int .i64 xn, .bool xt, .string ⟨xs.toArray⟩, .string ⟨xi.toArray⟩] 28) = w0 at *
  clear hb0 hw0
  have hc0 := h1.c0
  obtain ⟨k0, k1, k2, k3, k4, k5, kf⟩ := hz0b.cells
  have hrow := h1.row
  have HH := Lib.hid h1
  have hBw : B ≤ w0.heap.size := by omega
  have hE : blksC L ++ blkC ⟨xk, d, xn, xt, xs, xi⟩ = blksC (L ++ [⟨xk, d, xn, xt, xs, xi⟩]) := by rw [blksC_append, blksC_one]
  have hnc := blk_cells w0 ⟨xk, d, xn, xt, xs, xi⟩ 28
  rw [hs0] at hnc
  have HEnd := Lib.hid (fun (w2 w4 : World) (g4 cap4 : Nat) (hg : w2.grownBy w4 v.ownBlock) (hbw : Below w0.heap.size w0 w2) (hn : w4.ownsRow B 28 6 (.slice (some ⟨g4, 0, none⟩) (L.length + 1) cap4) (L.length + 1) (blksC L ++ blkC ⟨xk, d, xn, xt, xs, xi⟩)) =>
    h1.put (v' := .slice (some ⟨g4, 0, none⟩) (L.length + 1) cap4) (L' := L ++ [⟨xk, d, xn, xt, xs, xi⟩]) hg hbw hBw (by rw [List.length_append, ← hE]; exact hn))
  have HGC := Lib.hid (fun (w2 w4 : World) (hg : w2.grownBy w4 v.ownBlock) (hbw : Below w0.heap.size w0 w2) => h1.grownC hg hbw)
  have HBA := Lib.hid ((Below.refl _ w0).alloc (Nat.le_refl _) (.cells #[.int .i64 xk, .int .i64 d, .int .i64 xn, .bool xt, .string ⟨xs.toArray⟩, .string ⟨xi.toArray⟩] 28))
  have hcA := (HBA.out.cell (p := ⟨b, 0, none⟩) h1.lt).trans hc0
  clear h1 hz0b hE
  go_region_law (first | (refine step_append_lies _ rfl (.tmp 12) (.tmp 14) _ rfl B 28 i0 (.agg #[.int .i64 0, .int .i64 0, .int .i64 0, .bool false, .string ByteArray.empty, .string ByteArray.empty]) 6 64 Tryd.underlying25 hi hz0 hz1 hz2 rfl (by decide) v L.length (blksC L) rfl (hrow.alloc _) ⟨w.heap.size + 1, 0, none⟩ 1 1 (blkC ⟨xk, d, xn, xt, xs, xi⟩) rfl rfl hnc (blkC_one _) (by omega) (by unfold maxLen; omega) (by omega) (by simp; omega) _ rfl ?_; intro g4 cap4 w4 hown4 hgrow4 hat4 hlt4; have hc4 := (HGC.out _ _ hgrow4 (Below.same HBA.out rfl rfl rfl rfl)).1; have hf4 := (HGC.out _ _ hgrow4 (Below.same HBA.out rfl rfl rfl rfl)).2; have HN := Lib.hid (HEnd.out _ _ _ _ hgrow4 (Below.same HBA.out rfl rfl rfl rfl) hown4); clear hown4 hgrow4 hat4 hlt4))
  all_goals
    go_wp2
    go_end0
    exact ⟨rfl, ⟨_, HN.out.1⟩, HK0.out.trans HN.out.2⟩

end Go.Proofs.YtoleoigpijgboaaDoor
