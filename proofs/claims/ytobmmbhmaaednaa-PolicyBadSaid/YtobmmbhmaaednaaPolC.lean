/-
  Package policy: addLevel, addPair: what each does to the policy that it is given.
-/
import Derived.Test.YtobmmbhmaaednaaPolB
import Derived.Test.YtobmmbhmaaednaaOwn
import Derived.Deep.RegionWith
namespace Go.Proofs.Ytobmmbhmaaednaa
open Go.RowKit
set_option linter.unusedSimpArgs false
set_option linter.unusedVariables false

def prCells (ps : List (Int × Int)) : List Value := ps.flatMap fun p => [.int .i64 p.1, .int .i64 p.2]
theorem prCells_length (ps : List (Int × Int)) : (prCells ps).length = ps.length * 2 := by
  induction ps with
  | nil => rfl
  | cons p ps ih =>
    have e : prCells (p :: ps) = [.int .i64 p.1, .int .i64 p.2] ++ prCells ps := rfl
    rw [e, List.length_append, ih]
    simp; omega
theorem prCells_append (a b : List (Int × Int)) : prCells (a ++ b) = prCells a ++ prCells b := by simp [prCells]
theorem prCells_get : ∀ (ps : List (Int × Int)) (k : Nat) (h : k < ps.length), (prCells ps)[k * 2]? = some (.int .i64 ps[k].1) ∧ (prCells ps)[k * 2 + 1]? = some (.int .i64 ps[k].2)
  | p :: ps, 0, h => ⟨rfl, rfl⟩
  | p :: ps, k + 1, h => by
    have e : prCells (p :: ps) = .int .i64 p.1 :: .int .i64 p.2 :: prCells ps := rfl
    have ih := prCells_get ps k (by simpa using h)
    rw [e, show (k + 1) * 2 = k * 2 + 1 + 1 from by omega]
    exact ih
theorem infoPair : (Try.prog.info? 41).map (fun i => (i.zero, i.size, i.bytes)) = some (some (.agg #[.int .i64 0, .int .i64 0]), 2, 16) := by kernel_rfl

/-- A list of pairs of the call's own may be read. -/
theorem PairsAt.own {w : World} {B : Nat} {v : Value} {ps : List (Int × Int)} (h : w.ownsRow B 41 2 v ps.length (prCells ps)) : ∃ A cap, v = .slice A ps.length cap ∧ PairsAt w A cap ps := by
  obtain ⟨hl, h⟩ := h
  rcases h with ⟨rfl, h0⟩ | ⟨g, cap, cur, rfl, hb, hg, hnc, hcm, hcs, ht⟩
  · rw [h0]
    exact ⟨none, 0, rfl, by omega, Nat.zero_le _, Or.inl (List.eq_nil_of_length_eq_zero h0)⟩
  · refine ⟨_, cap, rfl, hnc, hcm, Or.inr ⟨g, 0, rfl, (Array.getElem?_eq_some_iff.1 hg).1, fun i hi => ?_⟩⟩
    have hc := prCells_get ps i hi
    have e : ∀ (j : Nat) (u : Value), (prCells ps)[j]? = some u → cur[j]? = some u := by
      intro j u hu
      rw [← ht, List.getElem?_take] at hu
      split at hu
      · simpa using hu
      · cases hu
    constructor
    · rw [Nat.zero_add, cell_of_row w g _ cur _ (0, 0) hg]
      exact e _ _ hc.1
    · rw [Nat.zero_add, cell_of_row w g _ cur _ (0, 0) hg]
      exact e _ _ hc.2

/-- Below block number B the world is as it was, but for block b. -/
structure Keeps (B b : Nat) (w w' : World) : Prop where
  os : w'.os = w.os
  tape : w'.tape = w.tape
  output : w'.output = w.output
  size : w.heap.size ≤ w'.heap.size
  block : ∀ k, k < B → k ≠ b → w'.heap[k]? = w.heap[k]?
theorem Keeps.of {B b : Nat} {w w' : World} (h : Below B w w') : Keeps B b w w' := ⟨h.os, h.tape, h.output, h.size, fun k hk _ => h.block k hk⟩
theorem Keeps.trans {B b : Nat} {w w1 w2 : World} (h : Keeps B b w w1) (k : Keeps B b w1 w2) : Keeps B b w w2 :=
  ⟨k.os.trans h.os, k.tape.trans h.tape, k.output.trans h.output, Nat.le_trans h.size k.size, fun i h1 h2 => (k.block i h1 h2).trans (h.block i h1 h2)⟩
theorem Keeps.set {B b : Nat} {w w' : World} (h : Below B w w') (i : Nat) (u : Value) : Keeps B b w (w'.setCell ⟨b, i, none⟩ u) :=
  ⟨h.os, h.tape, h.output, by simp only [World.setCell, Array.size_modify]; exact h.size, fun k h1 h2 => (Below.heap_setCell w' ⟨b, i, none⟩ u k h2).trans (h.block k h1)⟩
theorem Keeps.below {B B' b : Nat} {w w' : World} (h : Keeps B b w w') (hB : B' ≤ B) (hb : B' ≤ b) : Below B' w w' := ⟨h.os, h.tape, h.output, h.size, fun k hk => h.block k (by omega) (by omega)⟩

/-- The policy at b holds st; its rows lie from block number B on. -/
structure PolIs (w : World) (B b : Nat) (nv bv : Value) (st : St) : Prop where
  blk : w.heap[b]? = some (.cells #[nv, bv] 25 (0, 0))
  nvs : w.ownsRow B 9 1 nv st.1.length (strs st.1)
  bvs : w.ownsRow B 41 2 bv st.2.length (prCells st.2)

section
variable {w w' : World} {B b : Nat} {nv bv : Value} {st : St}
theorem PolIs.lt (h : PolIs w B b nv bv st) : b < w.heap.size := (Array.getElem?_eq_some_iff.1 h.blk).1
theorem PolIs.c0 (h : PolIs w B b nv bv st) : w.cell? ⟨b, 0, none⟩ = some nv := (cell_of_row w b 0 _ _ (0, 0) h.blk).trans rfl
theorem PolIs.c1 (h : PolIs w B b nv bv st) : w.cell? ⟨b, 1, none⟩ = some bv := (cell_of_row w b 1 _ _ (0, 0) h.blk).trans rfl
theorem PolIs.fz (h : PolIs w B b nv bv st) (i : Nat) : w.frozen? ⟨b, i, none⟩ = false := by simp [World.frozen?, h.blk]
theorem PolIs.below (h : PolIs w B b nv bv st) (hb : Below w.heap.size w w') : PolIs w' B b nv bv st :=
  ⟨(hb.block b h.lt).trans h.blk, ownsRow_below h.nvs hb, ownsRow_below h.bvs hb⟩
theorem PolIs.heap (hh : w'.heap = w.heap) (h : PolIs w B b nv bv st) : PolIs w' B b nv bv st :=
  ⟨by rw [hh]; exact h.blk, own_heap hh h.nvs, own_heap hh h.bvs⟩
/-- Behind an append to its names, and the store of what was answered. -/
theorem PolIs.setN (h : PolIs w B b nv bv st) {w1 : World} {nv' : Value} {ns : List (List UInt8)} (o : Obj) (hg : (w.alloc o).grownBy w1 nv.ownBlock) (hn : w1.ownsRow B 9 1 nv' ns.length (strs ns)) :
    PolIs (w1.setCell ⟨b, 0, none⟩ nv') B b nv' bv (ns, st.2) := by
  have hb := h.lt
  have hblk : w1.heap[b]? = some (.cells #[nv, bv] 25 (0, 0)) := by
    rw [hg.block b (by rw [alloc_size]; omega) (fun e => own_ne h.nvs h.blk (by decide) e.symm), Below.heap_alloc w _ b hb]
    exact h.blk
  refine ⟨by simp [World.setCell, Array.getElem?_modify, hblk], own_set hn hblk (by decide) 0 _, ?_⟩
  exact own_set ((h.bvs.alloc o).kept hg (own_apart h.bvs h.nvs (by decide)).ne) hblk (by decide) 0 _
theorem PolIs.grownBlk (h : PolIs w B b nv bv st) {w2 w1 : World} {o : Obj} (hg : w2.grownBy w1 bv.ownBlock) (hh : w2.heap = (w.alloc o).heap) : w1.heap[b]? = some (.cells #[nv, bv] 25 (0, 0)) := by
  have hb := h.lt
  rw [hg.block b (by rw [hh, alloc_size]; omega) (fun e => own_ne h.bvs h.blk (by decide) e.symm), hh, Below.heap_alloc w _ b hb]
  exact h.blk
theorem PolIs.grownB (h : PolIs w B b nv bv st) {w2 w1 : World} {o : Obj} (hg : w2.grownBy w1 bv.ownBlock) (hh : w2.heap = (w.alloc o).heap) : w1.cell? ⟨b, 1, none⟩ = some bv ∧ w1.frozen? ⟨b, 1, none⟩ = false := by
  have hblk := h.grownBlk hg hh
  exact ⟨(cell_of_row w1 b 1 _ _ (0, 0) hblk).trans rfl, by simp [World.frozen?, hblk]⟩
theorem PolIs.setB (h : PolIs w B b nv bv st) {w2 w1 : World} {o : Obj} {bv' : Value} {ps : List (Int × Int)} (hg : w2.grownBy w1 bv.ownBlock) (hh : w2.heap = (w.alloc o).heap) (hn : w1.ownsRow B 41 2 bv' ps.length (prCells ps)) :
    PolIs (w1.setCell ⟨b, 1, none⟩ bv') B b nv bv' (st.1, ps) := by
  have hblk := h.grownBlk hg hh
  refine ⟨by simp [World.setCell, Array.getElem?_modify, hblk], ?_, own_set hn hblk (by decide) 1 _⟩
  exact own_set ((own_heap hh (h.nvs.alloc o)).kept hg (own_apart h.nvs h.bvs (by decide)).ne) hblk (by decide) 1 _
end

theorem strs_snoc (ns : List (List UInt8)) (x : ByteArray) : strs ns ++ [Value.string x] = strs (ns ++ [x.data.toList]) := by
  rw [strs_append, strs_one, show (⟨x.data.toList.toArray⟩ : ByteArray) = x from Lib.mk_data x]

set_option maxHeartbeats 1000000 in
theorem addLevel_any (B b : Nat) (nv bv : Value) (st : St) (x : ByteArray) (w : World) (hB : B ≤ w.heap.size) (h : PolIs w B b nv bv st) (hm : st.1.length ≤ 64) :
    Calls Try.prog 32 #[.pointer (some ⟨b, 0, none⟩), .string x] w fun e w' =>
      ∃ nv' bv', e = .returned (.bool (addLv st x.data.toList).isSome) ∧ PolIs w' B b nv' bv' ((addLv st x.data.toList).getD st) ∧ Keeps B b w w' := by
  obtain ⟨i0, hi, hz0, hz1, hz2⟩ := info_parts infoString
  obtain ⟨A, ca, rfl, hrow, _⟩ := RowOf.own h.nvs
  obtain ⟨A2, cb, rfl, hpr⟩ := PairsAt.own h.bvs
  have hc0 := h.c0
  have hc1 := h.c1
  have ci := fun w1 hr => index_any A ca (.slice A2 st.2.length cb) st.1 x w1 hr
  by_cases h64 : st.1.length = 64
  · have HF := Lib.hid (show addLv st x.data.toList = none from if_pos (Or.inl h64))
    have f64 : ((st.1.length : Int) == 64) = true := by simp; omega
    clear h64
    go_enter Try.func32, Try.ntmps32
    go_wp2
    go_ret
    rw [HF.out]
    exact ⟨_, _, rfl, h, .of (Below.refl _ _)⟩
  · have f64 : ((st.1.length : Int) == 64) = false := by simp; omega
    have hn63 : st.1.length ≤ 63 := by omega
    have hrg := idxL_range st.1 x.data.toList
    by_cases hix : 0 ≤ idxL st.1 x.data.toList
    · have HF := Lib.hid (show addLv st x.data.toList = none from if_pos (Or.inr hix))
      have fx : decide (0 ≤ idxL st.1 x.data.toList) = true := by simpa using hix
      generalize idxL st.1 x.data.toList = z at *
      clear h64
      go_enter Try.func32, Try.ntmps32
      go_wp2_with fail
      refine (ci _ hrow).mono ?_
      rintro e w1 ⟨rfl, b1⟩
      go_wp2
      go_ret
      rw [HF.out]
      exact ⟨_, _, rfl, h.below b1, .of (b1.mono hB)⟩
    · have HF := Lib.hid (show addLv st x.data.toList = some (st.1 ++ [x.data.toList], st.2) from if_neg (by omega))
      have HS := Lib.hid (strs_snoc st.1 x)
      generalize idxL st.1 x.data.toList = z at *
      have HX := Lib.hid (show x.data.toList = x.data.toList from rfl)
      clear h64
      have HP := Lib.hid h
      clear h
      go_enter Try.func32, Try.ntmps32
      go_wp2_with fail
      refine (ci _ hrow).mono ?_
      rintro e w1 ⟨rfl, b1⟩
      have hp1 := HP.out.below b1
      have hc01 := hp1.c0
      have hnv1 := hp1.nvs
      have hs1 := b1.size
      have HP1 := Lib.hid hp1
      clear hp1 hc0 hc1 ci
      go_wp2_with (at_builtin; refine wpList_append_lies _ rfl _ _ 22 rfl B 9 i0 (.string ByteArray.empty) 1 16 Try.underlying22 hi hz0 hz1 hz2 rfl (by decide) _ _ _ rfl (hnv1.alloc _) ⟨w1.heap.size, 0, none⟩ 1 1 [.string x] rfl rfl ?c1 ?c2 (by omega) ?c3 ?c4 ?c5 _ rfl ?_)
      case c1 => exact cells_one w1 _ _
      case c2 => intro u hu; simp at hu; subst hu; rfl
      case c3 => unfold maxLen; omega
      case c4 => omega
      case c5 => simp; omega
      · intro g2 cap2 w2 hown2 hgrow hat hlt
        have hnew : w2.ownsRow B 9 1 (.slice (some ⟨g2, 0, none⟩) (st.1.length + 1) cap2) (st.1 ++ [x.data.toList]).length (strs (st.1 ++ [x.data.toList])) := by
          rw [HS.out] at hown2
          rw [List.length_append]
          exact hown2
        have HN := Lib.hid (HP1.out.setN _ hgrow hnew)
        have hblk2 : w2.heap[b]? = some (.cells #[.slice A st.1.length ca, .slice A2 st.2.length cb] 25 (0, 0)) := by
          rw [hgrow.block b (by rw [alloc_size]; have := HP1.out.lt; omega) (fun e => own_ne HP1.out.nvs HP1.out.blk (by decide) e.symm), Below.heap_alloc w1 _ b HP1.out.lt]
          exact HP1.out.blk
        have hc2 : w2.cell? ⟨b, 0, none⟩ = some (.slice A st.1.length ca) := (cell_of_row w2 b 0 _ _ (0, 0) hblk2).trans rfl
        have hf2 : w2.frozen? ⟨b, 0, none⟩ = false := by simp [World.frozen?, hblk2]
        have HB := Lib.hid (((b1.mono hB).alloc (by omega) (.cells #[.string x] 9)).grown hgrow (by rw [alloc_size]; omega) (fun g hg => (hnv1.lt g hg).1))
        clear hown2 hgrow hnew hblk2 hat hlt
        go_wp2
        go_ret
        rw [HF.out]
        exact ⟨_, _, rfl, HN.out, Keeps.set HB.out 0 _⟩

end Go.Proofs.Ytobmmbhmaaednaa
