/-
  slices.Backward over a list of numbers: the iterator's contract.
-/
import Derived.Test.YtoomkhmmgjiniaaBase
import Derived.RangeFuncNested
import Derived.RangeFuncBound
import Derived.RangeFuncCalls
import Derived.RangeFuncLeaves
import Derived.Shelf.Abstract
import Derived.Shelf.RegionOpen
import Derived.WalkKit
import Derived.OwnWalkIn
import Derived.TacticsInMore
import Derived.LoopNIn
import Derived.LoopIn
import Derived.Maps.AppendAt
namespace Go.Proofs.Ytoomkhmmgjiniaa
open Go.RowKit Go.Shelf
attribute [local go_sem] Oper.semAt_some
set_option linter.unusedSimpArgs false
set_option linter.unusedVariables false
set_option maxRecDepth 100000

/-- What a round must keep: the box with the slice, the slice's block. -/
def BwKp (bx : Nat) (v : Value) (W W' : World) : Prop := W'.heap[bx]? = W.heap[bx]? ∧ ∀ g, v.ownBlock = some g → W'.heap[g]? = W.heap[g]?
abbrev bwE (x : Int × Int) : Array Value := #[.int .i64 x.1, .int .i64 x.2]
def bwS (zs : List Int) (xs : List (Int × Int)) : Prop := xs.map Prod.snd = zs.reverse
theorem bw_rest {zs r : List Int} {pre : List (Int × Int)} {z : Int} (h : zs = r ++ [z] ++ (pre.map Prod.snd).reverse) (i : Int) : zs = r ++ ((pre ++ [(i, z)]).map Prod.snd).reverse := by
  rw [h]; simp
set_option maxHeartbeats 2000000 in
theorem backward_stops (bx B : Nat) (v : Value) (zs : List Int) (w0 : World) (hbx : w0.heap[bx]? = some (.cells #[v] 39 (0, 0))) (hv : w0.ownsRow B 3 1 v zs.length (zs.map (Value.int .i64))) (hl : zs.length ≤ 4294967297) (n : Nat) (hn : 1 ≤ n) :
    SeqStopsK Fence.wide n Try.prog 33 #[.pointer (some ⟨bx, 0, none⟩)] bwE (BwKp bx v) (bwS zs) (fun _ => True) zs.length w0 := by
  intro l J Jx W hW hJ hJx hY h0
  have hbxW := (hW.block bx (Array.getElem?_eq_some_iff.1 hbx).1).trans hbx
  have hvW := ownsRow_below hv hW
  refine callsIn_of_wp Try.func33 rfl trivial ?_ rfl
  simp only [Try.ntmps33, List.size_toArray, List.length_cons, List.length_nil, Nat.reduceAdd, Nat.reduceSub, Array.replicate_succ, Array.replicate_zero, List.push_toArray, List.append_toArray, List.nil_append, List.cons_append]
  obtain ⟨A, c, rfl, _⟩ : ∃ A c, v = .slice A zs.length c ∧ zs.length ≤ c := by
    rcases hvW.2 with ⟨rfl, h0⟩ | ⟨g, cap, cur, rfl, hb, hg, hnc, hcm, hcs, ht⟩
    · exact ⟨none, 0, by rw [h0], by omega⟩
    · exact ⟨_, cap, rfl, hnc⟩
  have c0 : W.cell? ⟨bx, 0, none⟩ = some (.slice A zs.length c) := (cell_of_row W bx 0 _ _ (0, 0) hbxW).trans rfl
  have HY := Lib.hid hY
  have HBX := Lib.hid hbxW
  have HV := Lib.hid hvW
  have H0 := Lib.hid h0
  clear hY hbxW hvW hbx hv h0
  gi_wp2
  gi_loopw [3] (fun i wr => ∃ (pre : List (Int × Int)) (r : List Int), zs = r ++ (pre.map Prod.snd).reverse ∧ i = .int .i64 ((r.length : Int) - 1) ∧ J pre wr ∧ BwKp bx (.slice A zs.length c) W wr) (fun i _ => (intOf i + 1).toNat)
  case atStart => exact ⟨[], zs, by simp, by go_num, H0.out, rfl, fun g _ => rfl⟩
  case round =>
    obtain ⟨pre, r, hz, rfl, hJr, hkp⟩ := hrel
    have c1 : wr.cell? ⟨bx, 0, none⟩ = some (.slice A zs.length c) := (World.cell?_of_block (a := ⟨bx, 0, none⟩) hkp.1).trans c0
    have hrl : r.length ≤ zs.length := by rw [hz, List.length_append]; omega
    rcases List.eq_nil_or_concat r with rfl | ⟨r', z, rfl⟩
    · have hs : bwS zs pre := by unfold bwS; rw [hz]; simp
      gi_wp2
      go_end0
      exact ⟨⟨_, rfl⟩, .inl ⟨pre, hs, hJr⟩⟩
    · rw [List.concat_eq_append] at hz hrl
      have hlen : (r'.concat z).length = r'.length + 1 := by simp
      rw [hlen]
      have hzl : r'.length < zs.length := by rw [List.length_append, List.length_singleton] at hrl; omega
      obtain ⟨g, cap, e, hbg, hgl⟩ := HV.out.form (by omega)
      cases e
      have hcz := HV.out.cellAt r'.length (by omega)
      have hzz : zs[r'.length]? = some z := by
        rw [hz, List.append_assoc, List.getElem?_append_right (Nat.le_refl _), Nat.sub_self]
        rfl
      rw [List.getElem?_map, hzz] at hcz
      have c2 : wr.cell? ⟨g, r'.length, none⟩ = some (.int .i64 z) := (World.cell?_of_block (a := ⟨g, r'.length, none⟩) (hkp.2 g rfl)).trans hcz
      obtain ⟨fn, tmps, assign, body, hy, hR⟩ := HY.out pre ((r'.length : Int), z) wr hJr (by have := congrArg List.length hz; simp at this; omega)
      dsimp only [bwE] at hy
      have hi1 : ((r'.length : Int) < (zs.length : Int)) := by omega
      have HK := Lib.hid hkp
      have HZ := Lib.hid hz
      have HRR := Lib.hid hR
      clear hkp hcz hzz hR hJr hlen hz
      gi_wp2
      refine HRR.out.mono ?_
      rintro e W3 (⟨rfl, hJ3, hk3⟩ | ⟨rfl, hJx3⟩)
      · have HJ3 := Lib.hid hJ3
        have HK3 := Lib.hid (show BwKp bx (.slice (some ⟨g, 0, none⟩) zs.length c) W W3 from ⟨hk3.1.trans HK.out.1, fun g' h => (hk3.2 g' h).trans (HK.out.2 g' h)⟩)
        clear hJ3 hk3
        gi_wp2
        go_roundw
        case rel => exact ⟨pre ++ [((r'.length : Int), z)], r', bw_rest HZ.out _, rfl, HJ3.out, HK3.out⟩
        case measure => simp [intOf]
      · have HJ3 := Lib.hid hJx3
        clear hJx3
        gi_wp2
        refine bodyPost_ret (results_none rfl _ _ _) rfl ?_
        exact ⟨⟨_, rfl⟩, .inr ⟨_, trivial, HJ3.out⟩⟩

end Go.Proofs.Ytoomkhmmgjiniaa
