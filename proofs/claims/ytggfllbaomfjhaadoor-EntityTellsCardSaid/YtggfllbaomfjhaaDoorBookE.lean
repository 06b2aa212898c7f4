/-
  The statements' book of lists: stillTexts, markedTexts.
-/
import Derived.Test.YtggfllbaomfjhaaDoorBookD
import Derived.Deep.RegionHeld3
namespace Go.Proofs.YtggfllbaomfjhaaDoor
open Go.RowKit
set_option linter.unusedSimpArgs false
set_option linter.unusedVariables false

theorem own_heap {w w' : World} (hh : w'.heap = w.heap) {B : Nat} {e : TypeId} {size n : Nat} {v : Value} {xs : List Value} (h : w.ownsRow B e size v n xs) : w'.ownsRow B e size v n xs := by
  refine ⟨h.1, ?_⟩
  rcases h.2 with hn | ⟨g, cap, cur, rfl, hB, hg, rest⟩
  · exact .inl hn
  · exact .inr ⟨g, cap, cur, rfl, hB, by rw [hh]; exact hg, rest⟩
theorem BookIs.heap {w w' : World} (hh : w'.heap = w.heap) {B b : Nat} {tv uv : Value} {vs us : List Value} {lss : List (List (List UInt8))} (h : BookIs w B b tv uv vs us lss) : BookIs w' B b tv uv vs us lss :=
  ⟨by rw [hh]; exact h.blk, h.base, own_heap hh h.tvs, own_heap hh h.uvs, h.ne, ⟨h.tl.1, fun i v ls hv hl => own_heap hh (h.tl.2 i v ls hv hl)⟩, ⟨h.ul.1, fun i v ls hv hl => own_heap hh (h.ul.2 i v ls hv hl)⟩, h.dist⟩

theorem BookIs.below {w w' : World} {B b : Nat} {tv uv : Value} {vs us : List Value} {lss : List (List (List UInt8))} (h : BookIs w B b tv uv vs us lss) (hb : Below w.heap.size w w') : BookIs w' B b tv uv vs us lss :=
  ⟨(hb.block b h.lt).trans h.blk, h.base, ownsRow_below h.tvs hb, ownsRow_below h.uvs hb, h.ne, ⟨h.tl.1, fun i v ls hv hl => ownsRow_below (h.tl.2 i v ls hv hl) hb⟩, ⟨h.ul.1, fun i v ls hv hl => ownsRow_below (h.ul.2 i v ls hv hl) hb⟩, h.dist⟩
/-- A new book. -/
theorem BookIs.new {w : World} {B b : Nat} (hb : w.heap[b]? = some (.cells (bookCells (.slice none 0 0) (.slice none 0 0)) 42 (0, 0))) (hB : B ≤ b) : BookIs w B b (.slice none 0 0) (.slice none 0 0) [] [] [] :=
  ⟨hb, hB, World.ownsRow_nil _ _ _ _, World.ownsRow_nil _ _ _ _, fun g hg => by simp [Value.ownBlock] at hg, ⟨rfl, fun i v ls hv => by simp at hv⟩, ⟨rfl, fun i v ls hv => by simp at hv⟩, List.Pairwise.nil⟩

/-- The i-th list of a list of lists, and where it lies. -/
theorem row_cell {w : World} {B : Nat} {e : TypeId} {A : Option Addr} {cap : Nat} {xs : List Value} (h : w.ownsRow B e 1 (.slice A xs.length cap) xs.length xs) {k : Nat} (hk : k < xs.length) :
    ∃ b, A = some ⟨b, 0, none⟩ ∧ b < w.heap.size ∧ w.cell? ⟨b, k, none⟩ = some xs[k] := by
  obtain ⟨hl, h⟩ := h
  rcases h with ⟨e1, h0⟩ | ⟨g, c, cur, e1, hb, hg, hnc, hcm, hcs, ht⟩
  · omega
  · cases e1
    refine ⟨g, rfl, (Array.getElem?_eq_some_iff.1 hg).1, ?_⟩
    rw [cell_of_row w g k cur e (0, 0) hg]
    have h2 : xs[k]? = some xs[k] := List.getElem?_eq_getElem hk
    have h3 : (cur.toList.take (xs.length * 1))[k]? = some xs[k] := by rw [ht]; exact h2
    rw [List.getElem?_take] at h3
    split at h3
    · simpa using h3
    · cases h3

def StillRel (m : Nat) (w : World) (i : Value) (wr : World) : Prop := ∃ k n : Nat, i = .int .i64 k ∧ k ≤ m ∧ wr = w.drewN n

set_option maxHeartbeats 1000000 in
theorem stillTexts_any (B b : Nat) (tv uv : Value) (vs us : List Value) (lss : List (List (List UInt8))) (w : World) (h : BookIs w B b tv uv vs us lss) (hm : vs.length ≤ 1000) :
    Calls Tryd.prog 23 #[.pointer (some ⟨b, 0, none⟩)] w (QuietBool w true) := by
  have H := Lib.hid h
  clear h
  go_enter Tryd.func23, Tryd.ntmps23
  go_wp2_with fail
  go_loopw [3] (fun i wr => StillRel vs.length w i wr) (fun i _ => vs.length - (intOf i).toNat)
  case atStart => exact ⟨0, 0, rfl, Nat.zero_le _, rfl⟩
  case round =>
    obtain ⟨k, n, rfl, hk, hw⟩ := hrel
    have hbk : BookIs wr B b tv uv vs us lss := H.out.heap (by rw [hw]; rfl)
    have HW := Lib.hid hw
    clear hw
    obtain ⟨At, ct, rfl, _, _⟩ := RowOf.own hbk.tvs
    obtain ⟨Au, cu, rfl, _, _⟩ := RowOf.own hbk.uvs
    have hc0 : wr.cell? ⟨b, 0, none⟩ = some (.slice At vs.length ct) := (hbk.cell 0).trans rfl
    have hc1 : wr.cell? ⟨b, 1, none⟩ = some (.slice Au us.length cu) := (hbk.cell 1).trans rfl
    have hlu : us.length = vs.length := by rw [hbk.ul.1, hbk.tl.1]
    have hls : lss.length = vs.length := by rw [hbk.tl.1]
    by_cases hp : k < vs.length
    · obtain ⟨gt, rfl, hgt, hct⟩ := row_cell hbk.tvs hp
      obtain ⟨gu, rfl, hgu, hcu⟩ := row_cell hbk.uvs (k := k) (by omega)
      have hv := hbk.tl.2 k vs[k] (lss[k]'(by omega)) (List.getElem?_eq_getElem hp) (List.getElem?_eq_getElem (by omega))
      have hu := hbk.ul.2 k (us[k]'(by omega)) (lss[k]'(by omega)) (List.getElem?_eq_getElem (by omega)) (List.getElem?_eq_getElem (by omega))
      obtain ⟨A1, c1, e1, hr1, _⟩ := RowOf.own hv
      obtain ⟨A2, c2, e2, hr2, _⟩ := RowOf.own hu
      rw [e1] at hct
      rw [e2] at hcu
      have hsm := fun W hh => same_any A1 A2 c1 c2 (lss[k]'(by omega)) (lss[k]'(by omega)) W (rowOf_heap hh hr1) (rowOf_heap hh hr2)
      generalize (lss[k]'(by omega)) = ls at *
      rw [decide_eq_true (rfl : ls = ls)] at hsm
      have hpu : k < us.length := by omega
      have HB := Lib.hid hbk
      clear hbk hlu hls e1 e2 hv hu
      have HS := Lib.hid hsm
      clear hsm
      go_wp2_with fail
      go_quiet ((go_at_call 16; exact Calls.quiet_of (HS.out _ rfl)))
      rename_i nq
      go_wp2
      go_roundw
      case rel => exact ⟨k + 1, n + nq, by go_num, by omega, by rw [HW.out, World.drewN_drewN]⟩
      case measure => simp [intOf]; omega
    · have HB := Lib.hid hbk
      clear hbk hlu hls
      go_wp2
      go_ret
      exact ⟨rfl, n, HW.out⟩

end Go.Proofs.YtggfllbaomfjhaaDoor
