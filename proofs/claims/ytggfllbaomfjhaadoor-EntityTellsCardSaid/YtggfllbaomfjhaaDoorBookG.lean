/-
  The statements' book of lists: putTexts.
-/
import Derived.Test.YtggfllbaomfjhaaDoorBookF
import Derived.BigRegion
namespace Go.Proofs.YtggfllbaomfjhaaDoor
open Go.RowKit
set_option linter.unusedSimpArgs false
set_option linter.unusedVariables false

/-- Rows of texts: the i-th holds f i. -/
def RowsF (w : World) (B : Nat) (vs : List Value) (f : Nat → List (List UInt8)) : Prop :=
  ∀ (i : Nat) (v : Value), vs[i]? = some v → w.ownsRow B 9 1 v (f i).length (strs (f i))
/-- The book's texts alone. -/
structure BookV (w : World) (B b : Nat) (tv uv : Value) (vs : List Value) (f : Nat → List (List UInt8)) : Prop where
  blk : w.heap[b]? = some (.cells (bookCells tv uv) 42 (0, 0))
  base : B ≤ b
  tvs : w.ownsRow B 25 1 tv vs.length vs
  tl : RowsF w B vs f
  dist : Dist vs

theorem Dist.get {vs : List Value} (h : Dist vs) {i j : Nat} {v u : Value} (hv : vs[i]? = some v) (hu : vs[j]? = some u) (hij : i ≠ j) : Apart v u := by
  obtain ⟨hi, rfl⟩ := List.getElem?_eq_some_iff.1 hv
  obtain ⟨hj, rfl⟩ := List.getElem?_eq_some_iff.1 hu
  rcases Nat.lt_or_gt_of_ne hij with h1 | h1
  · exact List.pairwise_iff_getElem.1 h i j hi hj h1
  · exact (List.pairwise_iff_getElem.1 h j i hj hi h1).symm

theorem BookIs.toV {w : World} {B b : Nat} {tv uv : Value} {vs us : List Value} {lss : List (List (List UInt8))} (h : BookIs w B b tv uv vs us lss) : BookV w B b tv uv vs (fun i => lss.getD i []) :=
  ⟨h.blk, h.base, h.tvs, fun i v hv => by
    have hi := (List.getElem?_eq_some_iff.1 hv).1
    have e := h.tl.1
    have h1 := h.tl.2 i v (lss[i]'(by omega)) hv (List.getElem?_eq_getElem (by omega))
    rw [List.getD_eq_getElem?_getD, List.getElem?_eq_getElem (by omega)]
    exact h1, (List.pairwise_append.1 h.dist).1⟩

/-- What a step that touches the k-th row alone does to the book. -/
theorem BookV.step {w w' : World} {B b : Nat} {tv uv : Value} {vs : List Value} {f : Nat → List (List UInt8)} (h : BookV w B b tv uv vs f) {k : Nat} {v : Value} (hv : vs[k]? = some v) (hg : w.grownBy w' v.ownBlock)
    {g : Nat → List (List UInt8)} (hk : w'.ownsRow B 9 1 v (g k).length (strs (g k))) (ho : ∀ j, j ≠ k → g j = f j) : BookV w' B b tv uv vs g := by
  have hrow := h.tl k v hv
  refine ⟨?_, h.base, h.tvs.kept hg (own_apart h.tvs hrow (by decide)).ne, fun i u hu => ?_, h.dist⟩
  · rw [hg.block b (Array.getElem?_eq_some_iff.1 h.blk).1 (fun e => own_ne hrow h.blk (by decide) e.symm)]
    exact h.blk
  · by_cases e : i = k
    · subst e
      rw [hv] at hu
      cases hu
      exact hk
    · rw [ho i e]
      exact (h.tl i u hu).kept hg (h.dist.get hu hv e).ne
theorem BookV.below {w w' : World} {B b : Nat} {tv uv : Value} {vs : List Value} {f : Nat → List (List UInt8)} (h : BookV w B b tv uv vs f) (hb : Below w.heap.size w w') : BookV w' B b tv uv vs f :=
  ⟨(hb.block b (Array.getElem?_eq_some_iff.1 h.blk).1).trans h.blk, h.base, ownsRow_below h.tvs hb, fun i u hu => ownsRow_below (h.tl i u hu) hb, h.dist⟩

theorem grownBy_of_below {w w' : World} (h : Below w.heap.size w w') (row : Option Nat) : w.grownBy w' row := ⟨h.os, h.tape, h.output, h.size, fun k hk _ => h.block k hk⟩

theorem strs_set (ms ls : List (List UInt8)) (q : Nat) (hq : q < ms.length) (hl : ms.length = ls.length) :
    (strs (ms.take q ++ ls.drop q)).set q (.string ⟨ms[q].toArray⟩) = strs (ms.take (q + 1) ++ ls.drop (q + 1)) := by
  rw [List.take_succ_eq_append_getElem hq, List.drop_eq_getElem_cons (show q < ls.length by omega)]
  simp only [strs, List.map_append, List.map_cons, List.map_take, List.map_nil]
  rw [List.set_append_right _ _ (by simp; omega)]
  simp [List.length_take, Nat.min_eq_left (Nat.le_of_lt hq)]

theorem put_facts {wr w1 wq : World} {B b : Nat} {uv : Value} {vs : List Value} {f' : Nat → List (List UInt8)} {gt ct k gi c1 gm cm n q : Nat} {ls ms : List (List UInt8)} (hms : ms.length = n)
    (h : BookV wr B b (.slice (some ⟨gt, 0, none⟩) vs.length ct) uv vs f') (hct : wr.cell? ⟨gt, k, none⟩ = some (.slice (some ⟨gi, 0, none⟩) n c1)) (b1 : Below wr.heap.size wr w1)
    (hr : wr.ownsRow B 9 1 (.slice (some ⟨gi, 0, none⟩) n c1) n (strs ls)) (hm : w1.ownsRow wr.heap.size 9 1 (.slice (some ⟨gm, 0, none⟩) n cm) n (strs ms))
    (hgr : w1.grownBy wq (Value.slice (some ⟨gi, 0, none⟩) n c1).ownBlock) (hown : wq.ownsRow B 9 1 (.slice (some ⟨gi, 0, none⟩) n c1) n (strs (ms.take q ++ ls.drop q))) (hq : q < n) :
    wq.cell? ⟨b, 0, none⟩ = some (.slice (some ⟨gt, 0, none⟩) vs.length ct) ∧ wq.cell? ⟨gt, k, none⟩ = some (.slice (some ⟨gi, 0, none⟩) n c1) ∧ wq.cell? ⟨gm, q, none⟩ = some (.string ⟨(ms[q]'(by omega)).toArray⟩) ∧
      (∃ u, wq.cell? ⟨gi, q, none⟩ = some u) ∧ wq.frozen? ⟨gi, q, none⟩ = false ∧ gi ≠ b ∧ gi ≠ gt ∧ gi ≠ gm := by
  have n1 : gi ≠ b := fun e => own_ne hr h.blk (by decide) (by rw [e]; rfl)
  have n2 : gi ≠ gt := fun e => own_apart h.tvs hr (by decide) gt rfl (by rw [e]; rfl)
  have n3 : gi ≠ gm := fun e => own_new hr hm (Nat.le_refl _) gi rfl (by rw [e]; rfl)
  have hbl := (Array.getElem?_eq_some_iff.1 h.blk).1
  have htl := (h.tvs.lt gt rfl).2
  have e1 : wr.cell? ⟨b, 0, none⟩ = some (.slice (some ⟨gt, 0, none⟩) vs.length ct) := (cell_of_row wr b 0 _ _ (0, 0) h.blk).trans rfl
  refine ⟨hgr.cell ((b1.cell (p := ⟨b, 0, none⟩) hbl).trans e1) (fun e => n1 (by cases e; rfl)), hgr.cell ((b1.cell (p := ⟨gt, k, none⟩) htl).trans hct) (fun e => n2 (by cases e; rfl)), ?_, ?_, hown.frozenAt q, n1, n2, n3⟩
  · obtain ⟨g, e, _, hc⟩ := row_cell (xs := strs ms) (by rw [strs_length, hms]; exact hm) (k := q) (by rw [strs_length, hms]; exact hq)
    cases e
    rw [strs_get] at hc
    exact hgr.cell hc (fun e => n3 (by cases e; rfl))
  · have hl := hown.1
    have hc := hown.cellAt q (by omega)
    exact ⟨_, hc.trans (List.getElem?_eq_getElem (by omega))⟩

theorem put_step {w1 wq : World} {B : Nat} {gi c1 n q : Nat} {ls ms : List (List UInt8)} (hms : ms.length = n)
    (hgr : w1.grownBy wq (Value.slice (some ⟨gi, 0, none⟩) n c1).ownBlock) (hown : wq.ownsRow B 9 1 (.slice (some ⟨gi, 0, none⟩) n c1) n (strs (ms.take q ++ ls.drop q))) (hq : q < n) :
    w1.grownBy (wq.setCell ⟨gi, q, none⟩ (.string ⟨(ms[q]'(by omega)).toArray⟩)) (Value.slice (some ⟨gi, 0, none⟩) n c1).ownBlock ∧
      (wq.setCell ⟨gi, q, none⟩ (.string ⟨(ms[q]'(by omega)).toArray⟩)).ownsRow B 9 1 (.slice (some ⟨gi, 0, none⟩) n c1) n (strs (ms.take (q + 1) ++ ls.drop (q + 1))) := by
  have hl := hown.1
  rw [strs_length, List.length_append, List.length_take, List.length_drop] at hl
  obtain ⟨s1, s2⟩ := hown.stored q (.string ⟨(ms[q]'(by omega)).toArray⟩)
  rw [strs_set ms ls q (by omega) (by omega)] at s1
  exact ⟨hgr.trans s2, s1⟩
theorem grown_drew {w w' : World} {row : Option Nat} (h : w.grownBy w' row) : w.grownBy w'.drew row := ⟨h.os, h.tape, h.output, h.size, h.block⟩

theorem below_of_grown {w w' : World} {row : Option Nat} {B : Nat} (h : w.grownBy w' row) (hr : ∀ g, row = some g → B ≤ g) (hB : B ≤ w.heap.size := by omega) : Below B w w' :=
  ⟨h.os, h.tape, h.output, h.size, fun k hk => h.block k (by omega) (fun e => by have := hr k e.symm; omega)⟩
theorem put_end {wr w1 w2 : World} {B b : Nat} {tv uv v : Value} {vs : List Value} {f : Nat → List (List UInt8)} {k : Nat} (h : BookV wr B b tv uv vs (fun j => if j < k then marks j 0 (f j).length else f j)) (hv : vs[k]? = some v)
    (b1 : Below wr.heap.size wr w1) (hgr : w1.grownBy w2 v.ownBlock) (hown : w2.ownsRow B 9 1 v (f k).length (strs (marks k 0 (f k).length))) :
    BookV w2 B b tv uv vs (fun j => if j < k + 1 then marks j 0 (f j).length else f j) := by
  refine (h.below b1).step hv hgr ?_ ?_
  · simp only [Nat.lt_succ_self, if_true]
    rw [marks_length]
    exact hown
  · intro j hj
    by_cases h1 : j < k
    · rw [if_pos h1, if_pos (by omega)]
    · rw [if_neg h1, if_neg (by omega)]
def PutIn (w1 : World) (B : Nat) (v : Value) (ms ls : List (List UInt8)) (n : Nat) (q : Value) (wr : World) : Prop :=
  ∃ k : Nat, q = .int .i64 k ∧ k ≤ n ∧ w1.grownBy wr v.ownBlock ∧ wr.ownsRow B 9 1 v n (strs (ms.take k ++ ls.drop k))
def PutRel (w : World) (B b : Nat) (tv uv : Value) (vs : List Value) (f : Nat → List (List UInt8)) (i : Value) (wr : World) : Prop :=
  ∃ k : Nat, i = .int .i64 k ∧ k ≤ vs.length ∧ BookV wr B b tv uv vs (fun j => if j < k then marks j 0 (f j).length else f j) ∧ Below B w wr

set_option maxHeartbeats 4000000 in
set_option maxRecDepth 100000 in
theorem putTexts_any (B b : Nat) (tv uv : Value) (vs : List Value) (f : Nat → List (List UInt8)) (w : World) (hB : B ≤ w.heap.size) (h : BookV w B b tv uv vs f) (hm : vs.length ≤ 1000) (hf : ∀ i, (f i).length ≤ 100000) :
    Calls Tryd.prog 32 #[.pointer (some ⟨b, 0, none⟩)] w fun e w' => e = .returned (.tuple #[]) ∧ BookV w' B b tv uv vs (fun j => if j < vs.length then marks j 0 (f j).length else f j) ∧ Below B w w' := by
  have H := Lib.hid h
  have HF := Lib.hid hf
  clear h hf
  go_enter Tryd.func32, Tryd.ntmps32
  go_wp2_with fail
  go_loopw [2] (fun i wr => PutRel w B b tv uv vs f i wr) (fun i _ => vs.length - (intOf i).toNat)
  case atStart => exact ⟨0, rfl, Nat.zero_le _, by simpa using H.out, Below.refl _ _⟩
  case round =>
    obtain ⟨k, rfl, hk, hbk, hbw⟩ := hrel
    obtain ⟨At, ct, rfl, _, _⟩ := RowOf.own hbk.tvs
    have hc0 : wr.cell? ⟨b, 0, none⟩ = some (.slice At vs.length ct) := (cell_of_row wr b 0 _ _ (0, 0) hbk.blk).trans rfl
    by_cases hp : k < vs.length
    · obtain ⟨gt, rfl, hgt, hct⟩ := row_cell hbk.tvs hp
      have hv := List.getElem?_eq_getElem hp
      have hrow := hbk.tl k _ hv
      simp only [Nat.lt_irrefl, if_false] at hrow
      have hfk := HF.out k
      generalize hvk : vs[k] = v at *
      obtain ⟨A1, c1, rfl, hr1, _⟩ := RowOf.own hrow
      have hsz := hbw.size
      have HB := Lib.hid hbk
      have HV := Lib.hid hv
      have HR := Lib.hid hrow
      have hbl := (Array.getElem?_eq_some_iff.1 hbk.blk).1
      clear hbk hv hvk hrow
      go_wp2_with fail
      refine (markTexts_any k 0 (f k).length wr (by omega) (by omega) (by omega) (by omega)).mono ?_
      rintro e w1 ⟨mv, rfl, hownm, b1⟩
      obtain ⟨Am, cm, rfl, hrm, _⟩ := RowOf.own hownm
      have hs1 := b1.size
      have HMO := Lib.hid hownm
      clear hownm
      go_wp2_with fail
      go_loopw [4] (fun q w' => PutIn w1 B (.slice A1 (f k).length c1) (marks k 0 (f k).length) (f k) (f k).length q w') (fun q _ => (f k).length - (intOf q).toNat)
      case atStart => exact ⟨0, rfl, Nat.zero_le _, World.grownBy.refl _ _, by simpa using ownsRow_below HR.out b1⟩
      case round =>
        obtain ⟨q, rfl, hq, hgr, hown⟩ := hrel
        by_cases hp2 : q < (f k).length
        · obtain ⟨gi, ci, ei, hBi, hgi⟩ := hown.form (by omega)
          cases ei
          obtain ⟨gm, em, hgm, _⟩ := row_cell (xs := strs (marks k 0 (f k).length)) (by rw [strs_length, marks_length]; exact HMO.out) (k := q) (by rw [strs_length, marks_length]; exact hp2)
          cases em
          obtain ⟨d1, d2, d3, ⟨u, d4⟩, d5, d6, d7, d8⟩ := put_facts (ms := marks k 0 (f k).length) (marks_length _ _ _) HB.out hct b1 HR.out HMO.out hgr hown hp2
          have HS := Lib.hid (put_step (marks_length _ _ _) hgr hown hp2)
          clear hgr hown
          go_wp2_with fail
          go_region
          go_wp2
          go_roundw
          case rel => exact ⟨q + 1, by go_num, by omega, grown_drew HS.out.1, HS.out.2⟩
          case measure => simp [intOf]; omega
        · obtain rfl : q = (f k).length := by omega
          have hfin : wr.ownsRow B 9 1 (.slice A1 (f k).length c1) (f k).length (strs (marks k 0 (f k).length)) := by
            rw [List.take_of_length_le (by rw [marks_length]; omega), List.drop_of_length_le (by omega), List.append_nil] at hown
            exact hown
          have hbv := put_end HB.out HV.out b1 hgr hfin
          have hbw2 := hbw.trans ((b1.mono (show B ≤ _ by omega)).trans (below_of_grown hgr (fun g hg => (HR.out.lt g hg).1) (by omega)))
          have HE := Lib.hid hbv
          have HE2 := Lib.hid hbw2
          clear hgr hown hfin hbv hbw2
          go_wp2
          go_roundw
          case rel => exact ⟨k + 1, by go_num, by omega, HE.out, HE2.out⟩
          case measure => simp [intOf]; omega
    · obtain rfl : k = vs.length := by omega
      have HB := Lib.hid hbk
      clear hbk
      go_wp2
      go_end0
      exact ⟨rfl, HB.out, hbw⟩

end Go.Proofs.YtggfllbaomfjhaaDoor
