/- Texts joined: BookG BookH BookI BookJ ScA ScH. -/
import Derived.Test.YtpifhjdbcdcelaaGreatDoorQAE
import Derived.BigRegion
import Derived.ArgAppend
import Derived.OwnWalk
import Derived.Maps.Range
import Derived.Test.YtpifhjdbcdcelaaGreatDoorQAB
import Derived.Deep.AppendLies
import Derived.Deep.RegionHeld3
import Derived.Laws.AppendOwnNone
import Derived.Deep.RegionLaw
namespace Go.Proofs.YtpifhjdbcdcelaaGreatDoor
open Go.RowKit
set_option linter.unusedSimpArgs false
set_option linter.unusedVariables false
variable {r : Nat → Value}
/-- Rows of texts: the i-th holds f i. -/
def RowsF (w : World) (B : Nat) (vs : List Value) (f : Nat → List (List UInt8)) : Prop :=
  ∀ (i : Nat) (v : Value), vs[i]? = some v → w.ownsRow B 9 1 v (f i).length (strs (f i))
/-- The book's texts alone. -/
structure BookV (w : World) (B b : Nat) (tv uv : Value) (vs : List Value) (f : Nat → List (List UInt8)) (r : Nat → Value := nilR) : Prop where
  blk : w.heap[b]? = some (.cells (bookCells tv uv r) 36 (0, 0))
  base : B ≤ b
  tvs : w.ownsRow B 23 1 tv vs.length vs
  tl : RowsF w B vs f
  dist : Dist vs
theorem BookIs.toV {w : World} {B b : Nat} {tv uv : Value} {vs us : List Value} {lss : List (List (List UInt8))} (h : BookIs w B b tv uv vs us lss r) : BookV w B b tv uv vs (fun i => lss.getD i []) r :=
  ⟨h.blk, h.base, h.tvs, fun i v hv => by
    have hi := (List.getElem?_eq_some_iff.1 hv).1
    have e := h.tl.1
    have h1 := h.tl.2 i v (lss[i]'(by omega)) hv (List.getElem?_eq_getElem (by omega))
    rw [List.getD_eq_getElem?_getD, List.getElem?_eq_getElem (by omega)]
    exact h1, (List.pairwise_append.1 h.dist).1⟩
/-- What a step that touches the k-th row alone does to the book. -/
theorem BookV.step {w w' : World} {B b : Nat} {tv uv : Value} {vs : List Value} {f : Nat → List (List UInt8)} (h : BookV w B b tv uv vs f r) {k : Nat} {v : Value} (hv : vs[k]? = some v) (hg : w.grownBy w' v.ownBlock)
    {g : Nat → List (List UInt8)} (hk : w'.ownsRow B 9 1 v (g k).length (strs (g k))) (ho : ∀ j, j ≠ k → g j = f j) : BookV w' B b tv uv vs g r := by
  have hrow := h.tl k v hv
  refine ⟨?_, h.base, h.tvs.kept hg (own_apart h.tvs hrow (by decide)).ne, fun i u hu => ?_, h.dist⟩
  · rw [hg.block b (Array.getElem?_eq_some_iff.1 h.blk).1 (fun e => own_ne hrow h.blk (by decide) e.symm)]
    exact h.blk
  · by_cases e : i = k
    · subst e
      rw [hv] at hu
      cases hu
      exact hk
    · rw [ho i e]
      exact (h.tl i u hu).kept hg (h.dist.get hu hv e).ne
theorem BookV.below {w w' : World} {B b : Nat} {tv uv : Value} {vs : List Value} {f : Nat → List (List UInt8)} (h : BookV w B b tv uv vs f r) (hb : Below w.heap.size w w') : BookV w' B b tv uv vs f r :=
  ⟨(hb.block b (Array.getElem?_eq_some_iff.1 h.blk).1).trans h.blk, h.base, ownsRow_below h.tvs hb, fun i u hu => ownsRow_below (h.tl i u hu) hb, h.dist⟩
theorem strs_set (ms ls : List (List UInt8)) (q : Nat) (hq : q < ms.length) (hl : ms.length = ls.length) :
    (strs (ms.take q ++ ls.drop q)).set q (.string ⟨ms[q].toArray⟩) = strs (ms.take (q + 1) ++ ls.drop (q + 1)) := by
  rw [List.take_succ_eq_append_getElem hq, List.drop_eq_getElem_cons (show q < ls.length by omega)]
  simp only [strs, List.map_append, List.map_cons, List.map_take, List.map_nil]
  rw [List.set_append_right _ _ (by simp; omega)]
  simp [List.length_take, Nat.min_eq_left (Nat.le_of_lt hq)]
theorem put_facts {wr w1 wq : World} {B b : Nat} {uv : Value} {vs : List Value} {f' : Nat → List (List UInt8)} {gt ct k gi c1 gm cm n q : Nat} {ls ms : List (List UInt8)} (hms : ms.length = n)
    (h : BookV wr B b (.slice (some ⟨gt, 0, none⟩) vs.length ct) uv vs f' r) (hct : wr.cell? ⟨gt, k, none⟩ = some (.slice (some ⟨gi, 0, none⟩) n c1)) (b1 : Below wr.heap.size wr w1)
    (hr : wr.ownsRow B 9 1 (.slice (some ⟨gi, 0, none⟩) n c1) n (strs ls)) (hm : w1.ownsRow wr.heap.size 9 1 (.slice (some ⟨gm, 0, none⟩) n cm) n (strs ms))
    (hgr : w1.grownBy wq (Value.slice (some ⟨gi, 0, none⟩) n c1).ownBlock) (hown : wq.ownsRow B 9 1 (.slice (some ⟨gi, 0, none⟩) n c1) n (strs (ms.take q ++ ls.drop q))) (hq : q < n) :
    wq.cell? ⟨b, 0, none⟩ = some (.slice (some ⟨gt, 0, none⟩) vs.length ct) ∧ wq.cell? ⟨gt, k, none⟩ = some (.slice (some ⟨gi, 0, none⟩) n c1) ∧ wq.cell? ⟨gm, q, none⟩ = some (.string ⟨(ms[q]'(by omega)).toArray⟩) ∧
      (∃ u, wq.cell? ⟨gi, q, none⟩ = some u) ∧ wq.frozen? ⟨gi, q, none⟩ = false ∧ gi ≠ b ∧ gi ≠ gt ∧ gi ≠ gm := by
  have n1 : gi ≠ b := fun e => own_ne hr h.blk (by decide) (by rw [e]; rfl)
  have n2 : gi ≠ gt := fun e => own_apart h.tvs hr (by decide) gt rfl (by rw [e]; rfl)
  have n3 : gi ≠ gm := fun e => own_new hr hm (Nat.le_refl _) gi rfl (by rw [e]; rfl)
  have hbl := (Array.getElem?_eq_some_iff.1 h.blk).1
  have htl := (h.tvs.lt gt rfl).2
  have e1 : wr.cell? ⟨b, 0, none⟩ = some (.slice (some ⟨gt, 0, none⟩) vs.length ct) := (cell_of_row wr b 0 _ _ (0, 0) h.blk).trans rfl
  refine ⟨hgr.cell ((b1.cell (p := ⟨b, 0, none⟩) hbl).trans e1) (fun e => n1 (by cases e; rfl)), hgr.cell ((b1.cell (p := ⟨gt, k, none⟩) htl).trans hct) (fun e => n2 (by cases e; rfl)), ?_, ?_, hown.frozenAt q, n1, n2, n3⟩
  · obtain ⟨g, e, _, hc⟩ := row_cell (xs := strs ms) (by rw [strs_length, hms]; exact hm) (k := q) (by rw [strs_length, hms]; exact hq)
    cases e
    rw [strs_get] at hc
    exact hgr.cell hc (fun e => n3 (by cases e; rfl))
  · have hl := hown.1
    have hc := hown.cellAt q (by omega)
    exact ⟨_, hc.trans (List.getElem?_eq_getElem (by omega))⟩
theorem put_step {w1 wq : World} {B : Nat} {gi c1 n q : Nat} {ls ms : List (List UInt8)} (hms : ms.length = n)
    (hgr : w1.grownBy wq (Value.slice (some ⟨gi, 0, none⟩) n c1).ownBlock) (hown : wq.ownsRow B 9 1 (.slice (some ⟨gi, 0, none⟩) n c1) n (strs (ms.take q ++ ls.drop q))) (hq : q < n) :
    w1.grownBy (wq.setCell ⟨gi, q, none⟩ (.string ⟨(ms[q]'(by omega)).toArray⟩)) (Value.slice (some ⟨gi, 0, none⟩) n c1).ownBlock ∧
      (wq.setCell ⟨gi, q, none⟩ (.string ⟨(ms[q]'(by omega)).toArray⟩)).ownsRow B 9 1 (.slice (some ⟨gi, 0, none⟩) n c1) n (strs (ms.take (q + 1) ++ ls.drop (q + 1))) := by
  have hl := hown.1
  rw [strs_length, List.length_append, List.length_take, List.length_drop] at hl
  obtain ⟨s1, s2⟩ := hown.stored q (.string ⟨(ms[q]'(by omega)).toArray⟩)
  rw [strs_set ms ls q (by omega) (by omega)] at s1
  exact ⟨hgr.trans s2, s1⟩
theorem put_end {wr w1 w2 : World} {B b : Nat} {tv uv v : Value} {vs : List Value} {f : Nat → List (List UInt8)} {k : Nat} (h : BookV wr B b tv uv vs (fun j => if j < k then marks j 0 (f j).length else f j) r) (hv : vs[k]? = some v)
    (b1 : Below wr.heap.size wr w1) (hgr : w1.grownBy w2 v.ownBlock) (hown : w2.ownsRow B 9 1 v (f k).length (strs (marks k 0 (f k).length))) :
    BookV w2 B b tv uv vs (fun j => if j < k + 1 then marks j 0 (f j).length else f j) r := by
  refine (h.below b1).step hv hgr ?_ ?_
  · simp only [Nat.lt_succ_self, if_true]
    rw [marks_length]
    exact hown
  · intro j hj
    by_cases h1 : j < k
    · rw [if_pos h1, if_pos (by omega)]
    · rw [if_neg h1, if_neg (by omega)]
def PutIn (w1 : World) (B : Nat) (v : Value) (ms ls : List (List UInt8)) (n : Nat) (q : Value) (wr : World) : Prop :=
  ∃ k : Nat, q = .int .i64 k ∧ k ≤ n ∧ w1.grownBy wr v.ownBlock ∧ wr.ownsRow B 9 1 v n (strs (ms.take k ++ ls.drop k))
def PutRel (w : World) (B b : Nat) (tv uv : Value) (vs : List Value) (f : Nat → List (List UInt8)) (i : Value) (wr : World) (r : Nat → Value) : Prop :=
  ∃ k : Nat, i = .int .i64 k ∧ k ≤ vs.length ∧ BookV wr B b tv uv vs (fun j => if j < k then marks j 0 (f j).length else f j) r ∧ Below B w wr ∧ TKept tkE w wr
set_option maxHeartbeats 4000000 in
set_option maxRecDepth 100000 in
theorem putTexts_anyK (B b : Nat) (tv uv : Value) (vs : List Value) (f : Nat → List (List UInt8)) (w : World) (hB : B ≤ w.heap.size) (h : BookV w B b tv uv vs f r) (hm : vs.length ≤ 1000) (hf : ∀ i, (f i).length ≤ 100000) :
    Calls Tryz.prog 35 #[.pointer (some ⟨b, 0, none⟩)] w fun e w' => e = .returned (.tuple #[]) ∧ BookV w' B b tv uv vs (fun j => if j < vs.length then marks j 0 (f j).length else f j) r ∧ Below B w w' ∧ TKept tkE w w' := by
  have H := Lib.hid h
  have HF := Lib.hid hf
  clear h hf
  go_enter Tryz.func35, Tryz.ntmps35
  go_wp2_with fail
  go_loopw [2] (fun i wr => PutRel w B b tv uv vs f i wr r) (fun i _ => vs.length - (intOf i).toNat)
  case atStart => exact ⟨0, rfl, Nat.zero_le _, by simpa using H.out, Below.refl _ _, TKept.refl _ _⟩
  case round =>
    obtain ⟨k, rfl, hk, hbk, hbw, htk⟩ := hrel
    have HTK := Lib.hid htk
    clear htk
    obtain ⟨At, ct, rfl, _, _⟩ := RowOf.own hbk.tvs
    have hc0 : wr.cell? ⟨b, 0, none⟩ = some (.slice At vs.length ct) := (cell_of_row wr b 0 _ _ (0, 0) hbk.blk).trans rfl
    by_cases hp : k < vs.length
    · obtain ⟨gt, rfl, hgt, hct⟩ := row_cell hbk.tvs hp
      have hv := List.getElem?_eq_getElem hp
      have hrow := hbk.tl k _ hv
      simp only [Nat.lt_irrefl, if_false] at hrow
      have hfk := HF.out k
      generalize hvk : vs[k] = v at *
      obtain ⟨A1, c1, rfl, hr1, _⟩ := RowOf.own hrow
      have hsz := hbw.size
      have HB := Lib.hid hbk
      have HV := Lib.hid hv
      have HR := Lib.hid hrow
      have hbl := (Array.getElem?_eq_some_iff.1 hbk.blk).1
      clear hbk hv hvk hrow
      go_wp2_with fail
      refine (markTexts_any k 0 (f k).length wr (by omega) (by omega) (by omega) (by omega)).mono ?_
      rintro e w1 ⟨mv, rfl, hownm, b1⟩
      obtain ⟨Am, cm, rfl, hrm, _⟩ := RowOf.own hownm
      have hs1 := b1.size
      have HMO := Lib.hid hownm
      clear hownm
      go_wp2_with fail
      go_loopw [4] (fun q w' => PutIn w1 B (.slice A1 (f k).length c1) (marks k 0 (f k).length) (f k) (f k).length q w') (fun q _ => (f k).length - (intOf q).toNat)
      case atStart => exact ⟨0, rfl, Nat.zero_le _, World.grownBy.refl _ _, by simpa using ownsRow_below HR.out b1⟩
      case round =>
        obtain ⟨q, rfl, hq, hgr, hown⟩ := hrel
        by_cases hp2 : q < (f k).length
        · obtain ⟨gi, ci, ei, hBi, hgi⟩ := hown.form (by omega)
          cases ei
          obtain ⟨gm, em, hgm, _⟩ := row_cell (xs := strs (marks k 0 (f k).length)) (by rw [strs_length, marks_length]; exact HMO.out) (k := q) (by rw [strs_length, marks_length]; exact hp2)
          cases em
          obtain ⟨d1, d2, d3, ⟨u, d4⟩, d5, d6, d7, d8⟩ := put_facts (ms := marks k 0 (f k).length) (marks_length _ _ _) HB.out hct b1 HR.out HMO.out hgr hown hp2
          have HS := Lib.hid (put_step (marks_length _ _ _) hgr hown hp2)
          clear hgr hown
          go_wp2_with fail
          go_region
          go_wp2
          go_roundw
          case rel => exact ⟨q + 1, by go_num, by omega, grown_drew HS.out.1, HS.out.2⟩
          case measure => simp [intOf]; omega
        · obtain rfl : q = (f k).length := by omega
          have hfin : wr.ownsRow B 9 1 (.slice A1 (f k).length c1) (f k).length (strs (marks k 0 (f k).length)) := by
            rw [List.take_of_length_le (by rw [marks_length]; omega), List.drop_of_length_le (by omega), List.append_nil] at hown
            exact hown
          have hbv := put_end HB.out HV.out b1 hgr hfin
          have hbw2 := hbw.trans ((b1.mono (show B ≤ _ by omega)).trans (below_of_grown hgr (fun g hg => (HR.out.lt g hg).1) (by omega)))
          have HT2 := Lib.hid (HTK.out.trans ((TKept.below _ b1).trans (TKept.grown (ownsRow_below HR.out b1) hgr (by decide))))
          have HE := Lib.hid hbv
          have HE2 := Lib.hid hbw2
          clear hgr hown hfin hbv hbw2
          go_wp2
          go_roundw
          case rel => exact ⟨k + 1, by go_num, by omega, HE.out, HE2.out, HT2.out⟩
          case measure => simp [intOf]; omega
    · obtain rfl : k = vs.length := by omega
      have HB := Lib.hid hbk
      clear hbk
      go_wp2
      go_end0
      exact ⟨rfl, HB.out, hbw, HTK.out⟩
end Go.Proofs.YtpifhjdbcdcelaaGreatDoor

namespace Go.Proofs.YtpifhjdbcdcelaaGreatDoor
open Go.RowKit
set_option linter.unusedSimpArgs false
set_option linter.unusedVariables false
variable {r : Nat → Value}
/-- A list of texts that can be read in a block whose cells are texts. -/
def Seen (w : World) (v : Value) (xs : List Value) : Prop :=
  ∃ A c, v = .slice A xs.length c ∧ c ≤ maxLen ∧ xs.length ≤ c ∧ (xs = [] ∨ ∃ g cur, A = some ⟨g, 0, none⟩ ∧ w.heap[g]? = some (.cells cur 9 (0, 0)) ∧ cur.toList.take xs.length = xs)
section
variable {w w' : World} {v : Value} {xs : List Value}
theorem Seen.of_own {B n : Nat} (h : w.ownsRow B 9 1 v n xs) : Seen w v xs := by
  obtain ⟨hl, h⟩ := h
  rw [Nat.mul_one] at hl
  subst hl
  rcases h with ⟨rfl, h0⟩ | ⟨g, cap, cur, rfl, hb, hg, hnc, hcm, hcs, ht⟩
  · have e : xs = [] := List.eq_nil_of_length_eq_zero h0
    subst e
    exact ⟨none, 0, rfl, Nat.zero_le _, Nat.le_refl _, Or.inl rfl⟩
  · rw [Nat.mul_one] at ht
    exact ⟨_, cap, rfl, hcm, hnc, Or.inr ⟨g, cur, rfl, hg, ht⟩⟩
theorem Seen.row (h : Seen w v xs) : ∃ A c, v = .slice A xs.length c ∧ RowOf w A c xs := by
  obtain ⟨A, c, rfl, hc, hl, h⟩ := h
  refine ⟨A, c, rfl, hl, hc, ?_⟩
  rcases h with h | ⟨g, cur, rfl, hg, ht⟩
  · exact Or.inl h
  · refine Or.inr ⟨g, 0, rfl, (Array.getElem?_eq_some_iff.1 hg).1, fun i hi => ?_⟩
    rw [Nat.zero_add, cell_of_row w g i cur _ (0, 0) hg]
    have h2 : xs[i]? = some xs[i] := List.getElem?_eq_getElem hi
    have h3 : (cur.toList.take xs.length)[i]? = some xs[i] := by rw [ht]; exact h2
    rw [List.getElem?_take, if_pos hi] at h3
    simpa using h3
theorem Seen.kept (h : Seen w v xs) {row : Option Nat} (hg : w.grownBy w' row) (hn : ∀ g, v.ownBlock = some g → row ≠ some g) : Seen w' v xs := by
  obtain ⟨A, c, rfl, hc, hl, h⟩ := h
  refine ⟨A, c, rfl, hc, hl, ?_⟩
  rcases h with h | ⟨g, cur, rfl, hh, ht⟩
  · exact Or.inl h
  · exact Or.inr ⟨g, cur, rfl, (hg.block g (Array.getElem?_eq_some_iff.1 hh).1 (fun e => hn g rfl e.symm)).trans hh, ht⟩
theorem Seen.below (h : Seen w v xs) (hb : Below w.heap.size w w') : Seen w' v xs := h.kept (grownBy_of_below hb none) (fun g _ => by simp)
theorem Seen.str (h : Seen w v xs) (hs : StrKept w w') : Seen w' v xs := by
  obtain ⟨A, c, rfl, hc, hl, h⟩ := h
  refine ⟨A, c, rfl, hc, hl, ?_⟩
  rcases h with h | ⟨g, cur, rfl, hh, ht⟩
  · exact Or.inl h
  · exact Or.inr ⟨g, cur, rfl, hs g cur _ hh, ht⟩
theorem Seen.in_place {B n : Nat} {u : Value} {ys : List Value} (h : Seen w v xs) (hu : w'.ownsRow B 9 1 u n (xs ++ ys)) (he : u.ownBlock = v.ownBlock) : Seen w' v xs := by
  obtain ⟨A, c, rfl, hc, hl, h⟩ := h
  refine ⟨A, c, rfl, hc, hl, ?_⟩
  rcases h with h | ⟨g, cur, rfl, hh, ht⟩
  · exact Or.inl h
  · rcases hu.2 with ⟨rfl, _⟩ | ⟨g', cap', cur', rfl, _, hg', _, _, _, ht'⟩
    · simp [Value.ownBlock] at he
    · simp [Value.ownBlock] at he
      subst he
      refine Or.inr ⟨_, cur', rfl, hg', ?_⟩
      have hl2 := hu.1
      rw [List.length_append] at hl2
      have e2 : (cur'.toList.take (n * 1)).take xs.length = (xs ++ ys).take xs.length := by rw [ht']
      rw [List.take_take, Nat.min_eq_left (by omega), List.take_left] at e2
      exact e2
end
/-- The texts while they are grown: the first k are done. -/
structure GrowSt (w0 w : World) (B b : Nat) (tv uv ov : Value) (vs gs : List Value) (f : Nat → List (List UInt8)) (k : Nat) (r : Nat → Value := nilR) : Prop where
  blk : w.heap[b]? = some (.cells (bookCells tv uv r) 36 (0, 0))
  base : B ≤ b
  tvs : w.ownsRow B 23 1 tv vs.length vs
  tlt : ∀ g, tv.ownBlock = some g → g < w0.heap.size
  rows : ∀ (j : Nat) (v : Value), vs[j]? = some v → k ≤ j → w.ownsRow B 9 1 v (f j).length (strs (f j))
  seen : ∀ (j : Nat) (v : Value), vs[j]? = some v → Seen w v (strs (f j))
  ovs : w.ownsRow w0.heap.size 23 1 ov k gs
  outs : ∀ (j : Nat) (u : Value), gs[j]? = some u → Seen w u (strs (marks j 0 ((f j).length + 72)))
  far : ∀ (j : Nat) (u : Value) (i : Nat) (v : Value), gs[j]? = some u → vs[i]? = some v → k ≤ i → Apart u v
  dist : Dist vs
  bel : Below B w0 w
  low : B ≤ w0.heap.size
  tk : TKept tkE w0 w
theorem GrowSt.start {w : World} {B b : Nat} {tv uv : Value} {vs : List Value} {f : Nat → List (List UInt8)} (h : BookV w B b tv uv vs f r) (hB : B ≤ w.heap.size) : GrowSt w w B b tv uv (.slice none 0 0) vs [] f 0 r :=
  ⟨h.blk, h.base, h.tvs, fun g hg => (h.tvs.lt g hg).2, fun j v hv _ => h.tl j v hv, fun j v hv => Seen.of_own (h.tl j v hv), World.ownsRow_nil _ _ _ _, fun j u hu => by simp at hu, fun j u i v hu => by simp at hu, h.dist, Below.refl _ _, hB, TKept.refl _ _⟩
theorem GrowSt.round {w0 w w1 w2 : World} {B b : Nat} {tv uv ov ov' v l : Value} {vs gs : List Value} {f : Nat → List (List UInt8)} {k : Nat} {o : Obj} (h : GrowSt w0 w B b tv uv ov vs gs f k r) (hv : vs[k]? = some v)
    (hg1 : w.grownBy w1 v.ownBlock) (hsv : Seen w1 v (strs (f k))) (hl : w1.ownsRow B 9 1 l ((f k).length + 72) (strs (marks k 0 ((f k).length + 72)))) (hlb : l.ownBlock = v.ownBlock ∨ ∃ g, l.ownBlock = some g ∧ w.heap.size ≤ g)
    (hov : w2.ownsRow w0.heap.size 23 1 ov' (k + 1) (gs ++ [l])) (hg2 : (w1.alloc o).grownBy w2 ov.ownBlock) : GrowSt w0 w2 B b tv uv ov' vs (gs ++ [l]) f (k + 1) r := by
  have hrow := h.rows k v hv (Nat.le_refl _)
  have hgl : gs.length = k := by have := h.ovs.1; omega
  have ovs1 : w1.ownsRow w0.heap.size 23 1 ov k gs := h.ovs.kept hg1 (own_apart h.ovs hrow (by decide)).ne
  have blk1 : w1.heap[b]? = some (.cells (bookCells tv uv r) 36 (0, 0)) := by
    rw [hg1.block b (Array.getElem?_eq_some_iff.1 h.blk).1 (fun e => own_ne hrow h.blk (by decide) e.symm)]
    exact h.blk
  have tvs1 : w1.ownsRow B 23 1 tv vs.length vs := h.tvs.kept hg1 (own_apart h.tvs hrow (by decide)).ne
  have sk : StrKept w1 w2 := (StrKept.alloc w1 o).trans (StrKept.grown (ovs1.alloc o) hg2 (by decide))
  have hto : Apart tv ov := fun g hg hu => by
    have a1 := h.tlt g hg
    have a2 := (h.ovs.lt g hu).1
    omega
  have low := h.low
  have sb := h.bel.size
  have s1 := hg1.size
  have sa : (w1.alloc o).heap.size = w1.heap.size + 1 := by show (w1.heap.push _).size = _; simp
  refine ⟨grow_book blk1 ovs1 hg2, h.base, (tvs1.alloc o).kept hg2 hto.ne, h.tlt, fun j u hu hj => ?_, fun j u hu => ?_, hov, fun j u hu => ?_, fun j u i x hu hx hi => ?_, h.dist, ?_, h.low, ?_⟩
  · exact sk.row ((h.rows j u hu (by omega)).kept hg1 (h.dist.get hu hv (by omega)).ne)
  · by_cases e : j = k
    · subst e
      rw [hv] at hu
      cases hu
      exact hsv.str sk
    · exact ((h.seen j u hu).kept hg1 (fun g hg e1 => h.dist.get hu hv e g hg e1)).str sk
  · by_cases hj : j < k
    · rw [List.getElem?_append_left (by omega)] at hu
      exact ((h.outs j u hu).kept hg1 (fun g hg e1 => h.far j u k v hu hv (Nat.le_refl _) g hg e1)).str sk
    · rw [List.getElem?_append_right (by omega)] at hu
      have h0 : j = k := by
        have := (List.getElem?_eq_some_iff.1 hu).1
        simp at this
        omega
      subst h0
      rw [hgl, Nat.sub_self] at hu
      simp at hu
      subst hu
      exact (Seen.of_own hl).str sk
  · by_cases hj : j < k
    · rw [List.getElem?_append_left (by omega)] at hu
      exact h.far j u i x hu hx (by omega)
    · rw [List.getElem?_append_right (by omega)] at hu
      have h0 : j = k := by
        have := (List.getElem?_eq_some_iff.1 hu).1
        simp at this
        omega
      subst h0
      rw [hgl, Nat.sub_self] at hu
      simp at hu
      subst hu
      intro g hg hx2
      rcases hlb with e | ⟨g', e, hg'⟩
      · exact h.dist.get hv hx (by omega) g (by rw [← e]; exact hg) hx2
      · rw [e] at hg
        cases hg
        have := ((h.rows i x hx (by omega)).lt g hx2).2
        omega
  · have q1 : Below B w0 w1 := h.bel.trans (below_of_grown hg1 (fun g hg => (hrow.lt g hg).1) (by omega))
    exact (q1.alloc (by omega) o).grown hg2 (by omega) (fun g hg => by have := (h.ovs.lt g hg).1; omega)
  · exact ((h.tk.trans (TKept.grown hrow hg1 (by decide))).trans (TKept.alloc _ w1 o)).grownNew (ovs1.alloc o) hg2 (Nat.le_refl _)
end Go.Proofs.YtpifhjdbcdcelaaGreatDoor

namespace Go.Proofs.YtpifhjdbcdcelaaGreatDoor
open Go.RowKit
set_option linter.unusedSimpArgs false
set_option linter.unusedVariables false
variable {r : Nat → Value}
/-- One list while it is grown: it has N marks now. -/
structure GrowMid (w1 wr : World) (B : Nat) (v : Value) (k n N : Nat) (l : Value) : Prop where
  own : wr.ownsRow B 9 1 l N (strs (marks k 0 N))
  seen : Seen wr v (strs (marks k 0 n))
  grown : w1.grownBy wr v.ownBlock
  at_ : l.ownBlock = v.ownBlock ∨ ∃ g, l.ownBlock = some g ∧ w1.heap.size ≤ g
  ge : n ≤ N
  low : B ≤ wr.heap.size
theorem GrowMid.step {w1 wr w2 w3 : World} {B k n N m : Nat} {v l l' : Value} (h : GrowMid w1 wr B v k n N l) (hv : ∀ g, v.ownBlock = some g → g < w1.heap.size) (hb : Below wr.heap.size wr w2)
    (ho : w3.ownsRow B 9 1 l' (N + m) (strs (marks k 0 N) ++ strs (marks k N m))) (hg : Grew w2 w3 l l') : GrowMid w1 w3 B v k n (N + m) l' := by
  have s1 := h.grown.size
  have s2 := hb.size
  have hge := h.ge
  rw [← strs_append, marks_add] at ho
  have sv := h.seen.below hb
  have g12 : w1.grownBy w2 v.ownBlock := h.grown.trans (grownBy_of_below hb _)
  rcases hg with ⟨e, hg⟩ | ⟨hg, g, e, hge2⟩
  · refine ⟨ho, ?_, ?_, ?_, by omega, by have := hg.size; have := h.low; omega⟩
    · rcases h.at_ with e2 | ⟨g, e2, hg2⟩
      · have e3 : strs (marks k 0 (N + m)) = strs (marks k 0 n) ++ strs (marks k n (N + m - n)) := by
          rw [← strs_append, marks_add, show n + (N + m - n) = N + m from by omega]
        rw [e3] at ho
        exact sv.in_place ho (by rw [e, e2])
      · refine sv.kept hg (fun g' hg' e4 => ?_)
        rw [e2] at e4
        cases e4
        have := hv _ hg'
        omega
    · exact g12.andThen hg (fun j hj => by
        rcases h.at_ with e2 | ⟨g, e2, hg2⟩
        · exact Or.inr (by rw [← e2]; exact hj)
        · rw [e2] at hj; cases hj; exact Or.inl hg2)
    · rcases h.at_ with e2 | ⟨g, e2, hg2⟩
      · exact Or.inl (by rw [e, e2])
      · exact Or.inr ⟨g, by rw [e, e2], hg2⟩
  · exact ⟨ho, sv.kept hg (fun _ _ e4 => by cases e4), g12.andThen hg (fun j hj => by cases hj), Or.inr ⟨g, e, by omega⟩, by omega, by have := hg.size; have := h.low; omega⟩
def GrowIn (w1 : World) (B : Nat) (v : Value) (k n : Nat) (l q : Value) (wr : World) : Prop := ∃ j : Nat, q = .int .i64 j ∧ j ≤ 12 ∧ GrowMid w1 wr B v k n (n + j) l
def GrowRel (w0 : World) (B b : Nat) (tv uv : Value) (vs : List Value) (f : Nat → List (List UInt8)) (ov i : Value) (wr : World) (r : Nat → Value) : Prop :=
  ∃ (k : Nat) (gs : List Value), i = .int .i64 k ∧ k ≤ vs.length ∧ GrowSt w0 wr B b tv uv ov vs gs f k r
set_option maxHeartbeats 4000000 in
set_option maxRecDepth 100000 in
theorem growTexts_any (B b : Nat) (tv uv : Value) (vs : List Value) (f : Nat → List (List UInt8)) (w : World) (hB : B ≤ w.heap.size) (h : BookV w B b tv uv vs f r) (hm : vs.length ≤ 1000) (hf : ∀ i, i < vs.length → f i = marks i 0 (f i).length ∧ (f i).length ≤ 100000) :
    Calls Tryz.prog 42 #[.pointer (some ⟨b, 0, none⟩)] w fun e w' => ∃ ov gs, e = .returned ov ∧ GrowSt w w' B b tv uv ov vs gs f vs.length r := by
  obtain ⟨i0, hi, hz0, hz1, hz2⟩ := info_parts infoString
  obtain ⟨j0, hj, hy0, hy1, hy2⟩ := info_parts infoSlice
  have H := Lib.hid h
  have HF := Lib.hid hf
  clear h hf
  go_enter Tryz.func42, Tryz.ntmps42
  go_wp2_with fail
  go_loopw [3, 4] (fun ov i wr => GrowRel w B b tv uv vs f ov i wr r) (fun _ i _ => vs.length - (intOf i).toNat)
  case atStart => exact ⟨0, [], rfl, Nat.zero_le _, GrowSt.start H.out hB⟩
  case round =>
    obtain ⟨k, gs, rfl, hk, hst⟩ := hrel
    obtain ⟨At, ct, rfl, _, _⟩ := RowOf.own hst.tvs
    have hc0 : wr.cell? ⟨b, 0, none⟩ = some (.slice At vs.length ct) := (cell_of_row wr b 0 _ _ (0, 0) hst.blk).trans rfl
    by_cases hp : k < vs.length
    · obtain ⟨gt, rfl, hgt, hct⟩ := row_cell hst.tvs hp
      have hv := List.getElem?_eq_getElem hp
      have hrow := hst.rows k _ hv (Nat.le_refl _)
      obtain ⟨hfk, hfn⟩ := HF.out k hp
      generalize hvk : vs[k] = v at *
      obtain ⟨A1, c1, rfl, hr1, _⟩ := RowOf.own hrow
      generalize hn : (f k).length = n at *
      rw [hfk] at hrow
      have hvl : ∀ g, (Value.slice A1 n c1).ownBlock = some g → g < wr.heap.size := fun g hg => (hrow.lt g hg).2
      have hlow : B ≤ wr.heap.size := by have := hst.bel.size; omega
      have hmid : GrowMid wr wr B (.slice A1 n c1) k n (n + 0) (.slice A1 n c1) := ⟨hrow, Seen.of_own hrow, World.grownBy.refl _ _, Or.inl rfl, by omega, hlow⟩
      have HST := Lib.hid hst
      have HV := Lib.hid hv
      have HFK := Lib.hid hfk
      have HN := Lib.hid hn
      have HVL := Lib.hid hvl
      have HM := Lib.hid hmid
      clear hst hv hvk hrow hfk hn hvl hmid hr1
      obtain ⟨wo, rfl⟩ : ∃ wo : World, wo = wr := ⟨_, rfl⟩
      go_wp2_with fail
      go_loopw [5, 6] (fun l q w' => GrowIn wo B (.slice A1 n c1) k n l q w') (fun _ q _ => 12 - (intOf q).toNat)
      case atStart => exact ⟨0, rfl, by omega, HM.out⟩
      case round =>
        obtain ⟨j, rfl, hj12, hgm⟩ := hrel
        obtain ⟨A2, c2, rfl, _, _⟩ := RowOf.own hgm.own
        by_cases hp2 : j < 12
        · have hlo := hgm.low
          have HG := Lib.hid hgm
          clear hgm
          go_wp2_with fail
          refine (markTexts_any k (n + j) 1 wr (by omega) (by omega) (by omega) (by omega)).mono ?_
          rintro e w2 ⟨mv, rfl, hownm, b2⟩
          obtain ⟨gm, cm, rfl, _, _⟩ := hownm.form (by omega)
          have hnews := hownm.cells (g := gm) rfl
          have hs2 := b2.size
          have hl1 : (strs (marks k (n + j) 1)).length = 1 * 1 := by rw [strs_length, marks_length]
          have h1c := strs_one' (marks k (n + j) 1)
          have hown2 := ownsRow_below HG.out.own b2
          have HL1 := Lib.hid hl1
          clear hownm hl1
          go_wp2_with (at_builtin; refine wpList_append_two _ rfl _ _ 23 rfl B 9 i0 (.string ByteArray.empty) 1 16 Tryz.underlying23 hi hz0 hz1 hz2 rfl (by decide) A2 (n + j) c2 _ rfl hown2 (by omega) ⟨gm, 0, none⟩ 1 cm (strs (marks k (n + j) 1)) rfl HL1.out hnews h1c (by omega) (by unfold maxLen; omega) (by omega) ?_)
          intro l' w3 hown3 hgrew
          have HMid := Lib.hid (HG.out.step HVL.out b2 hown3 hgrew)
          clear hown3 hgrew hnews hown2 h1c
          go_wp2
          go_roundw
          case rel => exact ⟨j + 1, by go_num, by omega, HMid.out⟩
          case measure => simp [intOf]; omega
        · obtain rfl : j = 12 := by omega
          have hlo := hgm.low
          have HG := Lib.hid hgm
          clear hgm
          go_wp2_with fail
          refine (markTexts_any k (n + 12) 60 wr (by omega) (by omega) (by omega) (by omega)).mono ?_
          rintro e w2 ⟨mv, rfl, hownm, b2⟩
          obtain ⟨gm, cm, rfl, _, _⟩ := hownm.form (by omega)
          have hnews := hownm.cells (g := gm) rfl
          have hs2 := b2.size
          have hl1 : (strs (marks k (n + 12) 60)).length = 60 * 1 := by rw [strs_length, marks_length]
          have h1c := strs_one' (marks k (n + 12) 60)
          have hown2 := ownsRow_below HG.out.own b2
          have HL1 := Lib.hid hl1
          clear hownm hl1
          go_wp2_with (at_builtin; refine wpList_append_two _ rfl (.tmp 34) (.tmp 38) 23 rfl B 9 i0 (.string ByteArray.empty) 1 16 Tryz.underlying23 hi hz0 hz1 hz2 rfl (by decide) A2 (n + 12) c2 _ rfl hown2 (by omega) ⟨gm, 0, none⟩ 60 cm (strs (marks k (n + 12) 60)) rfl HL1.out hnews h1c (by omega) (by unfold maxLen; omega) (by omega) ?_)
          intro l' w3 hown3 hgrew
          obtain ⟨A3, c3, rfl, _, _⟩ := RowOf.own hown3
          have hmd := HG.out.step HVL.out b2 hown3 hgrew
          have hov3 := HST.out.ovs.kept hmd.grown (own_apart HST.out.ovs (HST.out.rows k _ HV.out (Nat.le_refl _)) (by decide)).ne
          have hs3 := hmd.grown.size
          have hbl := HST.out.bel.size
          have HMid := Lib.hid hmd
          clear hown3 hgrew hnews hown2 h1c hmd
          go_wp2_with (at_builtin; refine wpList_append_own _ rfl (.tmp 33) (.tmp 40) 27 rfl w.heap.size 23 j0 (.slice none 0 0) 1 24 Tryz.underlying27 hj hy0 hy1 hy2 rfl (by decide) _ k gs rfl (hov3.alloc _) ⟨w3.heap.size, 0, none⟩ 1 1 [.slice A3 (n + 12 + 60) c3] rfl rfl ?c1 ?c2 ?c3 ?c4 ?c5 ?_)
          case c1 => exact cells_one w3 _ _
          case c2 => exact one_slice _ _ _
          case c3 => unfold maxLen; omega
          case c4 => omega
          case c5 => simp; omega
          · intro ov' w4 hown4 hgrow4 _
            have HR := Lib.hid (HST.out.round HV.out HMid.out.grown (by rw [HFK.out]; exact HMid.out.seen) (by rw [HN.out]; exact HMid.out.own) HMid.out.at_ hown4 hgrow4)
            clear hown4 hgrow4
            go_wp2
            go_roundw
            case rel => exact ⟨k + 1, _, by go_num, by omega, HR.out⟩
            case measure => simp [intOf]; omega
    · obtain rfl : k = vs.length := by omega
      have HST := Lib.hid hst
      clear hst
      go_wp2
      go_ret
      exact ⟨_, gs, rfl, HST.out⟩
end Go.Proofs.YtpifhjdbcdcelaaGreatDoor

namespace Go.Proofs.YtpifhjdbcdcelaaGreatDoor
open Go.RowKit
set_option linter.unusedSimpArgs false
set_option linter.unusedVariables false
variable {r : Nat → Value}
theorem GrowSt.marked {w0 w : World} {B b : Nat} {tv uv ov : Value} {vs gs : List Value} {f : Nat → List (List UInt8)} {m : Nat} (h : GrowSt w0 w B b tv uv ov vs gs f m r) (hf : ∀ i, i < vs.length → f i = marks i 0 (f i).length ∧ (f i).length ≤ 100000) (hm : m = vs.length) :
    Marked w vs ∧ Marked w gs := by
  constructor
  · intro i v hv
    have hi := (List.getElem?_eq_some_iff.1 hv).1
    obtain ⟨e, hl⟩ := hf i hi
    obtain ⟨A, c, rfl, hr⟩ := (h.seen i v hv).row
    rw [e, strs_length, marks_length]
    rw [e] at hr
    exact ⟨A, _, c, rfl, by omega, hr⟩
  · intro i v hv
    have hi := (List.getElem?_eq_some_iff.1 hv).1
    have hgl : gs.length = m := by have := h.ovs.1; omega
    obtain ⟨e, hl⟩ := hf i (by omega)
    obtain ⟨A, c, rfl, hr⟩ := (h.outs i v hv).row
    rw [strs_length, marks_length]
    exact ⟨A, _, c, rfl, by omega, hr⟩
end Go.Proofs.YtpifhjdbcdcelaaGreatDoor

namespace Go.Proofs.YtpifhjdbcdcelaaGreatDoor
open Go.RowKit
set_option linter.unusedSimpArgs false
set_option linter.unusedVariables false
variable {r : Nat → Value}
/-- The marks of list i from 'from' on. -/
def smark (i k : Int) : Sctn := ⟨-1000 * i - k - 1, [], [], []⟩
def smarks (i : Int) (from' n : Nat) : List Sctn := (List.range n).map fun j => smark i ((from' + j : Nat) : Int)
theorem smarks_length (i : Int) (f n : Nat) : (smarks i f n).length = n := by simp [smarks]
theorem smarks_succ (i : Int) (f n : Nat) : smarks i f (n + 1) = smarks i f n ++ [smark i ((f + n : Nat) : Int)] := by simp [smarks, List.range_succ]
theorem smarks_add (i : Int) (a b : Nat) : smarks i 0 a ++ smarks i a b = smarks i 0 (a + b) := by
  induction b with
  | zero => simp [smarks]
  | succ b ih => rw [smarks_succ, ← List.append_assoc, ih, ← Nat.add_assoc, smarks_succ]; simp
def SmarkRel (i : Int) (f n : Nat) (w : World) (v k : Value) (wr : World) : Prop :=
  ∃ j q : Nat, k = .int .i64 q ∧ q = f + j ∧ j ≤ n ∧ wr.ownsRow w.heap.size 52 4 v j (flt scC (smarks i f j)) ∧ Below w.heap.size w wr
set_option maxHeartbeats 1000000 in
set_option maxRecDepth 100000 in
theorem markSecs_any (i : Int) (f n : Nat) (w : World) (hi : 0 ≤ i) (hi2 : i ≤ 100000) (hf : f ≤ 1000000) (hn : n ≤ 1000000) :
    Calls Tryz.prog 79 #[.int .i64 i, .int .i64 f, .int .i64 n] w fun e w' => ∃ v, e = .returned v ∧ w'.ownsRow w.heap.size 52 4 v n (flt scC (smarks i f n)) ∧ Below w.heap.size w w' := by
  obtain ⟨i0, hi0, hz0, hz1, hz2⟩ := info_parts infoSec
  go_enter Tryz.func79, Tryz.ntmps79
  go_wp2_with fail
  go_loopw [7, 8] (fun v k wr => SmarkRel i f n w v k wr) (fun _ k _ => f + n - (intOf k).toNat)
  case atStart => exact ⟨0, f, rfl, rfl, Nat.zero_le _, World.ownsRow_nil _ _ _ _, Below.refl _ _⟩
  case round =>
    obtain ⟨j, q, rfl, hq, hj, hown, hbw⟩ := hrel
    have hsz := hbw.size
    have hq0 : f ≤ q := by omega
    have hq1 : q ≤ f + n := by omega
    by_cases hp : j < n
    · have HM := Lib.hid (show smarks i f (j + 1) = smarks i f j ++ [⟨-1000 * i - (q : Int) - 1, [], [], []⟩] from by rw [smarks_succ, hq]; rfl)
      have hq2 : q < f + n := by omega
      have HQ := Lib.hid hq
      have HU : flt scC (smarks i f j ++ [⟨-1000 * i - (q : Int) - 1, [], [], []⟩]) = flt scC (smarks i f j) ++ scC ⟨-1000 * i - (q : Int) - 1, [], [], []⟩ := by rw [flt_append, flt_one]
      replace HU := Lib.hid HU
      obtain ⟨m, hm⟩ : ∃ m : Int, m = -1000 * i - (q : Int) - 1 := ⟨_, rfl⟩
      have hnw := elt_cells wr (scC ⟨-1000 * i - (q : Int) - 1, [], [], []⟩) 52
      clear hq
      go_wp2_with (at_builtin; refine wpList_append_own _ rfl _ _ 42 rfl w.heap.size 52 i0 (.agg #[.int .i64 0, .string ByteArray.empty, .string ByteArray.empty, .string ByteArray.empty]) 4 56 Tryz.underlying42 hi0 hz0 hz1 hz2 rfl (by decide) _ _ _ rfl (hown.alloc _) ⟨wr.heap.size, 0, none⟩ 1 1 (scC ⟨-1000 * i - (q : Int) - 1, [], [], []⟩) rfl rfl hnw (scC_one _) (by unfold maxLen; omega) (by omega) (by simp; omega) ?_)
      · intro v' w2 hown' hgrow _
        have hbw3 := (hbw.alloc (by omega) _).grown hgrow (by simp; omega) (fun k hk => (hown.lt k hk).1)
        rw [← HU.out] at hown'
        have HO := Lib.hid hown'
        clear hown' hgrow
        go_wp2
        go_roundw
        case rel => exact ⟨j + 1, q + 1, by go_num, by rw [HQ.out]; omega, by omega, by rw [HM.out]; exact HO.out, hbw3⟩
        case measure => simp [intOf]; omega
    · obtain rfl : j = n := by omega
      have hq3 : ¬ q < f + j := by omega
      clear hq
      go_wp2
      go_ret
      exact ⟨_, rfl, hown, hbw⟩
end Go.Proofs.YtpifhjdbcdcelaaGreatDoor
namespace Go.Proofs.YtpifhjdbcdcelaaGreatDoor
open Go.RowKit
set_option linter.unusedSimpArgs false
set_option linter.unusedVariables false
set_option maxRecDepth 100000
abbrev SecsAt (w : World) (A : Option Addr) (cap : Nat) (X : List Sctn) : Prop := EltsAt w scC 4 A cap X
theorem SecsAt.cells4 {w : World} {A : Option Addr} {cap : Nat} {X : List Sctn} (h : SecsAt w A cap X) {k : Nat} (hk : k < X.length) :
    ∃ b off, A = some ⟨b, off, none⟩ ∧ b < w.heap.size ∧ w.cell? ⟨b, off + k * 4, none⟩ = some (.int .i64 X[k].lv) ∧ w.cell? ⟨b, off + k * 4 + 1, none⟩ = some (.string ⟨X[k].nu.toArray⟩) ∧
      w.cell? ⟨b, off + k * 4 + 2, none⟩ = some (.string ⟨X[k].an.toArray⟩) ∧ w.cell? ⟨b, off + k * 4 + 3, none⟩ = some (.string ⟨X[k].tx.toArray⟩) := by
  obtain ⟨b, off, e, hlt, hc⟩ := h.at hk
  exact ⟨b, off, e, hlt, hc 0 _ rfl, hc 1 _ rfl, hc 2 _ rfl, hc 3 _ rfl⟩
def SsRel (X : List Sctn) (w : World) (i : Value) (wr : World) : Prop := ∃ k n : Nat, i = .int .i64 k ∧ k ≤ X.length ∧ wr = w.drewN n
theorem SecsAt.drew {w : World} {A : Option Addr} {cap : Nat} {X : List Sctn} (h : SecsAt w A cap X) (n : Nat) : SecsAt (w.drewN n) A cap X := EltsAt.heap (w := w) (w' := w.drewN n) rfl h
set_option maxHeartbeats 8000000 in
theorem sameSecs_same (A B : Option Addr) (ca cb : Nat) (X : List Sctn) (w : World) (ha : SecsAt w A ca X) (hb : SecsAt w B cb X) :
    Calls Tryz.prog 13 #[.slice A X.length ca, .slice B X.length cb] w (QuietBool w true) := by
  have ha1 := ha.le
  have ha2 := ha.cap
  have hb1 := hb.le
  have hb2 := hb.cap
  unfold maxLen at ha2 hb2
  have HA := Lib.hid ha
  have HB := Lib.hid hb
  clear ha hb
  go_enter Tryz.func13, Tryz.ntmps13
  go_wp2_with fail
  go_loopw [5] (fun i wr => SsRel X w i wr) (fun i _ => X.length - (intOf i).toNat)
  case atStart => exact ⟨0, 0, rfl, Nat.zero_le _, rfl⟩
  case round =>
    obtain ⟨k, n, rfl, hk, rfl⟩ := hrel
    by_cases hp : k < X.length
    · obtain ⟨b1, o1, hA1, _, c0, c1, c2, c3⟩ := SecsAt.cells4 HA.out hp
      obtain ⟨b2, o2, hB1, _, d0, d1, d2, d3⟩ := SecsAt.cells4 HB.out hp
      generalize X[k] = x at *
      obtain ⟨xn, xu, xt, xx⟩ := x
      dsimp only at c0 c1 c2 c3 d0 d1 d2 d3
      subst hA1
      subst hB1
      go_wp2_with fail
      go_quiet (fail)
      go_wp2
      exact ⟨⟨k + 1, _, by go_num, by omega, rfl⟩, by simp [intOf]; omega⟩
    · obtain rfl : k = X.length := by omega
      go_wp2
      go_ret
      exact ⟨rfl, n, rfl⟩
end Go.Proofs.YtpifhjdbcdcelaaGreatDoor
namespace Go.Proofs.YtpifhjdbcdcelaaGreatDoor
open Go.RowKit
set_option linter.unusedSimpArgs false
set_option linter.unusedVariables false
variable {r : Nat → Value}
theorem sinfoSlice : (Tryz.prog.info? 42).map (fun i => (i.zero, i.size, i.bytes)) = some (some (.slice none 0 0), 1, 24) := by kernel_rfl
/-- The book's cells where it holds texts alone. -/
def sbookCells (tv uv : Value) (r : Nat → Value := nilR) : Array Value := #[r 0, r 1, r 2, r 3, r 4, r 5, r 6, r 7, r 8, r 9, r 10, r 11, tv, uv, r 14, r 15]
/-- Rows of texts, one behind the other in blocks of their own. -/
def SRows1 (w : World) (B : Nat) (vs : List Value) (lss : List (List Sctn)) : Prop :=
  vs.length = lss.length ∧ ∀ (i : Nat) (v : Value) (ls : List Sctn), vs[i]? = some v → lss[i]? = some ls → w.ownsRow B 52 4 v ls.length (flt scC ls)
/-- The types whose blocks a new list turns. -/
abbrev stkL : List TypeId := [42, 36]
abbrev stkE : List TypeId := [52]
/-- What the book at b holds: texts (and copies of what was in them). -/
structure SBookIs (w : World) (B b : Nat) (tv uv : Value) (vs us : List Value) (lss : List (List Sctn)) (r : Nat → Value) : Prop where
  blk : w.heap[b]? = some (.cells (sbookCells tv uv r) 36 (0, 0))
  base : B ≤ b
  tvs : w.ownsRow B 42 1 tv vs.length vs
  uvs : w.ownsRow B 42 1 uv us.length us
  ne : Apart tv uv
  tl : SRows1 w B vs lss
  ul : SRows1 w B us lss
  dist : Dist (vs ++ us)
theorem SBookIs.lt {w : World} {B b : Nat} {tv uv : Value} {vs us : List Value} {lss : List (List Sctn)} (h : SBookIs w B b tv uv vs us lss r) : b < w.heap.size := (Array.getElem?_eq_some_iff.1 h.blk).1
theorem SBookIs.cell {w : World} {B b : Nat} {tv uv : Value} {vs us : List Value} {lss : List (List Sctn)} (h : SBookIs w B b tv uv vs us lss r) (i : Nat) : w.cell? ⟨b, i, none⟩ = (sbookCells tv uv r)[i]? := cell_of_row w b i _ _ (0, 0) h.blk
theorem SBookIs.free {w : World} {B b : Nat} {tv uv : Value} {vs us : List Value} {lss : List (List Sctn)} (h : SBookIs w B b tv uv vs us lss r) (i : Nat) : w.frozen? ⟨b, i, none⟩ = false := by
  have := h.blk
  simp [World.frozen?, this]
/-- Every row of texts stays as it was. -/
def SStrKept (w w' : World) : Prop := ∀ (g : Nat) (cs : Array Value) (fz : Nat × Nat), w.heap[g]? = some (.cells cs 52 fz) → w'.heap[g]? = some (.cells cs 52 fz)
theorem SStrKept.row {w w' : World} (h : SStrKept w w') {B : Nat} {v : Value} {n : Nat} {xs : List Value} (k : w.ownsRow B 52 4 v n xs) : w'.ownsRow B 52 4 v n xs := by
  refine ⟨k.1, ?_⟩
  rcases k.2 with hn | ⟨g, cap, cur, rfl, hB, hg, rest⟩
  · exact .inl hn
  · exact .inr ⟨g, cap, cur, rfl, hB, h _ _ _ hg, rest⟩
theorem SStrKept.rows {w w' : World} (h : SStrKept w w') {B : Nat} {vs : List Value} {lss : List (List Sctn)} (k : SRows1 w B vs lss) : SRows1 w' B vs lss :=
  ⟨k.1, fun i v ls hv hl => h.row (k.2 i v ls hv hl)⟩
theorem SStrKept.refl (w : World) : SStrKept w w := fun _ _ _ h => h
theorem SStrKept.trans {a b c : World} (h : SStrKept a b) (k : SStrKept b c) : SStrKept a c := fun g cs fz hg => k g cs fz (h g cs fz hg)
theorem SStrKept.below {w w' : World} (h : Below w.heap.size w w') : SStrKept w w' := fun g cs fz hg => (h.block g (Array.getElem?_eq_some_iff.1 hg).1).trans hg
theorem SStrKept.drew (w : World) : SStrKept w w.drew := fun _ _ _ h => h
theorem SStrKept.alloc (w : World) (o : Obj) : SStrKept w (w.alloc o) := fun g cs fz hg => (Below.heap_alloc w o g (Array.getElem?_eq_some_iff.1 hg).1).trans hg
theorem SStrKept.grown {w w' : World} {B : Nat} {e : TypeId} {size : Nat} {v : Value} {n : Nat} {xs : List Value} (h : w.ownsRow B e size v n xs) (hg : w.grownBy w' v.ownBlock) (hne : e ≠ 52) : SStrKept w w' := by
  intro g cs fz hgg
  rw [hg.block g (Array.getElem?_eq_some_iff.1 hgg).1 (fun e1 => own_ne h hgg hne e1.symm)]
  exact hgg
theorem SStrKept.setCell {w : World} {b : Nat} {cs : Array Value} {t : TypeId} {fz : Nat × Nat} (hb : w.heap[b]? = some (.cells cs t fz)) (hne : t ≠ 52) (i : Nat) (u : Value) : SStrKept w (w.setCell ⟨b, i, none⟩ u) := by
  intro g cs' fz' hg
  have hgb : g ≠ b := by
    rintro rfl
    rw [hb] at hg
    injection hg with hg
    injection hg with _ ht
    exact hne ht
  rw [Below.heap_setCell w ⟨b, i, none⟩ u g hgb]
  exact hg
/-- What stands behind a copy that was made while the book's second list is known. -/
structure SCopyPost (B b : Nat) (ls : List Sctn) (tv uv : Value) (us : List Value) (W : World) (Au : Option Addr) (cu : Nat) (w3 : World) (r : Nat → Value) : Prop where
  below : Below W.heap.size W w3
  blk : w3.heap[b]? = some (.cells (sbookCells tv uv r) 36 (0, 0))
  own : w3.ownsRow B 42 1 uv us.length us
  new : w3.ownsRow W.heap.size 52 4 (.slice Au ls.length cu) ls.length (flt scC ls)
theorem sbook_cell {w : World} {b : Nat} {tv uv : Value} (h : w.heap[b]? = some (.cells (sbookCells tv uv r) 36 (0, 0))) : w.cell? ⟨b, 13, none⟩ = some uv ∧ w.frozen? ⟨b, 1, none⟩ = false :=
  ⟨(cell_of_row w b 13 _ _ (0, 0) h).trans rfl, by simp [World.frozen?, h]⟩
theorem sgrow_book {w3 w4 : World} {B b : Nat} {tv uv v : Value} {n : Nat} {xs : List Value} (blk : w3.heap[b]? = some (.cells (sbookCells tv uv r) 36 (0, 0))) (own : w3.ownsRow B 42 1 v n xs) {o : Obj}
    (hg : (w3.alloc o).grownBy w4 v.ownBlock) : w4.heap[b]? = some (.cells (sbookCells tv uv r) 36 (0, 0)) := by
  have hb := (Array.getElem?_eq_some_iff.1 blk).1
  rw [hg.block b (by simp; omega) (fun e => own_ne own blk (by decide) e.symm), Below.heap_alloc w3 _ b hb]
  exact blk
theorem sbook_set0 {w : World} {b : Nat} {tv uv : Value} (h : w.heap[b]? = some (.cells (sbookCells tv uv r) 36 (0, 0))) (tv' : Value) :
    (w.setCell ⟨b, 12, none⟩ tv').heap[b]? = some (.cells (sbookCells tv' uv r) 36 (0, 0)) := by
  simp [World.setCell, Array.getElem?_modify, h, sbookCells]
theorem sbook_set1 {w : World} {b : Nat} {tv uv : Value} (h : w.heap[b]? = some (.cells (sbookCells tv uv r) 36 (0, 0))) (uv' : Value) :
    (w.setCell ⟨b, 13, none⟩ uv').heap[b]? = some (.cells (sbookCells tv uv' r) 36 (0, 0)) := by
  simp [World.setCell, Array.getElem?_modify, h, sbookCells]
set_option maxHeartbeats 1000000 in
theorem stexts_end (B b : Nat) (tv uv : Value) (vs us : List Value) (lss : List (List Sctn)) (A : Option Addr) (cap : Nat) (ls : List Sctn) (w : World) (hB : B ≤ w.heap.size)
    (h : SBookIs w B b tv uv vs us lss r) (hown : w.ownsRow B 52 4 (.slice A ls.length cap) ls.length (flt scC ls)) (hd : ∀ u ∈ vs ++ us, Apart (.slice A ls.length cap) u)
    (o1 : Obj) (w1 : World) (g1 cap1 : Nat) (hown1 : w1.ownsRow B 42 1 (.slice (some ⟨g1, 0, none⟩) (vs.length + 1) cap1) (vs.length + 1) (vs ++ [.slice A ls.length cap])) (hg1 : (w.alloc o1).grownBy w1 tv.ownBlock)
    (hat1 : tv.ownBlock = some g1 ∨ g1 = w.heap.size + 1) (hlt1 : g1 < w1.heap.size)
    (w2 : World) (hw2 : w2 = w1.setCell ⟨b, 12, none⟩ (.slice (some ⟨g1, 0, none⟩) (vs.length + 1) cap1))
    (w3 : World) (Au : Option Addr) (cu : Nat) (hp : SCopyPost B b ls (.slice (some ⟨g1, 0, none⟩) (vs.length + 1) cap1) uv us w2 Au cu w3 r)
    (o3 : Obj) (w4 : World) (g4 cap4 : Nat) (hown4 : w4.ownsRow B 42 1 (.slice (some ⟨g4, 0, none⟩) (us.length + 1) cap4) (us.length + 1) (us ++ [.slice Au ls.length cu])) (hg4 : (w3.alloc o3).grownBy w4 uv.ownBlock)
    (hat4 : uv.ownBlock = some g4 ∨ g4 = (w3.alloc o3).heap.size) :
    (∃ tv' uv' u, SBookIs (w4.setCell ⟨b, 13, none⟩ (.slice (some ⟨g4, 0, none⟩) (us.length + 1) cap4)) B b tv' uv' (vs ++ [.slice A ls.length cap]) (us ++ [u]) (lss ++ [ls]) r ∧ ∀ g, u.ownBlock = some g → w.heap.size ≤ g) ∧
      SStrKept w (w4.setCell ⟨b, 13, none⟩ (.slice (some ⟨g4, 0, none⟩) (us.length + 1) cap4)) ∧ TKept stkL w (w4.setCell ⟨b, 13, none⟩ (.slice (some ⟨g4, 0, none⟩) (us.length + 1) cap4)) ∧ Below B w (w4.setCell ⟨b, 13, none⟩ (.slice (some ⟨g4, 0, none⟩) (us.length + 1) cap4)) := by
  have hbl := h.lt
  have s0 : (w.alloc o1).heap.size = w.heap.size + 1 := by show (w.heap.push _).size = _; simp
  have s1 := hg1.size
  have blk1 : w1.heap[b]? = some (.cells (sbookCells tv uv r) 36 (0, 0)) := sgrow_book h.blk h.tvs hg1
  have blk2 : w2.heap[b]? = some (.cells (sbookCells (.slice (some ⟨g1, 0, none⟩) (vs.length + 1) cap1) uv r) 36 (0, 0)) := by rw [hw2]; exact sbook_set0 blk1 _
  have s2 : w2.heap.size = w1.heap.size := by rw [hw2]; simp [World.setCell]
  have hown2 : w2.ownsRow B 42 1 (.slice (some ⟨g1, 0, none⟩) (vs.length + 1) cap1) (vs.length + 1) (vs ++ [.slice A ls.length cap]) := by rw [hw2]; exact own_set hown1 blk1 (by decide) 12 _
  have s3 := hp.below.size
  have s3a : (w3.alloc o3).heap.size = w3.heap.size + 1 := by show (w3.heap.push _).size = _; simp
  have s4 := hg4.size
  have hown3 := ownsRow_below hown2 hp.below
  have blk4 := sgrow_book hp.blk hp.own hg4
  have sk12 : SStrKept w w2 := by
    rw [hw2]
    exact ((SStrKept.alloc w o1).trans (SStrKept.grown (h.tvs.alloc o1) hg1 (by decide))).trans (SStrKept.setCell blk1 (by decide) 12 _)
  have sk35 : SStrKept w3 (w4.setCell ⟨b, 13, none⟩ (.slice (some ⟨g4, 0, none⟩) (us.length + 1) cap4)) :=
    ((SStrKept.alloc w3 o3).trans (SStrKept.grown (hp.own.alloc o3) hg4 (by decide))).trans (SStrKept.setCell blk4 (by decide) 13 _)
  have sk := (sk12.trans (SStrKept.below hp.below)).trans sk35
  have tk12 : TKept stkL w w2 := by
    rw [hw2]
    exact ((TKept.alloc _ w o1).trans (TKept.grown (h.tvs.alloc o1) hg1 (by decide))).trans (TKept.setCell blk1 (by decide) 12 _)
  have tk35 : TKept stkL w3 (w4.setCell ⟨b, 13, none⟩ (.slice (some ⟨g4, 0, none⟩) (us.length + 1) cap4)) :=
    ((TKept.alloc _ w3 o3).trans (TKept.grown (hp.own.alloc o3) hg4 (by decide))).trans (TKept.setCell blk4 (by decide) 13 _)
  have tk := (tk12.trans (TKept.below _ hp.below)).trans tk35
  have ne1 : Apart (.slice (some ⟨g1, 0, none⟩) (vs.length + 1) cap1) uv := by
    intro g hg hu
    simp [Value.ownBlock] at hg
    subst hg
    rcases hat1 with e | e
    · exact h.ne _ e hu
    · have := (h.uvs.lt _ hu).2
      omega
  have tv4 : w4.ownsRow B 42 1 (.slice (some ⟨g1, 0, none⟩) (vs.length + 1) cap1) (vs.length + 1) (vs ++ [.slice A ls.length cap]) := (hown3.alloc o3).kept hg4 ne1.ne
  refine ⟨⟨.slice (some ⟨g1, 0, none⟩) (vs.length + 1) cap1, .slice (some ⟨g4, 0, none⟩) (us.length + 1) cap4, .slice Au ls.length cu, ⟨sbook_set1 blk4 _, h.base, ?_, ?_, ?_, ?_, ?_, ?_⟩, fun g hg => by have := (hp.new.lt g hg).1; omega⟩, sk, tk, ?_⟩
  · rw [List.length_append]; exact own_set tv4 blk4 (by decide) 13 _
  · rw [List.length_append]; exact own_set hown4 blk4 (by decide) 13 _
  · intro g hg hu
    simp [Value.ownBlock] at hg hu
    subst hg
    rcases hat4 with e | e
    · exact ne1 _ rfl (by rw [e, hu])
    · omega
  · refine ⟨by simp [h.tl.1], fun i v l hv hl => ?_⟩
    have e1 := h.tl.1
    by_cases hi : i < vs.length
    · rw [List.getElem?_append_left hi] at hv
      rw [List.getElem?_append_left (by omega)] at hl
      exact sk.row (h.tl.2 i v l hv hl)
    · rw [List.getElem?_append_right (by omega)] at hv hl
      rw [← e1] at hl
      have h0 : i - vs.length = 0 := by
        have := (List.getElem?_eq_some_iff.1 hv).1
        simp at this
        omega
      rw [h0] at hv hl
      simp at hv hl
      subst hv hl
      exact sk.row hown
  · refine ⟨by simp [h.ul.1], fun i v l hv hl => ?_⟩
    have e1 := h.ul.1
    by_cases hi : i < us.length
    · rw [List.getElem?_append_left hi] at hv
      rw [List.getElem?_append_left (by omega)] at hl
      exact sk.row (h.ul.2 i v l hv hl)
    · rw [List.getElem?_append_right (by omega)] at hv hl
      rw [← e1] at hl
      have h0 : i - us.length = 0 := by
        have := (List.getElem?_eq_some_iff.1 hv).1
        simp at this
        omega
      rw [h0] at hv hl
      simp at hv hl
      subst hv hl
      have hn := sk35.row hp.new
      exact own_low hn (by omega)
  · have hnew : ∀ x ∈ vs ++ us, Apart x (.slice Au ls.length cu) := by
      intro x hx
      rw [List.mem_append] at hx
      rcases hx with hx | hx
      · obtain ⟨i, hi⟩ := List.mem_iff_getElem?.1 hx
        have hil := (List.getElem?_eq_some_iff.1 hi).1
        have e1 := h.tl.1
        exact own_new (h.tl.2 i x lss[i] hi (List.getElem?_eq_getElem (by omega))) hp.new (by omega)
      · obtain ⟨i, hi⟩ := List.mem_iff_getElem?.1 hx
        have hil := (List.getElem?_eq_some_iff.1 hi).1
        have e1 := h.ul.1
        exact own_new (h.ul.2 i x lss[i] hi (List.getElem?_eq_getElem (by omega))) hp.new (by omega)
    have hln : Apart (.slice A ls.length cap) (.slice Au ls.length cu) := own_new hown hp.new (by omega)
    have hdd := h.dist
    unfold Dist at hdd ⊢
    rw [List.pairwise_append] at hdd
    simp only [List.pairwise_append, List.mem_append, List.mem_singleton, List.pairwise_cons, List.Pairwise.nil, List.not_mem_nil, false_implies, implies_true, and_true, true_and]
    refine ⟨⟨hdd.1, fun a ha c hc => ?_⟩, ⟨hdd.2.1, fun a ha c hc => ?_⟩, fun a ha c hc => ?_⟩
    · subst hc; exact (hd a (by simp [ha])).symm
    · subst hc; exact hnew a (by simp [ha])
    · rcases ha with ha | rfl
      · rcases hc with hc | rfl
        · exact hdd.2.2 a ha c hc
        · exact hnew a (by simp [ha])
      · rcases hc with hc | rfl
        · exact hd c (by simp [hc])
        · exact hln
  · have q1 : Below B w w1 := ((Below.refl B w).alloc hB o1).grown hg1 (by omega) (fun k hk => (h.tvs.lt k hk).1)
    have q2 : Below B w w2 := by rw [hw2]; exact q1.setCell (p := ⟨b, 12, none⟩) h.base _
    have q3 : Below B w w3 := q2.trans (hp.below.mono (by omega))
    have q4 : Below B w w4 := (q3.alloc (by omega) o3).grown hg4 (by omega) (fun k hk => (hp.own.lt k hk).1)
    exact q4.setCell (p := ⟨b, 13, none⟩) h.base _
end Go.Proofs.YtpifhjdbcdcelaaGreatDoor
namespace Go.Proofs.YtpifhjdbcdcelaaGreatDoor
open Go.RowKit
set_option linter.unusedSimpArgs false
set_option linter.unusedVariables false
variable {r : Nat → Value}
theorem SBookIs.heap {w w' : World} (hh : w'.heap = w.heap) {B b : Nat} {tv uv : Value} {vs us : List Value} {lss : List (List Sctn)} (h : SBookIs w B b tv uv vs us lss r) : SBookIs w' B b tv uv vs us lss r :=
  ⟨by rw [hh]; exact h.blk, h.base, own_heap hh h.tvs, own_heap hh h.uvs, h.ne, ⟨h.tl.1, fun i v ls hv hl => own_heap hh (h.tl.2 i v ls hv hl)⟩, ⟨h.ul.1, fun i v ls hv hl => own_heap hh (h.ul.2 i v ls hv hl)⟩, h.dist⟩
theorem SBookIs.below {w w' : World} {B b : Nat} {tv uv : Value} {vs us : List Value} {lss : List (List Sctn)} (h : SBookIs w B b tv uv vs us lss r) (hb : Below w.heap.size w w') : SBookIs w' B b tv uv vs us lss r :=
  ⟨(hb.block b h.lt).trans h.blk, h.base, ownsRow_below h.tvs hb, ownsRow_below h.uvs hb, h.ne, ⟨h.tl.1, fun i v ls hv hl => ownsRow_below (h.tl.2 i v ls hv hl) hb⟩, ⟨h.ul.1, fun i v ls hv hl => ownsRow_below (h.ul.2 i v ls hv hl) hb⟩, h.dist⟩
/-- A new book. -/
theorem SBookIs.new {w : World} {B b : Nat} (hb : w.heap[b]? = some (.cells (sbookCells (.slice none 0 0) (.slice none 0 0) r) 36 (0, 0))) (hB : B ≤ b) : SBookIs w B b (.slice none 0 0) (.slice none 0 0) [] [] [] r :=
  ⟨hb, hB, World.ownsRow_nil _ _ _ _, World.ownsRow_nil _ _ _ _, fun g hg => by simp [Value.ownBlock] at hg, ⟨rfl, fun i v ls hv => by simp at hv⟩, ⟨rfl, fun i v ls hv => by simp at hv⟩, List.Pairwise.nil⟩
def SStillRel (m : Nat) (w : World) (i : Value) (wr : World) : Prop := ∃ k n : Nat, i = .int .i64 k ∧ k ≤ m ∧ wr = w.drewN n
set_option maxHeartbeats 1000000 in
theorem stillSecs_any (B b : Nat) (tv uv : Value) (vs us : List Value) (lss : List (List Sctn)) (w : World) (h : SBookIs w B b tv uv vs us lss r) (hm : vs.length ≤ 1000) :
    Calls Tryz.prog 32 #[.pointer (some ⟨b, 0, none⟩)] w (QuietBool w true) := by
  have H := Lib.hid h
  clear h
  go_enter Tryz.func32, Tryz.ntmps32
  go_wp2_with fail
  go_loopw [3] (fun i wr => SStillRel vs.length w i wr) (fun i _ => vs.length - (intOf i).toNat)
  case atStart => exact ⟨0, 0, rfl, Nat.zero_le _, rfl⟩
  case round =>
    obtain ⟨k, n, rfl, hk, hw⟩ := hrel
    have hbk : SBookIs wr B b tv uv vs us lss r := H.out.heap (by rw [hw]; rfl)
    have HW := Lib.hid hw
    clear hw
    obtain ⟨At, ct, rfl, _, _⟩ := RowOf.own hbk.tvs
    obtain ⟨Au, cu, rfl, _, _⟩ := RowOf.own hbk.uvs
    have hc0 : wr.cell? ⟨b, 12, none⟩ = some (.slice At vs.length ct) := (hbk.cell 12).trans rfl
    have hc1 : wr.cell? ⟨b, 13, none⟩ = some (.slice Au us.length cu) := (hbk.cell 13).trans rfl
    have hlu : us.length = vs.length := by rw [hbk.ul.1, hbk.tl.1]
    have hls : lss.length = vs.length := by rw [hbk.tl.1]
    by_cases hp : k < vs.length
    · obtain ⟨gt, rfl, hgt, hct⟩ := row_cell hbk.tvs hp
      obtain ⟨gu, rfl, hgu, hcu⟩ := row_cell hbk.uvs (k := k) (by omega)
      have hv := hbk.tl.2 k vs[k] (lss[k]'(by omega)) (List.getElem?_eq_getElem hp) (List.getElem?_eq_getElem (by omega))
      have hu := hbk.ul.2 k (us[k]'(by omega)) (lss[k]'(by omega)) (List.getElem?_eq_getElem (by omega)) (List.getElem?_eq_getElem (by omega))
      obtain ⟨A1, c1, e1, hr1⟩ := EltsAt.own scC_length hv
      obtain ⟨A2, c2, e2, hr2⟩ := EltsAt.own scC_length hu
      rw [e1] at hct
      rw [e2] at hcu
      have hsm := fun W hh => sameSecs_same A1 A2 c1 c2 (lss[k]'(by omega)) W (hr1.heap hh) (hr2.heap hh)
      generalize (lss[k]'(by omega)) = ls at *
      have hpu : k < us.length := by omega
      have HB := Lib.hid hbk
      clear hbk hlu hls e1 e2 hv hu
      have HS := Lib.hid hsm
      clear hsm
      go_wp2_with fail
      go_quiet ((go_at_call 13; exact Calls.quiet_of (HS.out _ rfl)))
      rename_i nq
      go_wp2
      go_roundw
      case rel => exact ⟨k + 1, n + nq, by go_num, by omega, by rw [HW.out, World.drewN_drewN]⟩
      case measure => simp [intOf]; omega
    · have HB := Lib.hid hbk
      clear hbk hlu hls
      go_wp2
      go_ret
      exact ⟨rfl, n, HW.out⟩
/-- Each list of vs is read as its smarks. -/
def SMarked (w : World) (vs : List Value) : Prop := ∀ (i : Nat) (v : Value), vs[i]? = some v → ∃ A n c, v = .slice A n c ∧ n ≤ 1000000 ∧ SecsAt w A c (smarks i 0 n)
theorem SMarked.below {w w' : World} {vs : List Value} (h : SMarked w vs) (hb : Below w.heap.size w w') : SMarked w' vs := fun i v hv => by
  obtain ⟨A, n, c, e, hn, hr⟩ := h i v hv
  exact ⟨A, n, c, e, hn, hr.below hb⟩
theorem smark_at (w : World) (p : Addr) (u : Value) (hp : p.block < w.heap.size) (i : Int) (n : Nat) (hi : 0 ≤ i) (hi2 : i ≤ 100000) (hn : n ≤ 1000000) (W : World) (h : W.cell? p = some u ∧ Below w.heap.size w W) :
    Calls Tryz.prog 79 #[.int .i64 i, .int .i64 0, .int .i64 n] W fun e w' => ∃ A2 c2, e = .returned (.slice A2 n c2) ∧ (w'.cell? p = some u ∧ Below w.heap.size w w') ∧ SecsAt w' A2 c2 (smarks i 0 n) := by
  refine (markSecs_any i 0 n W hi hi2 (by omega) hn).mono ?_
  rintro e w' ⟨v, rfl, hown, hb⟩
  obtain ⟨A2, c2, rfl, hr⟩ := EltsAt.own scC_length (X := smarks i 0 n) (by rw [smarks_length]; exact hown)
  rw [smarks_length]
  exact ⟨A2, c2, rfl, ⟨(hb.cell (p := p) (Nat.lt_of_lt_of_le hp h.2.size)).trans h.1, h.2.then hb⟩, hr⟩
theorem ssame_at (w : World) (p : Addr) (u : Value) (A1 : Option Addr) (c1 : Nat) (ls : List Sctn) (n : Nat) (hl : ls.length = n) (hr1 : SecsAt w A1 c1 ls) (A2 : Option Addr) (c2 : Nat) (W : World) (h : W.cell? p = some u ∧ Below w.heap.size w W)
    (hr2 : SecsAt W A2 c2 ls) :
    Calls Tryz.prog 13 #[.slice A1 n c1, .slice A2 n c2] W fun e w' => e = .returned (.bool true) ∧ (w'.cell? p = some u ∧ Below w.heap.size w w') := by
  subst hl
  refine (sameSecs_same A1 A2 c1 c2 ls W (hr1.below h.2) hr2).mono ?_
  rintro e w' ⟨rfl, n, rfl⟩
  exact ⟨rfl, h.1, below_drewN' h.2 n⟩
def SMarkedRel (m : Nat) (w : World) (i : Value) (wr : World) : Prop := ∃ k : Nat, i = .int .i64 k ∧ k ≤ m ∧ Below w.heap.size w wr
set_option maxHeartbeats 2000000 in
theorem markedSecs_any (A : Option Addr) (cap : Nat) (vs : List Value) (w : World) (hrow : RowOf w A cap vs) (hm : SMarked w vs) (hl : vs.length ≤ 1000) :
    Calls Tryz.prog 56 #[.slice A vs.length cap] w fun e w' => e = .returned (.bool true) ∧ Below w.heap.size w w' := by
  have hc1 := hrow.1
  have hc2 := hrow.2.1
  unfold maxLen at hc2
  have HM := Lib.hid hm
  clear hm
  go_enter Tryz.func56, Tryz.ntmps56
  go_wp2_with fail
  go_loopw [3] (fun i wr => SMarkedRel vs.length w i wr) (fun i _ => vs.length - (intOf i).toNat)
  case atStart => exact ⟨0, rfl, Nat.zero_le _, Below.refl _ _⟩
  case round =>
    obtain ⟨k, rfl, hk, hbw⟩ := hrel
    by_cases hp : k < vs.length
    · have hne : vs ≠ [] := by intro e; rw [e] at hp; simp at hp
      obtain ⟨g, off, rfl, hg, hc⟩ := hrow.at hne
      have hck := (hbw.cell (p := ⟨g, off + k, none⟩) hg).trans (hc k hp)
      obtain ⟨A1, n, c1, e1, hn, hr⟩ := HM.out k vs[k] (List.getElem?_eq_getElem hp)
      rw [e1] at hck
      have hgw : (⟨g, off + k, none⟩ : Addr).block < wr.heap.size := Nat.lt_of_lt_of_le hg hbw.size
      have ca := smark_at wr ⟨g, off + k, none⟩ (.slice A1 n c1) hgw k n (by omega) (by omega) hn
      have cb := fun A2 c2 => ssame_at wr ⟨g, off + k, none⟩ (.slice A1 n c1) A1 c1 (smarks k 0 n) n (smarks_length _ _ _) (hr.below hbw) A2 c2
      have CA := Lib.hid ca
      have CB := Lib.hid cb
      have hS : wr.drew.cell? ⟨g, off + k, none⟩ = some (.slice A1 n c1) ∧ Below wr.heap.size wr wr.drew := ⟨hck, (Below.refl _ _).drew⟩
      have hgk : g < wr.heap.size := hgw
      clear ca cb hc hr hne
      go_wp2_with fail
      go_region_held3 (fun W => W.cell? ⟨g, off + k, none⟩ = some (.slice A1 n c1) ∧ Below wr.heap.size wr W) (assumption) (first | (go_at_call 79; (with_reducible refine (CA.out _ (by assumption)).mono ?_); rintro e w5 ⟨A2, c2, rfl, hS5, hr5⟩) | (go_at_call 13; (with_reducible refine (CB.out _ _ _ (by assumption) (by assumption)).mono ?_); rintro e w6 ⟨rfl, hS6⟩))
      go_wp2
      go_roundw
      case rel => exact ⟨k + 1, by go_num, by omega, hbw.then hS6.2⟩
      case measure => simp [intOf]; omega
    · go_wp2
      go_ret
      exact ⟨rfl, hbw⟩
end Go.Proofs.YtpifhjdbcdcelaaGreatDoor
namespace Go.Proofs.YtpifhjdbcdcelaaGreatDoor
open Go.RowKit
set_option linter.unusedSimpArgs false
set_option linter.unusedVariables false
variable {r : Nat → Value}
/-- Rows of texts: the i-th holds f i. -/
def SRowsF (w : World) (B : Nat) (vs : List Value) (f : Nat → List Sctn) : Prop :=
  ∀ (i : Nat) (v : Value), vs[i]? = some v → w.ownsRow B 52 4 v (f i).length (flt scC (f i))
/-- The book's texts alone. -/
structure SBookV (w : World) (B b : Nat) (tv uv : Value) (vs : List Value) (f : Nat → List Sctn) (r : Nat → Value) : Prop where
  blk : w.heap[b]? = some (.cells (sbookCells tv uv r) 36 (0, 0))
  base : B ≤ b
  tvs : w.ownsRow B 42 1 tv vs.length vs
  tl : SRowsF w B vs f
  dist : Dist vs
theorem SBookIs.toV {w : World} {B b : Nat} {tv uv : Value} {vs us : List Value} {lss : List (List Sctn)} (h : SBookIs w B b tv uv vs us lss r) : SBookV w B b tv uv vs (fun i => lss.getD i []) r :=
  ⟨h.blk, h.base, h.tvs, fun i v hv => by
    have hi := (List.getElem?_eq_some_iff.1 hv).1
    have e := h.tl.1
    have h1 := h.tl.2 i v (lss[i]'(by omega)) hv (List.getElem?_eq_getElem (by omega))
    rw [List.getD_eq_getElem?_getD, List.getElem?_eq_getElem (by omega)]
    exact h1, (List.pairwise_append.1 h.dist).1⟩
/-- What a step that touches the k-th row alone does to the book. -/
theorem SBookV.step {w w' : World} {B b : Nat} {tv uv : Value} {vs : List Value} {f : Nat → List Sctn} (h : SBookV w B b tv uv vs f r) {k : Nat} {v : Value} (hv : vs[k]? = some v) (hg : w.grownBy w' v.ownBlock)
    {g : Nat → List Sctn} (hk : w'.ownsRow B 52 4 v (g k).length (flt scC (g k))) (ho : ∀ j, j ≠ k → g j = f j) : SBookV w' B b tv uv vs g r := by
  have hrow := h.tl k v hv
  refine ⟨?_, h.base, h.tvs.kept hg (own_apart h.tvs hrow (by decide)).ne, fun i u hu => ?_, h.dist⟩
  · rw [hg.block b (Array.getElem?_eq_some_iff.1 h.blk).1 (fun e => own_ne hrow h.blk (by decide) e.symm)]
    exact h.blk
  · by_cases e : i = k
    · subst e
      rw [hv] at hu
      cases hu
      exact hk
    · rw [ho i e]
      exact (h.tl i u hu).kept hg (h.dist.get hu hv e).ne
theorem SBookV.below {w w' : World} {B b : Nat} {tv uv : Value} {vs : List Value} {f : Nat → List Sctn} (h : SBookV w B b tv uv vs f r) (hb : Below w.heap.size w w') : SBookV w' B b tv uv vs f r :=
  ⟨(hb.block b (Array.getElem?_eq_some_iff.1 h.blk).1).trans h.blk, h.base, ownsRow_below h.tvs hb, fun i u hu => ownsRow_below (h.tl i u hu) hb, h.dist⟩
/-- The world where a section's four cells were written. -/
def sput4 (w : World) (g o : Nat) (x : Sctn) : World :=
  (((w.setCell ⟨g, o, none⟩ (.int .i64 x.lv)).setCell ⟨g, o + 1, none⟩ (.string ⟨x.nu.toArray⟩)).setCell ⟨g, o + 2, none⟩ (.string ⟨x.an.toArray⟩)).setCell ⟨g, o + 3, none⟩ (.string ⟨x.tx.toArray⟩)
theorem sput_facts {wr w1 wq : World} {B b : Nat} {uv : Value} {vs : List Value} {f' : Nat → List Sctn} {gt ct k gi c1 gm cm n q : Nat} {ls ms : List Sctn} (hms : ms.length = n)
    (h : SBookV wr B b (.slice (some ⟨gt, 0, none⟩) vs.length ct) uv vs f' r) (hct : wr.cell? ⟨gt, k, none⟩ = some (.slice (some ⟨gi, 0, none⟩) n c1)) (b1 : Below wr.heap.size wr w1)
    (hr : wr.ownsRow B 52 4 (.slice (some ⟨gi, 0, none⟩) n c1) n (flt scC ls)) (hm : w1.ownsRow wr.heap.size 52 4 (.slice (some ⟨gm, 0, none⟩) n cm) n (flt scC ms))
    (hgr : w1.grownBy wq (Value.slice (some ⟨gi, 0, none⟩) n c1).ownBlock) (hown : wq.ownsRow B 52 4 (.slice (some ⟨gi, 0, none⟩) n c1) n (flt scC (ms.take q ++ ls.drop q))) (hq : q < n) :
    wq.cell? ⟨b, 12, none⟩ = some (.slice (some ⟨gt, 0, none⟩) vs.length ct) ∧ wq.cell? ⟨gt, k, none⟩ = some (.slice (some ⟨gi, 0, none⟩) n c1) ∧
      (∀ j u, (scC (ms[q]'(by omega)))[j]? = some u → wq.cell? ⟨gm, q * 4 + j, none⟩ = some u) ∧
      (∀ j, j < 4 → ∃ u, wq.cell? ⟨gi, q * 4 + j, none⟩ = some u) ∧ (∀ i, wq.frozen? ⟨gi, i, none⟩ = false) ∧ gi ≠ b ∧ gi ≠ gt ∧ gi ≠ gm := by
  have n1 : gi ≠ b := fun e => own_ne hr h.blk (by decide) (by rw [e]; rfl)
  have n2 : gi ≠ gt := fun e => own_apart h.tvs hr (by decide) gt rfl (by rw [e]; rfl)
  have n3 : gi ≠ gm := fun e => own_new hr hm (Nat.le_refl _) gi rfl (by rw [e]; rfl)
  have hbl := (Array.getElem?_eq_some_iff.1 h.blk).1
  have htl := (h.tvs.lt gt rfl).2
  have e1 : wr.cell? ⟨b, 12, none⟩ = some (.slice (some ⟨gt, 0, none⟩) vs.length ct) := (cell_of_row wr b 12 _ _ (0, 0) h.blk).trans rfl
  refine ⟨hgr.cell ((b1.cell (p := ⟨b, 12, none⟩) hbl).trans e1) (fun e => n1 (by cases e; rfl)), hgr.cell ((b1.cell (p := ⟨gt, k, none⟩) htl).trans hct) (fun e => n2 (by cases e; rfl)), fun j u hu => ?_, fun j hj => ?_, fun i => hown.frozenAt i, n1, n2, n3⟩
  · exact hgr.cell (own_elt scC_length hm (by omega) j u hu) (fun e => n3 (by cases e; rfl))
  · have hl := hown.1
    have hc := hown.cellAt (q * 4 + j) (by omega)
    exact ⟨_, hc.trans (List.getElem?_eq_getElem (by omega))⟩
theorem sput_step {w1 wq : World} {B : Nat} {gi c1 n q : Nat} {ls ms : List Sctn} (hms : ms.length = n)
    (hgr : w1.grownBy wq (Value.slice (some ⟨gi, 0, none⟩) n c1).ownBlock) (hown : wq.ownsRow B 52 4 (.slice (some ⟨gi, 0, none⟩) n c1) n (flt scC (ms.take q ++ ls.drop q))) (hq : q < n) :
    w1.grownBy (sput4 wq gi (q * 4) (ms[q]'(by omega))) (Value.slice (some ⟨gi, 0, none⟩) n c1).ownBlock ∧
      (sput4 wq gi (q * 4) (ms[q]'(by omega))).ownsRow B 52 4 (.slice (some ⟨gi, 0, none⟩) n c1) n (flt scC (ms.take (q + 1) ++ ls.drop (q + 1))) := by
  have hl := hown.1
  rw [flt_length scC_length, List.length_append, List.length_take, List.length_drop] at hl
  obtain ⟨s1, g1⟩ := hown.stored (q * 4) (.int .i64 (ms[q]'(by omega)).lv)
  obtain ⟨s2, g2⟩ := s1.stored (q * 4 + 1) (.string ⟨(ms[q]'(by omega)).nu.toArray⟩)
  obtain ⟨s3, g3⟩ := s2.stored (q * 4 + 2) (.string ⟨(ms[q]'(by omega)).an.toArray⟩)
  obtain ⟨s4, g4⟩ := s3.stored (q * 4 + 3) (.string ⟨(ms[q]'(by omega)).tx.toArray⟩)
  rw [flt_set4 scC_length _ _ _ _ (ms[q]'(by omega)) rfl _ q (by rw [List.length_append, List.length_take, List.length_drop]; omega), take_set ms ls q (by omega) (by omega)] at s4
  exact ⟨(((hgr.trans g1).trans g2).trans g3).trans g4, s4⟩
theorem sput_end {wr w1 w2 : World} {B b : Nat} {tv uv v : Value} {vs : List Value} {f : Nat → List Sctn} {k : Nat} (h : SBookV wr B b tv uv vs (fun j => if j < k then smarks j 0 (f j).length else f j) r) (hv : vs[k]? = some v)
    (b1 : Below wr.heap.size wr w1) (hgr : w1.grownBy w2 v.ownBlock) (hown : w2.ownsRow B 52 4 v (f k).length (flt scC (smarks k 0 (f k).length))) :
    SBookV w2 B b tv uv vs (fun j => if j < k + 1 then smarks j 0 (f j).length else f j) r := by
  refine (h.below b1).step hv hgr ?_ ?_
  · simp only [Nat.lt_succ_self, if_true]
    rw [smarks_length]
    exact hown
  · intro j hj
    by_cases h1 : j < k
    · rw [if_pos h1, if_pos (by omega)]
    · rw [if_neg h1, if_neg (by omega)]
def SPutIn (w1 : World) (B : Nat) (v : Value) (ms ls : List Sctn) (n : Nat) (q : Value) (wr : World) : Prop :=
  ∃ k : Nat, q = .int .i64 k ∧ k ≤ n ∧ w1.grownBy wr v.ownBlock ∧ wr.ownsRow B 52 4 v n (flt scC (ms.take k ++ ls.drop k))
def SPutRel (w : World) (B b : Nat) (tv uv : Value) (vs : List Value) (f : Nat → List Sctn) (i : Value) (wr : World) (r : Nat → Value) : Prop :=
  ∃ k : Nat, i = .int .i64 k ∧ k ≤ vs.length ∧ SBookV wr B b tv uv vs (fun j => if j < k then smarks j 0 (f j).length else f j) r ∧ Below B w wr ∧ TKept stkE w wr
set_option maxHeartbeats 4000000 in
set_option maxRecDepth 100000 in
theorem putSecs_anyK (B b : Nat) (tv uv : Value) (vs : List Value) (f : Nat → List Sctn) (w : World) (hB : B ≤ w.heap.size) (h : SBookV w B b tv uv vs f r) (hm : vs.length ≤ 1000) (hf : ∀ i, (f i).length ≤ 100000) :
    Calls Tryz.prog 40 #[.pointer (some ⟨b, 0, none⟩)] w fun e w' => e = .returned (.tuple #[]) ∧ SBookV w' B b tv uv vs (fun j => if j < vs.length then smarks j 0 (f j).length else f j) r ∧ Below B w w' ∧ TKept stkE w w' := by
  have H := Lib.hid h
  have HF := Lib.hid hf
  clear h hf
  go_enter Tryz.func40, Tryz.ntmps40
  go_wp2_with fail
  go_loopw [2] (fun i wr => SPutRel w B b tv uv vs f i wr r) (fun i _ => vs.length - (intOf i).toNat)
  case atStart => exact ⟨0, rfl, Nat.zero_le _, by simpa using H.out, Below.refl _ _, TKept.refl _ _⟩
  case round =>
    obtain ⟨k, rfl, hk, hbk, hbw, htk⟩ := hrel
    have HTK := Lib.hid htk
    clear htk
    obtain ⟨At, ct, rfl, _, _⟩ := RowOf.own hbk.tvs
    have hc0 : wr.cell? ⟨b, 12, none⟩ = some (.slice At vs.length ct) := (cell_of_row wr b 12 _ _ (0, 0) hbk.blk).trans rfl
    by_cases hp : k < vs.length
    · obtain ⟨gt, rfl, hgt, hct⟩ := row_cell hbk.tvs hp
      have hv := List.getElem?_eq_getElem hp
      have hrow := hbk.tl k _ hv
      simp only [Nat.lt_irrefl, if_false] at hrow
      have hfk := HF.out k
      generalize hvk : vs[k] = v at *
      obtain ⟨A1, c1, rfl, hr1⟩ := EltsAt.own scC_length hrow
      have hsz := hbw.size
      have HB := Lib.hid hbk
      have HV := Lib.hid hv
      have HR := Lib.hid hrow
      have hbl := (Array.getElem?_eq_some_iff.1 hbk.blk).1
      clear hbk hv hvk hrow
      go_wp2_with fail
      refine (markSecs_any k 0 (f k).length wr (by omega) (by omega) (by omega) (by omega)).mono ?_
      rintro e w1 ⟨mv, rfl, hownm, b1⟩
      obtain ⟨Am, cm, rfl, hrm⟩ := EltsAt.own scC_length (X := smarks k 0 (f k).length) (by rw [smarks_length]; exact hownm)
      rw [smarks_length] at *
      have hs1 := b1.size
      have HMO := Lib.hid hownm
      clear hownm
      go_wp2_with fail
      go_loopw [4] (fun q w' => SPutIn w1 B (.slice A1 (f k).length c1) (smarks k 0 (f k).length) (f k) (f k).length q w') (fun q _ => (f k).length - (intOf q).toNat)
      case atStart => exact ⟨0, rfl, Nat.zero_le _, World.grownBy.refl _ _, by simpa using ownsRow_below HR.out b1⟩
      case round =>
        obtain ⟨q, rfl, hq, hgr, hown⟩ := hrel
        by_cases hp2 : q < (f k).length
        · obtain ⟨gi, ci, ei, hBi, hgi⟩ := hown.form (by omega)
          cases ei
          obtain ⟨gm, cm2, em, _, _⟩ := HMO.out.form (by omega)
          cases em
          obtain ⟨d1, d2, d3, d4, d5, d6, d7, d8⟩ := sput_facts (ms := smarks k 0 (f k).length) (smarks_length _ _ _) HB.out hct b1 HR.out HMO.out hgr hown hp2
          have d30 : wr.cell? ⟨gm, q * 4, none⟩ = _ := d3 0 _ rfl
          have d31 := d3 1 _ rfl
          have d32 := d3 2 _ rfl
          have d33 := d3 3 _ rfl
          obtain ⟨u0, d40⟩ : ∃ u, wr.cell? ⟨gi, q * 4, none⟩ = some u := d4 0 (by omega)
          obtain ⟨u1, d41⟩ := d4 1 (by omega)
          obtain ⟨u2, d42⟩ := d4 2 (by omega)
          obtain ⟨u3, d43⟩ := d4 3 (by omega)
          have d50 := d5 (q * 4)
          have d51 := d5 (q * 4 + 1)
          have d52 := d5 (q * 4 + 2)
          have d53 := d5 (q * 4 + 3)
          clear d3 d4 d5
          have HS := Lib.hid (sput_step (smarks_length _ _ _) hgr hown hp2)
          clear hgr hown
          go_wp2_with fail
          go_region
          go_wp2
          go_roundw
          case rel => exact ⟨q + 1, by go_num, by omega, grown_drew HS.out.1, HS.out.2⟩
          case measure => simp [intOf]; omega
        · obtain rfl : q = (f k).length := by omega
          have hfin : wr.ownsRow B 52 4 (.slice A1 (f k).length c1) (f k).length (flt scC (smarks k 0 (f k).length)) := by
            rw [List.take_of_length_le (by rw [smarks_length]; omega), List.drop_of_length_le (by omega), List.append_nil] at hown
            exact hown
          have hbv := sput_end HB.out HV.out b1 hgr hfin
          have hbw2 := hbw.trans ((b1.mono (show B ≤ _ by omega)).trans (below_of_grown hgr (fun g hg => (HR.out.lt g hg).1) (by omega)))
          have HT2 := Lib.hid (HTK.out.trans ((TKept.below _ b1).trans (TKept.grown (ownsRow_below HR.out b1) hgr (by decide))))
          have HE := Lib.hid hbv
          have HE2 := Lib.hid hbw2
          clear hgr hown hfin hbv hbw2
          go_wp2
          go_roundw
          case rel => exact ⟨k + 1, by go_num, by omega, HE.out, HE2.out, HT2.out⟩
          case measure => simp [intOf]; omega
    · obtain rfl : k = vs.length := by omega
      have HB := Lib.hid hbk
      clear hbk
      go_wp2
      go_end0
      exact ⟨rfl, HB.out, hbw, HTK.out⟩
end Go.Proofs.YtpifhjdbcdcelaaGreatDoor
namespace Go.Proofs.YtpifhjdbcdcelaaGreatDoor
open Go.RowKit
set_option linter.unusedSimpArgs false
set_option linter.unusedVariables false
variable {r : Nat → Value}
/-- A list of sections that can be read in a block whose cells are sections. -/
def SSeen (w : World) (v : Value) (X : List Sctn) : Prop :=
  ∃ A c, v = .slice A X.length c ∧ c ≤ maxLen ∧ X.length ≤ c ∧ (X = [] ∨ ∃ g cur, A = some ⟨g, 0, none⟩ ∧ w.heap[g]? = some (.cells cur 52 (0, 0)) ∧ cur.toList.take (X.length * 4) = flt scC X)
section
variable {w w' : World} {v : Value} {X : List Sctn}
theorem SSeen.of_own {B n : Nat} (h : w.ownsRow B 52 4 v n (flt scC X)) : SSeen w v X := by
  obtain ⟨hl, h⟩ := h
  rw [flt_length scC_length] at hl
  obtain rfl : X.length = n := by omega
  rcases h with ⟨rfl, h0⟩ | ⟨g, cap, cur, rfl, hb, hg, hnc, hcm, hcs, ht⟩
  · have h0' : X.length = 0 := h0
    have e : X = [] := List.eq_nil_of_length_eq_zero h0'
    subst e
    exact ⟨none, 0, rfl, Nat.zero_le _, Nat.le_refl _, Or.inl rfl⟩
  · exact ⟨_, cap, rfl, hcm, hnc, Or.inr ⟨g, cur, rfl, hg, ht⟩⟩
theorem SSeen.row (h : SSeen w v X) : ∃ A c, v = .slice A X.length c ∧ SecsAt w A c X := by
  obtain ⟨A, c, rfl, hc, hl, h⟩ := h
  refine ⟨A, c, rfl, hl, hc, ?_⟩
  rcases h with h | ⟨g, cur, rfl, hg, ht⟩
  · exact Or.inl h
  · refine Or.inr ⟨g, 0, rfl, (Array.getElem?_eq_some_iff.1 hg).1, fun k hk j u hu => ?_⟩
    rw [Nat.zero_add, cell_of_row w g _ cur _ (0, 0) hg]
    have h1 := flt_get scC_length X k hk j u hu
    rw [← ht, List.getElem?_take] at h1
    split at h1
    · simpa using h1
    · cases h1
theorem SSeen.kept (h : SSeen w v X) {row : Option Nat} (hg : w.grownBy w' row) (hn : ∀ g, v.ownBlock = some g → row ≠ some g) : SSeen w' v X := by
  obtain ⟨A, c, rfl, hc, hl, h⟩ := h
  refine ⟨A, c, rfl, hc, hl, ?_⟩
  rcases h with h | ⟨g, cur, rfl, hh, ht⟩
  · exact Or.inl h
  · exact Or.inr ⟨g, cur, rfl, (hg.block g (Array.getElem?_eq_some_iff.1 hh).1 (fun e => hn g rfl e.symm)).trans hh, ht⟩
theorem SSeen.below (h : SSeen w v X) (hb : Below w.heap.size w w') : SSeen w' v X := h.kept (grownBy_of_below hb none) (fun g _ => by simp)
theorem SSeen.str (h : SSeen w v X) (hs : SStrKept w w') : SSeen w' v X := by
  obtain ⟨A, c, rfl, hc, hl, h⟩ := h
  refine ⟨A, c, rfl, hc, hl, ?_⟩
  rcases h with h | ⟨g, cur, rfl, hh, ht⟩
  · exact Or.inl h
  · exact Or.inr ⟨g, cur, rfl, hs g cur _ hh, ht⟩
theorem SSeen.in_place {B n : Nat} {u : Value} {ys : List Value} (h : SSeen w v X) (hu : w'.ownsRow B 52 4 u n (flt scC X ++ ys)) (he : u.ownBlock = v.ownBlock) : SSeen w' v X := by
  obtain ⟨A, c, rfl, hc, hl, h⟩ := h
  refine ⟨A, c, rfl, hc, hl, ?_⟩
  rcases h with h | ⟨g, cur, rfl, hh, ht⟩
  · exact Or.inl h
  · rcases hu.2 with ⟨rfl, _⟩ | ⟨g', cap', cur', rfl, _, hg', _, _, _, ht'⟩
    · simp [Value.ownBlock] at he
    · simp [Value.ownBlock] at he
      subst he
      refine Or.inr ⟨_, cur', rfl, hg', ?_⟩
      have hl2 := hu.1
      have hl3 := flt_length scC_length X
      rw [List.length_append] at hl2
      have e2 : (cur'.toList.take (n * 4)).take (X.length * 4) = (flt scC X ++ ys).take (X.length * 4) := by rw [ht']
      rw [List.take_take, Nat.min_eq_left (by omega), ← hl3, List.take_left] at e2
      rw [hl3] at e2
      exact e2
end
/-- The texts while they are grown: the first k are done. -/
structure SGrowSt (w0 w : World) (B b : Nat) (tv uv ov : Value) (vs gs : List Value) (f : Nat → List Sctn) (k : Nat) (r : Nat → Value) : Prop where
  blk : w.heap[b]? = some (.cells (sbookCells tv uv r) 36 (0, 0))
  base : B ≤ b
  tvs : w.ownsRow B 42 1 tv vs.length vs
  tlt : ∀ g, tv.ownBlock = some g → g < w0.heap.size
  rows : ∀ (j : Nat) (v : Value), vs[j]? = some v → k ≤ j → w.ownsRow B 52 4 v (f j).length (flt scC (f j))
  seen : ∀ (j : Nat) (v : Value), vs[j]? = some v → SSeen w v (f j)
  ovs : w.ownsRow w0.heap.size 42 1 ov k gs
  outs : ∀ (j : Nat) (u : Value), gs[j]? = some u → SSeen w u (smarks j 0 ((f j).length + 72))
  far : ∀ (j : Nat) (u : Value) (i : Nat) (v : Value), gs[j]? = some u → vs[i]? = some v → k ≤ i → Apart u v
  dist : Dist vs
  bel : Below B w0 w
  low : B ≤ w0.heap.size
  tk : TKept stkE w0 w
theorem SGrowSt.start {w : World} {B b : Nat} {tv uv : Value} {vs : List Value} {f : Nat → List Sctn} (h : SBookV w B b tv uv vs f r) (hB : B ≤ w.heap.size) : SGrowSt w w B b tv uv (.slice none 0 0) vs [] f 0 r :=
  ⟨h.blk, h.base, h.tvs, fun g hg => (h.tvs.lt g hg).2, fun j v hv _ => h.tl j v hv, fun j v hv => SSeen.of_own (h.tl j v hv), World.ownsRow_nil _ _ _ _, fun j u hu => by simp at hu, fun j u i v hu => by simp at hu, h.dist, Below.refl _ _, hB, TKept.refl _ _⟩
theorem SGrowSt.round {w0 w w1 w2 : World} {B b : Nat} {tv uv ov ov' v l : Value} {vs gs : List Value} {f : Nat → List Sctn} {k : Nat} {o : Obj} (h : SGrowSt w0 w B b tv uv ov vs gs f k r) (hv : vs[k]? = some v)
    (hg1 : w.grownBy w1 v.ownBlock) (hsv : SSeen w1 v (f k)) (hl : w1.ownsRow B 52 4 l ((f k).length + 72) (flt scC (smarks k 0 ((f k).length + 72)))) (hlb : l.ownBlock = v.ownBlock ∨ ∃ g, l.ownBlock = some g ∧ w.heap.size ≤ g)
    (hov : w2.ownsRow w0.heap.size 42 1 ov' (k + 1) (gs ++ [l])) (hg2 : (w1.alloc o).grownBy w2 ov.ownBlock) : SGrowSt w0 w2 B b tv uv ov' vs (gs ++ [l]) f (k + 1) r := by
  have hrow := h.rows k v hv (Nat.le_refl _)
  have hgl : gs.length = k := by have := h.ovs.1; omega
  have ovs1 : w1.ownsRow w0.heap.size 42 1 ov k gs := h.ovs.kept hg1 (own_apart h.ovs hrow (by decide)).ne
  have blk1 : w1.heap[b]? = some (.cells (sbookCells tv uv r) 36 (0, 0)) := by
    rw [hg1.block b (Array.getElem?_eq_some_iff.1 h.blk).1 (fun e => own_ne hrow h.blk (by decide) e.symm)]
    exact h.blk
  have tvs1 : w1.ownsRow B 42 1 tv vs.length vs := h.tvs.kept hg1 (own_apart h.tvs hrow (by decide)).ne
  have sk : SStrKept w1 w2 := (SStrKept.alloc w1 o).trans (SStrKept.grown (ovs1.alloc o) hg2 (by decide))
  have hto : Apart tv ov := fun g hg hu => by
    have a1 := h.tlt g hg
    have a2 := (h.ovs.lt g hu).1
    omega
  have low := h.low
  have sb := h.bel.size
  have s1 := hg1.size
  have sa : (w1.alloc o).heap.size = w1.heap.size + 1 := by show (w1.heap.push _).size = _; simp
  refine ⟨sgrow_book blk1 ovs1 hg2, h.base, (tvs1.alloc o).kept hg2 hto.ne, h.tlt, fun j u hu hj => ?_, fun j u hu => ?_, hov, fun j u hu => ?_, fun j u i x hu hx hi => ?_, h.dist, ?_, h.low, ?_⟩
  · exact sk.row ((h.rows j u hu (by omega)).kept hg1 (h.dist.get hu hv (by omega)).ne)
  · by_cases e : j = k
    · subst e
      rw [hv] at hu
      cases hu
      exact hsv.str sk
    · exact ((h.seen j u hu).kept hg1 (fun g hg e1 => h.dist.get hu hv e g hg e1)).str sk
  · by_cases hj : j < k
    · rw [List.getElem?_append_left (by omega)] at hu
      exact ((h.outs j u hu).kept hg1 (fun g hg e1 => h.far j u k v hu hv (Nat.le_refl _) g hg e1)).str sk
    · rw [List.getElem?_append_right (by omega)] at hu
      have h0 : j = k := by
        have := (List.getElem?_eq_some_iff.1 hu).1
        simp at this
        omega
      subst h0
      rw [hgl, Nat.sub_self] at hu
      simp at hu
      subst hu
      exact (SSeen.of_own hl).str sk
  · by_cases hj : j < k
    · rw [List.getElem?_append_left (by omega)] at hu
      exact h.far j u i x hu hx (by omega)
    · rw [List.getElem?_append_right (by omega)] at hu
      have h0 : j = k := by
        have := (List.getElem?_eq_some_iff.1 hu).1
        simp at this
        omega
      subst h0
      rw [hgl, Nat.sub_self] at hu
      simp at hu
      subst hu
      intro g hg hx2
      rcases hlb with e | ⟨g', e, hg'⟩
      · exact h.dist.get hv hx (by omega) g (by rw [← e]; exact hg) hx2
      · rw [e] at hg
        cases hg
        have := ((h.rows i x hx (by omega)).lt g hx2).2
        omega
  · have q1 : Below B w0 w1 := h.bel.trans (below_of_grown hg1 (fun g hg => (hrow.lt g hg).1) (by omega))
    exact (q1.alloc (by omega) o).grown hg2 (by omega) (fun g hg => by have := (h.ovs.lt g hg).1; omega)
  · exact ((h.tk.trans (TKept.grown hrow hg1 (by decide))).trans (TKept.alloc _ w1 o)).grownNew (ovs1.alloc o) hg2 (Nat.le_refl _)
end Go.Proofs.YtpifhjdbcdcelaaGreatDoor
namespace Go.Proofs.YtpifhjdbcdcelaaGreatDoor
open Go.RowKit
set_option linter.unusedSimpArgs false
set_option linter.unusedVariables false
variable {r : Nat → Value}
theorem scs_one (X : List Sctn) : ∀ u ∈ flt scC X, u.oneCell' = true := by
  intro u hu
  obtain ⟨x, _, hx⟩ := List.mem_flatMap.1 hu
  exact scC_one x u hx
/-- One list while it is grown: it has N smarks now. -/
structure SGrowMid (w1 wr : World) (B : Nat) (v : Value) (k n N : Nat) (l : Value) : Prop where
  own : wr.ownsRow B 52 4 l N (flt scC (smarks k 0 N))
  seen : SSeen wr v (smarks k 0 n)
  grown : w1.grownBy wr v.ownBlock
  at_ : l.ownBlock = v.ownBlock ∨ ∃ g, l.ownBlock = some g ∧ w1.heap.size ≤ g
  ge : n ≤ N
  low : B ≤ wr.heap.size
theorem SGrowMid.step {w1 wr w2 w3 : World} {B k n N m : Nat} {v l l' : Value} (h : SGrowMid w1 wr B v k n N l) (hv : ∀ g, v.ownBlock = some g → g < w1.heap.size) (hb : Below wr.heap.size wr w2)
    (ho : w3.ownsRow B 52 4 l' (N + m) (flt scC (smarks k 0 N) ++ flt scC (smarks k N m))) (hg : Grew w2 w3 l l') : SGrowMid w1 w3 B v k n (N + m) l' := by
  have s1 := h.grown.size
  have s2 := hb.size
  have hge := h.ge
  rw [← flt_append, smarks_add] at ho
  have sv := h.seen.below hb
  have g12 : w1.grownBy w2 v.ownBlock := h.grown.trans (grownBy_of_below hb _)
  rcases hg with ⟨e, hg⟩ | ⟨hg, g, e, hge2⟩
  · refine ⟨ho, ?_, ?_, ?_, by omega, by have := hg.size; have := h.low; omega⟩
    · rcases h.at_ with e2 | ⟨g, e2, hg2⟩
      · have e3 : flt scC (smarks k 0 (N + m)) = flt scC (smarks k 0 n) ++ flt scC (smarks k n (N + m - n)) := by
          rw [← flt_append, smarks_add, show n + (N + m - n) = N + m from by omega]
        rw [e3] at ho
        exact sv.in_place ho (by rw [e, e2])
      · refine sv.kept hg (fun g' hg' e4 => ?_)
        rw [e2] at e4
        cases e4
        have := hv _ hg'
        omega
    · exact g12.andThen hg (fun j hj => by
        rcases h.at_ with e2 | ⟨g, e2, hg2⟩
        · exact Or.inr (by rw [← e2]; exact hj)
        · rw [e2] at hj; cases hj; exact Or.inl hg2)
    · rcases h.at_ with e2 | ⟨g, e2, hg2⟩
      · exact Or.inl (by rw [e, e2])
      · exact Or.inr ⟨g, by rw [e, e2], hg2⟩
  · exact ⟨ho, sv.kept hg (fun _ _ e4 => by cases e4), g12.andThen hg (fun j hj => by cases hj), Or.inr ⟨g, e, by omega⟩, by omega, by have := hg.size; have := h.low; omega⟩
def SGrowIn (w1 : World) (B : Nat) (v : Value) (k n : Nat) (l q : Value) (wr : World) : Prop := ∃ j : Nat, q = .int .i64 j ∧ j ≤ 12 ∧ SGrowMid w1 wr B v k n (n + j) l
def SGrowRel (w0 : World) (B b : Nat) (tv uv : Value) (vs : List Value) (f : Nat → List Sctn) (ov i : Value) (wr : World) (r : Nat → Value) : Prop :=
  ∃ (k : Nat) (gs : List Value), i = .int .i64 k ∧ k ≤ vs.length ∧ SGrowSt w0 wr B b tv uv ov vs gs f k r
set_option maxHeartbeats 4000000 in
set_option maxRecDepth 100000 in
theorem growSecs_any (B b : Nat) (tv uv : Value) (vs : List Value) (f : Nat → List Sctn) (w : World) (hB : B ≤ w.heap.size) (h : SBookV w B b tv uv vs f r) (hm : vs.length ≤ 1000) (hf : ∀ i, i < vs.length → f i = smarks i 0 (f i).length ∧ (f i).length ≤ 100000) :
    Calls Tryz.prog 48 #[.pointer (some ⟨b, 0, none⟩)] w fun e w' => ∃ ov gs, e = .returned ov ∧ SGrowSt w w' B b tv uv ov vs gs f vs.length r := by
  obtain ⟨i0, hi, hz0, hz1, hz2⟩ := info_parts infoSec
  obtain ⟨j0, hj, hy0, hy1, hy2⟩ := info_parts sinfoSlice
  have H := Lib.hid h
  have HF := Lib.hid hf
  clear h hf
  go_enter Tryz.func48, Tryz.ntmps48
  go_wp2_with fail
  go_loopw [3, 4] (fun ov i wr => SGrowRel w B b tv uv vs f ov i wr r) (fun _ i _ => vs.length - (intOf i).toNat)
  case atStart => exact ⟨0, [], rfl, Nat.zero_le _, SGrowSt.start H.out hB⟩
  case round =>
    obtain ⟨k, gs, rfl, hk, hst⟩ := hrel
    obtain ⟨At, ct, rfl, _, _⟩ := RowOf.own hst.tvs
    have hc0 : wr.cell? ⟨b, 12, none⟩ = some (.slice At vs.length ct) := (cell_of_row wr b 12 _ _ (0, 0) hst.blk).trans rfl
    by_cases hp : k < vs.length
    · obtain ⟨gt, rfl, hgt, hct⟩ := row_cell hst.tvs hp
      have hv := List.getElem?_eq_getElem hp
      have hrow := hst.rows k _ hv (Nat.le_refl _)
      obtain ⟨hfk, hfn⟩ := HF.out k hp
      generalize hvk : vs[k] = v at *
      obtain ⟨A1, c1, rfl, hr1⟩ := EltsAt.own scC_length hrow
      generalize hn : (f k).length = n at *
      rw [hfk] at hrow
      have hvl : ∀ g, (Value.slice A1 n c1).ownBlock = some g → g < wr.heap.size := fun g hg => (hrow.lt g hg).2
      have hlow : B ≤ wr.heap.size := by have := hst.bel.size; omega
      have hmid : SGrowMid wr wr B (.slice A1 n c1) k n (n + 0) (.slice A1 n c1) := ⟨hrow, SSeen.of_own hrow, World.grownBy.refl _ _, Or.inl rfl, by omega, hlow⟩
      have HST := Lib.hid hst
      have HV := Lib.hid hv
      have HFK := Lib.hid hfk
      have HN := Lib.hid hn
      have HVL := Lib.hid hvl
      have HM := Lib.hid hmid
      clear hst hv hvk hrow hfk hn hvl hmid hr1
      obtain ⟨wo, rfl⟩ : ∃ wo : World, wo = wr := ⟨_, rfl⟩
      go_wp2_with fail
      go_loopw [5, 6] (fun l q w' => SGrowIn wo B (.slice A1 n c1) k n l q w') (fun _ q _ => 12 - (intOf q).toNat)
      case atStart => exact ⟨0, rfl, by omega, HM.out⟩
      case round =>
        obtain ⟨j, rfl, hj12, hgm⟩ := hrel
        obtain ⟨A2, c2, rfl, _⟩ := own_form hgm.own
        by_cases hp2 : j < 12
        · have hlo := hgm.low
          have HG := Lib.hid hgm
          clear hgm
          go_wp2_with fail
          refine (markSecs_any k (n + j) 1 wr (by omega) (by omega) (by omega) (by omega)).mono ?_
          rintro e w2 ⟨mv, rfl, hownm, b2⟩
          obtain ⟨gm, cm, rfl, _, _⟩ := hownm.form (by omega)
          have hnews := hownm.cells (g := gm) rfl
          have hs2 := b2.size
          have hl1 : (flt scC (smarks k (n + j) 1)).length = 1 * 4 := by rw [flt_length scC_length, smarks_length]
          have h1c := scs_one (smarks k (n + j) 1)
          have hown2 := ownsRow_below HG.out.own b2
          have HL1 := Lib.hid hl1
          clear hownm hl1
          go_wp2_with (at_builtin; refine wpList_append_two _ rfl _ _ 42 rfl B 52 i0 (.agg #[.int .i64 0, .string ByteArray.empty, .string ByteArray.empty, .string ByteArray.empty]) 4 56 Tryz.underlying42 hi hz0 hz1 hz2 rfl (by decide) A2 (n + j) c2 _ rfl hown2 (by omega) ⟨gm, 0, none⟩ 1 cm (flt scC (smarks k (n + j) 1)) rfl HL1.out hnews h1c (by omega) (by unfold maxLen; omega) (by omega) ?_)
          intro l' w3 hown3 hgrew
          have HMid := Lib.hid (HG.out.step HVL.out b2 hown3 hgrew)
          clear hown3 hgrew hnews hown2 h1c
          go_wp2
          go_roundw
          case rel => exact ⟨j + 1, by go_num, by omega, HMid.out⟩
          case measure => simp [intOf]; omega
        · obtain rfl : j = 12 := by omega
          have hlo := hgm.low
          have HG := Lib.hid hgm
          clear hgm
          go_wp2_with fail
          refine (markSecs_any k (n + 12) 60 wr (by omega) (by omega) (by omega) (by omega)).mono ?_
          rintro e w2 ⟨mv, rfl, hownm, b2⟩
          obtain ⟨gm, cm, rfl, _, _⟩ := hownm.form (by omega)
          have hnews := hownm.cells (g := gm) rfl
          have hs2 := b2.size
          have hl1 : (flt scC (smarks k (n + 12) 60)).length = 60 * 4 := by rw [flt_length scC_length, smarks_length]
          have h1c := scs_one (smarks k (n + 12) 60)
          have hown2 := ownsRow_below HG.out.own b2
          have HL1 := Lib.hid hl1
          clear hownm hl1
          go_wp2_with (at_builtin; refine wpList_append_two _ rfl (.tmp 34) (.tmp 38) 42 rfl B 52 i0 (.agg #[.int .i64 0, .string ByteArray.empty, .string ByteArray.empty, .string ByteArray.empty]) 4 56 Tryz.underlying42 hi hz0 hz1 hz2 rfl (by decide) A2 (n + 12) c2 _ rfl hown2 (by omega) ⟨gm, 0, none⟩ 60 cm (flt scC (smarks k (n + 12) 60)) rfl HL1.out hnews h1c (by omega) (by unfold maxLen; omega) (by omega) ?_)
          intro l' w3 hown3 hgrew
          obtain ⟨A3, c3, rfl, _⟩ := own_form hown3
          have hmd := HG.out.step HVL.out b2 hown3 hgrew
          have hov3 := HST.out.ovs.kept hmd.grown (own_apart HST.out.ovs (HST.out.rows k _ HV.out (Nat.le_refl _)) (by decide)).ne
          have hs3 := hmd.grown.size
          have hbl := HST.out.bel.size
          have HMid := Lib.hid hmd
          clear hown3 hgrew hnews hown2 h1c hmd
          go_wp2_with (at_builtin; refine wpList_append_own _ rfl (.tmp 33) (.tmp 40) 33 rfl w.heap.size 42 j0 (.slice none 0 0) 1 24 Tryz.underlying33 hj hy0 hy1 hy2 rfl (by decide) _ k gs rfl (hov3.alloc _) ⟨w3.heap.size, 0, none⟩ 1 1 [.slice A3 (n + 12 + 60) c3] rfl rfl ?c1 ?c2 ?c3 ?c4 ?c5 ?_)
          case c1 => exact cells_one w3 _ _
          case c2 => exact one_slice _ _ _
          case c3 => unfold maxLen; omega
          case c4 => omega
          case c5 => simp; omega
          · intro ov' w4 hown4 hgrow4 _
            have HR := Lib.hid (HST.out.round HV.out HMid.out.grown (by rw [HFK.out]; exact HMid.out.seen) (by rw [HN.out]; exact HMid.out.own) HMid.out.at_ hown4 hgrow4)
            clear hown4 hgrow4
            go_wp2
            go_roundw
            case rel => exact ⟨k + 1, _, by go_num, by omega, HR.out⟩
            case measure => simp [intOf]; omega
    · obtain rfl : k = vs.length := by omega
      have HST := Lib.hid hst
      clear hst
      go_wp2
      go_ret
      exact ⟨_, gs, rfl, HST.out⟩
end Go.Proofs.YtpifhjdbcdcelaaGreatDoor

namespace Go.Proofs.YtpifhjdbcdcelaaGreatDoor
open Go.RowKit
set_option linter.unusedSimpArgs false
set_option linter.unusedVariables false
variable {r : Nat → Value}
theorem SGrowSt.marked {w0 w : World} {B b : Nat} {tv uv ov : Value} {vs gs : List Value} {f : Nat → List Sctn} {m : Nat} (h : SGrowSt w0 w B b tv uv ov vs gs f m r) (hf : ∀ i, i < vs.length → f i = smarks i 0 (f i).length ∧ (f i).length ≤ 100000) (hm : m = vs.length) :
    SMarked w vs ∧ SMarked w gs := by
  constructor
  · intro i v hv
    have hi := (List.getElem?_eq_some_iff.1 hv).1
    obtain ⟨e, hl⟩ := hf i hi
    obtain ⟨A, c, rfl, hr⟩ := (h.seen i v hv).row
    rw [e, smarks_length]
    rw [e] at hr
    exact ⟨A, _, c, rfl, by omega, hr⟩
  · intro i v hv
    have hi := (List.getElem?_eq_some_iff.1 hv).1
    have hgl : gs.length = m := by have := h.ovs.1; omega
    obtain ⟨e, hl⟩ := hf i (by omega)
    obtain ⟨A, c, rfl, hr⟩ := (h.outs i v hv).row
    rw [smarks_length]
    exact ⟨A, _, c, rfl, by omega, hr⟩
end Go.Proofs.YtpifhjdbcdcelaaGreatDoor
namespace Go.Proofs.YtpifhjdbcdcelaaGreatDoor
open Go.RowKit
set_option linter.unusedSimpArgs false
set_option linter.unusedVariables false
variable {r : Nat → Value}
theorem copySecs_any (A : Option Addr) (cap : Nat) (ls : List Sctn) (w : World) (hrow : SecsAt w A cap ls) (hn : ls.length ≤ 1000000) :
    Calls Tryz.prog 22 #[.slice A ls.length cap] w fun e w' => ∃ v, e = .returned v ∧ w'.ownsRow w.heap.size 52 4 v ls.length (flt scC ls) ∧ Below w.heap.size w w' := by
  obtain ⟨i0, hi, hz0, hz1, hz2⟩ := info_parts infoSec
  have hl := flt_length scC_length ls
  have h1 := scs_one ls
  rcases A with _ | ad
  · have h0 : ls = [] := by
      rcases hrow.cells with h | ⟨b, off, e, _⟩
      · exact h
      · cases e
    subst h0
    go_enter Tryz.func22, Tryz.ntmps22
    go_wp2
    go_ret
    exact ⟨_, rfl, World.ownsRow_nil _ _ _ _, Below.refl _ _⟩
  · have hc := hrow.flat scC_length (by decide)
    have HL := Lib.hid hl
    clear hl
    go_enter Tryz.func22, Tryz.ntmps22
    go_wp2_with (at_builtin; refine wpList_append_own _ rfl _ _ 42 rfl w.heap.size 52 i0 (.agg #[.int .i64 0, .string ByteArray.empty, .string ByteArray.empty, .string ByteArray.empty]) 4 56 Tryz.underlying42 hi hz0 hz1 hz2 rfl (by decide) _ 0 [] rfl (World.ownsRow_nil _ _ _ _) ad ls.length cap (flt scC ls) rfl HL.out hc h1 (by unfold maxLen; omega) (by omega) (Nat.le_refl _) ?_)
    intro v' w2 hown' hgrow _
    have hb := (Below.refl w.heap.size w).grown hgrow (Nat.le_refl _) (fun k hk => by simp [Value.ownBlock] at hk)
    have HO := Lib.hid hown'
    clear hown' hgrow
    go_wp2
    go_ret
    exact ⟨_, rfl, HO.out, hb⟩
theorem scopy_at (B b : Nat) (A : Option Addr) (cap : Nat) (ls : List Sctn) (tv uv : Value) (us : List Value) (W : World) (hrow : SecsAt W A cap ls) (hl : ls.length ≤ 1000000)
    (hb : W.heap[b]? = some (.cells (sbookCells tv uv r) 36 (0, 0))) (huv : W.ownsRow B 42 1 uv us.length us) :
    Calls Tryz.prog 22 #[.slice A ls.length cap] W.drew fun e w' => ∃ Au cu, e = .returned (.slice Au ls.length cu) ∧ w'.cell? ⟨b, 13, none⟩ = some uv ∧ (∀ o, (w'.alloc o).cell? ⟨b, 13, none⟩ = some uv) ∧ SCopyPost B b ls tv uv us W Au cu w' r := by
  refine (copySecs_any A cap ls W.drew (EltsAt.heap (w := W) (w' := W.drew) rfl hrow) hl).mono ?_
  rintro e w3 ⟨v, rfl, hown, hb3⟩
  obtain ⟨Au, cu, rfl, _⟩ := own_form hown
  have hb4 : Below W.heap.size W w3 := ⟨hb3.os, hb3.tape, hb3.output, hb3.size, hb3.block⟩
  have e1 := (hb4.block b (Array.getElem?_eq_some_iff.1 hb).1).trans hb
  exact ⟨Au, cu, rfl, (sbook_cell e1).1, fun o => (sbook_cell ((Below.heap_alloc w3 o b (Array.getElem?_eq_some_iff.1 e1).1).trans e1)).1, hb4, e1, ownsRow_below huv hb4, hown⟩
set_option maxHeartbeats 1000000 in
set_option maxRecDepth 100000 in
theorem secs_anyK (B b : Nat) (tv uv : Value) (vs us : List Value) (lss : List (List Sctn)) (A : Option Addr) (cap : Nat) (ls : List Sctn) (w : World) (hB : B ≤ w.heap.size)
    (h : SBookIs w B b tv uv vs us lss r) (hown : w.ownsRow B 52 4 (.slice A ls.length cap) ls.length (flt scC ls)) (hd : ∀ u ∈ vs ++ us, Apart (.slice A ls.length cap) u)
    (hm : vs.length < 250) (hl : ls.length ≤ 1000000) :
    Calls Tryz.prog 9 #[.pointer (some ⟨b, 0, none⟩), .slice A ls.length cap] w fun e w' => e = .returned (.tuple #[]) ∧
      (∃ tv' uv' u, SBookIs w' B b tv' uv' (vs ++ [.slice A ls.length cap]) (us ++ [u]) (lss ++ [ls]) r ∧ ∀ g, u.ownBlock = some g → w.heap.size ≤ g) ∧ SStrKept w w' ∧ TKept stkL w w' ∧ Below B w w' := by
  obtain ⟨i0, hi, hz0, hz1, hz2⟩ := info_parts sinfoSlice
  obtain ⟨At, ct, rfl, hrowt, _⟩ := RowOf.own h.tvs
  have hc0 : w.cell? ⟨b, 12, none⟩ = some (.slice At vs.length ct) := (h.cell 12).trans rfl
  have hbl := h.lt
  have htv := h.tvs
  have H := Lib.hid h
  have HD := Lib.hid hd
  have HO := Lib.hid hown
  clear h hd hown
  go_enter Tryz.func9, Tryz.ntmps9
  go_wp2_with (at_builtin; refine wpList_append_lies _ rfl _ _ 33 rfl B 42 i0 (.slice none 0 0) 1 24 Tryz.underlying33 hi hz0 hz1 hz2 rfl (by decide) _ _ _ rfl (htv.alloc _) ⟨w.heap.size, 0, none⟩ 1 1 [.slice A ls.length cap] rfl rfl ?c1 ?c2 (by omega) ?c3 ?c4 ?c5 _ rfl ?_)
  case c1 =>
    intro j u hj
    match j, hj with
    | 0, hj => simp at hj; subst hj; simp [Addr.add]
  case c2 => intro u hu; simp at hu; subst hu; rfl
  case c3 => unfold maxLen; omega
  case c4 => omega
  case c5 => simp; omega
  · intro g1 cap1 w1 hown1 hgrow hat hlt
    have hblk1 := sgrow_book H.out.blk htv hgrow
    have hc1 : w1.cell? ⟨b, 12, none⟩ = some (.slice At vs.length ct) := (cell_of_row w1 b 12 _ _ (0, 0) hblk1).trans rfl
    have hf1 : w1.frozen? ⟨b, 12, none⟩ = false := by simp [World.frozen?, hblk1]
    have hblk2 := sbook_set0 hblk1 (Value.slice (some ⟨g1, 0, none⟩) (vs.length + 1) cap1)
    have hs1 := hgrow.size
    have hsw : (w.alloc (.cells #[.slice A ls.length cap] 42)).heap.size = w.heap.size + 1 := by show (w.heap.push _).size = _; simp
    have hB2 : B ≤ w1.heap.size := by omega
    have hsk : SStrKept w (w1.setCell ⟨b, 12, none⟩ (Value.slice (some ⟨g1, 0, none⟩) (vs.length + 1) cap1)) := ((SStrKept.alloc w _).trans (SStrKept.grown (htv.alloc _) hgrow (by decide))).trans (SStrKept.setCell hblk1 (by decide) 12 _)
    have huv2 : (w1.setCell ⟨b, 12, none⟩ (Value.slice (some ⟨g1, 0, none⟩) (vs.length + 1) cap1)).ownsRow B 42 1 uv us.length us :=
      own_set ((H.out.uvs.alloc _).kept hgrow H.out.ne.symm.ne) hblk1 (by decide) 12 _
    have HG := Lib.hid hgrow
    have HW := Lib.hid hown1
    have HA := Lib.hid hat
    have HL := Lib.hid hlt
    clear hblk1 hgrow hown1 hat hlt hs1 hsw
    go_wp2
    obtain ⟨w2, hw2⟩ : ∃ w2, w2 = w1.setCell ⟨b, 12, none⟩ (Value.slice (some ⟨g1, 0, none⟩) (vs.length + 1) cap1) := ⟨_, rfl⟩
    rw [← hw2] at hblk2 hsk huv2 ⊢
    have hB3 : B ≤ w2.heap.size := by rw [hw2]; simp [World.setCell]; omega
    have hc2 := (sbook_cell hblk2).1
    have hf2 : w2.frozen? ⟨b, 13, none⟩ = false := by simp [World.frozen?, hblk2]
    have hus : us.length < 250 := by have h1 := H.out.tl.1; have h2 := H.out.ul.1; omega
    obtain ⟨Ar, cr, hlr, hrow⟩ := EltsAt.own scC_length (hsk.row HO.out)
    cases hlr
    have HC := Lib.hid (scopy_at B b A cap ls _ uv us w2 hrow hl hblk2 huv2)
    have HW2 := Lib.hid hw2
    clear hblk2 hsk huv2 hrow hw2
    go_region_law (first | (go_simp; go_at_call 22; refine HC.out.mono ?_; rintro e w3 ⟨Au, cu, rfl, hc3, hc5, hp3⟩) | (refine step_append_lies _ rfl (.tmp 24) (.tmp 27) _ rfl B 42 i0 (.slice none 0 0) 1 24 Tryz.underlying33 hi hz0 hz1 hz2 rfl (by decide) uv us.length us rfl (hp3.own.alloc _) ⟨w3.heap.size, 0, none⟩ 1 1 [.slice Au ls.length cu] rfl rfl (cells_one w3 _ _) (one_slice _ _ _) (by omega) (by unfold maxLen; omega) (by omega) (by have hs3 := hp3.below.size; simp; omega) _ rfl ?_; intro g4 cap4 w4 hown4 hgrow4 hat4 hlt4; have hblk4 := sgrow_book hp3.blk hp3.own hgrow4; have hc4 := (sbook_cell hblk4).1; have hf4 : w4.frozen? ⟨b, 13, none⟩ = false := by simp [World.frozen?, hblk4]))
    all_goals
      go_wp2
      go_end0
      exact ⟨rfl, stexts_end B b _ uv vs us lss A cap ls w hB H.out HO.out HD.out _ w1 g1 cap1 HW.out HG.out HA.out HL.out w2 HW2.out w3 Au cu hp3 _ w4 g4 cap4 hown4 hgrow4 hat4⟩
end Go.Proofs.YtpifhjdbcdcelaaGreatDoor
