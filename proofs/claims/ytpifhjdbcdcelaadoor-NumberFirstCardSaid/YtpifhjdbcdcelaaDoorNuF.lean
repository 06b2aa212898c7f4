/-
  Package number: Sections.
-/
import Derived.Test.YtpifhjdbcdcelaaDoorNuE
import Derived.Test.YtpifhjdbcdcelaaDoorScn
import Derived.Test.YtpifhjdbcdcelaaDoorSlE
namespace Go.Proofs.YtpifhjdbcdcelaaDoor
open Go.RowKit Go.Maps
set_option linter.unusedSimpArgs false
set_option linter.unusedVariables false
set_option maxRecDepth 100000

/-! ### plain -/
def ancL (ts : List (List UInt8)) : List (List UInt8) := ts.foldl (fun h s => h ++ [slNext h s]) []
theorem ancL_snoc (ts : List (List UInt8)) (s : List UInt8) : ancL (ts ++ [s]) = ancL ts ++ [slNext (ancL ts) s] := by simp [ancL]
theorem ancL_len (ts : List (List UInt8)) : (ancL ts).length = ts.length := by
  refine snocRec (P := fun ts => (ancL ts).length = ts.length) rfl (fun l d ih => ?_) ts
  show (ancL (l ++ [d])).length = (l ++ [d]).length
  rw [ancL_snoc]; simp [ih]
def hdT (x : Hdg) : List UInt8 := x.tx.data.toList
def secOne (X : List Hdg) (i : Nat) : Sctn := ⟨(X.map Hdg.lv).getD i 0, (allN (X.map Hdg.lv)).getD i [], slNext (ancL ((X.take i).map hdT)) ((X.map hdT).getD i []), (X.map hdT).getD i []⟩
def zeroSec : Sctn := ⟨0, [], [], []⟩
def secTo (X : List Hdg) (k : Nat) : List Sctn := (List.range k).map (secOne X)
def secL (X : List Hdg) : List Sctn := secTo X X.length
def secRow (X : List Hdg) (k : Nat) : List Sctn := secTo X k ++ List.replicate (X.length - k) zeroSec
theorem secL_len (X : List Hdg) : (secL X).length = X.length := by simp [secL, secTo]
theorem secRow_len (X : List Hdg) (k : Nat) (h : k ≤ X.length) : (secRow X k).length = X.length := by simp [secRow, secTo]; omega
theorem secRow_all (X : List Hdg) : secRow X X.length = secL X := by simp [secRow, secL]
theorem secRow_step (X : List Hdg) (k : Nat) (h : k < X.length) : secRow X (k + 1) = (secRow X k).set k (secOne X k) := by
  unfold secRow secTo
  rw [List.range_succ, show X.length - k = (X.length - (k + 1)) + 1 from by omega, List.replicate_succ]
  rw [List.set_append_right _ _ (by simp)]
  simp
theorem anc_take (X : List Hdg) (k : Nat) (h : k < X.length) : ancL ((X.take (k + 1)).map hdT) = ancL ((X.take k).map hdT) ++ [slNext (ancL ((X.take k).map hdT)) (hdT X[k])] := by
  rw [List.take_succ_eq_append_getElem h, List.map_append, List.map_cons, List.map_nil, ancL_snoc]
theorem secOne_at (X : List Hdg) (k : Nat) (h : k < X.length) (hn : k < (allN (X.map Hdg.lv)).length) : secOne X k = ⟨X[k].lv, (allN (X.map Hdg.lv))[k], slNext (ancL ((X.take k).map hdT)) (hdT X[k]), hdT X[k]⟩ := by
  unfold secOne
  simp only [List.getD_eq_getElem?_getD, List.getElem?_map, List.getElem?_eq_getElem h, List.getElem?_eq_getElem hn, Option.map_some, Option.getD_some]

/-! ### what the anchors' own doings leave -/
theorem anc_block {w w' : World} {B b : Nat} {m : Value} {had : List (List UInt8)} (ha : AncIs w B b m had) (ht : AncTurn w w' b m) {g : Nat} {cs : Array Value} {t : TypeId} {fz : Nat × Nat} (hg : w.heap[g]? = some (.cells cs t fz)) (hne : t ≠ 45) : w'.heap[g]? = some (.cells cs t fz) := by
  rw [ht.rest g (Array.getElem?_eq_some_iff.1 hg).1 ?_ ?_]
  · exact hg
  · rintro rfl
    rw [ha.blk] at hg
    injection hg with hg
    injection hg with _ h2
    exact hne h2.symm
  · intro e
    rcases ha.map with ⟨e3, _⟩ | ⟨g2, n2, D, e3, _, hm, _⟩
    · rw [e] at e3; simp at e3
    · rw [e] at e3
      simp at e3
      subst e3
      exact slMap_ne hm hg rfl
theorem anc_row {w w' : World} {B B' b n size : Nat} {e : TypeId} {v m : Value} {xs : List Value} {had : List (List UInt8)} (h : w.ownsRow B' e size v n xs) (ha : AncIs w B b m had) (ht : AncTurn w w' b m) (hne : e ≠ 45) : w'.ownsRow B' e size v n xs := by
  refine ⟨h.1, ?_⟩
  rcases h.2 with h2 | ⟨g, cap, cur, rfl, hB, hg, hr⟩
  · exact .inl h2
  · exact .inr ⟨g, cap, cur, rfl, hB, anc_block ha ht hg hne, hr⟩
/-- A row of another type turns: the anchors stay. -/
theorem AncIs.rowSet {w w' : World} {B B' b n size : Nat} {e : TypeId} {v m : Value} {xs : List Value} {had : List (List UInt8)} (h : AncIs w B b m had) (k : w.ownsRow B' e size v n xs) (hg : w.grownBy w' v.ownBlock) (hne : e ≠ 45) : AncIs w' B b m had := by
  refine ⟨(hg.block b (Array.getElem?_eq_some_iff.1 h.blk).1 (fun e1 => own_ne k h.blk hne e1.symm)).trans h.blk, h.base, ?_⟩
  rcases h.map with h1 | ⟨g', n', D, e1, hg', hm', r⟩
  · exact .inl h1
  · refine .inr ⟨g', n', D, e1, hg', slMap_block hm' (hg.block g' hm'.lt (fun e2 => ?_)), r⟩
    rcases k.2 with ⟨rfl, _⟩ | ⟨g, cap, cur, rfl, _, hgg, _⟩
    · simp [Value.ownBlock] at e2
    · simp [Value.ownBlock] at e2
      subst e2
      exact slMap_ne hm' hgg rfl

/-- A section's four cells are written. -/
def secPut (w : World) (g o : Nat) (c0 c1 c2 c3 : Value) : World :=
  (((w.setCell ⟨g, o, none⟩ c0).setCell ⟨g, o + 1, none⟩ c1).setCell ⟨g, o + 2, none⟩ c2).setCell ⟨g, o + 3, none⟩ c3
theorem sec_store {w : World} {B g n q : Nat} {R : List Sctn} (h : w.ownsRow B 36 4 (.slice (some ⟨g, 0, none⟩) n n) n (flt scC R)) (hR : R.length = n) (hq : q < n) (y : Sctn) (c0 c1 c2 c3 : Value) (hy : scC y = [c0, c1, c2, c3]) :
    (secPut w g (q * 4) c0 c1 c2 c3).ownsRow B 36 4 (.slice (some ⟨g, 0, none⟩) n n) n (flt scC (R.set q y)) ∧ w.grownBy (secPut w g (q * 4) c0 c1 c2 c3) (some g) := by
  obtain ⟨s1, g1⟩ := h.stored (q * 4) c0
  obtain ⟨s2, g2⟩ := s1.stored (q * 4 + 1) c1
  obtain ⟨s3, g3⟩ := s2.stored (q * 4 + 2) c2
  obtain ⟨s4, g4⟩ := s3.stored (q * 4 + 3) c3
  rw [flt_set4 scC_length c0 c1 c2 c3 y hy R q (by omega)] at s4
  exact ⟨s4, ((g1.trans g2).trans g3).trans g4⟩
theorem sec_zero (n : Nat) : flt scC (List.replicate n zeroSec) = (madeCells #[.int .i64 0, .string ByteArray.empty, .string ByteArray.empty, .string ByteArray.empty] (n * 4)).toList := by
  apply List.ext_getElem?
  intro i
  have hl : (flt scC (List.replicate n zeroSec)).length = n * 4 := by rw [flt_length scC_length]; simp
  by_cases hi : i < n * 4
  · have hk : i / 4 < (List.replicate n zeroSec).length := by rw [List.length_replicate]; omega
    have hj : i % 4 < 4 := by omega
    have hs : scC (List.replicate n zeroSec)[i / 4] = [.int .i64 0, .string ByteArray.empty, .string ByteArray.empty, .string ByteArray.empty] := by rw [List.getElem_replicate]; rfl
    have hg := flt_get scC_length (List.replicate n zeroSec) (i / 4) hk (i % 4) _ (List.getElem?_eq_getElem (by rw [scC_length]; exact hj))
    rw [show i / 4 * 4 + i % 4 = i from by omega] at hg
    rw [hg]
    have h2 : (madeCells #[.int .i64 0, .string ByteArray.empty, .string ByteArray.empty, .string ByteArray.empty] (n * 4)).toList[i]? = some (#[Value.int .i64 0, .string ByteArray.empty, .string ByteArray.empty, .string ByteArray.empty][i % 4]'hj) := by
      unfold madeCells
      rw [Array.getElem?_toList, Array.getElem?_map, Array.getElem?_range]
      simp only [hi, if_true, Option.map_some]
      exact congrArg some (getElem!_pos (#[Value.int .i64 0, .string ByteArray.empty, .string ByteArray.empty, .string ByteArray.empty] : Array Value) (i % 4) hj)
    rw [h2]
    simp only [hs]
    rfl
  · rw [List.getElem?_eq_none (by omega), List.getElem?_eq_none (by rw [Array.length_toList, size_madeCells]; omega)]
def NsRel (X : List Hdg) (w : World) (g b : Nat) (nv i : Value) (wr : World) : Prop :=
  ∃ (k : Nat) (m : Value), i = .int .i64 k ∧ k ≤ X.length ∧ wr.ownsRow w.heap.size 36 4 (.slice (some ⟨g, 0, none⟩) X.length X.length) X.length (flt scC (secRow X k)) ∧ wr.ownsRow w.heap.size 9 1 nv X.length (strs (allN (X.map Hdg.lv))) ∧ AncIs wr w.heap.size b m (ancL ((X.take k).map hdT)) ∧ Below w.heap.size w wr

set_option maxHeartbeats 8000000 in
theorem sections_any (A : Option Addr) (cap : Nat) (X : List Hdg) (w : World) (hrow : EltsAt w hdC 2 A cap X) (hl : X.length ≤ 60) (hx : ∀ x ∈ X, x.tx.size ≤ 1000) :
    Calls Tryd.prog 8 #[.slice A X.length cap] w fun e w' => ∃ v, e = .returned v ∧ w'.ownsRow w.heap.size 36 4 v X.length (flt scC (secL X)) ∧ Below w.heap.size w w' := by
  obtain ⟨i0, hi, hz0, hz1, hz2⟩ := info_parts infoSec
  have HROW := Lib.hid hrow
  have HX := Lib.hid hx
  have hc1 := hrow.le
  have hc2 := hrow.cap
  unfold maxLen at hc2
  have CL := Lib.hid (levels_any A cap X w hrow (by omega))
  clear hrow hx
  go_enter Tryd.func8, Tryd.ntmps8
  go_wp2_with fail
  refine CL.out.mono ?_
  rintro e w1 ⟨v1, rfl, hv1, b1⟩
  obtain ⟨A1, c1, rfl, hr1, _⟩ := RowOf.own hv1
  have ca := all_any A1 c1 (X.map Hdg.lv) w1 hr1 (by rw [List.length_map]; omega)
  rw [List.length_map] at ca
  have CA := Lib.hid ca
  have HB1 := Lib.hid b1
  clear ca hv1 hr1 b1
  go_wp2_with fail
  refine CA.out.mono ?_
  rintro e w2 ⟨v2, rfl, hv2, b2⟩
  have HV2 := Lib.hid (own_low hv2 HB1.out.size)
  have HB2 := Lib.hid (HB1.out.then b2)
  have hs2 := HB2.out.size
  clear hv2 b2
  go_wp2_with (refine wpList_make_full _ rfl _ _ 31 rfl w.heap.size 36 i0 (.agg #[.int .i64 0, .string ByteArray.empty, .string ByteArray.empty, .string ByteArray.empty]) 4 Tryd.underlying31 hi hz0 hz1 .i64 .i64 _ _ X.length rfl rfl rfl rfl (by rw [hz2]; omega) (by unfold maxLen; omega) hs2 ?_)
  intro w3 hown hgr
  have hs3 := hgr.size
  have hb3 : Below w2.heap.size w2 w3 := below_of_grown hgr (fun g hg => by cases hg) (Nat.le_refl _)
  rw [← sec_zero] at hown
  have HO := Lib.hid (show (w3.alloc (.cells #[.map none] 45)).ownsRow w.heap.size 36 4 (.slice (some ⟨w2.heap.size, 0, none⟩) X.length X.length) X.length (flt scC (secRow X 0)) from by
    rw [show secRow X 0 = List.replicate X.length zeroSec from by simp [secRow, secTo]]
    exact hown.alloc _)
  have HN := Lib.hid ((ownsRow_below HV2.out hb3).alloc (.cells #[.map none] 45))
  have HA := Lib.hid (show AncIs (w3.alloc (.cells #[.map none] 45)) w.heap.size w3.heap.size (.map none) (ancL ((X.take 0).map hdT)) from AncIs.new (heap_alloc_new _ _) (by omega))
  have HB3 := Lib.hid ((HB2.out.then hb3).alloc (by omega) (.cells #[.map none] 45))
  clear hown hgr hb3
  go_wp2_with fail
  go_loopw [16] (fun i wr => NsRel X w w2.heap.size w3.heap.size v2 i wr) (fun i wr => X.length - (intOf i).toNat)
  case atStart => exact ⟨0, .map none, rfl, Nat.zero_le _, HO.out, HN.out, HA.out, HB3.out⟩
  case round =>
    obtain ⟨k, m, rfl, hk, hown, hnum, hanc, hbw⟩ := hrel
    by_cases hp : k < X.length
    · obtain ⟨ab, ao, rfl, hab, hac⟩ := HROW.out.at hp
      have hab2 := hbw.size
      have c0 : wr.cell? ⟨ab, ao + k * 2, none⟩ = some (.int .i64 X[k].lv) := (hbw.cell (p := ⟨ab, ao + k * 2, none⟩) hab).trans (hac 0 _ rfl)
      have c1 : wr.cell? ⟨ab, ao + k * 2 + 1, none⟩ = some (.string X[k].tx) := (hbw.cell (p := ⟨ab, ao + k * 2 + 1, none⟩) hab).trans (hac 1 _ rfl)
      have hxs := HX.out X[k] (List.getElem_mem hp)
      have hnl : k < (allN (X.map Hdg.lv)).length := by rw [allN_len, List.length_map]; exact hp
      have hst := secRow_step X k hp
      rw [secOne_at X k hp hnl] at hst
      have han := anc_take X k hp
      have hal : (ancL ((X.take k).map hdT)).length ≤ 60 := by rw [ancL_len, List.length_map, List.length_take]; omega
      have HST := Lib.hid hst
      have HAN := Lib.hid han
      have HRL := Lib.hid (secRow_len X k hk)
      generalize hhad : ancL ((X.take k).map hdT) = had at *
      generalize hx0 : X[k] = x at *
      obtain ⟨lv, tx⟩ := x
      dsimp only [hdT] at c0 c1 hxs hst han HST HAN
      obtain ⟨An, cn, rfl, hrn, _⟩ := RowOf.own hnum
      obtain ⟨nb, no, rfl, hnb, hnc⟩ := RowOf.cellAt hrn hnl
      have HNX := Lib.hid (fun (W : World) (hW : W.ownsRow w.heap.size 9 1 (.slice (some ⟨nb, no, none⟩) X.length cn) X.length (strs (allN (X.map Hdg.lv)))) => (show W.cell? ⟨nb, no + k, none⟩ = some (.string ⟨((allN (X.map Hdg.lv))[k]).toArray⟩) from by
        obtain ⟨A9, c9, e9, h9, _⟩ := RowOf.own hW
        cases e9
        obtain ⟨nb9, no9, e8, _, h8⟩ := RowOf.cellAt h9 hnl
        cases e8
        exact h8))
      generalize (allN (X.map Hdg.lv))[k] = nu at *
      have hA := hown.alloc (.cells #[.int .i64 lv, .string tx] 34)
      have hN := hnum.alloc (.cells #[.int .i64 lv, .string tx] 34)
      have bA := (Below.refl wr.heap.size wr).alloc (Nat.le_refl _) (.cells #[.int .i64 lv, .string tx] 34)
      have hANC := hanc.below bA
      have HBW := Lib.hid (hbw.then bA)
      have hxb : (wr.alloc (.cells #[.int .i64 lv, .string tx] 34)).heap[wr.heap.size]? = some (.cells #[.int .i64 lv, .string tx] 34 (0, 0)) := heap_alloc_new wr _
      have hnc2 := (bA.cell (p := ⟨nb, no + k, none⟩) hnb).trans hnc
      have HA := Lib.hid hA
      have HN := Lib.hid hN
      have HANC := Lib.hid hANC
      have HXB := Lib.hid hxb
      have HNC := Lib.hid hnc2
      clear hst han hown hnum hanc hbw hA hN bA hANC hxb hnc hnc2 hac hhad hx0 hrn hnl
      have cn := next_any (w := (wr.alloc (.cells #[.int .i64 lv, .string tx] 34)).drew) (show w.heap.size ≤ _ from HBW.out.size) (HANC.out.below ((Below.refl _ _).drew)) tx (by omega) hal
      have CN := Lib.hid cn
      clear cn
      have HBD := Lib.hid (HBW.out.drew)
      have HAD := Lib.hid (own_heap (w' := (wr.alloc (.cells #[.int .i64 lv, .string tx] 34)).drew) rfl HA.out)
      have HND := Lib.hid (own_heap (w' := (wr.alloc (.cells #[.int .i64 lv, .string tx] 34)).drew) rfl HN.out)
      have HXD := Lib.hid (show (wr.alloc (.cells #[.int .i64 lv, .string tx] 34)).drew.heap[wr.heap.size]? = some (.cells #[.int .i64 lv, .string tx] 34 (0, 0)) from HXB.out)
      have HNCD := Lib.hid (show (wr.alloc (.cells #[.int .i64 lv, .string tx] 34)).drew.cell? ⟨nb, no + k, none⟩ = some (.string ⟨nu.toArray⟩) from HNC.out)
      have HANCD := Lib.hid (HANC.out.below ((Below.refl _ _).drew))
      clear HA HN HXB HNC HANC HBW
      go_wp2_with fail
      refine wp_region_N (fun W => W.cell? ⟨nb, no + k, none⟩ = some (.string ⟨nu.toArray⟩) ∧ W.cell? ⟨wr.heap.size, 0, none⟩ = some (.int .i64 lv) ∧ W.cell? ⟨wr.heap.size, 1, none⟩ = some (.string tx)) (fun n => decide (n < 14)) (by kernel_rfl) ?_
      have HS := Lib.hid (show (wr.alloc (.cells #[.int .i64 lv, .string tx] 34)).drew.cell? ⟨nb, no + k, none⟩ = some (.string ⟨nu.toArray⟩) ∧ (wr.alloc (.cells #[.int .i64 lv, .string tx] 34)).drew.cell? ⟨wr.heap.size, 0, none⟩ = some (.int .i64 lv) ∧ (wr.alloc (.cells #[.int .i64 lv, .string tx] 34)).drew.cell? ⟨wr.heap.size, 1, none⟩ = some (.string tx) from
        ⟨HNCD.out, (cell_of_row _ _ 0 _ _ (0, 0) HXD.out).trans rfl, (cell_of_row _ _ 1 _ _ (0, 0) HXD.out).trans rfl⟩)
      generalize (wr.alloc (.cells #[.int .i64 lv, .string tx] 34)).drew = w4 at *
      refine wpAnyN_take_at 0 21 (v := ?_) rfl rfl (by kernel_rfl) (by kernel_rfl) (by kernel_rfl) (by kernel_rfl) (by kernel_rfl) (fun _ _ _ h => h) (by rfl) ?_ HS.out ?_
      rotate_left
      · intro W hSw; (try dsimp only at hSw); obtain ⟨q0, q1, q2⟩ := hSw; go_simp; (try with_reducible rfl)
      simp only [Act.put, List.setIfInBounds_toArray, List.set_cons_zero, List.set_cons_succ]
      refine wpAnyN_take_at 1 22 (v := ?_) rfl rfl (by kernel_rfl) (by kernel_rfl) (by kernel_rfl) (by kernel_rfl) (by kernel_rfl) (fun _ _ _ h => h) (by rfl) ?_ HS.out ?_
      rotate_left
      · intro W hSw; (try dsimp only at hSw); obtain ⟨q0, q1, q2⟩ := hSw; go_simp; (try with_reducible rfl)
      simp only [Act.put, List.setIfInBounds_toArray, List.set_cons_zero, List.set_cons_succ]
      refine wpAnyN_take_at 2 23 (v := ?_) rfl rfl (by kernel_rfl) (by kernel_rfl) (by kernel_rfl) (by kernel_rfl) (by kernel_rfl) (fun _ _ _ h => h) (by rfl) ?_ HS.out ?_
      rotate_left
      · intro W hSw; (try dsimp only at hSw); obtain ⟨q0, q1, q2⟩ := hSw; go_simp; (try with_reducible rfl)
      simp only [Act.put, List.setIfInBounds_toArray, List.set_cons_zero, List.set_cons_succ]
      refine wpAnyN_take_at 3 24 (v := ?_) rfl rfl (by kernel_rfl) (by kernel_rfl) (by kernel_rfl) (by kernel_rfl) (by kernel_rfl) (fun _ _ _ h => h) (by rfl) ?_ HS.out ?_
      rotate_left
      · intro W hSw; (try dsimp only at hSw); obtain ⟨q0, q1, q2⟩ := hSw; go_simp; (try with_reducible rfl)
      simp only [Act.put, List.setIfInBounds_toArray, List.set_cons_zero, List.set_cons_succ]
      refine wpAnyN_take_at 4 25 (v := ?_) rfl rfl (by kernel_rfl) (by kernel_rfl) (by kernel_rfl) (by kernel_rfl) (by kernel_rfl) (fun _ _ _ h => h) (by rfl) ?_ HS.out ?_
      rotate_left
      · intro W hSw; (try dsimp only at hSw); obtain ⟨q0, q1, q2⟩ := hSw; go_simp; (try with_reducible rfl)
      simp only [Act.put, List.setIfInBounds_toArray, List.set_cons_zero, List.set_cons_succ]
      refine wpAnyN_take_at 5 26 (v := ?_) rfl rfl (by kernel_rfl) (by kernel_rfl) (by kernel_rfl) (by kernel_rfl) (by kernel_rfl) (fun _ _ _ h => h) (by rfl) ?_ HS.out ?_
      rotate_left
      · intro W hSw; (try dsimp only at hSw); obtain ⟨q0, q1, q2⟩ := hSw; go_simp; (try with_reducible rfl)
      simp only [Act.put, List.setIfInBounds_toArray, List.set_cons_zero, List.set_cons_succ]
      refine wpAnyN_take_at 6 27 (v := ?_) rfl rfl (by kernel_rfl) (by kernel_rfl) (by kernel_rfl) (by kernel_rfl) (by kernel_rfl) (fun _ _ _ h => h) (by rfl) ?_ HS.out ?_
      rotate_left
      · intro W hSw; (try dsimp only at hSw); obtain ⟨q0, q1, q2⟩ := hSw; go_simp; (try with_reducible rfl)
      simp only [Act.put, List.setIfInBounds_toArray, List.set_cons_zero, List.set_cons_succ]
      refine wpAnyN_take_at 7 28 (v := ?_) rfl rfl (by kernel_rfl) (by kernel_rfl) (by kernel_rfl) (by kernel_rfl) (by kernel_rfl) (fun _ _ _ h => h) (by rfl) ?_ HS.out ?_
      rotate_left
      · intro W hSw; (try dsimp only at hSw); obtain ⟨q0, q1, q2⟩ := hSw; go_simp; (try with_reducible rfl)
      simp only [Act.put, List.setIfInBounds_toArray, List.set_cons_zero, List.set_cons_succ]
      refine wpAnyN_take_at 8 29 (v := ?_) rfl rfl (by kernel_rfl) (by kernel_rfl) (by kernel_rfl) (by kernel_rfl) (by kernel_rfl) (fun _ _ _ h => h) (by rfl) ?_ HS.out ?_
      rotate_left
      · intro W hSw; (try dsimp only at hSw); obtain ⟨q0, q1, q2⟩ := hSw; go_simp; (try with_reducible rfl)
      simp only [Act.put, List.setIfInBounds_toArray, List.set_cons_zero, List.set_cons_succ]
      refine wpAnyN_take_at 9 30 (v := ?_) rfl rfl (by kernel_rfl) (by kernel_rfl) (by kernel_rfl) (by kernel_rfl) (by kernel_rfl) (fun _ _ _ h => h) (by rfl) ?_ HS.out ?_
      rotate_left
      · intro W hSw; (try dsimp only at hSw); obtain ⟨q0, q1, q2⟩ := hSw; go_simp; (try with_reducible rfl)
      simp only [Act.put, List.setIfInBounds_toArray, List.set_cons_zero, List.set_cons_succ]
      refine wpAnyN_take_at 11 32 (v := ?_) rfl rfl (by kernel_rfl) (by kernel_rfl) (by kernel_rfl) (by kernel_rfl) (by kernel_rfl) (fun _ _ _ h => h) (by rfl) ?_ HS.out ?_
      rotate_left
      · intro W hSw; (try dsimp only at hSw); obtain ⟨q0, q1, q2⟩ := hSw; go_simp; (try with_reducible rfl)
      simp only [Act.put, List.setIfInBounds_toArray, List.set_cons_zero, List.set_cons_succ]
      refine wpAnyN_take_at 12 33 (v := ?_) rfl rfl (by kernel_rfl) (by kernel_rfl) (by kernel_rfl) (by kernel_rfl) (by kernel_rfl) (fun _ _ _ h => h) (by rfl) ?_ HS.out ?_
      rotate_left
      · intro W hSw; (try dsimp only at hSw); obtain ⟨q0, q1, q2⟩ := hSw; go_simp; (try with_reducible rfl)
      simp only [Act.put, List.setIfInBounds_toArray, List.set_cons_zero, List.set_cons_succ]
      refine wpAnyN_one (i := 10) rfl (by kernel_rfl) (fun K hK => ?_)
      go_simp
      go_at_call 12
      refine CN.out.mono ?_
      rintro e w5 ⟨rfl, ⟨m5, hm5, _⟩, ht5, b5⟩
      have HX5 := Lib.hid (anc_block HANCD.out ht5 HXD.out (by decide))
      have HA5 := Lib.hid (anc_row HAD.out HANCD.out ht5 (by decide))
      have HN5 := Lib.hid (anc_row HND.out HANCD.out ht5 (by decide))
      have hnx := HNX.out w5 HN5.out
      have HS5 := Lib.hid (show w5.cell? ⟨nb, no + k, none⟩ = some (.string ⟨nu.toArray⟩) ∧ w5.cell? ⟨wr.heap.size, 0, none⟩ = some (.int .i64 lv) ∧ w5.cell? ⟨wr.heap.size, 1, none⟩ = some (.string tx) from
        ⟨hnx, (cell_of_row _ _ 0 _ _ (0, 0) HX5.out).trans rfl, (cell_of_row _ _ 1 _ _ (0, 0) HX5.out).trans rfl⟩)
      have HB5 := Lib.hid (HBD.out.trans b5)
      have HM5 := Lib.hid hm5
      refine hK _ _ (fun _ => HS5.out) ?_
      clear hK HS hm5 b5 ht5 hnx HXD HAD HND HNCD HANCD CN HBD
      refine wpAnyN_take_at 13 34 (v := ?_) rfl rfl (by kernel_rfl) (by kernel_rfl) (by kernel_rfl) (by kernel_rfl) (by kernel_rfl) (fun _ _ _ h => h) (by rfl) ?_ HS5.out ?_
      rotate_left
      · intro W hSw; (try dsimp only at hSw); go_simp; (try with_reducible rfl)
      simp only [Act.put, List.setIfInBounds_toArray, List.set_cons_zero, List.set_cons_succ]
      generalize slNext had tx.data.toList = nx at *
      have hRL := HRL.out
      obtain ⟨s1, s2⟩ := sec_store HA5.out hRL hp ⟨lv, nu, nx, tx.data.toList⟩ (.int .i64 lv) (.string ⟨nu.toArray⟩) (.string ⟨nx.toArray⟩) (.string tx) rfl
      rw [← HST.out] at s1
      have HS1 := Lib.hid s1
      have HM6 := Lib.hid (HM5.out.rowSet HA5.out s2 (by decide))
      have HN6 := Lib.hid (HN5.out.kept s2 (own_apart HN5.out HA5.out (by decide)).ne)
      have HB6 := Lib.hid (HB5.out.trans (below_of_grown s2 (fun g hg => by cases hg; exact hs2) (by have := HB5.out.size; omega)))
      have hcs : ∀ j, j < 4 → ∃ u, w5.cell? ⟨w2.heap.size, k * 4 + j, none⟩ = some u := fun j hj => by
        have hc := HA5.out.cellAt (k * 4 + j) (by omega)
        have hll := HA5.out.1
        exact ⟨_, hc.trans (List.getElem?_eq_getElem (by omega))⟩
      obtain ⟨u0, d40⟩ : ∃ u, w5.cell? ⟨w2.heap.size, k * 4, none⟩ = some u := hcs 0 (by omega)
      obtain ⟨u1, d41⟩ := hcs 1 (by omega)
      obtain ⟨u2, d42⟩ := hcs 2 (by omega)
      obtain ⟨u3, d43⟩ := hcs 3 (by omega)
      have d50 := HA5.out.frozenAt (k * 4)
      have d51 := HA5.out.frozenAt (k * 4 + 1)
      have d52 := HA5.out.frozenAt (k * 4 + 2)
      have d53 := HA5.out.frozenAt (k * 4 + 3)
      clear hcs s1 s2 hRL
      refine wpAnyN_rest 14 [_, _] rfl (by kernel_rfl) (by kernel_rfl) ?_
      go_wp2
      go_roundw
      case rel => exact ⟨k + 1, m5, by go_num, by omega, HS1.out, HN6.out, by rw [HAN.out]; exact HM6.out, HB6.out⟩
      case measure => simp [intOf]; omega
    · obtain rfl : k = X.length := by omega
      have HOW := Lib.hid hown
      have HBW := Lib.hid hbw
      clear hown hbw hnum hanc
      go_wp2
      go_ret
      exact ⟨_, rfl, by rw [← secRow_all]; exact HOW.out, HBW.out⟩

end Go.Proofs.YtpifhjdbcdcelaaDoor
