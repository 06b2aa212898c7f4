/- Texts joined: NuF Texts NuG Hna SlG RefA RefC SlR CvB SlH SlS Apn. -/
import Derived.Test.YtpifhjdbcdcelaaGreatDoorQAB
import Derived.Test.YtpifhjdbcdcelaaGreatDoorQAC
import Derived.Test.YtpifhjdbcdcelaaGreatDoorQAA
import Derived.RegionTactic
import Derived.HandedShaped
import Derived.Lib.MinMax
import Derived.LoopN
import Derived.Test.YtpifhjdbcdcelaaGreatDoorRows
import Derived.Laws.BytesArg
import Derived.Laws.IdiomStrings
namespace Go.Proofs.YtpifhjdbcdcelaaGreatDoor
open Go.RowKit Go.Maps
set_option linter.unusedSimpArgs false
set_option linter.unusedVariables false
set_option maxRecDepth 100000
def ancL (ts : List (List UInt8)) : List (List UInt8) := ts.foldl (fun h s => h ++ [slNext h s]) []
theorem ancL_snoc (ts : List (List UInt8)) (s : List UInt8) : ancL (ts ++ [s]) = ancL ts ++ [slNext (ancL ts) s] := by simp [ancL]
theorem ancL_len (ts : List (List UInt8)) : (ancL ts).length = ts.length := by
  refine snocRec (P := fun ts => (ancL ts).length = ts.length) rfl (fun l d ih => ?_) ts
  show (ancL (l ++ [d])).length = (l ++ [d]).length
  rw [ancL_snoc]; simp [ih]
def hdT (x : Hdg) : List UInt8 := x.tx.data.toList
def secOne (X : List Hdg) (i : Nat) : Sctn := ⟨(X.map Hdg.lv).getD i 0, (allN (X.map Hdg.lv)).getD i [], slNext (ancL ((X.take i).map hdT)) ((X.map hdT).getD i []), (X.map hdT).getD i []⟩
def zeroSec : Sctn := ⟨0, [], [], []⟩
def secTo (X : List Hdg) (k : Nat) : List Sctn := (List.range k).map (secOne X)
def secL (X : List Hdg) : List Sctn := secTo X X.length
def secRow (X : List Hdg) (k : Nat) : List Sctn := secTo X k ++ List.replicate (X.length - k) zeroSec
theorem secL_len (X : List Hdg) : (secL X).length = X.length := by simp [secL, secTo]
theorem secRow_len (X : List Hdg) (k : Nat) (h : k ≤ X.length) : (secRow X k).length = X.length := by simp [secRow, secTo]; omega
theorem secRow_all (X : List Hdg) : secRow X X.length = secL X := by simp [secRow, secL]
theorem secRow_step (X : List Hdg) (k : Nat) (h : k < X.length) : secRow X (k + 1) = (secRow X k).set k (secOne X k) := by
  unfold secRow secTo
  rw [List.range_succ, show X.length - k = (X.length - (k + 1)) + 1 from by omega, List.replicate_succ]
  rw [List.set_append_right _ _ (by simp)]
  simp
theorem anc_take (X : List Hdg) (k : Nat) (h : k < X.length) : ancL ((X.take (k + 1)).map hdT) = ancL ((X.take k).map hdT) ++ [slNext (ancL ((X.take k).map hdT)) (hdT X[k])] := by
  rw [List.take_succ_eq_append_getElem h, List.map_append, List.map_cons, List.map_nil, ancL_snoc]
theorem secOne_at (X : List Hdg) (k : Nat) (h : k < X.length) (hn : k < (allN (X.map Hdg.lv)).length) : secOne X k = ⟨X[k].lv, (allN (X.map Hdg.lv))[k], slNext (ancL ((X.take k).map hdT)) (hdT X[k]), hdT X[k]⟩ := by
  unfold secOne
  simp only [List.getD_eq_getElem?_getD, List.getElem?_map, List.getElem?_eq_getElem h, List.getElem?_eq_getElem hn, Option.map_some, Option.getD_some]
theorem anc_block {w w' : World} {B b : Nat} {m : Value} {had : List (List UInt8)} (ha : AncIs w B b m had) (ht : AncTurn w w' b m) {g : Nat} {cs : Array Value} {t : TypeId} {fz : Nat × Nat} (hg : w.heap[g]? = some (.cells cs t fz)) (hne : t ≠ 61) : w'.heap[g]? = some (.cells cs t fz) := by
  rw [ht.rest g (Array.getElem?_eq_some_iff.1 hg).1 ?_ ?_]
  · exact hg
  · rintro rfl
    rw [ha.blk] at hg
    injection hg with hg
    injection hg with _ h2
    exact hne h2.symm
  · intro e
    rcases ha.map with ⟨e3, _⟩ | ⟨g2, n2, D, e3, _, hm, _⟩
    · rw [e] at e3; simp at e3
    · rw [e] at e3
      simp at e3
      subst e3
      exact slMap_ne hm hg rfl
theorem anc_row {w w' : World} {B B' b n size : Nat} {e : TypeId} {v m : Value} {xs : List Value} {had : List (List UInt8)} (h : w.ownsRow B' e size v n xs) (ha : AncIs w B b m had) (ht : AncTurn w w' b m) (hne : e ≠ 61) : w'.ownsRow B' e size v n xs := by
  refine ⟨h.1, ?_⟩
  rcases h.2 with h2 | ⟨g, cap, cur, rfl, hB, hg, hr⟩
  · exact .inl h2
  · exact .inr ⟨g, cap, cur, rfl, hB, anc_block ha ht hg hne, hr⟩
/-- A row of another type turns: the anchors stay. -/
theorem AncIs.rowSet {w w' : World} {B B' b n size : Nat} {e : TypeId} {v m : Value} {xs : List Value} {had : List (List UInt8)} (h : AncIs w B b m had) (k : w.ownsRow B' e size v n xs) (hg : w.grownBy w' v.ownBlock) (hne : e ≠ 61) : AncIs w' B b m had := by
  refine ⟨(hg.block b (Array.getElem?_eq_some_iff.1 h.blk).1 (fun e1 => own_ne k h.blk hne e1.symm)).trans h.blk, h.base, ?_⟩
  rcases h.map with h1 | ⟨g', n', D, e1, hg', hm', r⟩
  · exact .inl h1
  · refine .inr ⟨g', n', D, e1, hg', slMap_block hm' (hg.block g' hm'.lt (fun e2 => ?_)), r⟩
    rcases k.2 with ⟨rfl, _⟩ | ⟨g, cap, cur, rfl, _, hgg, _⟩
    · simp [Value.ownBlock] at e2
    · simp [Value.ownBlock] at e2
      subst e2
      exact slMap_ne hm' hgg rfl
/-- A section's four cells are written. -/
def secPut (w : World) (g o : Nat) (c0 c1 c2 c3 : Value) : World :=
  (((w.setCell ⟨g, o, none⟩ c0).setCell ⟨g, o + 1, none⟩ c1).setCell ⟨g, o + 2, none⟩ c2).setCell ⟨g, o + 3, none⟩ c3
theorem sec_store {w : World} {B g n q : Nat} {R : List Sctn} (h : w.ownsRow B 52 4 (.slice (some ⟨g, 0, none⟩) n n) n (flt scC R)) (hR : R.length = n) (hq : q < n) (y : Sctn) (c0 c1 c2 c3 : Value) (hy : scC y = [c0, c1, c2, c3]) :
    (secPut w g (q * 4) c0 c1 c2 c3).ownsRow B 52 4 (.slice (some ⟨g, 0, none⟩) n n) n (flt scC (R.set q y)) ∧ w.grownBy (secPut w g (q * 4) c0 c1 c2 c3) (some g) := by
  obtain ⟨s1, g1⟩ := h.stored (q * 4) c0
  obtain ⟨s2, g2⟩ := s1.stored (q * 4 + 1) c1
  obtain ⟨s3, g3⟩ := s2.stored (q * 4 + 2) c2
  obtain ⟨s4, g4⟩ := s3.stored (q * 4 + 3) c3
  rw [flt_set4 scC_length c0 c1 c2 c3 y hy R q (by omega)] at s4
  exact ⟨s4, ((g1.trans g2).trans g3).trans g4⟩
theorem sec_zero (n : Nat) : flt scC (List.replicate n zeroSec) = (madeCells #[.int .i64 0, .string ByteArray.empty, .string ByteArray.empty, .string ByteArray.empty] (n * 4)).toList := by
  apply List.ext_getElem?
  intro i
  have hl : (flt scC (List.replicate n zeroSec)).length = n * 4 := by rw [flt_length scC_length]; simp
  by_cases hi : i < n * 4
  · have hk : i / 4 < (List.replicate n zeroSec).length := by rw [List.length_replicate]; omega
    have hj : i % 4 < 4 := by omega
    have hs : scC (List.replicate n zeroSec)[i / 4] = [.int .i64 0, .string ByteArray.empty, .string ByteArray.empty, .string ByteArray.empty] := by rw [List.getElem_replicate]; rfl
    have hg := flt_get scC_length (List.replicate n zeroSec) (i / 4) hk (i % 4) _ (List.getElem?_eq_getElem (by rw [scC_length]; exact hj))
    rw [show i / 4 * 4 + i % 4 = i from by omega] at hg
    rw [hg]
    have h2 : (madeCells #[.int .i64 0, .string ByteArray.empty, .string ByteArray.empty, .string ByteArray.empty] (n * 4)).toList[i]? = some (#[Value.int .i64 0, .string ByteArray.empty, .string ByteArray.empty, .string ByteArray.empty][i % 4]'hj) := by
      unfold madeCells
      rw [Array.getElem?_toList, Array.getElem?_map, Array.getElem?_range]
      simp only [hi, if_true, Option.map_some]
      exact congrArg some (getElem!_pos (#[Value.int .i64 0, .string ByteArray.empty, .string ByteArray.empty, .string ByteArray.empty] : Array Value) (i % 4) hj)
    rw [h2]
    simp only [hs]
    rfl
  · rw [List.getElem?_eq_none (by omega), List.getElem?_eq_none (by rw [Array.length_toList, size_madeCells]; omega)]
def NsRel (X : List Hdg) (w : World) (g b : Nat) (nv i : Value) (wr : World) : Prop :=
  ∃ (k : Nat) (m : Value), i = .int .i64 k ∧ k ≤ X.length ∧ wr.ownsRow w.heap.size 52 4 (.slice (some ⟨g, 0, none⟩) X.length X.length) X.length (flt scC (secRow X k)) ∧ wr.ownsRow w.heap.size 9 1 nv X.length (strs (allN (X.map Hdg.lv))) ∧ AncIs wr w.heap.size b m (ancL ((X.take k).map hdT)) ∧ Below w.heap.size w wr
set_option maxHeartbeats 8000000 in
theorem sections_any (A : Option Addr) (cap : Nat) (X : List Hdg) (w : World) (hrow : EltsAt w hdC 2 A cap X) (hl : X.length ≤ 60) (hx : ∀ x ∈ X, x.tx.size ≤ 1000) :
    Calls Tryz.prog 8 #[.slice A X.length cap] w fun e w' => ∃ v, e = .returned v ∧ w'.ownsRow w.heap.size 52 4 v X.length (flt scC (secL X)) ∧ Below w.heap.size w w' := by
  obtain ⟨i0, hi, hz0, hz1, hz2⟩ := info_parts infoSec
  have HROW := Lib.hid hrow
  have HX := Lib.hid hx
  have hc1 := hrow.le
  have hc2 := hrow.cap
  unfold maxLen at hc2
  have CL := Lib.hid (levels_any A cap X w hrow (by omega))
  clear hrow hx
  go_enter Tryz.func8, Tryz.ntmps8
  go_wp2_with fail
  refine CL.out.mono ?_
  rintro e w1 ⟨v1, rfl, hv1, b1⟩
  obtain ⟨A1, c1, rfl, hr1, _⟩ := RowOf.own hv1
  have ca := all_any A1 c1 (X.map Hdg.lv) w1 hr1 (by rw [List.length_map]; omega)
  rw [List.length_map] at ca
  have CA := Lib.hid ca
  have HB1 := Lib.hid b1
  clear ca hv1 hr1 b1
  go_wp2_with fail
  refine CA.out.mono ?_
  rintro e w2 ⟨v2, rfl, hv2, b2⟩
  have HV2 := Lib.hid (own_low hv2 HB1.out.size)
  have HB2 := Lib.hid (HB1.out.then b2)
  have hs2 := HB2.out.size
  clear hv2 b2
  go_wp2_with (refine wpList_make_full _ rfl _ _ 42 rfl w.heap.size 52 i0 (.agg #[.int .i64 0, .string ByteArray.empty, .string ByteArray.empty, .string ByteArray.empty]) 4 Tryz.underlying42 hi hz0 hz1 .i64 .i64 _ _ X.length rfl rfl rfl rfl (by rw [hz2]; omega) (by unfold maxLen; omega) hs2 ?_)
  intro w3 hown hgr
  have hs3 := hgr.size
  have hb3 : Below w2.heap.size w2 w3 := below_of_grown hgr (fun g hg => by cases hg) (Nat.le_refl _)
  rw [← sec_zero] at hown
  have HO := Lib.hid (show (w3.alloc (.cells #[.map none] 61)).ownsRow w.heap.size 52 4 (.slice (some ⟨w2.heap.size, 0, none⟩) X.length X.length) X.length (flt scC (secRow X 0)) from by
    rw [show secRow X 0 = List.replicate X.length zeroSec from by simp [secRow, secTo]]
    exact hown.alloc _)
  have HN := Lib.hid ((ownsRow_below HV2.out hb3).alloc (.cells #[.map none] 61))
  have HA := Lib.hid (show AncIs (w3.alloc (.cells #[.map none] 61)) w.heap.size w3.heap.size (.map none) (ancL ((X.take 0).map hdT)) from AncIs.new (heap_alloc_new _ _) (by omega))
  have HB3 := Lib.hid ((HB2.out.then hb3).alloc (by omega) (.cells #[.map none] 61))
  clear hown hgr hb3
  go_wp2_with fail
  go_loopw [16] (fun i wr => NsRel X w w2.heap.size w3.heap.size v2 i wr) (fun i wr => X.length - (intOf i).toNat)
  case atStart => exact ⟨0, .map none, rfl, Nat.zero_le _, HO.out, HN.out, HA.out, HB3.out⟩
  case round =>
    obtain ⟨k, m, rfl, hk, hown, hnum, hanc, hbw⟩ := hrel
    by_cases hp : k < X.length
    · obtain ⟨ab, ao, rfl, hab, hac⟩ := HROW.out.at hp
      have hab2 := hbw.size
      have c0 : wr.cell? ⟨ab, ao + k * 2, none⟩ = some (.int .i64 X[k].lv) := (hbw.cell (p := ⟨ab, ao + k * 2, none⟩) hab).trans (hac 0 _ rfl)
      have c1 : wr.cell? ⟨ab, ao + k * 2 + 1, none⟩ = some (.string X[k].tx) := (hbw.cell (p := ⟨ab, ao + k * 2 + 1, none⟩) hab).trans (hac 1 _ rfl)
      have hxs := HX.out X[k] (List.getElem_mem hp)
      have hnl : k < (allN (X.map Hdg.lv)).length := by rw [allN_len, List.length_map]; exact hp
      have hst := secRow_step X k hp
      rw [secOne_at X k hp hnl] at hst
      have han := anc_take X k hp
      have hal : (ancL ((X.take k).map hdT)).length ≤ 60 := by rw [ancL_len, List.length_map, List.length_take]; omega
      have HST := Lib.hid hst
      have HAN := Lib.hid han
      have HRL := Lib.hid (secRow_len X k hk)
      generalize hhad : ancL ((X.take k).map hdT) = had at *
      generalize hx0 : X[k] = x at *
      obtain ⟨lv, tx⟩ := x
      dsimp only [hdT] at c0 c1 hxs hst han HST HAN
      obtain ⟨An, cn, rfl, hrn, _⟩ := RowOf.own hnum
      obtain ⟨nb, no, rfl, hnb, hnc⟩ := RowOf.cellAt hrn hnl
      have HNX := Lib.hid (fun (W : World) (hW : W.ownsRow w.heap.size 9 1 (.slice (some ⟨nb, no, none⟩) X.length cn) X.length (strs (allN (X.map Hdg.lv)))) => (show W.cell? ⟨nb, no + k, none⟩ = some (.string ⟨((allN (X.map Hdg.lv))[k]).toArray⟩) from by
        obtain ⟨A9, c9, e9, h9, _⟩ := RowOf.own hW
        cases e9
        obtain ⟨nb9, no9, e8, _, h8⟩ := RowOf.cellAt h9 hnl
        cases e8
        exact h8))
      generalize (allN (X.map Hdg.lv))[k] = nu at *
      have hA := hown.alloc (.cells #[.int .i64 lv, .string tx] 41)
      have hN := hnum.alloc (.cells #[.int .i64 lv, .string tx] 41)
      have bA := (Below.refl wr.heap.size wr).alloc (Nat.le_refl _) (.cells #[.int .i64 lv, .string tx] 41)
      have hANC := hanc.below bA
      have HBW := Lib.hid (hbw.then bA)
      have hxb : (wr.alloc (.cells #[.int .i64 lv, .string tx] 41)).heap[wr.heap.size]? = some (.cells #[.int .i64 lv, .string tx] 41 (0, 0)) := heap_alloc_new wr _
      have hnc2 := (bA.cell (p := ⟨nb, no + k, none⟩) hnb).trans hnc
      have HA := Lib.hid hA
      have HN := Lib.hid hN
      have HANC := Lib.hid hANC
      have HXB := Lib.hid hxb
      have HNC := Lib.hid hnc2
      clear hst han hown hnum hanc hbw hA hN bA hANC hxb hnc hnc2 hac hhad hx0 hrn hnl
      have cn := next_any (w := (wr.alloc (.cells #[.int .i64 lv, .string tx] 41)).drew) (show w.heap.size ≤ _ from HBW.out.size) (HANC.out.below ((Below.refl _ _).drew)) tx (by omega) hal
      have CN := Lib.hid cn
      clear cn
      have HBD := Lib.hid (HBW.out.drew)
      have HAD := Lib.hid (own_heap (w' := (wr.alloc (.cells #[.int .i64 lv, .string tx] 41)).drew) rfl HA.out)
      have HND := Lib.hid (own_heap (w' := (wr.alloc (.cells #[.int .i64 lv, .string tx] 41)).drew) rfl HN.out)
      have HXD := Lib.hid (show (wr.alloc (.cells #[.int .i64 lv, .string tx] 41)).drew.heap[wr.heap.size]? = some (.cells #[.int .i64 lv, .string tx] 41 (0, 0)) from HXB.out)
      have HNCD := Lib.hid (show (wr.alloc (.cells #[.int .i64 lv, .string tx] 41)).drew.cell? ⟨nb, no + k, none⟩ = some (.string ⟨nu.toArray⟩) from HNC.out)
      have HANCD := Lib.hid (HANC.out.below ((Below.refl _ _).drew))
      clear HA HN HXB HNC HANC HBW
      go_wp2_with fail
      refine wp_region_N (fun W => W.cell? ⟨nb, no + k, none⟩ = some (.string ⟨nu.toArray⟩) ∧ W.cell? ⟨wr.heap.size, 0, none⟩ = some (.int .i64 lv) ∧ W.cell? ⟨wr.heap.size, 1, none⟩ = some (.string tx)) (fun n => decide (n < 14)) (by kernel_rfl) ?_
      have HS := Lib.hid (show (wr.alloc (.cells #[.int .i64 lv, .string tx] 41)).drew.cell? ⟨nb, no + k, none⟩ = some (.string ⟨nu.toArray⟩) ∧ (wr.alloc (.cells #[.int .i64 lv, .string tx] 41)).drew.cell? ⟨wr.heap.size, 0, none⟩ = some (.int .i64 lv) ∧ (wr.alloc (.cells #[.int .i64 lv, .string tx] 41)).drew.cell? ⟨wr.heap.size, 1, none⟩ = some (.string tx) from
        ⟨HNCD.out, (cell_of_row _ _ 0 _ _ (0, 0) HXD.out).trans rfl, (cell_of_row _ _ 1 _ _ (0, 0) HXD.out).trans rfl⟩)
      generalize (wr.alloc (.cells #[.int .i64 lv, .string tx] 41)).drew = w4 at *
      refine wpAnyN_take_at 0 21 (v := ?_) rfl rfl (by kernel_rfl) (by kernel_rfl) (by kernel_rfl) (by kernel_rfl) (by kernel_rfl) (fun _ _ _ h => h) (by rfl) ?_ HS.out ?_
      rotate_left
      · intro W hSw; (try dsimp only at hSw); obtain ⟨q0, q1, q2⟩ := hSw; go_simp; (try with_reducible rfl)
      simp only [Act.put, List.setIfInBounds_toArray, List.set_cons_zero, List.set_cons_succ]
      refine wpAnyN_take_at 1 22 (v := ?_) rfl rfl (by kernel_rfl) (by kernel_rfl) (by kernel_rfl) (by kernel_rfl) (by kernel_rfl) (fun _ _ _ h => h) (by rfl) ?_ HS.out ?_
      rotate_left
      · intro W hSw; (try dsimp only at hSw); obtain ⟨q0, q1, q2⟩ := hSw; go_simp; (try with_reducible rfl)
      simp only [Act.put, List.setIfInBounds_toArray, List.set_cons_zero, List.set_cons_succ]
      refine wpAnyN_take_at 2 23 (v := ?_) rfl rfl (by kernel_rfl) (by kernel_rfl) (by kernel_rfl) (by kernel_rfl) (by kernel_rfl) (fun _ _ _ h => h) (by rfl) ?_ HS.out ?_
      rotate_left
      · intro W hSw; (try dsimp only at hSw); obtain ⟨q0, q1, q2⟩ := hSw; go_simp; (try with_reducible rfl)
      simp only [Act.put, List.setIfInBounds_toArray, List.set_cons_zero, List.set_cons_succ]
      refine wpAnyN_take_at 3 24 (v := ?_) rfl rfl (by kernel_rfl) (by kernel_rfl) (by kernel_rfl) (by kernel_rfl) (by kernel_rfl) (fun _ _ _ h => h) (by rfl) ?_ HS.out ?_
      rotate_left
      · intro W hSw; (try dsimp only at hSw); obtain ⟨q0, q1, q2⟩ := hSw; go_simp; (try with_reducible rfl)
      simp only [Act.put, List.setIfInBounds_toArray, List.set_cons_zero, List.set_cons_succ]
      refine wpAnyN_take_at 4 25 (v := ?_) rfl rfl (by kernel_rfl) (by kernel_rfl) (by kernel_rfl) (by kernel_rfl) (by kernel_rfl) (fun _ _ _ h => h) (by rfl) ?_ HS.out ?_
      rotate_left
      · intro W hSw; (try dsimp only at hSw); obtain ⟨q0, q1, q2⟩ := hSw; go_simp; (try with_reducible rfl)
      simp only [Act.put, List.setIfInBounds_toArray, List.set_cons_zero, List.set_cons_succ]
      refine wpAnyN_take_at 5 26 (v := ?_) rfl rfl (by kernel_rfl) (by kernel_rfl) (by kernel_rfl) (by kernel_rfl) (by kernel_rfl) (fun _ _ _ h => h) (by rfl) ?_ HS.out ?_
      rotate_left
      · intro W hSw; (try dsimp only at hSw); obtain ⟨q0, q1, q2⟩ := hSw; go_simp; (try with_reducible rfl)
      simp only [Act.put, List.setIfInBounds_toArray, List.set_cons_zero, List.set_cons_succ]
      refine wpAnyN_take_at 6 27 (v := ?_) rfl rfl (by kernel_rfl) (by kernel_rfl) (by kernel_rfl) (by kernel_rfl) (by kernel_rfl) (fun _ _ _ h => h) (by rfl) ?_ HS.out ?_
      rotate_left
      · intro W hSw; (try dsimp only at hSw); obtain ⟨q0, q1, q2⟩ := hSw; go_simp; (try with_reducible rfl)
      simp only [Act.put, List.setIfInBounds_toArray, List.set_cons_zero, List.set_cons_succ]
      refine wpAnyN_take_at 7 28 (v := ?_) rfl rfl (by kernel_rfl) (by kernel_rfl) (by kernel_rfl) (by kernel_rfl) (by kernel_rfl) (fun _ _ _ h => h) (by rfl) ?_ HS.out ?_
      rotate_left
      · intro W hSw; (try dsimp only at hSw); obtain ⟨q0, q1, q2⟩ := hSw; go_simp; (try with_reducible rfl)
      simp only [Act.put, List.setIfInBounds_toArray, List.set_cons_zero, List.set_cons_succ]
      refine wpAnyN_take_at 8 29 (v := ?_) rfl rfl (by kernel_rfl) (by kernel_rfl) (by kernel_rfl) (by kernel_rfl) (by kernel_rfl) (fun _ _ _ h => h) (by rfl) ?_ HS.out ?_
      rotate_left
      · intro W hSw; (try dsimp only at hSw); obtain ⟨q0, q1, q2⟩ := hSw; go_simp; (try with_reducible rfl)
      simp only [Act.put, List.setIfInBounds_toArray, List.set_cons_zero, List.set_cons_succ]
      refine wpAnyN_take_at 9 30 (v := ?_) rfl rfl (by kernel_rfl) (by kernel_rfl) (by kernel_rfl) (by kernel_rfl) (by kernel_rfl) (fun _ _ _ h => h) (by rfl) ?_ HS.out ?_
      rotate_left
      · intro W hSw; (try dsimp only at hSw); obtain ⟨q0, q1, q2⟩ := hSw; go_simp; (try with_reducible rfl)
      simp only [Act.put, List.setIfInBounds_toArray, List.set_cons_zero, List.set_cons_succ]
      refine wpAnyN_take_at 11 32 (v := ?_) rfl rfl (by kernel_rfl) (by kernel_rfl) (by kernel_rfl) (by kernel_rfl) (by kernel_rfl) (fun _ _ _ h => h) (by rfl) ?_ HS.out ?_
      rotate_left
      · intro W hSw; (try dsimp only at hSw); obtain ⟨q0, q1, q2⟩ := hSw; go_simp; (try with_reducible rfl)
      simp only [Act.put, List.setIfInBounds_toArray, List.set_cons_zero, List.set_cons_succ]
      refine wpAnyN_take_at 12 33 (v := ?_) rfl rfl (by kernel_rfl) (by kernel_rfl) (by kernel_rfl) (by kernel_rfl) (by kernel_rfl) (fun _ _ _ h => h) (by rfl) ?_ HS.out ?_
      rotate_left
      · intro W hSw; (try dsimp only at hSw); obtain ⟨q0, q1, q2⟩ := hSw; go_simp; (try with_reducible rfl)
      simp only [Act.put, List.setIfInBounds_toArray, List.set_cons_zero, List.set_cons_succ]
      refine wpAnyN_one (i := 10) rfl (by kernel_rfl) (fun K hK => ?_)
      go_simp
      go_at_call 21
      refine CN.out.mono ?_
      rintro e w5 ⟨rfl, ⟨m5, hm5, _⟩, ht5, b5⟩
      have HX5 := Lib.hid (anc_block HANCD.out ht5 HXD.out (by decide))
      have HA5 := Lib.hid (anc_row HAD.out HANCD.out ht5 (by decide))
      have HN5 := Lib.hid (anc_row HND.out HANCD.out ht5 (by decide))
      have hnx := HNX.out w5 HN5.out
      have HS5 := Lib.hid (show w5.cell? ⟨nb, no + k, none⟩ = some (.string ⟨nu.toArray⟩) ∧ w5.cell? ⟨wr.heap.size, 0, none⟩ = some (.int .i64 lv) ∧ w5.cell? ⟨wr.heap.size, 1, none⟩ = some (.string tx) from
        ⟨hnx, (cell_of_row _ _ 0 _ _ (0, 0) HX5.out).trans rfl, (cell_of_row _ _ 1 _ _ (0, 0) HX5.out).trans rfl⟩)
      have HB5 := Lib.hid (HBD.out.trans b5)
      have HM5 := Lib.hid hm5
      refine hK _ _ (fun _ => HS5.out) ?_
      clear hK HS hm5 b5 ht5 hnx HXD HAD HND HNCD HANCD CN HBD
      refine wpAnyN_take_at 13 34 (v := ?_) rfl rfl (by kernel_rfl) (by kernel_rfl) (by kernel_rfl) (by kernel_rfl) (by kernel_rfl) (fun _ _ _ h => h) (by rfl) ?_ HS5.out ?_
      rotate_left
      · intro W hSw; (try dsimp only at hSw); go_simp; (try with_reducible rfl)
      simp only [Act.put, List.setIfInBounds_toArray, List.set_cons_zero, List.set_cons_succ]
      generalize slNext had tx.data.toList = nx at *
      have hRL := HRL.out
      obtain ⟨s1, s2⟩ := sec_store HA5.out hRL hp ⟨lv, nu, nx, tx.data.toList⟩ (.int .i64 lv) (.string ⟨nu.toArray⟩) (.string ⟨nx.toArray⟩) (.string tx) rfl
      rw [← HST.out] at s1
      have HS1 := Lib.hid s1
      have HM6 := Lib.hid (HM5.out.rowSet HA5.out s2 (by decide))
      have HN6 := Lib.hid (HN5.out.kept s2 (own_apart HN5.out HA5.out (by decide)).ne)
      have HB6 := Lib.hid (HB5.out.trans (below_of_grown s2 (fun g hg => by cases hg; exact hs2) (by have := HB5.out.size; omega)))
      have hcs : ∀ j, j < 4 → ∃ u, w5.cell? ⟨w2.heap.size, k * 4 + j, none⟩ = some u := fun j hj => by
        have hc := HA5.out.cellAt (k * 4 + j) (by omega)
        have hll := HA5.out.1
        exact ⟨_, hc.trans (List.getElem?_eq_getElem (by omega))⟩
      obtain ⟨u0, d40⟩ : ∃ u, w5.cell? ⟨w2.heap.size, k * 4, none⟩ = some u := hcs 0 (by omega)
      obtain ⟨u1, d41⟩ := hcs 1 (by omega)
      obtain ⟨u2, d42⟩ := hcs 2 (by omega)
      obtain ⟨u3, d43⟩ := hcs 3 (by omega)
      have d50 := HA5.out.frozenAt (k * 4)
      have d51 := HA5.out.frozenAt (k * 4 + 1)
      have d52 := HA5.out.frozenAt (k * 4 + 2)
      have d53 := HA5.out.frozenAt (k * 4 + 3)
      clear hcs s1 s2 hRL
      refine wpAnyN_rest 14 [_, _] rfl (by kernel_rfl) (by kernel_rfl) ?_
      go_wp2
      go_roundw
      case rel => exact ⟨k + 1, m5, by go_num, by omega, HS1.out, HN6.out, by rw [HAN.out]; exact HM6.out, HB6.out⟩
      case measure => simp [intOf]; omega
    · obtain rfl : k = X.length := by omega
      have HOW := Lib.hid hown
      have HBW := Lib.hid hbw
      clear hown hbw hnum hanc
      go_wp2
      go_ret
      exact ⟨_, rfl, by rw [← secRow_all]; exact HOW.out, HBW.out⟩
end Go.Proofs.YtpifhjdbcdcelaaGreatDoor

namespace Go.Proofs.YtpifhjdbcdcelaaGreatDoor
open Go.RowKit
set_option linter.unusedSimpArgs false
set_option linter.unusedVariables false
def SameRel (la lb : List (List UInt8)) (w : World) (i : Value) (wr : World) : Prop :=
  ∃ k n : Nat, i = .int .i64 k ∧ k ≤ la.length ∧ wr = w.drewN n ∧ la.take k = lb.take k
set_option maxHeartbeats 2000000 in
theorem same_any (A B : Option Addr) (ca cb : Nat) (la lb : List (List UInt8)) (w : World) (ha : RowOf w A ca (strs la)) (hb : RowOf w B cb (strs lb)) :
    Calls Tryz.prog 10 #[.slice A la.length ca, .slice B lb.length cb] w (QuietBool w (decide (la = lb))) := by
  have ha1 := ha.1
  have ha2 := ha.2.1
  have hb1 := hb.1
  have hb2 := hb.2.1
  rw [strs_length] at ha1 hb1
  unfold maxLen at ha2 hb2
  by_cases hn : la.length = lb.length
  · have fn : ((la.length : Int) != lb.length) = false := by simp; omega
    have HN := Lib.hid hn
    clear hn
    go_enter Tryz.func10, Tryz.ntmps10
    go_wp2_with fail
    go_loopw [5] (fun i wr => SameRel la lb w i wr) (fun i wr => la.length - (intOf i).toNat)
    case atStart => exact ⟨0, 0, rfl, Nat.zero_le _, rfl, rfl⟩
    case round =>
      obtain ⟨k, n, rfl, hk, rfl, hs⟩ := hrel
      have HS := Lib.hid hs
      clear hs
      by_cases hp : k < la.length
      · obtain ⟨b1, o1, rfl, hl1, hc1⟩ := ha.cellAt hp
        obtain ⟨b2, o2, rfl, hl2, hc2⟩ := hb.cellAt (k := k) (by rw [← HN.out]; exact hp)
        have hp2 : k < lb.length := by rw [← HN.out]; exact hp
        by_cases he : la[k] = lb[k]
        · have fe : (@BEq.beq (List UInt8) (@List.instBEq UInt8 (@instBEqOfDecidableEq UInt8 instDecidableEqUInt8)) la[k] lb[k]) = true := by rw [he]; simp
          have HE := Lib.hid he
          clear he
          go_wp2_with fail
          go_quiet (fail)
          go_wp2
          exact ⟨⟨k + 1, _, by go_num, by omega, rfl, by rw [List.take_succ_eq_append_getElem hp, List.take_succ_eq_append_getElem hp2, HS.out, HE.out]⟩, by simp [intOf]; omega⟩
        · have fe : (@BEq.beq (List UInt8) (@List.instBEq UInt8 (@instBEqOfDecidableEq UInt8 instDecidableEqUInt8)) la[k] lb[k]) = false := by simpa using he
          have HE := Lib.hid (show decide (la = lb) = false from by
            rw [decide_eq_false_iff_not]
            intro e
            exact he (by simp [e]))
          clear he
          go_wp2_with fail
          go_quiet (fail)
          go_wp2
          go_ret
          exact ⟨ret_bool HE.out.symm, _, World.drewN_drewN _ _ _⟩
      · obtain rfl : k = la.length := by omega
        have HE := Lib.hid (show decide (la = lb) = true from by
          have h := HS.out
          rw [List.take_length, HN.out, List.take_length] at h
          simpa using h)
        go_wp2
        go_ret
        exact ⟨ret_bool HE.out.symm, _, rfl⟩
  · have fn : ((la.length : Int) != lb.length) = true := by simp; omega
    have HE := Lib.hid (show decide (la = lb) = false from by
      rw [decide_eq_false_iff_not]
      intro e
      exact hn (by rw [e]))
    clear hn
    go_enter Tryz.func10, Tryz.ntmps10
    go_wp2
    go_ret
    exact ⟨ret_bool HE.out.symm, 0, rfl⟩
end Go.Proofs.YtpifhjdbcdcelaaGreatDoor

namespace Go.Proofs.YtpifhjdbcdcelaaGreatDoor
open Go.RowKit Go.Maps
set_option linter.unusedSimpArgs false
set_option linter.unusedVariables false
set_option maxRecDepth 100000
theorem elts_lit {α : Type} {c : α → List Value} {s : Nat} (hs : ∀ x, (c x).length = s) (w : World) (t : TypeId) (X : List α) (hm : X.length ≤ maxLen) : EltsAt (w.alloc (.cells (flt c X).toArray t)) c s (some ⟨w.heap.size, 0, none⟩) X.length X := by
  refine ⟨Nat.le_refl _, hm, Or.inr ⟨w.heap.size, 0, rfl, by rw [alloc_size]; omega, fun k hk j u hu => ?_⟩⟩
  rw [Nat.zero_add, cell_of_row _ _ _ _ t (0, 0) (heap_alloc_new w _)]
  have := flt_get hs X k hk j u hu
  simpa using this
def alX : List Hdg := [⟨1, ⟨#[65]⟩⟩, ⟨3, ⟨#[65]⟩⟩]
theorem al_slug : slugL [65] = [97] := by decide +kernel
theorem al_n1 : slNext [] [65] = [97] := by
  unfold slNext
  rw [if_neg (by simp), al_slug]
theorem al_n2 : slNext [[97]] [65] = [97, 45, 50] := by
  have := slNext_many [65] 1 (by omega)
  rw [al_slug] at this
  rw [show ([[97]] : List (List UInt8)) = slMany [97] 1 from rfl, this, if_neg (by omega)]
  unfold slNum
  rw [Lib.decDigits_one (by omega)]
  rfl
theorem al_num : allN [1, 3] = [[49], [49, 46, 49]] := by decide +kernel
theorem al_all : allN [1, 2, 2, 1, 3] = [[49], [49, 46, 49], [49, 46, 50], [50], [50, 46, 49]] := by decide +kernel
theorem al_sec : secL alX = [⟨1, [49], [97], [65]⟩, ⟨3, [49, 46, 49], [97, 45, 50], [65]⟩] := by
  have e0 : secOne alX 0 = ⟨1, [49], [97], [65]⟩ := by
    rw [secOne_at alX 0 (by decide) (by rw [show alX.map Hdg.lv = [1, 3] from rfl, al_num]; decide)]
    simp only [show alX.map Hdg.lv = [1, 3] from rfl, al_num]
    rw [show ancL ((alX.take 0).map hdT) = [] from rfl, show hdT alX[0] = [65] from rfl, al_n1]
    rfl
  have e1 : secOne alX 1 = ⟨3, [49, 46, 49], [97, 45, 50], [65]⟩ := by
    rw [secOne_at alX 1 (by decide) (by rw [show alX.map Hdg.lv = [1, 3] from rfl, al_num]; decide)]
    simp only [show alX.map Hdg.lv = [1, 3] from rfl, al_num]
    rw [show ancL ((alX.take 1).map hdT) = [slNext [] [65]] from rfl, al_n1, show hdT alX[1] = [65] from rfl, al_n2]
    rfl
  show [secOne alX 0, secOne alX 1] = _
  rw [e0, e1]
set_option maxHeartbeats 8000000 in
theorem alive17_any (w : World) : Calls Tryz.prog 4 #[] w fun e w' => e = .returned (.bool true) ∧ Below w.heap.size w w' := by
  have cs := sections_any _ _ alX (w.alloc (.cells (flt hdC alX).toArray 41)) (elts_lit hdC_length w 41 alX (by decide)) (by decide) (by decide)
  rw [al_sec] at cs
  have CS := Lib.hid cs
  have HB0 := Lib.hid ((Below.refl w.heap.size w).alloc (Nat.le_refl _) (.cells (flt hdC alX).toArray 41))
  clear cs
  go_enter Tryz.func4, Tryz.ntmps4
  go_wp2_with fail
  refine CS.out.mono ?_
  rintro e w1 ⟨v1, rfl, hv1, b1⟩
  obtain ⟨A1, c1, rfl, hr1⟩ := EltsAt.own (X := [⟨1, [49], [97], [65]⟩, ⟨3, [49, 46, 49], [97, 45, 50], [65]⟩]) scC_length hv1
  have HR1 := Lib.hid hr1
  have HB1 := Lib.hid (HB0.out.then b1)
  have ca := all_any (some ⟨w1.heap.size, 0, none⟩) 5 [1, 2, 2, 1, 3] (w1.alloc (.cells #[.int .i64 1, .int .i64 2, .int .i64 2, .int .i64 1, .int .i64 3] 3)) (rowOf_lit w1 3 [.int .i64 1, .int .i64 2, .int .i64 2, .int .i64 1, .int .i64 3] (by decide)) (by decide)
  rw [al_all] at ca
  have CA := Lib.hid ca
  clear ca hr1 hv1 b1
  go_wp2_with fail
  refine CA.out.mono ?_
  rintro e w2 ⟨v2, rfl, hv2, b2⟩
  obtain ⟨A2, c2, rfl, hr2, _⟩ := RowOf.own hv2
  have HB2 := Lib.hid (HB1.out.then (((Below.refl w1.heap.size w1).alloc (Nat.le_refl _) (.cells #[.int .i64 1, .int .i64 2, .int .i64 2, .int .i64 1, .int .i64 3] 3)).then b2))
  have HR2 := Lib.hid (HR1.out.below (((Below.refl w1.heap.size w1).alloc (Nat.le_refl _) (.cells #[.int .i64 1, .int .i64 2, .int .i64 2, .int .i64 1, .int .i64 3] 3)).then b2))
  have bL := (Below.refl w2.heap.size w2).alloc (Nat.le_refl _) (.cells #[.string ⟨#[49]⟩, .string ⟨#[49, 46, 49]⟩, .string ⟨#[49, 46, 50]⟩, .string ⟨#[50]⟩, .string ⟨#[50, 46, 49]⟩] 9)
  have cm := same_any A2 (some ⟨w2.heap.size, 0, none⟩) c2 5 [[49], [49, 46, 49], [49, 46, 50], [50], [50, 46, 49]] [[49], [49, 46, 49], [49, 46, 50], [50], [50, 46, 49]] (w2.alloc (.cells #[.string ⟨#[49]⟩, .string ⟨#[49, 46, 49]⟩, .string ⟨#[49, 46, 50]⟩, .string ⟨#[50]⟩, .string ⟨#[50, 46, 49]⟩] 9)) (hr2.below bL) (rowOf_lit w2 9 (strs [[49], [49, 46, 49], [49, 46, 50], [50], [50, 46, 49]]) (by decide))
  rw [decide_eq_true (rfl : ([[49], [49, 46, 49], [49, 46, 50], [50], [50, 46, 49]] : List (List UInt8)) = _)] at cm
  have CM := Lib.hid cm
  have HR3 := Lib.hid (HR2.out.below bL)
  have HB3 := Lib.hid (HB2.out.then bL)
  clear cm hr2 bL
  go_wp2_with fail
  refine CM.out.mono ?_
  rintro e w3 ⟨rfl, n3, rfl⟩
  have hr4 : EltsAt ((w2.alloc (.cells #[.string ⟨#[49]⟩, .string ⟨#[49, 46, 49]⟩, .string ⟨#[49, 46, 50]⟩, .string ⟨#[50]⟩, .string ⟨#[50, 46, 49]⟩] 9)).drewN n3) scC 4 A1 c1 [⟨1, [49], [97], [65]⟩, ⟨3, [49, 46, 49], [97, 45, 50], [65]⟩] := EltsAt.heap (w := ((w2.alloc (.cells #[.string ⟨#[49]⟩, .string ⟨#[49, 46, 49]⟩, .string ⟨#[49, 46, 50]⟩, .string ⟨#[50]⟩, .string ⟨#[50, 46, 49]⟩] 9)))) (w' := ((w2.alloc (.cells #[.string ⟨#[49]⟩, .string ⟨#[49, 46, 49]⟩, .string ⟨#[49, 46, 50]⟩, .string ⟨#[50]⟩, .string ⟨#[50, 46, 49]⟩] 9)).drewN n3)) rfl HR3.out
  obtain ⟨b4, o4, rfl, _, hc4⟩ := hr4.at (k := 1) (by decide)
  have d0 := hc4 0 _ rfl
  have d1 := hc4 1 _ rfl
  have d2 := hc4 2 _ rfl
  have d3 := hc4 3 _ rfl
  simp only [List.getElem_cons_succ, List.getElem_cons_zero, scC, Nat.one_mul, Nat.add_zero] at d0 d1 d2 d3
  have hcap := hr4.cap
  have hle : 2 ≤ c1 := hr4.le
  unfold maxLen at hcap
  have HB4 := Lib.hid (below_drewN' HB3.out n3)
  clear hc4 hr4
  generalize (w2.alloc (.cells #[.string ⟨#[49]⟩, .string ⟨#[49, 46, 49]⟩, .string ⟨#[49, 46, 50]⟩, .string ⟨#[50]⟩, .string ⟨#[50, 46, 49]⟩] 9)).drewN n3 = w4 at *
  go_wp2
  go_ret
  exact ⟨rfl, HB4.out⟩
end Go.Proofs.YtpifhjdbcdcelaaGreatDoor

namespace Go.Proofs.YtpifhjdbcdcelaaGreatDoor
open Go.ChangeShapes Go.WideShapes Go.ChangeAt Go.RowKit Go.Lib
set_option linter.unusedVariables false
section
variable {H : Type} {enc : TypeId × Value → H}
theorem handed_all {a : Assume} {C : Checked} {os : Os} {f : FuncId} {fn : Func} {s : ChangeSpec} {conds : List PathCond} {apart fresh handsOn again : Bool} {X : World → Array Value → Prop}
    (hX : ∀ (w w' : World) (args : Array Value), w.heap = w'.heap → X w args → X w' args)
    (own : ownKnob C.prog.godebug = none) (started : os.Started) (noInit : C.prog.inits.idxOf? f = none) (hfn : C.prog.funcs[f]? = some fn)
    (witness : ∃ (w : World) (tape : Tape) (i : Input), w.os = os ∧ (w.forCall tape i).Shaped C.prog ∧ i.vars = [] ∧ Input.okWide C.prog (w.forCall tape i) .any w.heap.size f i ∧
      ((s.pre enc C.prog fn conds apart (w.forCall tape i).memory i.args ∧ X (w.forCall tape i).memory i.args) ∧ sizedMet enc C.prog fn (OpenSpec.ofChange s) apart (w.forCall tape i).memory i.args) ∧ a.holds C.prog (lone (Frame.enter C.prog f i.args .normal) [] (w.forCall tape i)))
    (contract : ∀ (W : World) (base : Nat) (args : Array Value) (ds gs : List (DataW H)) (before : List MemPlace),
      (∀ (j : Nat) t v, fn.params[j]? = some t → args[j]? = some v → Value.okWide C.prog W .any base t v) →
      DataW.Whole enc C.prog fn.params.toList s.vars apart W args.toList ds gs before →
      conds.all (PathCond.test C.prog ⟨fn.params.toList, ds, s.plain.varTypes C.prog, gs⟩) = true →
      X W args → W.ShapedOpen C.prog →
      a.holds C.prog (lone (Frame.enter C.prog f args .normal) [] W) →
      Calls C.prog f args W fun e W' => ∃ v, e = .returned v ∧ s.post enc C.prog fn apart fresh handsOn again W args v W') :
    ReturnsInHanded a C os f .any (fun w args => (s.pre enc C.prog fn conds apart w args ∧ X w args) ∧ sizedMet enc C.prog fn (OpenSpec.ofChange s) apart w args) (s.post enc C.prog fn apart fresh handsOn again) := by
  refine returnsInHanded_of_calls own started noInit witness ?_
  intro w tape i _ hsh _ hok hpre hholds
  obtain ⟨_, _, _, fn', hfn', _, _, _, _, hval⟩ := hok
  have e : fn' = fn := Option.some.inj (hfn'.symm.trans hfn)
  subst e
  obtain ⟨⟨⟨ds, gs, before, hw, hc⟩, hx⟩, hz⟩ := hpre
  have hw' := DataW.Whole.of_heap (w' := w.forCall tape i) (by rfl) hw
  refine (contract (w.forCall tape i) w.heap.size i.args ds gs before hval hw' hc (hX _ _ _ (by rfl) hx) hsh hholds).mono fun e W' ⟨v, he, hp⟩ => ?_
  subst he
  exact ChangeSpec.post_blind hp
end
end Go.Proofs.YtpifhjdbcdcelaaGreatDoor

namespace Go.Proofs.YtpifhjdbcdcelaaGreatDoor
open Go.RowKit Go.Maps
set_option linter.unusedSimpArgs false
set_option linter.unusedVariables false
set_option maxRecDepth 100000
theorem slSize (S : ByteArray) : S.data.toList.length = S.size := by simp
theorem slEmpty_of (a : ByteArray) (h : a.size = 0) : a = ⟨#[]⟩ := by
  have : a.data.toList = [] := List.length_eq_zero_iff.1 (by rw [slSize]; exact h)
  rw [← Lib.mk_data a, this]
theorem eq45 (z : UInt8) : ((z.toNat : Int) == 45) = (z == 45) := by
  rw [Bool.eq_iff_iff]
  simp only [beq_iff_eq]
  exact ⟨fun e => UInt8.toNat_inj.1 (by show z.toNat = 45; omega), fun e => by rw [e]; rfl⟩
theorem last_at {v : ByteArray} {p : List UInt8} {z : UInt8} (h : v.data.toList = p ++ [z]) (hk : p.length < v.size) : v[p.length]'hk = z := by
  have h2 : v.data.toList[p.length]? = some z := by rw [h]; simp
  have h3 : v.data.toList[p.length]? = some (v[p.length]'hk) := by
    rw [List.getElem?_eq_getElem (by rw [slSize]; exact hk)]; rfl
  rw [h3] at h2
  exact Option.some.inj h2
theorem trim_again {a : List UInt8} (h : SlOk a) : slTrim (slTrim a) = slTrim a := by
  have := h.trim.2.1
  generalize slTrim a = b at *
  unfold slTrim
  rw [if_neg this]
def slSz : Value → Nat
  | .string b => b.size
  | _ => 0
theorem slSz_string (b : ByteArray) : slSz (.string b) = b.size := rfl
def TrimRel (E : List UInt8) (t : Value) : Prop := ∃ p : ByteArray, t = .string p ∧ 0 < p.size ∧ p.size ≤ 40 ∧ SlOk p.data.toList ∧ slTrim p.data.toList = E
/-- A round of the loop that takes the dash at the end away. -/
theorem trim_step {E : List UInt8} {p : ByteArray} (n : Nat) (hn : p.size = n + 1) (h1 : p.size ≤ 40) (hok : SlOk p.data.toList) (hE : slTrim p.data.toList = E) :
    (p[n]'(by omega) = 45 ∧ TrimRel E (.string (p.extract 0 n)) ∧ (p.extract 0 n).size = n) ∨ (p[n]'(by omega) ≠ 45 ∧ p = ⟨E.toArray⟩) := by
  have hne : p.data.toList ≠ [] := by intro e; have := slSize p; rw [e] at this; simp at this; omega
  obtain ⟨q, z, hq⟩ := snoc_of hne
  have hl : q.length = n := by have := slSize p; rw [hq] at this; simp at this; omega
  subst hl
  have hla : p[q.length]'(by omega) = z := last_at hq (by omega)
  rw [hla]
  by_cases hz : z = 45
  · subst hz
    have hx : (p.extract 0 q.length).data.toList = q := by
      rw [ByteArray.data_extract, Array.toList_extract, List.extract_eq_take_drop, List.drop_zero, hq, Nat.sub_zero, List.take_left]
    have hqn : q ≠ [] := by rintro rfl; rw [hq] at hok; exact hok.first rfl
    have hs : (p.extract 0 q.length).size = q.length := by rw [← slSize, hx]
    have ht : slTrim p.data.toList = q := by rw [hq]; unfold slTrim; rw [getLastD_snoc, if_pos rfl, List.dropLast_concat]
    refine .inl ⟨rfl, ⟨_, rfl, ?_⟩, hs⟩
    rw [hx, hs]
    refine ⟨List.length_pos_iff.2 hqn, by omega, by rw [hq] at hok; exact hok.pre, ?_⟩
    rw [← hE, ← congrArg slTrim ht, trim_again hok]
  · refine .inr ⟨hz, ?_⟩
    have ht : slTrim p.data.toList = p.data.toList := by
      unfold slTrim
      rw [if_neg (by rw [hq, getLastD_snoc]; exact hz)]
    rw [← hE, ht, Lib.mk_data]
end Go.Proofs.YtpifhjdbcdcelaaGreatDoor

namespace Go.Proofs.YtpifhjdbcdcelaaGreatDoor
open Go.RowKit
set_option linter.unusedSimpArgs false
set_option linter.unusedVariables false
theorem u8_of (b : UInt8) (n : Nat) (h : n = b.toNat) : n.toUInt8 = b := (u8_eq b n h.symm).symm
theorem dec_take (b : UInt8) (l : List UInt8) (h : ¬ ((dec (b :: l)).1 = 65533 ∧ (dec (b :: l)).2 = 1)) : (b :: l).take (dec (b :: l)).2 = Lib.encodeRune (dec (b :: l)).1 := by
  unfold dec at h ⊢
  dsimp only at h ⊢
  simp only [List.getD_cons_zero] at h ⊢
  by_cases h1 : b.toNat < 128
  · simp only [h1, if_true]
    rw [enc1 _ h1, u8_of b _ rfl]; rfl
  · simp only [h1, if_false] at h ⊢
    split
    · rename_i h2
      rw [if_pos h2] at h
      rcases l with _ | ⟨x, m⟩
      · simp at h2
      · simp only [List.getD_cons_succ, List.getD_cons_zero] at h h2 ⊢
        simp at h2
        split
        · rw [enc2 _ (by omega) (by omega), u8_of b _ (by omega), u8_of x _ (by omega)]; rfl
        · rename_i h3; rw [if_neg h3] at h; simp at h
    · rename_i h2
      rw [if_neg h2] at h
      split
      · rename_i h3
        rw [if_pos h3] at h
        rcases l with _ | ⟨x, _ | ⟨y, m⟩⟩
        · simp at h3
        · simp at h3
        · simp only [List.getD_cons_succ, List.getD_cons_zero] at h h3 ⊢
          simp at h3
          split
          · rename_i h4
            simp only [Bool.and_eq_true, decide_eq_true_eq] at h4
            have hv := of_valid _ h4.2
            rw [enc3 _ (by omega), u8_of b _ (by omega), u8_of x _ (by omega), u8_of y _ (by omega)]; rfl
          · rename_i h4; rw [if_neg h4] at h; simp at h
      · rename_i h3
        rw [if_neg h3] at h
        split
        · rename_i h4
          rw [if_pos h4] at h
          rcases l with _ | ⟨x, _ | ⟨y, _ | ⟨z, m⟩⟩⟩
          · simp at h4
          · simp at h4
          · simp at h4
          · simp only [List.getD_cons_succ, List.getD_cons_zero] at h h4 ⊢
            simp at h4
            split
            · rename_i h5
              simp only [Bool.and_eq_true, decide_eq_true_eq] at h5
              have hv := of_valid _ h5.2
              rw [enc4 _ (by omega) (by omega), u8_of b _ (by omega), u8_of x _ (by omega), u8_of y _ (by omega), u8_of z _ (by omega)]; rfl
            · rename_i h5; rw [if_neg h5] at h; simp at h
        · rename_i h4; rw [if_neg h4] at h; simp at h
theorem refSpace_any (r : Int) (w : World) :
    Calls Tryz.prog 100 #[.int .i32 r] w fun e w' => e = .returned (.bool (spaceB r)) ∧ w = w' := by
  go_enter Tryz.func100, Tryz.ntmps100
  go_wp2
  all_goals (go_ret; exact ⟨ret_bool (by apply Bool.eq_iff_iff.2; first | (simp [spaceB, inB]; done) | (simp [spaceB, inB]; omega)), rfl⟩)
end Go.Proofs.YtpifhjdbcdcelaaGreatDoor
namespace Go.Proofs.YtpifhjdbcdcelaaGreatDoor
open Go.RowKit
set_option linter.unusedSimpArgs false
set_option linter.unusedVariables false
/-- What stands of the two tables of unicode/utf8. -/
def Tabs (w : World) : Prop := Lib.Utf8Tabs 0 1 w
theorem Tabs.below {w w' : World} (h : Tabs w) (hb : Below w.heap.size w w') : Tabs w' := Utf8Tabs_below h hb
theorem decode_extract (s : ByteArray) (i : Nat) (hi : i < s.size) : Lib.decodeGo (s.extract i s.size) = Utf8.decode s i := by
  unfold Lib.decodeGo
  have hs : (s.extract i s.size).size = s.size - i := by rw [ByteArray.size_extract]; omega
  rw [if_neg (by omega), decode_dec, decode_dec, List.drop_zero, extract_drop]
theorem decodeIn_at (s : ByteArray) (i : Nat) (hi : i < s.size) (w : World) (hT : Tabs w) :
    Calls Tryz.prog 99 #[.string (s.extract i s.size)] w fun e w' => e = .returned (.tuple #[.int .i32 (Utf8.decode s i).1, .int .i64 (Utf8.decode s i).2]) ∧ Below w.heap.size w w' := by
  have h := Tryz.utf8_DecodeRuneInString (s.extract i s.size) w hT
  rw [decode_extract s i hi] at h
  exact h
theorem segs_at (s : ByteArray) (i : Nat) (hi : i < s.size) : segs (s.data.toList.drop i) = ((Utf8.decode s i).1, (s.data.toList.drop i).take (Utf8.decode s i).2) :: segs (s.data.toList.drop (i + (Utf8.decode s i).2)) := by
  obtain ⟨b, l, e⟩ := drop_cons s i hi
  rw [e, segs_cons, ← e, ← decode_dec, List.drop_drop]
theorem width_le (s : ByteArray) (i : Nat) (hi : i < s.size) : i + (Utf8.decode s i).2 ≤ s.size := by
  obtain ⟨b, l, e⟩ := drop_cons s i hi
  have hw := dec_width b l
  rw [← e, ← decode_dec] at hw
  have : (s.data.toList.drop i).length = l.length + 1 := by rw [e]; rfl
  rw [List.length_drop] at this
  simp at this
  omega
theorem take_enc (s : ByteArray) (i : Nat) (hi : i < s.size) (h : ¬ ((Utf8.decode s i).1 = 65533 ∧ (Utf8.decode s i).2 = 1)) : (s.data.toList.drop i).take (Utf8.decode s i).2 = Lib.encodeRune (Utf8.decode s i).1 := by
  obtain ⟨b, l, e⟩ := drop_cons s i hi
  rw [decode_dec, e] at h ⊢
  exact dec_take b l h
theorem slice_at (s : ByteArray) (i n : Nat) (h : i + n ≤ s.size) (W : World) :
    (Instr.slice 9 (.string s) (some (.int .i64 (i : Int))) (some (.int .i64 ((i : Int) + (n : Int)))) none).run Tryz.prog W = .ok (.string (s.extract i (i + n))) W := by
  have := run_slice_string (P := Tryz.prog) W 9 s .i64 .i64 (i : Int) ((i : Int) + (n : Int)) Tryz.underlying9 (by omega) (by omega) (by omega)
  rw [show ((i : Int) + (n : Int)).toNat = i + n from by omega, Int.toNat_natCast] at this
  exact this
theorem extract_take (s : ByteArray) (i n : Nat) : (s.extract i (i + n)).data.toList = (s.data.toList.drop i).take n := by
  simp only [ByteArray.data_extract, Array.toList_extract, List.extract]
  congr 1
  omega
end Go.Proofs.YtpifhjdbcdcelaaGreatDoor

namespace Go.Proofs.YtpifhjdbcdcelaaGreatDoor
open Go.RowKit
set_option linter.unusedSimpArgs false
set_option linter.unusedVariables false
def anyB (O : ByteArray) : Bool := !O.toList.isEmpty
def chunkAt (s : ByteArray) (i : Nat) : Nat × List UInt8 := ((Utf8.decode s i).1, (s.data.toList.drop i).take (Utf8.decode s i).2)
def FoldRest (s : ByteArray) (i : Nat) (g a : Bool) : List UInt8 := foldS (segs (s.data.toList.drop i)) g a
theorem fold_space {s : ByteArray} {i : Nat} {A : List UInt8} {O : ByteArray} {g : Bool} (hi : i < s.size) (h : O.data.toList ++ FoldRest s i g (anyB O) = A) (hs : spaceB (Utf8.decode s i).1 = true) :
    O.data.toList ++ FoldRest s (i + (Utf8.decode s i).2) (anyB O) (anyB O) = A := by
  rw [← h]
  congr 1
  unfold FoldRest
  rw [segs_at s i hi]
  simp only [foldS, hs, if_true]
  cases ha : anyB O with
  | true => rfl
  | false => exact foldS_begin _ _ _
theorem anyB_nil : anyB ⟨#[]⟩ = false := by unfold anyB; rw [Lib.toList_data]; rfl
theorem slice_one (s : ByteArray) (i : Nat) (h : i < s.size) (W : World) :
    (Instr.slice 9 (.string s) (some (.int .i64 (i : Int))) (some (.int .i64 ((i : Int) + 1))) none).run Tryz.prog W = .ok (.string (s.extract i (i + 1))) W := slice_at s i 1 (by omega) W
theorem anyB_app (O T : ByteArray) (h : T.data.toList ≠ []) : anyB (O ++ T) = true := by
  unfold anyB
  rw [Lib.toList_data, ByteArray.data_append, Array.toList_append]
  cases hT : T.data.toList with
  | nil => exact absurd hT h
  | cons x l => cases O.data.toList <;> rfl
theorem chunkOut_ne (c : Nat × List UInt8) (h : c.2 ≠ []) : chunkOut c ≠ [] := by
  unfold chunkOut
  split
  · exact h
  · exact enc_ne _
theorem chunkAt_ne (s : ByteArray) (i : Nat) (hi : i < s.size) : (chunkAt s i).2 ≠ [] := by
  have hw := width_pos s i hi
  have hl := width_le s i hi
  intro h
  have : ((s.data.toList.drop i).take (Utf8.decode s i).2).length = 0 := by have h2 := congrArg List.length h; exact h2
  rw [List.length_take, List.length_drop] at this
  simp at this
  omega
theorem fold_step0 {s : ByteArray} {i : Nat} {A : List UInt8} {O : ByteArray} (hi : i < s.size) (h : O.data.toList ++ FoldRest s i false (anyB O) = A) (hs : spaceB (Utf8.decode s i).1 = false) (T : ByteArray) (hT : T.data.toList = chunkOut (chunkAt s i)) :
    (O ++ T).data.toList ++ FoldRest s (i + (Utf8.decode s i).2) false (anyB (O ++ T)) = A := by
  rw [anyB_app _ _ (by rw [hT]; exact chunkOut_ne _ (chunkAt_ne s i hi)), ← h, ByteArray.data_append, Array.toList_append, List.append_assoc]
  congr 1
  unfold FoldRest
  rw [segs_at s i hi, hT]
  simp only [foldS, hs, Bool.false_eq_true, if_false, Bool.false_and, List.nil_append]
  rfl
theorem fold_step1 {s : ByteArray} {i : Nat} {A : List UInt8} {O : ByteArray} (hi : i < s.size) (h : O.data.toList ++ FoldRest s i true (anyB O) = A) (ha : anyB O = true) (hs : spaceB (Utf8.decode s i).1 = false) (T : ByteArray) (hT : T.data.toList = chunkOut (chunkAt s i)) :
    (O ++ ⟨#[32]⟩ ++ T).data.toList ++ FoldRest s (i + (Utf8.decode s i).2) false (anyB (O ++ ⟨#[32]⟩ ++ T)) = A := by
  rw [anyB_app _ _ (by rw [hT]; exact chunkOut_ne _ (chunkAt_ne s i hi)), ← h, ByteArray.data_append, Array.toList_append, ByteArray.data_append, Array.toList_append, List.append_assoc, List.append_assoc]
  congr 1
  unfold FoldRest
  rw [segs_at s i hi, hT, ha]
  simp only [foldS, hs, Bool.false_eq_true, if_false, Bool.and_self, if_true, List.append_assoc]
  rfl
theorem chunk_low (s : ByteArray) (i : Nat) (hi : i < s.size) (h : ((Utf8.decode s i).1 = 65533 ∧ (Utf8.decode s i).2 = 1) ∨ (¬ (65 ≤ (Utf8.decode s i).1 ∧ (Utf8.decode s i).1 ≤ 90) ∧ ¬ (192 ≤ (Utf8.decode s i).1 ∧ (Utf8.decode s i).1 ≤ 222 ∧ (Utf8.decode s i).1 ≠ 215))) :
    (s.extract i (i + (Utf8.decode s i).2)).data.toList = chunkOut (chunkAt s i) := by
  rw [extract_take]
  have hl := width_le s i hi
  have hw := width_pos s i hi
  have hlen : ((s.data.toList.drop i).take (Utf8.decode s i).2).length = (Utf8.decode s i).2 := by
    rw [List.length_take, List.length_drop]; simp; omega
  unfold chunkOut stray chunkAt
  simp only [hlen]
  by_cases hst : (Utf8.decode s i).1 = 65533 ∧ (Utf8.decode s i).2 = 1
  · rw [if_pos (by simp [hst.1, hst.2])]
  · have hst' : ((Utf8.decode s i).1 == 65533 && (Utf8.decode s i).2 == 1) = false := by
      cases e1 : (Utf8.decode s i).1 == 65533 with
      | false => rfl
      | true =>
        cases e2 : (Utf8.decode s i).2 == 1 with
        | false => rfl
        | true => exact absurd ⟨by simpa using e1, by simpa using e2⟩ hst
    rw [hst', if_neg (by simp), take_enc s i hi hst]
    rcases h with h | ⟨h1, h2⟩
    · exact absurd h hst
    · rw [smallI_of _ (by omega) (by omega)]
theorem chunk_up (s : ByteArray) (i : Nat) (hi : i < s.size) (h : (65 ≤ (Utf8.decode s i).1 ∧ (Utf8.decode s i).1 ≤ 90) ∨ (192 ≤ (Utf8.decode s i).1 ∧ (Utf8.decode s i).1 ≤ 222 ∧ (Utf8.decode s i).1 ≠ 215)) :
    (Utf8.encode (((Utf8.decode s i).1 : Int) + 32)).data.toList = chunkOut (chunkAt s i) := by
  have e : (((Utf8.decode s i).1 : Int) + 32) = (((Utf8.decode s i).1 + 32 : Nat) : Int) := by omega
  rw [e, encode_eq _ (valid_of _ (by omega))]
  unfold chunkOut
  have hst : stray (chunkAt s i) = false := by
    unfold stray chunkAt
    have : ((Utf8.decode s i).1 == 65533) = false := by simp; omega
    simp only [this, Bool.false_and]
  rw [hst, if_neg (by simp)]
  have : smallI ((chunkAt s i).1 : Int) = (((Utf8.decode s i).1 + 32 : Nat) : Int) := by
    unfold chunkAt
    rcases smallI_eq ((Utf8.decode s i).1 : Int) with ⟨a, b, c⟩ | ⟨a, b, d, c⟩ | ⟨a, b, c⟩ <;> simp only [c] <;> omega
  rw [this]
def RefFRel (s : ByteArray) (w : World) (out gap i : Value) (wr : World) : Prop :=
  ∃ (pos : Nat) (O : ByteArray) (g : Bool), out = .string O ∧ gap = .bool g ∧ i = .int .i64 pos ∧ pos ≤ s.size ∧ O.size ≤ 5 * pos ∧ O.data.toList ++ FoldRest s pos g (anyB O) = foldL s.data.toList ∧ (g = true → anyB O = true) ∧ Below w.heap.size w wr
theorem dec_four (b : UInt8) (l : List UInt8) : (dec (b :: l)).2 ≤ 4 := by
  unfold dec
  dsimp only
  repeat' split
  all_goals simp
set_option maxHeartbeats 8000000 in
set_option maxRecDepth 100000 in
theorem refFold_any (s : ByteArray) (w : World) (hs : s.size ≤ 17592186044416) (hT : Tabs w) :
    Calls Tryz.prog 87 #[.string s] w fun e w' => e = .returned (.string (foldOf s)) ∧ Below w.heap.size w w' := by
  have HT := Lib.hid hT
  clear hT
  go_enter Tryz.func87, Tryz.ntmps87
  go_wp2_with fail
  go_loopw [3, 4, 5] (fun out gap i wr => RefFRel s w out gap i wr) (fun _ _ i _ => s.size - (intOf i).toNat)
  case atStart => exact ⟨0, ⟨#[]⟩, false, rfl, rfl, rfl, Nat.zero_le _, Nat.zero_le _, by rw [anyB_nil]; rfl, (fun h => by cases h), Below.refl _ _⟩
  case round =>
    obtain ⟨pos, O, g, rfl, rfl, rfl, hps, hO, hE, hg, hbw⟩ := hrel
    by_cases hp : pos < s.size
    · have hwd := width_pos s pos hp
      have hwl := width_le s pos hp
      have hd1 := decode_le s pos
      have cD := fun w1 hT1 => decodeIn_at s pos hp w1 hT1
      have HE := Lib.hid hE
      have HG := Lib.hid hg
      clear hE hg
      have Hsp := Lib.hid (fun (h : O.data.toList ++ FoldRest s pos g (anyB O) = foldL s.data.toList) => fold_space hp h)
      have Hs0 := Lib.hid (fun (h : O.data.toList ++ FoldRest s pos false (anyB O) = foldL s.data.toList) => fold_step0 hp h)
      have Hs1 := Lib.hid (fun (h : O.data.toList ++ FoldRest s pos true (anyB O) = foldL s.data.toList) => fold_step1 hp h)
      have Hlo := Lib.hid (chunk_low s pos hp)
      have Hup := Lib.hid (chunk_up s pos hp)
      have hsl := slice_at s pos (Utf8.decode s pos).2 hwl
      have hex : (s.extract pos (pos + (Utf8.decode s pos).2)).size ≤ 4 := by
        rw [ByteArray.size_extract]
        obtain ⟨b, l, e⟩ := drop_cons s pos hp
        have h4 := dec_four b l
        rw [← e, ← decode_dec] at h4
        omega
      generalize hr : (Utf8.decode s pos).1 = r at *
      generalize hd : (Utf8.decode s pos).2 = d at *
      clear hr hd
      obtain ⟨ri, hri⟩ : ∃ ri : Int, (r : Int) = ri := ⟨_, rfl⟩
      rw [hri] at cD
      rw [hri] at Hup Hsp Hs0 Hs1
      have HR := Lib.hid hri
      have hri2 : 0 ≤ ri := by omega
      clear hri
      go_wp2_with fail
      refine (cD _ (HT.out.below hbw)).mono ?_
      rintro e W2 ⟨rfl, b2⟩
      have hbw2 := hbw.trans (b2.mono hbw.size)
      clear cD
      by_cases hstr : ri = 65533 ∧ d = 1
      · obtain ⟨rfl, rfl⟩ := hstr
        have HX := Lib.hid (Hlo.out (Or.inl ⟨by have := HR.out; omega, rfl⟩))
        have hsl1 := slice_one s pos hp
        clear hsl
        have hns : spaceB 65533 = false := by decide +kernel
        cases g with
        | false =>
          have HN := Lib.hid (Hs0.out HE.out hns _ HX.out)
          clear hns
          go_wp2
          go_roundw
          case rel => exact ⟨pos + 1, O ++ s.extract pos (pos + 1), false, rfl, rfl, by go_num, by omega, by rw [ByteArray.size_append]; omega, HN.out, (fun h => by cases h), hbw2⟩
          case measure => simp [intOf]; omega
        | true =>
          have HN := Lib.hid (Hs1.out HE.out (HG.out (by first | rfl | trivial)) hns _ HX.out)
          clear hns
          go_wp2
          go_roundw
          case rel => exact ⟨pos + 1, O ++ ⟨#[32]⟩ ++ s.extract pos (pos + 1), false, rfl, rfl, by go_num, by omega, by rw [ByteArray.size_append, ByteArray.size_append, show (ByteArray.mk #[32]).size = 1 from rfl]; omega, HN.out, (fun h => by cases h), hbw2⟩
          case measure => simp [intOf]; omega
      · cases hspc : spaceB ri with
        | true =>
          have HN := Lib.hid (Hsp.out HE.out hspc)
          have cS := fun w1 => refSpace_any ri w1
          rw [hspc] at cS
          clear hspc
          by_cases hd2 : 1 < d
          · clear hstr
            go_wp2_with (go_at_call 100; refine (cS _).mono ?_; rintro e w' ⟨rfl, rfl⟩)
            go_roundw
            case rel => exact ⟨pos + d, O, anyB O, rfl, rfl, by go_num, by omega, by omega, HN.out, (fun h => h), hbw2⟩
            case measure => simp [intOf]; omega
          · have f65 : (ri == 65533) = false := by simp; omega
            have f65' : (ri != 65533) = true := by simp; omega
            clear hstr
            go_wp2_with (go_at_call 100; refine (cS _).mono ?_; rintro e w' ⟨rfl, rfl⟩)
            go_roundw
            case rel => exact ⟨pos + d, O, anyB O, rfl, rfl, by go_num, by omega, by omega, HN.out, (fun h => h), hbw2⟩
            case measure => simp [intOf]; omega
        | false =>
          have cS := fun w1 => refSpace_any ri w1
          have hspc2 := Lib.hid hspc
          rw [hspc] at cS
          clear hspc
          by_cases c1 : ri < 65
          · have HX := Lib.hid (Hlo.out (Or.inr (by have := HR.out; omega)))
            by_cases hd2 : 1 < d
            · clear hstr
              cases g with
              | true =>
                go_wp2_with (go_at_call 100; refine (cS _).mono ?_; rintro e w' ⟨rfl, rfl⟩)
                go_roundw
                case rel => exact ⟨pos + d, O ++ ⟨#[32]⟩ ++ s.extract pos (pos + d), false, rfl, rfl, by go_num, by omega, by rw [ByteArray.size_append, ByteArray.size_append, show (ByteArray.mk #[32]).size = 1 from rfl]; omega, Hs1.out HE.out (HG.out (by first | rfl | trivial)) hspc2.out _ HX.out, (fun h => by cases h), hbw2⟩
                case measure => simp [intOf]; omega
              | false =>
                go_wp2_with (go_at_call 100; refine (cS _).mono ?_; rintro e w' ⟨rfl, rfl⟩)
                go_roundw
                case rel => exact ⟨pos + d, O ++ s.extract pos (pos + d), false, rfl, rfl, by go_num, by omega, by rw [ByteArray.size_append]; omega, Hs0.out HE.out hspc2.out _ HX.out, (fun h => by cases h), hbw2⟩
                case measure => simp [intOf]; omega
            · have f65 : (ri == 65533) = false := by simp; omega
              have f65' : (ri != 65533) = true := by simp; omega
              clear hstr
              cases g with
              | true =>
                go_wp2_with (go_at_call 100; refine (cS _).mono ?_; rintro e w' ⟨rfl, rfl⟩)
                go_roundw
                case rel => exact ⟨pos + d, O ++ ⟨#[32]⟩ ++ s.extract pos (pos + d), false, rfl, rfl, by go_num, by omega, by rw [ByteArray.size_append, ByteArray.size_append, show (ByteArray.mk #[32]).size = 1 from rfl]; omega, Hs1.out HE.out (HG.out (by first | rfl | trivial)) hspc2.out _ HX.out, (fun h => by cases h), hbw2⟩
                case measure => simp [intOf]; omega
              | false =>
                go_wp2_with (go_at_call 100; refine (cS _).mono ?_; rintro e w' ⟨rfl, rfl⟩)
                go_roundw
                case rel => exact ⟨pos + d, O ++ s.extract pos (pos + d), false, rfl, rfl, by go_num, by omega, by rw [ByteArray.size_append]; omega, Hs0.out HE.out hspc2.out _ HX.out, (fun h => by cases h), hbw2⟩
                case measure => simp [intOf]; omega
          · by_cases c2 : ri ≤ 90
            · have HX := Lib.hid (Hup.out (by have := HR.out; omega))
              have hens := encode_size (ri + 32)
              clear hd1
              by_cases hd2 : 1 < d
              · clear hstr
                cases g with
                | true =>
                  go_wp2_with (go_at_call 100; refine (cS _).mono ?_; rintro e w' ⟨rfl, rfl⟩)
                  go_roundw
                  case rel => exact ⟨pos + d, O ++ ⟨#[32]⟩ ++ Utf8.encode (ri + 32), false, rfl, rfl, by go_num, by omega, by rw [ByteArray.size_append, ByteArray.size_append, show (ByteArray.mk #[32]).size = 1 from rfl]; omega, Hs1.out HE.out (HG.out (by first | rfl | trivial)) hspc2.out _ HX.out, (fun h => by cases h), hbw2⟩
                  case measure => simp [intOf]; omega
                | false =>
                  go_wp2_with (go_at_call 100; refine (cS _).mono ?_; rintro e w' ⟨rfl, rfl⟩)
                  go_roundw
                  case rel => exact ⟨pos + d, O ++ Utf8.encode (ri + 32), false, rfl, rfl, by go_num, by omega, by rw [ByteArray.size_append]; omega, Hs0.out HE.out hspc2.out _ HX.out, (fun h => by cases h), hbw2⟩
                  case measure => simp [intOf]; omega
              · have f65 : (ri == 65533) = false := by simp; omega
                have f65' : (ri != 65533) = true := by simp; omega
                clear hstr
                cases g with
                | true =>
                  go_wp2_with (go_at_call 100; refine (cS _).mono ?_; rintro e w' ⟨rfl, rfl⟩)
                  go_roundw
                  case rel => exact ⟨pos + d, O ++ ⟨#[32]⟩ ++ Utf8.encode (ri + 32), false, rfl, rfl, by go_num, by omega, by rw [ByteArray.size_append, ByteArray.size_append, show (ByteArray.mk #[32]).size = 1 from rfl]; omega, Hs1.out HE.out (HG.out (by first | rfl | trivial)) hspc2.out _ HX.out, (fun h => by cases h), hbw2⟩
                  case measure => simp [intOf]; omega
                | false =>
                  go_wp2_with (go_at_call 100; refine (cS _).mono ?_; rintro e w' ⟨rfl, rfl⟩)
                  go_roundw
                  case rel => exact ⟨pos + d, O ++ Utf8.encode (ri + 32), false, rfl, rfl, by go_num, by omega, by rw [ByteArray.size_append]; omega, Hs0.out HE.out hspc2.out _ HX.out, (fun h => by cases h), hbw2⟩
                  case measure => simp [intOf]; omega
            · by_cases c3 : ri < 192
              · have HX := Lib.hid (Hlo.out (Or.inr (by have := HR.out; omega)))
                by_cases hd2 : 1 < d
                · clear hstr
                  cases g with
                  | true =>
                    go_wp2_with (go_at_call 100; refine (cS _).mono ?_; rintro e w' ⟨rfl, rfl⟩)
                    go_roundw
                    case rel => exact ⟨pos + d, O ++ ⟨#[32]⟩ ++ s.extract pos (pos + d), false, rfl, rfl, by go_num, by omega, by rw [ByteArray.size_append, ByteArray.size_append, show (ByteArray.mk #[32]).size = 1 from rfl]; omega, Hs1.out HE.out (HG.out (by first | rfl | trivial)) hspc2.out _ HX.out, (fun h => by cases h), hbw2⟩
                    case measure => simp [intOf]; omega
                  | false =>
                    go_wp2_with (go_at_call 100; refine (cS _).mono ?_; rintro e w' ⟨rfl, rfl⟩)
                    go_roundw
                    case rel => exact ⟨pos + d, O ++ s.extract pos (pos + d), false, rfl, rfl, by go_num, by omega, by rw [ByteArray.size_append]; omega, Hs0.out HE.out hspc2.out _ HX.out, (fun h => by cases h), hbw2⟩
                    case measure => simp [intOf]; omega
                · have f65 : (ri == 65533) = false := by simp; omega
                  have f65' : (ri != 65533) = true := by simp; omega
                  clear hstr
                  cases g with
                  | true =>
                    go_wp2_with (go_at_call 100; refine (cS _).mono ?_; rintro e w' ⟨rfl, rfl⟩)
                    go_roundw
                    case rel => exact ⟨pos + d, O ++ ⟨#[32]⟩ ++ s.extract pos (pos + d), false, rfl, rfl, by go_num, by omega, by rw [ByteArray.size_append, ByteArray.size_append, show (ByteArray.mk #[32]).size = 1 from rfl]; omega, Hs1.out HE.out (HG.out (by first | rfl | trivial)) hspc2.out _ HX.out, (fun h => by cases h), hbw2⟩
                    case measure => simp [intOf]; omega
                  | false =>
                    go_wp2_with (go_at_call 100; refine (cS _).mono ?_; rintro e w' ⟨rfl, rfl⟩)
                    go_roundw
                    case rel => exact ⟨pos + d, O ++ s.extract pos (pos + d), false, rfl, rfl, by go_num, by omega, by rw [ByteArray.size_append]; omega, Hs0.out HE.out hspc2.out _ HX.out, (fun h => by cases h), hbw2⟩
                    case measure => simp [intOf]; omega
              · by_cases c4 : ri ≤ 222
                · by_cases c5 : ri = 215
                  · have f5 : (ri == 215) = true := by simp; omega
                    have f5' : (ri != 215) = false := by simp; omega
                    have c6 := c5
                    have HX := Lib.hid (Hlo.out (Or.inr (by have := HR.out; omega)))
                    have f65 : (ri == 65533) = false := by simp; omega
                    have f65' : (ri != 65533) = true := by simp; omega
                    clear c5 c6 hstr
                    by_cases hd2 : 1 < d
                    · cases g with
                      | true =>
                        go_wp2_with (go_at_call 100; refine (cS _).mono ?_; rintro e w' ⟨rfl, rfl⟩)
                        go_roundw
                        case rel => exact ⟨pos + d, O ++ ⟨#[32]⟩ ++ s.extract pos (pos + d), false, rfl, rfl, by go_num, by omega, by rw [ByteArray.size_append, ByteArray.size_append, show (ByteArray.mk #[32]).size = 1 from rfl]; omega, Hs1.out HE.out (HG.out (by first | rfl | trivial)) hspc2.out _ HX.out, (fun h => by cases h), hbw2⟩
                        case measure => simp [intOf]; omega
                      | false =>
                        go_wp2_with (go_at_call 100; refine (cS _).mono ?_; rintro e w' ⟨rfl, rfl⟩)
                        go_roundw
                        case rel => exact ⟨pos + d, O ++ s.extract pos (pos + d), false, rfl, rfl, by go_num, by omega, by rw [ByteArray.size_append]; omega, Hs0.out HE.out hspc2.out _ HX.out, (fun h => by cases h), hbw2⟩
                        case measure => simp [intOf]; omega
                    · cases g with
                      | true =>
                        go_wp2_with (go_at_call 100; refine (cS _).mono ?_; rintro e w' ⟨rfl, rfl⟩)
                        go_roundw
                        case rel => exact ⟨pos + d, O ++ ⟨#[32]⟩ ++ s.extract pos (pos + d), false, rfl, rfl, by go_num, by omega, by rw [ByteArray.size_append, ByteArray.size_append, show (ByteArray.mk #[32]).size = 1 from rfl]; omega, Hs1.out HE.out (HG.out (by first | rfl | trivial)) hspc2.out _ HX.out, (fun h => by cases h), hbw2⟩
                        case measure => simp [intOf]; omega
                      | false =>
                        go_wp2_with (go_at_call 100; refine (cS _).mono ?_; rintro e w' ⟨rfl, rfl⟩)
                        go_roundw
                        case rel => exact ⟨pos + d, O ++ s.extract pos (pos + d), false, rfl, rfl, by go_num, by omega, by rw [ByteArray.size_append]; omega, Hs0.out HE.out hspc2.out _ HX.out, (fun h => by cases h), hbw2⟩
                        case measure => simp [intOf]; omega
                  · have f5 : (ri == 215) = false := by simp; omega
                    have f5' : (ri != 215) = true := by simp; omega
                    have HX := Lib.hid (Hup.out (by have := HR.out; omega))
                    have hens := encode_size (ri + 32)
                    clear hd1
                    by_cases hd2 : 1 < d
                    · clear hstr
                      cases g with
                      | true =>
                        go_wp2_with (go_at_call 100; refine (cS _).mono ?_; rintro e w' ⟨rfl, rfl⟩)
                        go_roundw
                        case rel => exact ⟨pos + d, O ++ ⟨#[32]⟩ ++ Utf8.encode (ri + 32), false, rfl, rfl, by go_num, by omega, by rw [ByteArray.size_append, ByteArray.size_append, show (ByteArray.mk #[32]).size = 1 from rfl]; omega, Hs1.out HE.out (HG.out (by first | rfl | trivial)) hspc2.out _ HX.out, (fun h => by cases h), hbw2⟩
                        case measure => simp [intOf]; omega
                      | false =>
                        go_wp2_with (go_at_call 100; refine (cS _).mono ?_; rintro e w' ⟨rfl, rfl⟩)
                        go_roundw
                        case rel => exact ⟨pos + d, O ++ Utf8.encode (ri + 32), false, rfl, rfl, by go_num, by omega, by rw [ByteArray.size_append]; omega, Hs0.out HE.out hspc2.out _ HX.out, (fun h => by cases h), hbw2⟩
                        case measure => simp [intOf]; omega
                    · have f65 : (ri == 65533) = false := by simp; omega
                      have f65' : (ri != 65533) = true := by simp; omega
                      clear hstr
                      cases g with
                      | true =>
                        go_wp2_with (go_at_call 100; refine (cS _).mono ?_; rintro e w' ⟨rfl, rfl⟩)
                        go_roundw
                        case rel => exact ⟨pos + d, O ++ ⟨#[32]⟩ ++ Utf8.encode (ri + 32), false, rfl, rfl, by go_num, by omega, by rw [ByteArray.size_append, ByteArray.size_append, show (ByteArray.mk #[32]).size = 1 from rfl]; omega, Hs1.out HE.out (HG.out (by first | rfl | trivial)) hspc2.out _ HX.out, (fun h => by cases h), hbw2⟩
                        case measure => simp [intOf]; omega
                      | false =>
                        go_wp2_with (go_at_call 100; refine (cS _).mono ?_; rintro e w' ⟨rfl, rfl⟩)
                        go_roundw
                        case rel => exact ⟨pos + d, O ++ Utf8.encode (ri + 32), false, rfl, rfl, by go_num, by omega, by rw [ByteArray.size_append]; omega, Hs0.out HE.out hspc2.out _ HX.out, (fun h => by cases h), hbw2⟩
                        case measure => simp [intOf]; omega
                · have HX := Lib.hid (Hlo.out (Or.inr (by have := HR.out; omega)))
                  by_cases hd2 : 1 < d
                  · clear hstr
                    cases g with
                    | true =>
                      go_wp2_with (go_at_call 100; refine (cS _).mono ?_; rintro e w' ⟨rfl, rfl⟩)
                      go_roundw
                      case rel => exact ⟨pos + d, O ++ ⟨#[32]⟩ ++ s.extract pos (pos + d), false, rfl, rfl, by go_num, by omega, by rw [ByteArray.size_append, ByteArray.size_append, show (ByteArray.mk #[32]).size = 1 from rfl]; omega, Hs1.out HE.out (HG.out (by first | rfl | trivial)) hspc2.out _ HX.out, (fun h => by cases h), hbw2⟩
                      case measure => simp [intOf]; omega
                    | false =>
                      go_wp2_with (go_at_call 100; refine (cS _).mono ?_; rintro e w' ⟨rfl, rfl⟩)
                      go_roundw
                      case rel => exact ⟨pos + d, O ++ s.extract pos (pos + d), false, rfl, rfl, by go_num, by omega, by rw [ByteArray.size_append]; omega, Hs0.out HE.out hspc2.out _ HX.out, (fun h => by cases h), hbw2⟩
                      case measure => simp [intOf]; omega
                  · have f65 : (ri == 65533) = false := by simp; omega
                    have f65' : (ri != 65533) = true := by simp; omega
                    clear hstr
                    cases g with
                    | true =>
                      go_wp2_with (go_at_call 100; refine (cS _).mono ?_; rintro e w' ⟨rfl, rfl⟩)
                      go_roundw
                      case rel => exact ⟨pos + d, O ++ ⟨#[32]⟩ ++ s.extract pos (pos + d), false, rfl, rfl, by go_num, by omega, by rw [ByteArray.size_append, ByteArray.size_append, show (ByteArray.mk #[32]).size = 1 from rfl]; omega, Hs1.out HE.out (HG.out (by first | rfl | trivial)) hspc2.out _ HX.out, (fun h => by cases h), hbw2⟩
                      case measure => simp [intOf]; omega
                    | false =>
                      go_wp2_with (go_at_call 100; refine (cS _).mono ?_; rintro e w' ⟨rfl, rfl⟩)
                      go_roundw
                      case rel => exact ⟨pos + d, O ++ s.extract pos (pos + d), false, rfl, rfl, by go_num, by omega, by rw [ByteArray.size_append]; omega, Hs0.out HE.out hspc2.out _ HX.out, (fun h => by cases h), hbw2⟩
                      case measure => simp [intOf]; omega
    · obtain rfl : pos = s.size := by omega
      go_wp2
      go_ret
      have hO2 : O = foldOf s := by
        apply ByteArray.ext
        apply Array.toList_inj.1
        have hz : FoldRest s s.size g (anyB O) = [] := by
          unfold FoldRest
          rw [List.drop_eq_nil_of_le (by simp)]; rfl
        rw [hz, List.append_nil] at hE
        rw [hE]
        simp [foldOf]
      subst hO2
      exact ⟨rfl, hbw⟩
end Go.Proofs.YtpifhjdbcdcelaaGreatDoor

namespace Go.Proofs.YtpifhjdbcdcelaaGreatDoor
open Go.RowKit Go.Maps
set_option linter.unusedSimpArgs false
set_option linter.unusedVariables false
set_option maxRecDepth 100000
def RsRel (f : ByteArray) (o i : Value) : Prop := ∃ (k : Nat) (U : ByteArray), i = .int .i64 k ∧ o = .string U ∧ k ≤ f.size ∧ U.data.toList = slRow (f.data.toList.take k)
theorem rs_step (f : ByteArray) (k : Nat) (h : k < f.size) : slRow (f.data.toList.take (k + 1)) = slOne (slRow (f.data.toList.take k)) f[k] := by
  rw [List.take_succ_eq_append_getElem (by simpa using h), slRow_append]
  rfl
def RtRel (E : List UInt8) (t : Value) : Prop := ∃ p : ByteArray, t = .string p ∧ p.size ≤ 40 ∧ SlOk p.data.toList ∧ slTrim p.data.toList = E
theorem slOne_keep {id : List UInt8} {b : UInt8} (h : slKeep b = true) : slOne id b = id ++ [b] := by unfold slOne; rw [if_pos h]
theorem slOne_dash2 {id : List UInt8} {b : UInt8} (h : slKeep b = false) (h2 : id.getLastD 45 ≠ 45) : slOne id b = id ++ [45] := by unfold slOne; rw [if_neg (by rw [h]; simp), if_neg h2]
theorem slOne_none {id : List UInt8} {b : UInt8} (h : slKeep b = false) (h2 : id.getLastD 45 = 45) : slOne id b = id := by unfold slOne; rw [if_neg (by rw [h]; simp), if_pos h2]
theorem slKeep_yes {b : UInt8} (h : slKeep b = true) : (97 ≤ (b.toNat : Int) ∧ (b.toNat : Int) ≤ 122) ∨ ((b.toNat : Int) < 97 ∧ 48 ≤ (b.toNat : Int) ∧ (b.toNat : Int) ≤ 57) := by simp [slKeep] at h; omega
theorem slKeep_no {b : UInt8} (h : slKeep b = false) : (97 ≤ (b.toNat : Int) ∧ 122 < (b.toNat : Int) ∧ 48 ≤ (b.toNat : Int) ∧ 57 < (b.toNat : Int)) ∨ ((b.toNat : Int) < 97 ∧ 48 ≤ (b.toNat : Int) ∧ 57 < (b.toNat : Int)) ∨ ((b.toNat : Int) < 97 ∧ (b.toNat : Int) < 48) := by simp [slKeep] at h; omega
theorem one_at (f : ByteArray) (k : Nat) (h : k < f.size) : (f.extract k (k + 1)).data.toList = [f[k]] := by
  rw [ByteArray.data_extract, Array.toList_extract, List.extract_eq_take_drop, List.drop_eq_getElem_cons (by simpa using h), show k + 1 - k = 1 from by omega]
  rfl
set_option maxHeartbeats 8000000 in
theorem refSlug_any (s : ByteArray) (w : World) (hs : s.size ≤ 1000000) (hT : Tabs w) :
    Calls Tryz.prog 66 #[.string s] w fun e w' => e = .returned (.string ⟨(slugL s.data.toList).toArray⟩) ∧ Below w.heap.size w w' := by
  have cf := refFold_any s w (by omega) hT
  have hfl : (foldOf s).data.toList = foldL s.data.toList := rfl
  have hfs := foldOf_size s
  have hE : slugL s.data.toList = slEnd ((slRow (foldOf s).data.toList).take 40) := rfl
  generalize slugL s.data.toList = res at *
  generalize foldOf s = f at *
  have HE := Lib.hid hE
  clear hE hfl hT
  go_enter Tryz.func66, Tryz.ntmps66
  go_wp2_with fail
  refine cf.mono ?_
  rintro e w1 ⟨rfl, b1⟩
  have HB1 := Lib.hid b1
  clear b1 cf
  go_wp2_with fail
  go_loop [4, 5] (fun o i => RsRel f o i) (fun _ i => f.size - (intOf i).toNat)
  case atStart => exact ⟨0, ⟨#[]⟩, rfl, rfl, Nat.zero_le _, rfl⟩
  case round =>
    obtain ⟨k, U, rfl, rfl, hk, hU⟩ := hrel
    have hUs : U.size ≤ k := by
      have h1 := slSize U
      have h2 := slRow_len (f.data.toList.take k)
      rw [hU] at h1
      rw [List.length_take] at h2
      omega
    by_cases hkf : k < f.size
    · have hst := rs_step f k hkf
      cases hb : slKeep f[k] with
      | true =>
        rw [slOne_keep hb, ← hU, ← one_at f k hkf, ← Array.toList_append, ← ByteArray.data_append] at hst
        have HS := Lib.hid hst
        have hsl := fun W => slice_lohi f (k : Int) ((k : Int) + 1) k (k + 1) rfl (by omega) (by omega) (by omega) W
        have hes : (f.extract k (k + 1)).size = 1 := by rw [← slSize, one_at f k hkf]; rfl
        have r1 := fun W => run_string_add_sum (P := Tryz.prog) W U (f.extract k (k + 1)) (by rw [hes]; omega)
        generalize f.extract k (k + 1) = c1 at *
        rcases slKeep_yes hb with ⟨g1, g2⟩ | ⟨g1, g2, g3⟩
        · clear hb hst hU
          go_wp2
          all_goals first
            | exact ⟨⟨k + 1, _, by go_num, rfl, by omega, HS.out.symm⟩, by simp only [intOf]; omega⟩
            | (go_round
               case rel => exact ⟨k + 1, _, by go_num, rfl, by omega, HS.out.symm⟩
               case measure => simp [intOf]; omega)
        · clear hb hst hU
          go_wp2
          all_goals first
            | exact ⟨⟨k + 1, _, by go_num, rfl, by omega, HS.out.symm⟩, by simp only [intOf]; omega⟩
            | (go_round
               case rel => exact ⟨k + 1, _, by go_num, rfl, by omega, HS.out.symm⟩
               case measure => simp [intOf]; omega)
      | false =>
        by_cases hU0 : U.size = 0
        · obtain rfl := slEmpty_of U hU0
          rw [slOne_none hb (by rw [← hU]; rfl), ← hU] at hst
          have HS := Lib.hid hst
          clear hst hU hUs hU0
          rcases slKeep_no hb with ⟨g1, g2, g3, g4⟩ | ⟨g1, g2, g3⟩ | ⟨g1, g2⟩
          · clear hb
            go_wp2
            all_goals first
              | exact ⟨⟨k + 1, _, by go_num, rfl, by omega, HS.out.symm⟩, by simp only [intOf]; omega⟩
              | (go_round
                 case rel => exact ⟨k + 1, _, by go_num, rfl, by omega, HS.out.symm⟩
                 case measure => simp [intOf]; omega)
          · clear hb
            go_wp2
            all_goals first
              | exact ⟨⟨k + 1, _, by go_num, rfl, by omega, HS.out.symm⟩, by simp only [intOf]; omega⟩
              | (go_round
                 case rel => exact ⟨k + 1, _, by go_num, rfl, by omega, HS.out.symm⟩
                 case measure => simp [intOf]; omega)
          · clear hb
            go_wp2
            all_goals first
              | exact ⟨⟨k + 1, _, by go_num, rfl, by omega, HS.out.symm⟩, by simp only [intOf]; omega⟩
              | (go_round
                 case rel => exact ⟨k + 1, _, by go_num, rfl, by omega, HS.out.symm⟩
                 case measure => simp [intOf]; omega)

        · obtain ⟨n, hn⟩ : ∃ n, U.size = n + 1 := ⟨U.size - 1, by omega⟩
          have hm1 : (U.size : Int) - 1 = (n : Int) := by omega
          have hnl : n < U.size := by omega
          have hp0 : 0 < U.size := by omega
          have e1 := toList_ne hp0
          have e2 := toList_empty hp0
          obtain ⟨p, z, hpz⟩ := snoc_of (a := U.data.toList) (by intro e; have := slSize U; rw [e] at this; simp at this; omega)
          have hpl : p.length = n := by have := slSize U; rw [hpz] at this; simp at this; omega
          subst hpl
          have hla := last_at hpz hnl
          have hgl : (slRow (f.data.toList.take k)).getLastD 45 = z := by rw [← hU, hpz, getLastD_snoc]
          by_cases hz : z = 45
          · have hq : ((U[p.length].toNat : Int) == 45) = true := by rw [hla, hz]; rfl
            rw [slOne_none hb (by rw [hgl, hz]), ← hU] at hst
            have HS := Lib.hid hst
            clear hst hU hpz hla hgl hz hU0
            rcases slKeep_no hb with ⟨g1, g2, g3, g4⟩ | ⟨g1, g2, g3⟩ | ⟨g1, g2⟩
            · clear hb
              go_wp2
              all_goals first
                | exact ⟨⟨k + 1, _, by go_num, rfl, by omega, HS.out.symm⟩, by simp only [intOf]; omega⟩
                | (go_round
                   case rel => exact ⟨k + 1, _, by go_num, rfl, by omega, HS.out.symm⟩
                   case measure => simp [intOf]; omega)
            · clear hb
              go_wp2
              all_goals first
                | exact ⟨⟨k + 1, _, by go_num, rfl, by omega, HS.out.symm⟩, by simp only [intOf]; omega⟩
                | (go_round
                   case rel => exact ⟨k + 1, _, by go_num, rfl, by omega, HS.out.symm⟩
                   case measure => simp [intOf]; omega)
            · clear hb
              go_wp2
              all_goals first
                | exact ⟨⟨k + 1, _, by go_num, rfl, by omega, HS.out.symm⟩, by simp only [intOf]; omega⟩
                | (go_round
                   case rel => exact ⟨k + 1, _, by go_num, rfl, by omega, HS.out.symm⟩
                   case measure => simp [intOf]; omega)

          · have hq : ((U[p.length].toNat : Int) == 45) = false := by rw [hla, eq45]; simpa using hz
            rw [slOne_dash2 hb (by rw [hgl]; exact hz), ← hU] at hst
            have hst2 : (U ++ (⟨#[45]⟩ : ByteArray)).data.toList = slRow (f.data.toList.take (k + 1)) := by rw [hst]; simp
            have r1 := fun W => run_string_add_sum (P := Tryz.prog) W U (⟨#[45]⟩ : ByteArray) (by show U.size + 1 ≤ _; omega)
            have HS := Lib.hid hst2.symm
            generalize hT : U ++ (⟨#[45]⟩ : ByteArray) = T1 at *
            clear hst hst2 hU hpz hla hgl hz hU0
            rcases slKeep_no hb with ⟨g1, g2, g3, g4⟩ | ⟨g1, g2, g3⟩ | ⟨g1, g2⟩
            · clear hb
              go_wp2
              all_goals first
                | exact ⟨⟨k + 1, _, by go_num, rfl, by omega, HS.out.symm⟩, by simp only [intOf]; omega⟩
                | (go_round
                   case rel => exact ⟨k + 1, _, by go_num, rfl, by omega, HS.out.symm⟩
                   case measure => simp [intOf]; omega)
            · clear hb
              go_wp2
              all_goals first
                | exact ⟨⟨k + 1, _, by go_num, rfl, by omega, HS.out.symm⟩, by simp only [intOf]; omega⟩
                | (go_round
                   case rel => exact ⟨k + 1, _, by go_num, rfl, by omega, HS.out.symm⟩
                   case measure => simp [intOf]; omega)
            · clear hb
              go_wp2
              all_goals first
                | exact ⟨⟨k + 1, _, by go_num, rfl, by omega, HS.out.symm⟩, by simp only [intOf]; omega⟩
                | (go_round
                   case rel => exact ⟨k + 1, _, by go_num, rfl, by omega, HS.out.symm⟩
                   case measure => simp [intOf]; omega)

    · obtain rfl : k = f.size := by omega
      rw [List.take_of_length_le (by rw [slSize]; exact Nat.le_refl _)] at hU
      have hok : SlOk U.data.toList := by rw [hU]; exact SlOk.row _
      rw [← hU] at HE
      clear hU
      obtain ⟨X, hX, hsl⟩ : ∃ X : ByteArray, X.data.toList = U.data.toList.take 40 ∧ ∀ W, (Instr.slice 9 (.string U) none (some (.int .i64 (min (U.size : Int) 40))) none).run Tryz.prog W = .ok (.string X) W := by
        refine ⟨U.extract 0 (min U.size 40), ?_, fun W => slice_hi U _ (min U.size 40) (by omega) (by omega) W⟩
        rw [ByteArray.data_extract, Array.toList_extract, List.extract_eq_take_drop, List.drop_zero, Nat.sub_zero]
        by_cases h : U.size ≤ 40
        · rw [Nat.min_eq_left h, List.take_of_length_le (by rw [slSize]; exact Nat.le_refl _), List.take_of_length_le (by rw [slSize]; exact h)]
        · rw [Nat.min_eq_right (by omega)]
      have hok4 := hok.take 40
      have hX1 : X.size ≤ 40 := by
        have hXs := slSize X
        rw [hX, List.length_take, slSize] at hXs
        omega
      have hr := HE.out
      rw [← hX] at hr hok4
      unfold slEnd at hr
      have HREL := Lib.hid (⟨X, rfl, hX1, hok4, rfl⟩ : RtRel (slTrim X.data.toList) (.string X))
      generalize slTrim X.data.toList = E at *
      have HR := Lib.hid hr
      clear hr hok hX hok4 HE
      go_wp2_with fail
      clear hsl
      go_loop [4] (fun t => RtRel E t) (fun t => slSz t)
      case atStart => exact HREL.out
      case round =>
        obtain ⟨p, rfl, h1, hok, hE⟩ := hrel
        by_cases h0 : p.size = 0
        · obtain rfl := slEmpty_of p h0
          have hres : res = slNone := by rw [HR.out, if_pos (by rw [← hE]; rfl)]
          subst hres
          clear h0 h1 hok hE
          go_wp2
          go_ret
          exact ⟨rfl, HB1.out⟩
        · obtain ⟨n, hn⟩ : ∃ n, p.size = n + 1 := ⟨p.size - 1, by omega⟩
          have hm1 : (p.size : Int) - 1 = (n : Int) := by omega
          have hnl : n < p.size := by omega
          have hp0 : 0 < p.size := by omega
          have e1 := toList_ne hp0
          have e2 := toList_empty hp0
          rcases trim_step n hn h1 hok hE with ⟨g, hr, hsz⟩ | ⟨g, hr⟩
          · have hb : ((p[n].toNat : Int) == 45) = true := by rw [g]; rfl
            have hs2 := fun W => slice_hi p (n : Int) n rfl (by omega) W
            have HR2 := Lib.hid hr
            clear hr g hE hok h0
            go_wp2
            all_goals first
              | exact ⟨(by obtain ⟨q, e, _, r⟩ := HR2.out; exact ⟨q, e, r⟩), by simp only [slSz_string]; omega⟩
              | (go_round
                 case rel => obtain ⟨q, e, _, r⟩ := HR2.out; exact ⟨q, e, r⟩
                 case measure => simp only [slSz_string]; omega)
          · have hb : ((p[n].toNat : Int) == 45) = false := by rw [eq45]; simpa using g
            have hEn : E ≠ [] := by rintro rfl; rw [hr] at hp0; exact absurd hp0 (by decide)
            have hres : res = E := by rw [HR.out, if_neg hEn]
            have HP := Lib.hid hr
            clear hr g hE hok h0 hEn HR HREL
            subst hres
            go_wp2
            go_ret
            have hpe := HP.out
            subst hpe
            exact ⟨rfl, HB1.out⟩
end Go.Proofs.YtpifhjdbcdcelaaGreatDoor

namespace Go.Proofs.YtpifhjdbcdcelaaGreatDoor
open Go.RowKit
set_option linter.unusedVariables false
theorem tgConv_byte (w : World) (v : Int) (h0 : 0 ≤ v) (h1 : v ≤ 255) :
    (convert 85 9 (.slice (some ⟨w.heap.size, 0, none⟩) 1 1)).run Tryz.prog (w.alloc (.cells #[.int .u8 v] 5)) = .ok (.string ⟨#[v.toNat.toUInt8]⟩) (w.alloc (.cells #[.int .u8 v] 5)) := by
  exact run_convert_bytes_back (w.alloc (.cells #[.int .u8 v] 5)) 85 9 5 ⟨w.heap.size, 0, none⟩ 1 [v.toNat.toUInt8] Tryz.underlying85 Tryz.underlying5 Tryz.underlying9 (fun j hj => by
    simp only [List.length_cons, List.length_nil] at hj
    obtain rfl : j = 0 := by omega
    have e : ((v.toNat.toUInt8).toNat : Int) = v := by
      rw [Nat.toUInt8_eq, UInt8.toNat_ofNat']
      omega
    show _ = some (Value.int .u8 ((v.toNat.toUInt8).toNat : Int))
    rw [e]
    simp [Addr.add])
theorem conv_u8 (q : UInt8) (w : World) :
    (convert 85 9 (.slice (some ⟨w.heap.size, 0, none⟩) 1 1)).run Tryz.prog (w.alloc (.cells #[.int .u8 q.toNat] 5)) = .ok (.string ⟨#[q]⟩) (w.alloc (.cells #[.int .u8 q.toNat] 5)) := by
  have h := tgConv_byte w q.toNat (by omega) (by have := q.toNat_lt; omega)
  rw [show ((q.toNat : Int)).toNat.toUInt8 = q from by simp] at h
  exact h
end Go.Proofs.YtpifhjdbcdcelaaGreatDoor

namespace Go.Proofs.YtpifhjdbcdcelaaGreatDoor
open Go.RowKit Go.Maps
set_option linter.unusedSimpArgs false
set_option linter.unusedVariables false
set_option maxRecDepth 100000
theorem many_digit (q : Nat) (h : q < 10) : ((UInt8.ofNat (48 + q)).toNat : Int) = 48 + (q : Int) := by
  rw [UInt8.toNat_ofNat']; omega
end Go.Proofs.YtpifhjdbcdcelaaGreatDoor

namespace Go.Proofs.YtpifhjdbcdcelaaGreatDoor
open Go.RowKit Go.Maps
set_option linter.unusedSimpArgs false
set_option linter.unusedVariables false
set_option maxRecDepth 100000
/-- Where a name stands, counted from i; -1: nowhere. -/
def polIdx : List (List UInt8) → List UInt8 → Int → Int
  | [], _, _ => -1
  | n :: ns, x, i => if n = x then i else polIdx ns x (i + 1)
def idxL (ns : List (List UInt8)) (x : List UInt8) : Int := polIdx ns x 0
theorem idxF_cases : ∀ (ns : List (List UInt8)) (x : List UInt8) (i : Int), (polIdx ns x i = -1 ∧ x ∉ ns) ∨ (∃ k : Nat, ∃ h : k < ns.length, polIdx ns x i = i + k ∧ ns[k] = x ∧ x ∉ ns.take k)
  | [], x, i => Or.inl ⟨rfl, by simp⟩
  | n :: ns, x, i => by
    by_cases h : n = x
    · exact Or.inr ⟨0, by simp, by simp [polIdx, h], h, by simp⟩
    · rcases idxF_cases ns x (i + 1) with ⟨h1, h2⟩ | ⟨k, hk, h1, h2, h3⟩
      · exact Or.inl ⟨by simp [polIdx, h, h1], by simp [h2]; exact fun e => h e.symm⟩
      · refine Or.inr ⟨k + 1, by simp; omega, by simp [polIdx, h, h1]; omega, by simpa using h2, ?_⟩
        rw [List.take_succ_cons, List.mem_cons, not_or]
        exact ⟨fun e => h e.symm, h3⟩
theorem idxL_cases (ns : List (List UInt8)) (x : List UInt8) : (idxL ns x = -1 ∧ x ∉ ns) ∨ (∃ k : Nat, ∃ h : k < ns.length, idxL ns x = k ∧ ns[k] = x ∧ x ∉ ns.take k) := by
  rcases idxF_cases ns x 0 with h | ⟨k, hk, h1, h2⟩
  · exact Or.inl h
  · exact Or.inr ⟨k, hk, by unfold idxL; rw [h1]; omega, h2⟩
theorem idxL_none {ns : List (List UInt8)} {x : List UInt8} (h : x ∉ ns) : idxL ns x = -1 := by
  rcases idxL_cases ns x with ⟨h1, _⟩ | ⟨k, hk, h1, h2, _⟩
  · exact h1
  · exact absurd (h2 ▸ List.getElem_mem hk) h
def RAtRel (ns : List (List UInt8)) (x : List UInt8) (w : World) (i : Value) (wr : World) : Prop := ∃ k : Nat, i = .int .i64 k ∧ k ≤ ns.length ∧ x ∉ ns.take k ∧ wr = w
set_option maxHeartbeats 4000000 in
theorem rat_all (A : Option Addr) (ca : Nat) (ns : List (List UInt8)) (s : ByteArray) (w : World) (hr : RowOf w A ca (strs ns)) :
    Calls Tryz.prog 67 #[.slice A ns.length ca, .string s] w fun e w' => e = .returned (.int .i64 (idxL ns s.data.toList)) ∧ w' = w := by
  have hc1 := hr.1
  have hc2 := hr.2.1
  rw [strs_length] at hc1
  unfold maxLen at hc2
  have HR := Lib.hid hr
  clear hr
  go_enter Tryz.func67, Tryz.ntmps67
  go_wp2_with fail
  go_loopw [5] (fun i wr => RAtRel ns s.data.toList w i wr) (fun i _ => ns.length - (intOf i).toNat)
  case atStart => exact ⟨0, rfl, Nat.zero_le _, by simp, rfl⟩
  case round =>
    obtain ⟨k, rfl, hk, hno, hwe⟩ := hrel
    have hwe := hwe.symm
    subst hwe
    by_cases hp : k < ns.length
    · obtain ⟨b, off, rfl, hb, hcell⟩ := HR.out.cellAt hp
      by_cases he : ns[k] = s.data.toList
      · have fe : ((⟨ns[k].toArray⟩ : ByteArray).toList == s.toList) = true := by rw [beq_iff_eq, ByteArray.toList_eq, ByteArray.toList_eq]; exact he
        have fe2 : (ns[k] == s.toList) = true := by rw [beq_iff_eq, ByteArray.toList_eq]; exact he
        have HI := Lib.hid (show idxL ns s.data.toList = k from by
          rcases idxL_cases ns s.data.toList with ⟨_, h⟩ | ⟨j, hj, h1, h2, h3⟩
          · exact absurd (he ▸ List.getElem_mem hp) h
          · rw [h1]
            rcases Nat.lt_trichotomy j k with h | h | h
            · exfalso; apply hno
              rw [← h2]
              exact List.mem_take_iff_getElem.2 ⟨j, by omega, rfl⟩
            · rw [h]
            · exfalso; apply h3
              rw [← he]
              exact List.mem_take_iff_getElem.2 ⟨k, by omega, rfl⟩)
        clear he hno hb
        go_wp2
        go_ret
        exact ⟨ret_int HI.out.symm, rfl⟩
      · have fe : ((⟨ns[k].toArray⟩ : ByteArray).toList == s.toList) = false := by rw [beq_eq_false_iff_ne, ByteArray.toList_eq, ByteArray.toList_eq]; exact he
        have fe2 : (ns[k] == s.toList) = false := by rw [beq_eq_false_iff_ne, ByteArray.toList_eq]; exact he
        have HI := Lib.hid (show s.data.toList ∉ ns.take (k + 1) from by
          rw [List.take_succ_eq_append_getElem hp, List.mem_append]
          rintro (h | h)
          · exact hno h
          · simp at h; exact he h.symm)
        clear he hno hb
        go_wp2
        exact ⟨⟨k + 1, by go_num, by omega, HI.out, rfl⟩, by simp [intOf]; omega⟩
    · have HI := Lib.hid (show idxL ns s.data.toList = -1 from idxL_none (by rw [← List.take_of_length_le (l := ns) (show ns.length ≤ k from by omega)]; exact hno))
      clear hno
      go_wp2
      go_ret
      exact ⟨ret_int HI.out.symm, rfl⟩
theorem idxL_neg (ns : List (List UInt8)) (x : List UInt8) : decide (idxL ns x < 0) = decide (x ∉ ns) ∧ decide (0 ≤ idxL ns x) = decide (x ∈ ns) := by
  rcases idxL_cases ns x with ⟨h, hn⟩ | ⟨k, hk, h, h2, _⟩
  · rw [h]; simp [hn]
  · have hx : x ∈ ns := h2 ▸ List.getElem_mem hk
    rw [h]; simp [hx]
set_option maxHeartbeats 8000000 in
theorem refDigits_any (n : Nat) (w : World) (h1 : 1 ≤ n) (h2 : n < 100) :
    Calls Tryz.prog 23 #[.int .i64 n] w fun e w' => e = .returned (.string ⟨(Lib.decDigits n).toArray⟩) ∧ Below w.heap.size w w' := by
  have hn0 : ((n : Int) == 0) = false := by simp; omega
  have hcv := fun (q : UInt8) W => conv_u8 q W
  by_cases h9 : n < 10
  · have hd : ((UInt8.ofNat (48 + n)).toNat : Int) = 48 + (n : Int) := many_digit n h9
    have hq : (n : Int) / 10 = 0 := by omega
    have hr : (n : Int) % 10 = n := by omega
    have hcv := fun W => conv_u8 (UInt8.ofNat (48 + n)) W
    rw [hd] at hcv
    rw [Lib.decDigits_one h9]
    have HB := Lib.hid ((Below.refl w.heap.size w).alloc (Nat.le_refl _) (.cells #[.int .u8 (48 + (n : Int))] 5))
    generalize UInt8.ofNat (48 + n) = q at *
    have r1 := fun W => run_string_add_sum (P := Tryz.prog) W (⟨#[q]⟩ : ByteArray) (⟨#[]⟩ : ByteArray) (by show 1 + 0 ≤ _; omega)
    rw [show (⟨#[q]⟩ : ByteArray) ++ (⟨#[]⟩ : ByteArray) = ⟨#[q]⟩ from str_cat [q] []] at r1
    have e1 := toList_ne (s := (⟨#[q]⟩ : ByteArray)) (by show 0 < 1; omega)
    have e2 := toList_empty (s := (⟨#[q]⟩ : ByteArray)) (by show 0 < 1; omega)
    go_enter Tryz.func23, Tryz.ntmps23
    go_wp2_with fail
    refine wp_loop_rounds 2 ?_
    rw [rounds_succ]
    go_wp2_with fail
    rw [rounds_succ]
    go_wp2
    go_ret
    exact ⟨rfl, HB.out⟩
  · have hd : ((UInt8.ofNat (48 + n % 10)).toNat : Int) = 48 + (n : Int) % 10 := (many_digit _ (by omega)).trans (by omega)
    have hd2 : ((UInt8.ofNat (48 + n / 10)).toNat : Int) = 48 + (n : Int) / 10 := (many_digit _ (by omega)).trans (by omega)
    have hq0 : ((n : Int) / 10 == 0) = false := by simp; omega
    have hq : (n : Int) / 10 / 10 = 0 := by omega
    have hr : (n : Int) / 10 % 10 = (n : Int) / 10 := by omega
    have hg1 : 0 ≤ (n : Int) / 10 := by omega
    have hg2 : (n : Int) / 10 ≤ 9 := by omega
    have hcv := fun W => conv_u8 (UInt8.ofNat (48 + n % 10)) W
    have hcv2 := fun W => conv_u8 (UInt8.ofNat (48 + n / 10)) W
    rw [hd] at hcv
    rw [hd2] at hcv2
    have hcvB := hcv2 (w.alloc (.cells #[.int .u8 (48 + (n : Int) % 10)] 5))
    rw [alloc_size] at hcvB
    rw [Lib.decDigits_two h9 h2]
    have HB := Lib.hid (((Below.refl w.heap.size w).alloc (Nat.le_refl _) (.cells #[.int .u8 (48 + (n : Int) % 10)] 5)).alloc (((Below.refl w.heap.size w).alloc (Nat.le_refl _) (.cells #[.int .u8 (48 + (n : Int) % 10)] 5)).size) (.cells #[.int .u8 (48 + (n : Int) / 10)] 5))
    generalize UInt8.ofNat (48 + n % 10) = q at *
    generalize UInt8.ofNat (48 + n / 10) = q2 at *
    have r1 := fun W => run_string_add_sum (P := Tryz.prog) W (⟨#[q]⟩ : ByteArray) (⟨#[]⟩ : ByteArray) (by show 1 + 0 ≤ _; omega)
    rw [show (⟨#[q]⟩ : ByteArray) ++ (⟨#[]⟩ : ByteArray) = ⟨#[q]⟩ from str_cat [q] []] at r1
    have r2 := fun W => run_string_add_sum (P := Tryz.prog) W (⟨#[q2]⟩ : ByteArray) (⟨#[q]⟩ : ByteArray) (by show 1 + 1 ≤ _; omega)
    rw [show (⟨#[q2]⟩ : ByteArray) ++ (⟨#[q]⟩ : ByteArray) = ⟨#[q2, q]⟩ from str_cat [q2] [q]] at r2
    have e1 := toList_ne (s := (⟨#[q]⟩ : ByteArray)) (by show 0 < 1; omega)
    have e2 := toList_empty (s := (⟨#[q]⟩ : ByteArray)) (by show 0 < 1; omega)
    have e3 := toList_ne (s := (⟨#[q2, q]⟩ : ByteArray)) (by show 0 < 2; omega)
    have e4 := toList_empty (s := (⟨#[q2, q]⟩ : ByteArray)) (by show 0 < 2; omega)
    go_enter Tryz.func23, Tryz.ntmps23
    go_wp2_with fail
    refine wp_loop_rounds 3 ?_
    rw [rounds_succ]
    go_wp2_with fail
    rw [rounds_succ]
    go_wp2_with fail
    rw [rounds_succ]
    go_wp2
    go_ret
    exact ⟨rfl, HB.out⟩
def RnRel (had : List (List UInt8)) (id : List UInt8) (w : World) (k : Value) (wr : World) : Prop := ∃ n : Nat, k = .int .i64 n ∧ 2 ≤ n ∧ n ≤ slLeast had id ∧ Below w.heap.size w wr
theorem num_cat (id : List UInt8) (n : Nat) : (⟨id.toArray⟩ : ByteArray) ++ (⟨#[45]⟩ : ByteArray) ++ (⟨(Lib.decDigits n).toArray⟩ : ByteArray) = ⟨(slNum id n).toArray⟩ := by
  rw [show (⟨#[45]⟩ : ByteArray) = ⟨([45] : List UInt8).toArray⟩ from rfl, str_cat, str_cat]; unfold slNum; simp
set_option maxHeartbeats 8000000 in
theorem refAnchor_any (A : Option Addr) (ca : Nat) (had : List (List UInt8)) (s : ByteArray) (w : World) (hr : RowOf w A ca (strs had)) (hs : s.size ≤ 1000000) (hh : had.length ≤ 60) (hT : Tabs w) :
    Calls Tryz.prog 25 #[.slice A had.length ca, .string s] w fun e w' => e = .returned (.string ⟨(slNext had s.data.toList).toArray⟩) ∧ Below w.heap.size w w' := by
  have cs := refSlug_any s w hs hT
  have hl := slugL_len s.data.toList
  have hnx : slNext had s.data.toList = if slugL s.data.toList ∈ had then slNum (slugL s.data.toList) (slLeast had (slugL s.data.toList)) else slugL s.data.toList := rfl
  generalize slNext had s.data.toList = nx at *
  generalize slugL s.data.toList = id at *
  obtain ⟨l1, l2, l3, l4⟩ := slLeast_is had id hh
  have hc1 := hr.1
  have hc2 := hr.2.1
  rw [strs_length] at hc1
  unfold maxLen at hc2
  have HR := Lib.hid hr
  have HL := Lib.hid (And.intro l3 l4)
  have HNX := Lib.hid hnx
  clear hr hT l3 l4 hnx
  go_enter Tryz.func25, Tryz.ntmps25
  go_wp2_with fail
  refine cs.mono ?_
  rintro e w1 ⟨rfl, b1⟩
  have HB1 := Lib.hid b1
  have ca1 := rat_all A ca had ⟨id.toArray⟩ w1 (HR.out.below b1)
  have hn1 := (idxL_neg had id).1
  rw [show (⟨id.toArray⟩ : ByteArray).data.toList = id from rfl] at ca1
  have CA1 := Lib.hid ca1
  clear b1 cs ca1
  by_cases hin : id ∈ had
  · rw [show decide (id ∉ had) = false from by simp [hin]] at hn1
    generalize idxL had id = r at *
    go_wp2_with fail
    refine CA1.out.mono ?_
    rintro e w' ⟨rfl, rfl⟩
    go_wp2_with fail
    go_loopw [6] (fun k wr => RnRel had id w k wr) (fun k _ => slLeast had id - (intOf k).toNat)
    case atStart => exact ⟨2, rfl, Nat.le_refl _, l1, HB1.out⟩
    case round =>
      obtain ⟨n, rfl, hn2, hnl, hbw⟩ := hrel
      have hszi : (⟨id.toArray⟩ : ByteArray).size = id.length := str_size _
      have eP : (⟨id.toArray⟩ : ByteArray) ++ (⟨#[45]⟩ : ByteArray) = ⟨(id ++ [45]).toArray⟩ := str_cat id [45]
      have hdl := (decDigits_ok (n := n) (by omega)).2.2
      have r1 := fun W => run_string_add_sum (P := Tryz.prog) W (⟨id.toArray⟩ : ByteArray) (⟨#[45]⟩ : ByteArray) (by rw [hszi]; show id.length + 1 ≤ _; omega)
      have r2 := fun W => run_string_add_sum (P := Tryz.prog) W (⟨(id ++ [45]).toArray⟩ : ByteArray) (⟨(Lib.decDigits n).toArray⟩ : ByteArray) (by rw [str_size, str_size]; simp; omega)
      rw [eP] at r1
      rw [← eP, num_cat] at r2
      rw [eP] at r2
      have cd := refDigits_any n wr (by omega) (by omega)
      generalize hdd : (⟨(Lib.decDigits n).toArray⟩ : ByteArray) = d at *
      have CD := Lib.hid cd
      have HBW := Lib.hid hbw
      clear cd hbw hszi eP hdl
      go_wp2_with fail
      refine CD.out.mono ?_
      rintro e w5 ⟨rfl, b5⟩
      have HB5 := Lib.hid (HBW.out.then b5)
      have ca2 := rat_all A ca had ⟨(slNum id n).toArray⟩ w5 (HR.out.below HB5.out)
      rw [show (⟨(slNum id n).toArray⟩ : ByteArray).data.toList = slNum id n from rfl] at ca2
      have hn5 := (idxL_neg had (slNum id n)).2
      have CA2 := Lib.hid ca2
      clear b5 ca2
      generalize hix : idxL had (slNum id n) = r5 at *
      by_cases hlt : n < slLeast had id
      · rw [decide_eq_true (HL.out.2 n hn2 hlt)] at hn5
        clear hix
        go_wp2_with fail
        refine CA2.out.mono ?_
        rintro e w' ⟨rfl, rfl⟩
        go_wp2
        all_goals first
          | exact ⟨⟨n + 1, by go_num, by omega, by omega, HB5.out⟩, by simp only [intOf]; omega⟩
          | (go_round
             case rel => exact ⟨n + 1, by go_num, by omega, by omega, HB5.out⟩
             case measure => simp [intOf]; omega)
      · obtain rfl : n = slLeast had id := by omega
        rw [decide_eq_false HL.out.1] at hn5
        have cd6 := refDigits_any (slLeast had id) w5 (by omega) (by omega)
        have hn6 : nx = slNum id (slLeast had id) := by rw [HNX.out, if_pos hin]
        have hde : (⟨(Lib.decDigits (slLeast had id)).toArray⟩ : ByteArray) = d := hdd
        rw [hde] at cd6
        have CD6 := Lib.hid cd6
        clear cd6 hde hix
        go_wp2_with fail
        refine CA2.out.mono ?_
        rintro e w' ⟨rfl, rfl⟩
        go_wp2_with fail
        refine CD6.out.mono ?_
        rintro e w6 ⟨rfl, b6⟩
        have HB6 := Lib.hid (HB5.out.then b6)
        go_wp2
        go_ret
        subst hn6
        exact ⟨rfl, HB6.out⟩
  · have hn1' : nx = id := by rw [HNX.out, if_neg hin]
    rw [show decide (id ∉ had) = true from by simp [hin]] at hn1
    generalize idxL had id = r at *
    subst hn1'
    go_wp2_with fail
    refine CA1.out.mono ?_
    rintro e w' ⟨rfl, rfl⟩
    go_wp2
    go_ret
    exact ⟨rfl, HB1.out⟩
end Go.Proofs.YtpifhjdbcdcelaaGreatDoor

namespace Go.Proofs.YtpifhjdbcdcelaaGreatDoor
open Go.ChangeShapes Go.WideShapes Go.ChangeAt Go.RowKit
/-- A list of texts behind one of the call's own. -/
theorem append_strs {w : World} {ops : Array Oper} {rest : List Oper} {o : Oper} {a : Act} {Q : Exit → Act → World → Prop} (hgd : o.guard = none) (s x : Operand)
    (ho : o.op = .call { callee := .builtin .append, args := #[s, x], argTypes := #[23, 23] }) (base : Nat) (v : Value) (ls : List (List UInt8)) (hs : a.eval s = v)
    (hown : w.ownsRow base 9 1 v ls.length (strs ls)) (A : Option Addr) (c : Nat) (more : List (List UInt8)) (hx : a.eval x = .slice A more.length c) (hrow : RowOf w A c (strs more)) (hnil : A = none → more = [] ∧ c = 0)
    (h63 : ls.length + more.length ≤ 200000000000) (hbase : base ≤ w.heap.size)
    (h : ∀ v' w', w'.ownsRow base 9 1 v' (ls ++ more).length (strs (ls ++ more)) → w.grownBy w' v.ownBlock → wpList Tryz.prog ops Q rest (a.put o.dst v') w') : wpList Tryz.prog ops Q (o :: rest) a w := by
  obtain ⟨i0, hi, hz0, hz1, hz2⟩ := info_parts infoString
  cases A with
  | none =>
    obtain ⟨rfl, rfl⟩ := hnil rfl
    refine wpList_append_own_none hgd s x 23 ho base 9 i0 1 Tryz.underlying23 hi v ls.length (strs ls) hs hown hx ?_
    exact h v w (by rw [List.append_nil]; exact hown) ⟨rfl, rfl, rfl, Nat.le_refl _, fun _ _ _ => rfl⟩
  | some ad =>
    refine wpList_append_own w hgd s x 23 ho base 9 i0 (.string ByteArray.empty) 1 16 Tryz.underlying23 hi hz0 hz1 hz2 rfl (by decide) v ls.length (strs ls) hs hown ad more.length c (strs more) hx (by rw [strs_length, Nat.mul_one]) hrow.cells (strs_one' more) (by unfold maxLen; omega) (by omega) hbase ?_
    intro v' w' h2 h3 _
    exact h v' w' (by rw [List.length_append, strs_append]; exact h2) h3
end Go.Proofs.YtpifhjdbcdcelaaGreatDoor
