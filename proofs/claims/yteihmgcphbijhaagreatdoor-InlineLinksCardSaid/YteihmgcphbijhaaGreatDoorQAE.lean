/- Texts joined: EmD EmE EmF EmG EmH Reg. -/
import Derived.Test.YteihmgcphbijhaaGreatDoorQAD
import Derived.Test.YteihmgcphbijhaaGreatDoorQAA
import Derived.Maps.GroupsBeside
import Derived.Maps.OwnSet
import Derived.DeepKeys4
import Derived.ArgAppend
import Derived.OwnWalk
import Derived.Deep.RegionHeld3
import Derived.Lib.MinMax
import Derived.BigQuiet
import Derived.OrdersHeld
import Derived.Tactics
import Derived.WalkKit
namespace Go.Proofs.YteihmgcphbijhaaGreatDoor
open Go.RowKit
set_option linter.unusedSimpArgs false
set_option linter.unusedVariables false
set_option maxRecDepth 100000
theorem run_clear_inls (w : World) (B g cap n k : Nat) (xs : List Value) (h : w.ownsRow B 28 5 (.slice (some ⟨g, 0, none⟩) n cap) n xs) (hk : k < n) (c : Nat) (ty : TypeId) :
    ∃ w', (Builtin.clear_ #[25] ty #[.slice (some ⟨g, k * 5, none⟩) (n - k) c]).run Tryz.prog w = .ok (.tuple #[]) w' ∧
      w'.ownsRow B 28 5 (.slice (some ⟨g, 0, none⟩) k cap) k (xs.take (k * 5)) ∧ w.grownBy w' (some g) := by
  have hz : ∀ W : World, (zeroValue 28).run Tryz.prog W = .ok (.agg #[.int .i64 0, .int .i64 0, .string ByteArray.empty, .string ByteArray.empty, .string ByteArray.empty]) W := fun W => by kernel_rfl
  obtain ⟨m, hm⟩ : ∃ m, n - k = m + 1 := ⟨n - k - 1, by omega⟩
  have hcs : (Value.agg #[.int .i64 0, .int .i64 0, .string ByteArray.empty, .string ByteArray.empty, .string ByteArray.empty]).cells = #[.int .i64 0, .int .i64 0, .string ByteArray.empty, .string ByteArray.empty, .string ByteArray.empty] := by kernel_rfl
  obtain ⟨L, hL, hl5, h1⟩ : ∃ L : List Value, (Builtin.zeroCells #[.int .i64 0, .int .i64 0, .string ByteArray.empty, .string ByteArray.empty, .string ByteArray.empty] (n - k)).toList = L ∧ L.length = (n - k) * 5 ∧ ∀ u ∈ L, u.oneCell' = true := by
    refine ⟨_, rfl, ?_, fun u hu => ?_⟩
    · simp [Builtin.zeroCells]
    · simp [Builtin.zeroCells] at hu
      obtain ⟨i, _, rfl⟩ := hu
      have : i % 5 < 5 := Nat.mod_lt _ (by decide)
      match h : i % 5, this with
      | 0, _ => simp [h]; rfl
      | 1, _ => simp [h]; rfl
      | 2, _ => simp [h]; rfl
      | 3, _ => simp [h]; rfl
      | 4, _ => simp [h]; rfl
  have hlen := h.1
  have hst := run_storeCells_cells (P := Tryz.prog) g (k * 5) L 0 w
    (fun j hj => by rw [Nat.add_zero, h.cellAt _ (by omega), List.getElem?_eq_getElem (by omega)]; rfl)
    (fun j hj => h.frozenAt _) h1
  simp only [Nat.add_zero] at hst
  obtain ⟨ys, e1, e2, e3⟩ := own_setCells L (k * 5) w xs h
  refine ⟨w.setCells g (k * 5) L, ?_, ?_, e3⟩
  · rw [hm] at hL ⊢
    simp [Builtin.clear_, run_underlying Tryz.underlying25, hz, hcs, hL, hst]
  · have := own_cut e2 (Nat.le_of_lt hk)
    rw [e1] at this
    exact this
theorem wpList_clear {P : Program} (w : World) {ops : Array Oper} {rest : List Oper} {o : Oper} {a : Act} {Q : Exit → Act → World → Prop}
    (hg : o.guard = none) (x : Operand) (t : TypeId) (hop : o.op = Op.call { callee := Callee.builtin Builtin.clear, args := #[x], argTypes := #[t] })
    (v : Value) (hx : a.eval x = v) (w' : World) (hrun : ∀ ty, (Builtin.clear_ #[t] ty #[v]).run P w = .ok (.tuple #[]) w') (hK : wpList P ops Q rest (a.put o.dst (.tuple #[])) w') :
    wpList P ops Q (o :: rest) a w := by
  refine wpList_plain hg fun K' hK' => ?_
  unfold Oper.wp
  simp [execOp, hop, resolve, invoke, builtin, hx, hrun, Result.andThen]
  exact hK' _ _ hK
theorem some_is (X : List Iln) : someI X = X.filter fun x => !emI x := rfl
theorem some_snoc (X : List Iln) (k : Nat) (h : k < X.length) : someI (X.take (k + 1)) = someI (X.take k) ++ (if emI X[k] = true then [] else [X[k]]) := by
  rw [List.take_succ_eq_append_getElem h, someI_append]
  congr 1
  rw [some_is, List.filter_cons, List.filter_nil]
  cases emI X[k] <;> rfl
theorem some_len (X : List Iln) : (someI X).length ≤ X.length := List.length_filter_le _ _
theorem del_store {B g cap n j : Nat} {w wr : World} {Y : List Iln} (x : Iln) (hown : wr.ownsRow B 28 5 (.slice (some ⟨g, 0, none⟩) n cap) n (flt ilC Y)) (hb : Below B w wr) (hj : j < Y.length) :
    ((((((wr.setCell ⟨g, j * 5, none⟩ (.int .i64 x.kd)).setCell ⟨g, j * 5 + 1, none⟩ (.int .i64 x.dp)).setCell ⟨g, j * 5 + 2, none⟩ (.string ⟨x.txt.toArray⟩)).setCell ⟨g, j * 5 + 3, none⟩ (.string ⟨x.url.toArray⟩)).setCell ⟨g, j * 5 + 4, none⟩ (.string ⟨x.ttl.toArray⟩)).ownsRow B 28 5 (.slice (some ⟨g, 0, none⟩) n cap) n (flt ilC (Y.set j x))) ∧
      Below B w (((((wr.setCell ⟨g, j * 5, none⟩ (.int .i64 x.kd)).setCell ⟨g, j * 5 + 1, none⟩ (.int .i64 x.dp)).setCell ⟨g, j * 5 + 2, none⟩ (.string ⟨x.txt.toArray⟩)).setCell ⟨g, j * 5 + 3, none⟩ (.string ⟨x.url.toArray⟩)).setCell ⟨g, j * 5 + 4, none⟩ (.string ⟨x.ttl.toArray⟩)) := by
  have hg := (hown.lt g rfl).1
  obtain ⟨s1, g1⟩ := hown.stored (j * 5) (.int .i64 x.kd)
  obtain ⟨s2, g2⟩ := s1.stored (j * 5 + 1) (.int .i64 x.dp)
  obtain ⟨s3, g3⟩ := s2.stored (j * 5 + 2) (.string ⟨x.txt.toArray⟩)
  obtain ⟨s4, g4⟩ := s3.stored (j * 5 + 3) (.string ⟨x.url.toArray⟩)
  obtain ⟨s5, g5⟩ := s4.stored (j * 5 + 4) (.string ⟨x.ttl.toArray⟩)
  rw [flt_set5 ilC_length _ _ _ _ _ x rfl _ j hj] at s5
  exact ⟨s5, ((((hb.setCell (p := ⟨g, j * 5, none⟩) hg _).setCell (p := ⟨g, j * 5 + 1, none⟩) hg _).setCell (p := ⟨g, j * 5 + 2, none⟩) hg _).setCell (p := ⟨g, j * 5 + 3, none⟩) hg _).setCell (p := ⟨g, j * 5 + 4, none⟩) hg _⟩
def DelRel (X : List Iln) (B g cap : Nat) (w : World) (s t : Value) (wr : World) : Prop :=
  ∃ (k j : Nat) (Y : List Iln), s = .int .i64 k ∧ t = .int .i64 j ∧ k < j ∧ j ≤ X.length ∧ Y.length = X.length ∧ wr.ownsRow B 28 5 (.slice (some ⟨g, 0, none⟩) X.length cap) X.length (flt ilC Y) ∧
    Y.take k = someI (X.take j) ∧ Y.drop j = X.drop j ∧ Below B w wr
set_option maxHeartbeats 4000000 in
theorem delete_any (B : Nat) (v : Value) (X : List Iln) (w : World) (hB : B ≤ w.heap.size) (hown : w.ownsRow B 28 5 v X.length (flt ilC X)) (hn : X.length ≤ 100000000) :
    Calls Tryz.prog 53 #[v, .func (.func 55) #[] #[]] w fun e w' => ∃ v', e = .returned v' ∧ w'.ownsRow B 28 5 v' (someI X).length (flt ilC (someI X)) ∧ Below B w w' := by
  obtain ⟨A, cap, rfl, hrow⟩ := EltsAt.own ilC_length hown
  have ci := idxE_any A cap X w hrow
  unfold idxI at ci
  by_cases hi : X.findIdx emI < X.length
  · rw [if_pos hi] at ci
    obtain ⟨b, off, e, hb, _⟩ := InlsAt.cells5 hrow hi
    obtain ⟨g, cap', hg, hBg, _⟩ := hown.form (by omega)
    cases hg
    clear e hb
    have hpi : emI X[X.findIdx emI] = true := List.findIdx_getElem (w := hi)
    have hbefore : someI (X.take (X.findIdx emI)) = X.take (X.findIdx emI) := by
      rw [some_is]
      refine List.filter_eq_self.2 fun x hx => ?_
      obtain ⟨i, hi2, rfl⟩ := List.getElem_of_mem hx
      rw [List.length_take] at hi2
      rw [List.getElem_take]
      have := List.not_of_lt_findIdx (p := emI) (xs := X) (i := i) (by omega)
      simpa using this
    have hst := some_snoc X (X.findIdx emI) hi
    rw [if_pos hpi, List.append_nil, hbefore] at hst
    have HH := Lib.hid hst
    have hcap := hrow.le
    have hcm := hrow.cap
    unfold maxLen at hcm
    clear hpi hbefore hst hrow
    generalize X.findIdx emI = i0 at *
    have HO := Lib.hid hown
    clear hown
    have hne : (((i0 : Nat) : Int) == -1) = false := by simp
    go_enter Tryz.func53, Tryz.ntmps53
    go_wp2_with fail
    refine ci.mono ?_
    rintro e w1 ⟨rfl, b1⟩
    have HB1 := Lib.hid b1
    have HO1 := Lib.hid (ownsRow_below HO.out b1)
    have hs1 := b1.size
    clear b1
    go_wp2_with fail
    go_loopw [5, 6] (fun s t wr => DelRel X B g cap w s t wr) (fun s t _ => X.length - (intOf t).toNat)
    case atStart => exact ⟨i0, i0 + 1, X, rfl, by go_num, by omega, by omega, rfl, HO1.out, by rw [HH.out], rfl, HB1.out.mono hB⟩
    case round =>
      obtain ⟨k, j, Y, rfl, rfl, hkj, hj, hY, hown, ht, hd, hbw⟩ := hrel
      have hBr : B ≤ wr.heap.size := Nat.le_trans hB hbw.size
      by_cases hp : j < X.length
      · have hyj : Y[j]'(by omega) = X[j] := by
          have h1 : (Y.drop j)[0]? = (X.drop j)[0]? := by rw [hd]
          rw [List.getElem?_drop, List.getElem?_drop, Nat.add_zero, List.getElem?_eq_getElem (by omega), List.getElem?_eq_getElem hp] at h1
          exact Option.some.inj h1
        have hst := some_snoc X j hp
        have c0 : wr.cell? ⟨g, j * 5, none⟩ = some (.int .i64 (Y[j]'(by omega)).kd) := own_elt ilC_length hown (k := j) (by omega) 0 _ rfl
        have c1 := own_elt ilC_length hown (k := j) (by omega) 1 _ rfl
        have c2 := own_elt ilC_length hown (k := j) (by omega) 2 _ rfl
        have c3 := own_elt ilC_length hown (k := j) (by omega) 3 _ rfl
        have c4 := own_elt ilC_length hown (k := j) (by omega) 4 _ rfl
        rw [hyj] at c0 c1 c2 c3 c4
        have hgl := (hown.lt g rfl).2
        have hlast := hown.1
        rw [flt_length ilC_length] at hlast
        have hud : Y.drop (j + 1) = X.drop (j + 1) := by rw [← List.drop_drop, ← List.drop_drop, hd]
        have ce := fun w1 => emI_any X[j] w1
        have HD := Lib.hid hud
        have HT := Lib.hid ht
        have HOR := Lib.hid hown
        have HBW := Lib.hid hbw
        have HYJ := Lib.hid hyj
        clear hud ht hown hbw hd hyj
        generalize hx : X[j] = x at *
        have HX := Lib.hid hx
        clear hx
        obtain ⟨x0, x1, x2, x3, x4⟩ := box5 wr (.int .i64 x.kd) (.int .i64 x.dp) (.string ⟨x.txt.toArray⟩) (.string ⟨x.url.toArray⟩) (.string ⟨x.ttl.toArray⟩) 28
        have bA := (Below.refl _ wr).alloc (Nat.le_refl _) (.cells #[.int .i64 x.kd, .int .i64 x.dp, .string ⟨x.txt.toArray⟩, .string ⟨x.url.toArray⟩, .string ⟨x.ttl.toArray⟩] 28)
        have HBA := Lib.hid bA
        have hsA := alloc_size wr (.cells #[.int .i64 x.kd, .int .i64 x.dp, .string ⟨x.txt.toArray⟩, .string ⟨x.url.toArray⟩, .string ⟨x.ttl.toArray⟩] 28)
        clear bA
        cases hex : emI x with
        | true =>
          rw [hex] at ce hst
          rw [if_pos rfl, List.append_nil] at hst
          have HST := Lib.hid hst
          clear hst hex
          obtain ⟨kd, dp, txt, url, ttl⟩ := x
          have CE := Lib.hid ce
          clear ce
          unfold ilV at CE
          dsimp only at CE c0 c1 c2 c3 c4 x0 x1 x2 x3 x4 HBA hsA
          go_wp2_with fail
          refine (CE.out _).mono ?_
          rintro e w2 ⟨rfl, b2⟩
          have HB2 := Lib.hid b2
          clear b2
          go_wp2
          go_roundw
          case rel => exact ⟨k, j + 1, Y, rfl, by go_num, by omega, by omega, hY, ownsRow_below (ownsRow_below HOR.out HBA.out) HB2.out, by rw [HT.out, HST.out], HD.out, (HBW.out.trans (HBA.out.mono hBr)).trans (HB2.out.mono (by rw [hsA]; omega))⟩
          case measure => simp [intOf]; omega
        | false =>
          rw [hex] at ce hst
          rw [if_neg (by simp)] at hst
          have HST := Lib.hid hst
          clear hst hex
          obtain ⟨kd, dp, txt, url, ttl⟩ := x
          have CE := Lib.hid ce
          clear ce
          unfold ilV at CE
          dsimp only at CE c0 c1 c2 c3 c4 x0 x1 x2 x3 x4 HBA hsA
          go_wp2_with fail
          refine (CE.out _).mono ?_
          rintro e w2 ⟨rfl, b2⟩
          have hw2 := b2.size
          have y0 := (b2.cell (p := ⟨wr.heap.size, 0, none⟩) (by show wr.heap.size < _; omega)).trans x0
          have y1 := (b2.cell (p := ⟨wr.heap.size, 1, none⟩) (by show wr.heap.size < _; omega)).trans x1
          have y2 := (b2.cell (p := ⟨wr.heap.size, 2, none⟩) (by show wr.heap.size < _; omega)).trans x2
          have y3 := (b2.cell (p := ⟨wr.heap.size, 3, none⟩) (by show wr.heap.size < _; omega)).trans x3
          have y4 := (b2.cell (p := ⟨wr.heap.size, 4, none⟩) (by show wr.heap.size < _; omega)).trans x4
          have hO2 := ownsRow_below (ownsRow_below HOR.out HBA.out) b2
          have hb2 : Below B w w2 := (HBW.out.trans (HBA.out.mono hBr)).trans (b2.mono (by rw [hsA]; omega))
          obtain ⟨hs1, hs2⟩ := del_store ⟨kd, dp, txt, url, ttl⟩ hO2 hb2 (j := k) (by omega)
          have hcell : ∀ i, i < 5 → ∃ u, w2.cell? ⟨g, k * 5 + i, none⟩ = some u := fun i hi => by
            have hc := hO2.cellAt (k * 5 + i) (by omega)
            rw [List.getElem?_eq_getElem (by rw [flt_length ilC_length]; omega)] at hc
            exact ⟨_, hc⟩
          obtain ⟨u0, d0⟩ : ∃ u, w2.cell? ⟨g, k * 5, none⟩ = some u := hcell 0 (by omega)
          obtain ⟨u1, d1⟩ := hcell 1 (by omega)
          obtain ⟨u2, d2⟩ := hcell 2 (by omega)
          obtain ⟨u3, d3⟩ := hcell 3 (by omega)
          obtain ⟨u4, d4⟩ := hcell 4 (by omega)
          have f0 := hO2.frozenAt (k * 5)
          have f1 := hO2.frozenAt (k * 5 + 1)
          have f2 := hO2.frozenAt (k * 5 + 2)
          have f3 := hO2.frozenAt (k * 5 + 3)
          have f4 := hO2.frozenAt (k * 5 + 4)
          have HS1 := Lib.hid hs1
          have HS2 := Lib.hid hs2
          have hgw : g < wr.heap.size := hgl
          clear hs1 hs2 hO2 hb2 b2 hcell x0 x1 x2 x3 x4 c0 c1 c2 c3 c4
          go_wp2
          go_roundw
          case rel =>
            refine ⟨k + 1, j + 1, Y.set k ⟨kd, dp, txt, url, ttl⟩, by go_num, by go_num, by omega, by omega, by rw [List.length_set]; exact hY, HS1.out, ?_, ?_, HS2.out⟩
            · rw [HST.out, ← HT.out, List.take_succ_eq_append_getElem (by rw [List.length_set]; omega), List.getElem_set_self, List.take_set_of_le (Nat.le_refl k)]
            · rw [List.drop_set_of_lt (by omega)]
              exact HD.out
          case measure => simp [intOf]; omega
      · obtain rfl : j = X.length := by omega
        have hk2 : k = (someI X).length := by
          have := congrArg List.length ht
          rw [List.length_take, List.take_length] at this
          omega
        rw [List.take_length] at ht
        have hcut : (flt ilC Y).take (k * 5) = flt ilC (someI X) := by
          rw [← ht]
          have h1 : flt ilC Y = flt ilC (Y.take k) ++ flt ilC (Y.drop k) := by rw [← flt_append, List.take_append_drop]
          rw [h1, List.take_left']
          rw [flt_length ilC_length, List.length_take]
          omega
        obtain ⟨w2, hcl, ho2, hg2⟩ := run_clear_inls wr B g cap X.length k (flt ilC Y) hown (by omega) (cap - k) 0
        have hcl2 : ∀ ty, (Builtin.clear_ #[25] ty #[.slice (some ⟨g, k * 5, none⟩) (X.length - k) (cap - k)]).run Tryz.prog wr = .ok (.tuple #[]) w2 := fun ty => hcl
        rw [hcut] at ho2
        have hb2 : Below B w w2 := hbw.grown hg2 (by omega) (fun r e => by cases e; exact hBg)
        have hl1 := islice_low (some ⟨g, 0, none⟩) X.length cap k (by omega)
        have hl2 := islice_high (some ⟨g, 0, none⟩) X.length cap k (by omega)
        rw [show dropI (some ⟨g, 0, none⟩) cap k = some ⟨g, k * 5, none⟩ from by unfold dropI; rw [if_neg (by omega)]; simp [addr_add]] at hl1
        have HO2 := Lib.hid ho2
        have HB2 := Lib.hid hb2
        have HK := Lib.hid hk2
        clear hcl hown ht hd hcut ho2 hb2 hg2 hk2
        go_wp2_with (at_builtin; refine wpList_clear _ rfl _ _ rfl _ rfl w2 hcl2 ?_)
        go_ret
        exact ⟨_, rfl, by rw [← HK.out]; exact HO2.out, HB2.out⟩
  · rw [if_neg hi] at ci
    have hall : someI X = X := by
      rw [some_is]
      refine List.filter_eq_self.2 fun x hx => ?_
      obtain ⟨i, hi2, rfl⟩ := List.getElem_of_mem hx
      have := List.not_of_lt_findIdx (p := emI) (xs := X) (i := i) (by omega)
      simpa using this
    have HA := Lib.hid hall
    have HO := Lib.hid hown
    clear hall hown hrow
    go_enter Tryz.func53, Tryz.ntmps53
    go_wp2_with fail
    refine ci.mono ?_
    rintro e w1 ⟨rfl, b1⟩
    go_wp2
    go_ret
    exact ⟨_, rfl, by rw [HA.out]; exact ownsRow_below HO.out b1, b1.mono hB⟩
end Go.Proofs.YteihmgcphbijhaaGreatDoor

namespace Go.Proofs.YteihmgcphbijhaaGreatDoor
open Go.RowKit
set_option linter.unusedSimpArgs false
set_option linter.unusedVariables false
set_option maxRecDepth 100000
theorem words_run (out : List Iln) (d : Int) : ∀ (Z : List Iln) (s : List UInt8), (∀ x ∈ Z, x.kd = 1 ∧ x.dp = d ∧ x.txt ≠ []) → Z.foldl mergeOne (out ++ [wordsI d s]) = out ++ [wordsI d (s ++ textI Z)]
  | [], s, _ => by simp [textI]
  | x :: Z, s, h => by
    obtain ⟨h1, h2, h3⟩ := h x (by simp)
    have e : mergeOne (out ++ [wordsI d s]) x = out ++ [wordsI d (s ++ x.txt)] := by
      rw [mergeOne_snoc, if_pos h1, if_neg h3, if_pos ⟨rfl, h2.symm⟩]
      rfl
    rw [List.foldl_cons, e, words_run out d Z _ (fun z hz => h z (by simp [hz])), textI_cons]
    have : ilText x = x.txt := by unfold ilText; rw [if_pos (Or.inl h1)]
    rw [this, List.append_assoc]
theorem words_first (out : List Iln) (y : Iln) (h1 : y.kd = 1) (h3 : y.txt ≠ []) (he : endsAt out y.dp = false) : mergeOne out y = out ++ [wordsI y.dp y.txt] := by
  rcases List.eq_nil_or_concat out with rfl | ⟨p, z, rfl⟩
  · rw [mergeOne_nil, if_pos h1, if_neg h3]; rfl
  · rw [List.concat_eq_append] at he ⊢
    rw [endsAt_snoc] at he
    rw [mergeOne_snoc, if_pos h1, if_neg h3, if_neg (fun h => by simp [h.1, h.2] at he)]
theorem emI_no {x : Iln} (h : emI x = false) (h1 : x.kd = 1) : x.txt ≠ [] := by
  unfold emI at h
  simp [h1] at h
  exact h
theorem merge_chunk {y : Iln} {Y out : List Iln} (hk : y.kd = 1) (hne : ∀ x ∈ y :: Y, emI x = false) (he : endsAt out y.dp = false) :
    1 ≤ (y :: Y).findIdx (togI y) ∧ ((y :: Y).take ((y :: Y).findIdx (togI y))).foldl mergeOne out = out ++ [wordsI y.dp (textI ((y :: Y).take ((y :: Y).findIdx (togI y))))] := by
  have h0 : togI y y = false := by simp [togI, hk]
  have e1 : (y :: Y).findIdx (togI y) = Y.findIdx (togI y) + 1 := by rw [List.findIdx_cons, h0]; rfl
  rw [e1]
  refine ⟨by omega, ?_⟩
  rw [List.take_succ_cons, List.foldl_cons, words_first out y hk (emI_no (hne y (by simp)) hk) he, words_run out y.dp _ y.txt, textI_cons]
  · have : ilText y = y.txt := by unfold ilText; rw [if_pos (Or.inl hk)]
    rw [this]
  · intro x hx
    obtain ⟨i, hi, rfl⟩ := List.getElem_of_mem hx
    rw [List.length_take] at hi
    rw [List.getElem_take]
    have := List.not_of_lt_findIdx (p := togI y) (xs := Y) (i := i) (by omega)
    simp [togI] at this
    exact ⟨this.1, this.2, emI_no (hne _ (by simp)) this.1⟩
theorem merge_next {y : Iln} {Y out : List Iln} {s : List UInt8} (z : Iln) (hz : ((y :: Y).drop ((y :: Y).findIdx (togI y))).head? = some z) (h1 : z.kd = 1) : endsAt (out ++ [wordsI y.dp s]) z.dp = false := by
  rw [endsAt_snoc]
  rw [List.head?_drop] at hz
  obtain ⟨hlt, hz⟩ := List.getElem?_eq_some_iff.1 hz
  have := List.findIdx_getElem (p := togI y) (w := hlt)
  rw [hz] at this
  simp [togI, h1] at this
  simp [wordsI]
  exact fun e => this e.symm
theorem merge_other {y : Iln} {out : List Iln} (h : y.kd ≠ 1) (d : Int) : mergeOne out y = out ++ [y] ∧ endsAt (out ++ [y]) d = false := by
  refine ⟨by unfold mergeOne; rw [if_neg h], ?_⟩
  rw [endsAt_snoc]
  simp [h]
theorem inl_box {W : World} {g : Nat} {c0 c1 c2 c3 c4 : Value} {t : TypeId} (h : W.heap[g]? = some (.cells #[c0, c1, c2, c3, c4] t (0, 0))) :
    (W.cell? ⟨g, 0, none⟩ = some c0 ∧ W.cell? ⟨g, 1, none⟩ = some c1 ∧ W.cell? ⟨g, 2, none⟩ = some c2 ∧ W.cell? ⟨g, 3, none⟩ = some c3 ∧ W.cell? ⟨g, 4, none⟩ = some c4) ∧
    (W.frozen? ⟨g, 0, none⟩ = false ∧ W.frozen? ⟨g, 1, none⟩ = false ∧ W.frozen? ⟨g, 2, none⟩ = false ∧ W.frozen? ⟨g, 3, none⟩ = false ∧ W.frozen? ⟨g, 4, none⟩ = false) :=
  ⟨⟨(cell_of_row W g 0 _ _ (0, 0) h).trans rfl, (cell_of_row W g 1 _ _ (0, 0) h).trans rfl, (cell_of_row W g 2 _ _ (0, 0) h).trans rfl, (cell_of_row W g 3 _ _ (0, 0) h).trans rfl, (cell_of_row W g 4 _ _ (0, 0) h).trans rfl⟩,
    by simp [World.frozen?, h], by simp [World.frozen?, h], by simp [World.frozen?, h], by simp [World.frozen?, h], by simp [World.frozen?, h]⟩
theorem setc_grown (w : World) (g j : Nat) (u : Value) : w.grownBy (w.setCell ⟨g, j, none⟩ u) (some g) :=
  ⟨rfl, rfl, rfl, by simp, fun k _ hk => heap_setCell_other w ⟨g, j, none⟩ k u (fun e => hk (by simp [e]))⟩
theorem box5_set {W : World} {g : Nat} {a0 a1 a2 a3 a4 : Value} {t : TypeId} (h : W.heap[g]? = some (.cells #[a0, a1, a2, a3, a4] t (0, 0))) (c0 c1 c2 c3 c4 : Value) (W' : World)
    (hW : W' = ((((W.setCell ⟨g, 0, none⟩ c0).setCell ⟨g, 1, none⟩ c1).setCell ⟨g, 2, none⟩ c2).setCell ⟨g, 3, none⟩ c3).setCell ⟨g, 4, none⟩ c4) :
    W'.heap[g]? = some (.cells #[c0, c1, c2, c3, c4] t (0, 0)) ∧ W.grownBy W' (some g) := by
  subst hW
  refine ⟨by simp [World.setCell, Array.getElem?_modify, h], ((((setc_grown _ _ _ _).trans (setc_grown _ _ _ _)).trans (setc_grown _ _ _ _)).trans (setc_grown _ _ _ _)).trans (setc_grown _ _ _ _)⟩
theorem words_agg (d : Int) (s : List UInt8) (w : World) : Calls Tryz.prog 57 #[.int .i64 d, .string ⟨s.toArray⟩] w fun e w' => e = .returned (.agg #[.int .i64 1, .int .i64 d, .string ⟨s.toArray⟩, .string ⟨#[]⟩, .string ⟨#[]⟩]) ∧ Below w.heap.size w w' := words_any d s w
def slLen : Value → Nat
  | .slice _ n _ => n
  | _ => 0
def MgRel (X : List Iln) (w2 : World) (mv lv : Value) (wr : World) : Prop :=
  ∃ (L out : List Iln) (A : Option Addr) (c : Nat), lv = .slice A L.length c ∧ InlsAt w2 A c L ∧ wr.ownsRow w2.heap.size 28 5 mv out.length (flt ilC out) ∧ Below w2.heap.size w2 wr ∧ L.foldl mergeOne out = mergeI X ∧
    (∀ z, L.head? = some z → z.kd = 1 → endsAt out z.dp = false) ∧ (∀ x ∈ L, emI x = false) ∧ (textI L).length ≤ 140737488355328 ∧ out.length + L.length ≤ 100000000
theorem some_text (X : List Iln) : textI (someI X) = textI X := by rw [← mergeI_text, mergeI_some, mergeI_text]
set_option maxHeartbeats 4000000 in
theorem merge_any (A : Option Addr) (cap : Nat) (X : List Iln) (w : World) (hrow : InlsAt w A cap X) (hn : X.length ≤ 100000000) (ht : (textI X).length ≤ 140737488355328) :
    Calls Tryz.prog 28 #[.slice A X.length cap] w fun e w' => ∃ v, e = .returned v ∧ w'.ownsRow w.heap.size 28 5 v (mergeI X).length (flt ilC (mergeI X)) ∧ Below w.heap.size w w' := by
  have cc := clone_inls A cap X w hrow hn
  have hlX := some_len X
  have htX := some_text X
  have hsn : ∀ x ∈ someI X, emI x = false := fun x hx => by
    rw [some_is] at hx
    simpa using (List.mem_filter.1 hx).2
  obtain ⟨i0, hi, hz0, hz1, hz2⟩ := info_parts infoInl
  have HSN := Lib.hid hsn
  have HTX := Lib.hid htX
  have HLX := Lib.hid hlX
  clear hsn htX hrow hlX
  go_enter Tryz.func28, Tryz.ntmps28
  go_wp2_with fail
  refine cc.mono ?_
  rintro e w1 ⟨v1, rfl, ho1, b1⟩
  have hs1 := b1.size
  have cd := delete_any w.heap.size v1 X w1 b1.size ho1 hn
  clear ho1
  go_wp2_with fail
  refine cd.mono ?_
  rintro e w2 ⟨v2, rfl, ho2, b2⟩
  have hs2 := b2.size
  obtain ⟨A2, c2, rfl, hr2⟩ := EltsAt.own ilC_length ho2
  have HR2 := Lib.hid hr2
  have HB2 := Lib.hid (b1.trans b2)
  clear ho2 hr2 b2
  go_wp2_with fail
  go_loopw [3, 4] (fun mv lv wr => MgRel X w2 mv lv wr) (fun _ lv _ => slLen lv)
  case atStart =>
    exact ⟨someI X, [], A2, c2, rfl, HR2.out, World.ownsRow_nil _ _ _ _, Below.refl _ _, foldl_some X [], fun z _ _ => rfl, HSN.out, by rw [HTX.out]; exact ht, by have := HLX.out; simp; omega⟩
  case round =>
    obtain ⟨L, out, AL, cL, rfl, hrL, hown, hbw, hfo, hhd, hne, htl, hle⟩ := hrel
    have hcl := hrL.le
    have hcm := hrL.cap
    unfold maxLen at hcm
    have hsw := hbw.size
    cases L with
    | nil =>
      have HO := Lib.hid hown
      have HF := Lib.hid (show out = mergeI X from hfo)
      clear hown hfo hhd hrL hne
      go_wp2
      go_ret
      exact ⟨_, rfl, by rw [← HF.out]; exact own_low HO.out (by omega), HB2.out.trans (hbw.mono (by omega))⟩
    | cons y Y =>
      obtain ⟨b, off, rfl, hb, c0, c1, c2, c3, c4⟩ := InlsAt.cells5 (EltsAt.below hrL hbw) (k := 0) (by simp)
      simp only [List.getElem_cons_zero, Nat.zero_mul, Nat.add_zero] at c0 c1 c2 c3 c4
      have HRL := Lib.hid hrL
      have HO := Lib.hid hown
      have HF := Lib.hid hfo
      have HH := Lib.hid hhd
      have HN := Lib.hid hne
      have HBW := Lib.hid hbw
      have hY : (y :: Y).length = Y.length + 1 := rfl
      clear hrL hown hfo hhd hne hbw
      obtain ⟨x0, x1, x2, x3, x4⟩ := box5 wr (.int .i64 y.kd) (.int .i64 y.dp) (.string ⟨y.txt.toArray⟩) (.string ⟨y.url.toArray⟩) (.string ⟨y.ttl.toArray⟩) 28
      have bA := (Below.refl _ wr).alloc (Nat.le_refl _) (.cells #[.int .i64 y.kd, .int .i64 y.dp, .string ⟨y.txt.toArray⟩, .string ⟨y.url.toArray⟩, .string ⟨y.ttl.toArray⟩] 28)
      have hsA := alloc_size wr (.cells #[.int .i64 y.kd, .int .i64 y.dp, .string ⟨y.txt.toArray⟩, .string ⟨y.url.toArray⟩, .string ⟨y.ttl.toArray⟩] 28)
      by_cases hk : y.kd = 1
      · have hk2 : (y.kd == 1) = true := by simpa using hk
        obtain ⟨m1, m2⟩ := merge_chunk hk HN.out (HH.out y rfl hk)
        have HM := Lib.hid m2
        have HX := Lib.hid (fun s z => merge_next (y := y) (Y := Y) (out := out) (s := s) z)
        have ctg := together_any (some ⟨b, off, none⟩) cL y Y _ (EltsAt.below HRL.out (HBW.out.alloc (by omega) (.cells #[.int .i64 y.kd, .int .i64 y.dp, .string ⟨y.txt.toArray⟩, .string ⟨y.url.toArray⟩, .string ⟨y.ttl.toArray⟩] 28)))
        have hnl := List.findIdx_le_length (p := togI y) (xs := y :: Y)
        generalize (y :: Y).findIdx (togI y) = n at *
        have HBA := Lib.hid bA
        clear bA m2 hk
        go_wp2_with fail
        refine ctg.mono ?_
        rintro e w3 ⟨rfl, b3⟩
        have hs3 := b3.size
        have y0 := (b3.cell (p := ⟨wr.heap.size, 0, none⟩) (by show wr.heap.size < _; omega)).trans x0
        have y1 := (b3.cell (p := ⟨wr.heap.size, 1, none⟩) (by show wr.heap.size < _; omega)).trans x1
        have y2 := (b3.cell (p := ⟨wr.heap.size, 2, none⟩) (by show wr.heap.size < _; omega)).trans x2
        have y3 := (b3.cell (p := ⟨wr.heap.size, 3, none⟩) (by show wr.heap.size < _; omega)).trans x3
        have y4 := (b3.cell (p := ⟨wr.heap.size, 4, none⟩) (by show wr.heap.size < _; omega)).trans x4
        have hbx : w3.heap[wr.heap.size]? = some (.cells #[.int .i64 y.kd, .int .i64 y.dp, .string ⟨y.txt.toArray⟩, .string ⟨y.url.toArray⟩, .string ⟨y.ttl.toArray⟩] 28 (0, 0)) := (b3.block _ (by omega)).trans (heap_alloc_new _ _)
        have hb3 : Below w2.heap.size w2 w3 := (HBW.out.alloc (by omega) _).trans (b3.mono (by omega))
        have HB3 := Lib.hid hb3
        have hown3 := ownsRow_below (HO.out.alloc (.cells #[.int .i64 y.kd, .int .i64 y.dp, .string ⟨y.txt.toArray⟩, .string ⟨y.url.toArray⟩, .string ⟨y.ttl.toArray⟩] 28)) b3
        have HO3 := Lib.hid hown3
        have hncL : n ≤ cL := by omega
        have htk : ((y :: Y).take n).length = n := by rw [List.length_take]; omega
        have hte := textI_le (y :: Y) n
        have ctx := fun (W : World) (hb : Below w3.heap.size w3 W) => text_inl (some ⟨b, off, none⟩) cL ((y :: Y).take n) W (InlsAt.takeL (EltsAt.below HRL.out (hb3.trans (hb.mono (by omega)))) n) (by omega)
        rw [htk] at ctx
        have CT := Lib.hid ctx
        have HBX := Lib.hid hbx
        clear ctx hb3 b3 hown3 x0 x1 x2 x3 x4 ctg c0 c1 c2 c3 c4 hbx
        generalize textI ((y :: Y).take n) = tx at *
        go_wp2_with fail
        go_region_law (first | (go_simp; go_at_call 7; refine (CT.out _ (Below.refl _ w3).drew).mono ?_; rintro e w4 ⟨rfl, b4⟩; have hs4 : w3.heap.size ≤ w4.heap.size := b4.size; have hbx4 := (b4.block wr.heap.size (by show _ < w3.heap.size; omega)).trans HBX.out; obtain ⟨⟨z0, z1, z2, z3, z4⟩, f0, f1, f2, f3, f4⟩ := inl_box hbx4) | (go_simp; go_at_call 57; refine (words_agg y.dp tx _).mono ?_; rintro e w5 ⟨rfl, b5⟩; have hs5 := b5.size; have hbx5 := (b5.block wr.heap.size (by omega)).trans hbx4; obtain ⟨⟨v0, v1, v2, v3, v4⟩, e0, e1, e2, e3, e4⟩ := inl_box hbx5))
        all_goals
          obtain ⟨w6, hw6⟩ : ∃ w6, w6 = (((((w5.setCell ⟨wr.heap.size, 0, none⟩ (.int .i64 1)).setCell ⟨wr.heap.size, 1, none⟩ (.int .i64 y.dp)).setCell ⟨wr.heap.size, 2, none⟩ (.string ⟨tx.toArray⟩)).setCell ⟨wr.heap.size, 3, none⟩ (.string ⟨#[]⟩)).setCell ⟨wr.heap.size, 4, none⟩ (.string ⟨#[]⟩)) := ⟨_, rfl⟩
          rw [← hw6]
          obtain ⟨hbx6, hg6⟩ := box5_set hbx5 _ _ _ _ _ w6 hw6
          have hb5 : Below w3.heap.size w3 w5 := (Below.refl _ w3).drew.trans ((b4.mono (by show _ ≤ w3.heap.size; omega)).trans (b5.mono (by omega)))
          have hb6 : Below w2.heap.size w2 w6 := (HB3.out.trans (hb5.mono (by omega))).grown hg6 (by omega) (fun k hk => by cases hk; omega)
          have hb36 : w6.heap.size = w5.heap.size := by rw [hw6]; simp [World.setCell]
          have hO6 := (ownsRow_below HO3.out hb5).kept hg6 (Or.inr (fun e => by have := (HO.out.lt _ e).2; omega))
          obtain ⟨⟨q0, q1, q2, q3, q4⟩, _⟩ := inl_box hbx6
          have HO6 := Lib.hid hO6
          have HB6 := Lib.hid hb6
          have hnc := elt_cells w6 (ilC (wordsI y.dp tx)) 28
          have hs6 : wr.heap.size < w6.heap.size := by omega
          clear hO6 hb6 hbx6 hg6 hb36 hw6 hb5 b4 b5 z0 z1 z2 z3 z4 f0 f1 f2 f3 f4 v0 v1 v2 v3 v4 e0 e1 e2 e3 e4 hbx4 hbx5 y0 y1 y2 y3 y4
          have hl1 := islice_low (some ⟨b, off, none⟩) (Y.length + 1) cL n (by omega)
          go_wp2_with (at_builtin; refine wpList_append_own _ rfl _ _ 25 rfl w2.heap.size 28 i0 (.agg #[.int .i64 0, .int .i64 0, .string ByteArray.empty, .string ByteArray.empty, .string ByteArray.empty]) 5 64 Tryz.underlying25 hi hz0 hz1 hz2 rfl (by decide) _ out.length (flt ilC out) rfl (HO6.out.alloc _) ⟨w6.heap.size, 0, none⟩ 1 1 (ilC (wordsI y.dp tx)) rfl rfl hnc (ilC_one _) (by unfold maxLen; omega) (by omega) (by simp; omega) ?_)
          intro v' w7 hown' hgrow _
          have HO7 := Lib.hid hown'
          have HB7 := Lib.hid ((HB6.out.alloc (by omega) _).grown hgrow (by simp; omega) (fun k hk => (HO.out.lt k hk).1))
          clear hown' hgrow
          go_wp2
          go_roundw
          case rel =>
            refine ⟨(y :: Y).drop n, out ++ [wordsI y.dp tx], _, cL - n, by rw [List.length_drop]; rfl, InlsAt.dropL HRL.out (by omega), ?_, HB7.out, ?_, fun z hz h1 => HX.out _ z hz h1, fun x hx => HN.out x (List.mem_of_mem_drop hx), ?_, ?_⟩
            · rw [flt_append, flt_one, List.length_append]; exact HO7.out
            · rw [← HM.out, ← List.foldl_append, List.take_append_drop]; exact HF.out
            · have := congrArg List.length (show textI (y :: Y) = textI ((y :: Y).take n) ++ textI ((y :: Y).drop n) from by rw [← textI_append, List.take_append_drop])
              rw [List.length_append] at this
              omega
            · rw [List.length_append, List.length_drop]; simp; simp at hle; omega
          case measure => simp [slLen]; omega
      · have hk2 : (y.kd == 1) = false := by simpa using hk
        have hnc := elt_cells wr (ilC y) 28
        have hnc2 : ∀ j u, (ilC y)[j]? = some u → ((wr.alloc (.cells (ilC y).toArray 28)).alloc (.cells (ilC y).toArray 28)).cell? ((⟨wr.heap.size + 1, 0, none⟩ : Addr).add j) = some u := fun j u hu => by
          have := elt_cells (wr.alloc (.cells (ilC y).toArray 28)) (ilC y) 28 j u hu
          rwa [alloc_size] at this
        have hl1 := islice_low (some ⟨b, off, none⟩) (Y.length + 1) cL 1 (by omega)
        have HA := Lib.hid (HO.out.alloc (.cells (ilC y).toArray 28))
        obtain ⟨m1, m2⟩ := merge_other (out := out) hk 0
        have HM := Lib.hid (fun d => merge_other (out := out) hk d)
        have HK := Lib.hid hk
        clear hk m1 m2 hnc
        go_wp2_with (at_builtin; refine wpList_append_own _ rfl _ _ 25 rfl w2.heap.size 28 i0 (.agg #[.int .i64 0, .int .i64 0, .string ByteArray.empty, .string ByteArray.empty, .string ByteArray.empty]) 5 64 Tryz.underlying25 hi hz0 hz1 hz2 rfl (by decide) _ out.length (flt ilC out) rfl (HA.out.alloc _) ⟨wr.heap.size + 1, 0, none⟩ 1 1 (ilC y) rfl rfl hnc2 (ilC_one y) (by unfold maxLen; omega) (by omega) (by simp; omega) ?_)
        intro v' w3 hown' hgrow _
        have hb3 : Below w2.heap.size w2 w3 := ((HBW.out.alloc (by omega) _).alloc (by simp; omega) _).grown hgrow (by simp; omega) (fun k hk => (HO.out.lt k hk).1)
        have HB3 := Lib.hid hb3
        have HO3 := Lib.hid hown'
        clear hown' hgrow hb3
        go_wp2
        go_roundw
        case rel =>
          refine ⟨Y, out ++ [y], _, cL - 1, rfl, InlsAt.dropL HRL.out (k := 1) (by simp), ?_, HB3.out, ?_, fun z _ _ => (HM.out z.dp).2, fun x hx => HN.out x (by simp [hx]), ?_, by simp; simp at hle; omega⟩
          · rw [flt_append, flt_one, List.length_append]; exact HO3.out
          · rw [← (HM.out 0).1]; exact HF.out
          · rw [textI_cons, List.length_append] at htl; omega
        case measure => simp [slLen]
end Go.Proofs.YteihmgcphbijhaaGreatDoor

namespace Go.Proofs.YteihmgcphbijhaaGreatDoor
open Go.RowKit Go.Maps Go.ChangeShapes
set_option linter.unusedSimpArgs false
set_option linter.unusedVariables false
set_option maxRecDepth 100000
abbrev DU := DataW Unit
def kLit (sg : UInt8) (b : Bool) (r : Int) : Lit := .string (keyBytes [.int .u8 sg.toNat, .bool b, .int .i64 r])
theorem keyLaw : Keyed Tryz.prog 124 := Keyed.of_law (deep_law_laid laidOut (m := 2) (by omega) (of_decide_eq_true (by kernel_rfl)) (by kernel_rfl) (by kernel_rfl))
theorem types_two : ∃ m, Tryz.prog.types.size = m + 2 := ⟨Tryz.prog.types.size - 2, by have : 2 ≤ Tryz.prog.types.size := of_decide_eq_true (by kernel_rfl); omega⟩
theorem keyOf_kind (sg : UInt8) (b : Bool) (r : Int) (h : -2 ≤ r ∧ r ≤ 2) : keyOf Tryz.prog 124 (kindV sg b r) = some (kLit sg b r) := by
  obtain ⟨m, hm⟩ := types_two
  have hw1 : (Lit.int .u8 (sg.toNat : Int)).wf = true := by
    have := sg.toNat_lt
    simp [Lit.wf, IntKind.min, IntKind.max, IntKind.signed, IntKind.bits]
    omega
  have hw2 : (Lit.int .i64 r).wf = true := WalkArith.wf_i64 (by omega)
  have hk : Tryz.prog.keyType 124 = true := by kernel_rfl
  have hf : (kindV sg b r).formed Tryz.prog 124 = true := by
    unfold kindV Value.formed
    rw [Tryz.underlying124]
    rfl
  have h1 : Tryz.prog.keyLits (m + 2) 5 [.int .u8 sg.toNat] = some [.int .u8 sg.toNat] := by
    unfold Program.keyLits
    rw [Tryz.underlying5]
    simp [hw1]
  have h2 : Tryz.prog.keyLits (m + 2) 4 [.bool b] = some [.bool b] := by
    unfold Program.keyLits
    rw [Tryz.underlying4]
  have h3 : Tryz.prog.keyLits (m + 2) 3 [.int .i64 r] = some [.int .i64 r] := by
    unfold Program.keyLits
    rw [Tryz.underlying3]
    simp [hw2]
  have hc : Tryz.prog.cellsOf 124 = 3 := by kernel_rfl
  have hc1 : Tryz.prog.cellsOf 5 = 1 := by kernel_rfl
  have hc2 : Tryz.prog.cellsOf 4 = 1 := by kernel_rfl
  have hc3 : Tryz.prog.cellsOf 3 = 1 := by kernel_rfl
  have h4 : Tryz.prog.keyLits (m + 2 + 1) 124 [.int .u8 sg.toNat, .bool b, .int .i64 r] = some [.int .u8 sg.toNat, .bool b, .int .i64 r] := by
    unfold Program.keyLits
    rw [Tryz.underlying124]
    simp [hc, hc1, hc2, hc3, h1, h2, h3]
  unfold keyOf
  rw [Tryz.underlying124]
  simp only
  rw [hk, hf, hm, show (kindV sg b r).cells.toList = [.int .u8 sg.toNat, .bool b, .int .i64 r] from rfl, h4]
  rfl
theorem kLit_key {sg : UInt8} {b : Bool} {r : Int} (h : -2 ≤ r ∧ r ≤ 2) : WideAt.IsKeyLit (kLit sg b r) := keyLaw.key (keyOf_kind sg b r h)
theorem kLit_inj {sg sg2 : UInt8} {b b2 : Bool} {r r2 : Int} (h : -2 ≤ r ∧ r ≤ 2) (h2 : -2 ≤ r2 ∧ r2 ≤ 2) (e : kLit sg b r = kLit sg2 b2 r2) : sg = sg2 ∧ b = b2 ∧ r = r2 := by
  have h3 := keyLaw.inj (keyOf_kind sg b r h) (by rw [e]; exact keyOf_kind sg2 b2 r2 h2)
  unfold kindV at h3
  simp at h3
  exact ⟨UInt8.toNat_inj.1 (by have := h3.1; omega), h3.2⟩
def zsOf : DU → List Int
  | .slice es _ => es.filterMap fun e => match e with | .lit (.int _ x) => some x | _ => none
  | _ => []
theorem zsOf_lits (q : IntKind) (zs : List Int) (sp : List DU) : zsOf (.slice (lits q zs) sp) = zs := by
  unfold zsOf lits
  induction zs with
  | nil => rfl
  | cons x zs ih => simpa using ih
theorem zsOf_row {w : World} {base : Nat} {e : TypeId} {q : IntKind} {v : Value} {zs : List Int} (h : w.ownsInts base e q v zs) : zsOf (rowDatum q v zs) = zs := by
  rcases h.datum (H := Unit) with ⟨h1, rfl⟩ | h1
  · rw [h1]; rfl
  · rw [h1]; exact zsOf_lits q zs []
/-- The map's lists, kind by kind. -/
def KD (D : DU) (f : UInt8 → Bool → Int → List Int) : Prop := IsMap D ∧ ∀ sg b r, -2 ≤ r → r ≤ 2 → zsOf (D.atKey (kLit sg b r) .nil) = f sg b r
theorem KD.new : KD (.map []) (fun _ _ _ => []) := ⟨isMap_empty, fun _ _ _ _ _ => rfl⟩
theorem KD.put {D : DU} {f : UInt8 → Bool → Int → List Int} (h : KD D f) {sg : UInt8} {b : Bool} {r : Int} (hr : -2 ≤ r ∧ r ≤ 2) (d : DU) (f' : UInt8 → Bool → Int → List Int)
    (h1 : f' sg b r = zsOf d) (h2 : ∀ sg2 b2 r2, ¬ (sg2 = sg ∧ b2 = b ∧ r2 = r) → f' sg2 b2 r2 = f sg2 b2 r2) : KD (D.put (kLit sg b r) d) f' := by
  refine ⟨h.1.put _ _, fun sg2 b2 r2 hlo hhi => ?_⟩
  by_cases e : sg2 = sg ∧ b2 = b ∧ r2 = r
  · obtain ⟨rfl, rfl, rfl⟩ := e
    rw [atKey_put_same h.1 (kLit_key hr), h1]
  · rw [atKey_put_other (fun e2 => e (kLit_inj ⟨hlo, hhi⟩ hr e2)), h2 sg2 b2 r2 e]
    exact h.2 sg2 b2 r2 hlo hhi
structure Fam (w : World) (base bm n : Nat) (D : DU) (F : List (Value × List Int)) : Prop where
  own : ∀ x ∈ F, w.ownsInts base 3 .i64 x.1 x.2
  dist : F.Pairwise fun x y => Apart x.1 y.1
  grp : w.ownsGroups Tryz.prog 124 base 3 .i64 bm n D
  shun : w.Shuns bm fun g => ∃ x ∈ F, x.1.ownBlock = some g
theorem fam_map {w : World} {base bm n : Nat} {D : DU} {F : List (Value × List Int)} (h : Fam w base bm n D F) : ∃ es clock, w.heap[bm]? = some (.map es clock) := by
  obtain ⟨es, clock, hb, _⟩ := h.grp
  exact ⟨es, clock, hb⟩
theorem fam_lt {w : World} {base bm n : Nat} {D : DU} {F : List (Value × List Int)} (h : Fam w base bm n D F) : bm < w.heap.size := by
  obtain ⟨es, clock, hb⟩ := fam_map h
  exact (Array.getElem?_eq_some_iff.1 hb).1
theorem ints_ne_map {w : World} {base : Nat} {v : Value} {zs : List Int} (h : w.ownsInts base 3 .i64 v zs) {bm : Nat} {es : Array MapEntry} {clock : Nat} (hb : w.heap[bm]? = some (.map es clock)) : v.ownBlock ≠ some bm := by
  intro e
  rcases h.1.2 with ⟨rfl, _⟩ | ⟨g', cap, cur, rfl, _, hh, _⟩
  · cases e
  · cases e
    rw [hb] at hh
    cases hh
theorem ints_ne {w : World} {base : Nat} {v : Value} {zs : List Int} (h : w.ownsInts base 3 .i64 v zs) {g : Nat} {cs : Array Value} {t : TypeId} {fz : Nat × Nat} (hg : w.heap[g]? = some (.cells cs t fz)) (ht : t ≠ 3) : v.ownBlock ≠ some g := own_ne h.1 hg (fun e => ht e.symm)
theorem group_rows {w : World} {base bm n : Nat} {D : DU} (h : w.ownsGroups Tryz.prog 124 base 3 .i64 bm n D) {es : Array MapEntry} {clock : Nat} (hb : w.heap[bm]? = some (.map es clock)) : ∀ x ∈ es.toList, ∃ zs, w.ownsInts base 3 .i64 x.val zs := by
  obtain ⟨es', clock', hb', F, _⟩ := h
  obtain ⟨rfl, rfl⟩ : es' = es ∧ clock' = clock := by rw [hb'] at hb; simpa using hb
  intro x hx
  obtain ⟨y, hy⟩ := F.reads x hx
  obtain ⟨z, hz, _⟩ := WideElems.rd_val hy
  obtain ⟨zs, ho, _⟩ := rowElem_inv hz
  exact ⟨zs, ho⟩
theorem or_ne {v : Value} {row : Option Nat} (h : ∀ g, row = some g → v.ownBlock ≠ some g) : v.ownBlock = none ∨ v.ownBlock ≠ row := by
  cases hv : v.ownBlock with
  | none => exact Or.inl rfl
  | some g => exact Or.inr (fun e => h g e.symm hv)
/-- Blocks of another type turn, or new ones come. -/
theorem Fam.keep {w w' : World} {base bm n : Nat} {D : DU} {F : List (Value × List Int)} (h : Fam w base bm n D F) {row : Option Nat} (hg : w.grownBy w' row)
    (hr : ∀ g, row = some g → ∃ cs t fz, w.heap[g]? = some (.cells cs t fz) ∧ t ≠ 3) : Fam w' base bm n D F := by
  obtain ⟨es, clock, hb⟩ := fam_map h
  have hbr : some bm ≠ row := fun e => by
    obtain ⟨cs, t, fz, h1, _⟩ := hr bm e.symm
    rw [hb] at h1
    cases h1
  have hv : ∀ {v : Value} {zs : List Int}, w.ownsInts base 3 .i64 v zs → v.ownBlock = none ∨ v.ownBlock ≠ row := fun {v zs} ho => or_ne fun g e => by
    obtain ⟨cs, t, fz, h1, h2⟩ := hr g e
    exact ints_ne ho h1 h2
  refine ⟨fun x hx => (h.own x hx).kept hg (hv (h.own x hx)), h.dist, h.grp.kept hg hbr fun es' clock' hb' x hx => ?_, h.shun.kept hg (fam_lt h) hbr⟩
  obtain ⟨zs, ho⟩ := group_rows h.grp hb' x hx
  exact hv ho
theorem Fam.below {w w' : World} {base bm n : Nat} {D : DU} {F : List (Value × List Int)} (h : Fam w base bm n D F) (hb : Below w.heap.size w w') : Fam w' base bm n D F := h.keep (grownBy_of_below hb none) (fun g e => by cases e)
theorem mem_set_ne {α : Type} {F : List α} {i : Nat} {y x : α} (h : x ∈ F.set i y) : x = y ∨ ∃ j, j ≠ i ∧ F[j]? = some x := by
  obtain ⟨j, hj⟩ := List.mem_iff_getElem?.1 h
  rw [List.getElem?_set] at hj
  split at hj
  · split at hj
    · exact Or.inl (Option.some.inj hj).symm
    · cases hj
  · exact Or.inr ⟨j, by omega, hj⟩
/-- One of the lists grows, is cut, or is written anew. -/
theorem Fam.grow {w w' : World} {base bm n : Nat} {D : DU} {F : List (Value × List Int)} (h : Fam w base bm n D F) {i : Nat} {v v' : Value} {zs zs' : List Int} (hi : F[i]? = some (v, zs)) (hg : w.grownBy w' v.ownBlock)
    (ho : w'.ownsInts base 3 .i64 v' zs') (loc : v'.ownBlock = v.ownBlock ∨ ∃ g, v'.ownBlock = some g ∧ w.heap.size ≤ g) : Fam w' base bm n D (F.set i (v', zs')) := by
  obtain ⟨es, clock, hb⟩ := fam_map h
  have hvm : (v, zs) ∈ F := List.mem_of_getElem? hi
  have hov := h.own _ hvm
  have hbr : some bm ≠ v.ownBlock := fun e => ints_ne_map hov hb e.symm
  have hap : ∀ j x, j ≠ i → F[j]? = some x → Apart x.1 v := fun j x hj hx => by
    obtain ⟨h1, rfl⟩ := List.getElem?_eq_some_iff.1 hx
    obtain ⟨h2, e2⟩ := List.getElem?_eq_some_iff.1 hi
    rcases Nat.lt_or_gt_of_ne hj with h3 | h3
    · have := List.pairwise_iff_getElem.1 h.dist j i h1 h2 h3
      rw [e2] at this
      exact this
    · have := List.pairwise_iff_getElem.1 h.dist i j h2 h1 h3
      rw [e2] at this
      exact this.symm
  have hap' : ∀ j x, j ≠ i → F[j]? = some x → Apart x.1 v' := fun j x hj hx g hgx hgv => by
    rcases loc with e | ⟨g', e, hlo⟩
    · exact hap j x hj hx g hgx (by rw [← e]; exact hgv)
    · rw [e] at hgv
      cases hgv
      have := ((h.own x (List.mem_of_getElem? hx)).1.lt g hgx).2
      omega
  refine ⟨fun x hx => ?_, ?_, h.grp.kept hg hbr (h.shun.rowsOff fun j hj => ⟨_, hvm, hj⟩), ?_⟩
  · rcases mem_set_ne hx with rfl | ⟨j, hj, hx⟩
    · exact ho
    · refine (h.own x (List.mem_of_getElem? hx)).kept hg (or_ne fun g e e2 => hap j x hj hx g e2 e)
  · rw [List.pairwise_iff_getElem]
    intro a b ha hb' hab
    rw [List.length_set] at ha hb'
    rw [List.getElem_set, List.getElem_set]
    split
    · next e =>
      subst e
      rw [if_neg (by omega)]
      exact (hap' b _ (by omega) (List.getElem?_eq_getElem hb')).symm
    · next e =>
      split
      · next e2 =>
        exact hap' a _ (fun e3 => e e3.symm) (List.getElem?_eq_getElem ha)
      · exact List.pairwise_iff_getElem.1 h.dist a b ha hb' hab
  · refine (h.shun.reno h.grp (No' := fun g => ∃ x ∈ F.set i (v', zs'), x.1.ownBlock = some g) fun g => ?_).kept hg (fam_lt h) hbr
    rintro ⟨x, hx, hgx⟩
    rcases mem_set_ne hx with rfl | ⟨j, hj, hx⟩
    · rcases loc with e | ⟨g', e, hlo⟩
      · exact Or.inl ⟨_, hvm, by rw [← e]; exact hgx⟩
      · rw [e] at hgx
        cases hgx
        exact Or.inr hlo
    · exact Or.inl ⟨x, List.mem_of_getElem? hx, hgx⟩
theorem Fam.push {w : World} {base bm n : Nat} {D : DU} {F : List (Value × List Int)} (h : Fam w base bm n D F) : Fam w base bm n D (F ++ [(.slice none 0 0, [])]) := by
  refine ⟨fun x hx => ?_, ?_, h.grp, fun es clock hb x hx g hg => ?_⟩
  · rcases List.mem_append.1 hx with hx | hx
    · exact h.own x hx
    · rw [List.mem_singleton] at hx; subst hx; exact World.ownsInts_nil _ _ _ _
  · rw [List.pairwise_append]
    refine ⟨h.dist, by simp, fun x _ y hy g _ hgy => ?_⟩
    rw [List.mem_singleton] at hy
    subst hy
    cases hgy
  · rintro ⟨y, hy, hgy⟩
    rcases List.mem_append.1 hy with hy | hy
    · exact h.shun es clock hb x hx g hg ⟨y, hy, hgy⟩
    · rw [List.mem_singleton] at hy; subst hy; cases hgy
/-- A list of the map's is written anew. -/
theorem Fam.store {w w1 w2 : World} {base bm n : Nat} {D D' : DU} {F : List (Value × List Int)} (h : Fam w base bm n D F) {u : Value} {zs : List Int} (hu : w.ownsInts base 3 .i64 u zs)
    (hsh : ∀ No : Nat → Prop, w.Shuns bm No → ∀ g, u.ownBlock = some g → ¬ No g) (hg1 : w.grownBy w1 u.ownBlock) (hg2 : w1.grownBy w2 (some bm)) (hgr : w2.ownsGroups Tryz.prog 124 base 3 .i64 bm (n + 1) D')
    (hs2 : w2.Shuns bm fun g => ∃ x ∈ F, x.1.ownBlock = some g) : Fam w2 base bm (n + 1) D' F := by
  obtain ⟨es, clock, hb⟩ := fam_map h
  refine ⟨fun x hx => ?_, h.dist, hgr, hs2⟩
  have h1 := (h.own x hx).kept hg1 (or_ne fun g e e2 => hsh _ h.shun g e ⟨x, hx, e2⟩)
  have hb1 : w1.heap[bm]? = some (.map es clock) := (hg1.block bm (fam_lt h) (fun e => ints_ne_map hu hb e.symm)).trans hb
  exact h1.kept hg2 (or_ne fun g e => by cases e; exact ints_ne_map h1 hb1)
end Go.Proofs.YteihmgcphbijhaaGreatDoor

namespace Go.Proofs.YteihmgcphbijhaaGreatDoor
open Go.RowKit Go.Maps Go.ChangeShapes
set_option linter.unusedSimpArgs false
set_option linter.unusedVariables false
set_option maxRecDepth 100000
/-- A piece, its item's slice of nodes, its slice of what begins behind it. -/
abbrev Pm := Pc × Value × Value
def pmC (x : Pm) : List Value := [.int .u8 x.1.it.sg.toNat, .int .i64 x.1.it.ff, .bool x.1.it.op, .bool x.1.it.cl, x.2.1, .int .i64 x.1.it.n, .int .i64 x.1.en, x.2.2]
theorem pmC_length (x : Pm) : (pmC x).length = 8 := rfl
theorem flt_set1 {α : Type} {c : α → List Value} {s : Nat} (hs : ∀ x, (c x).length = s) (j : Nat) (u : Value) (y : α) (hj : j < s) : ∀ (X : List α) (q : Nat) (x : α), X[q]? = some x → c y = (c x).set j u → (flt c X).set (q * s + j) u = flt c (X.set q y)
  | z :: X, 0, x, hx, hy => by
    have e : z = x := Option.some.inj hx
    subst e
    rw [List.set_cons_zero, flt_cons, flt_cons, hy, Nat.zero_mul, Nat.zero_add, List.set_append_left _ _ (by rw [hs]; exact hj)]
  | z :: X, q + 1, x, hx, hy => by
    have ih := flt_set1 hs j u y hj X q x hx hy
    rw [List.set_cons_succ, flt_cons, flt_cons, ← ih]
    have e : (q + 1) * s + j = (c z).length + (q * s + j) := by rw [hs, Nat.succ_mul]; omega
    rw [e, List.set_append_right _ _ (Nat.le_add_right _ _), Nat.add_sub_cancel_left]
def kB (x : Itm) (sg : UInt8) (b : Bool) (r : Int) : Bool := x.sg == sg && (x.op && x.cl) == b && x.ff.tmod 3 == r
def kAt (ps : List Pc) (sg : UInt8) (b : Bool) (r : Int) (i : Nat) : Bool := match ps[i]? with | some p => kB p.it sg b r | none => false
def natI (ops : List Nat) : List Int := ops.map fun i => ((i : Nat) : Int)
def opsK (ps : List Pc) (ops : List Nat) (sg : UInt8) (b : Bool) (r : Int) : List Int := natI (ops.filter (kAt ps sg b r))
theorem opsK_same {ps ps' : List Pc} {ops : List Nat} (h : ∀ i ∈ ops, ∀ sg b r, kAt ps' sg b r i = kAt ps sg b r i) : opsK ps' ops = opsK ps ops := by
  funext sg b r
  unfold opsK
  rw [List.filter_congr fun i hi => h i hi sg b r]
theorem kAt_set {ps : List Pc} {j : Nat} {p p' : Pc} (hj : ps[j]? = some p) (h1 : p'.it.sg = p.it.sg) (h2 : p'.it.op = p.it.op) (h3 : p'.it.cl = p.it.cl) (h4 : p'.it.ff = p.it.ff) (sg : UInt8) (b : Bool) (r : Int) (i : Nat) : kAt (ps.set j p') sg b r i = kAt ps sg b r i := by
  unfold kAt
  by_cases e : j = i
  · subst e
    rw [List.getElem?_set, if_pos rfl, if_pos (List.getElem?_eq_some_iff.1 hj).1, hj]
    simp only [kB, h1, h2, h3, h4]
  · rw [List.getElem?_set, if_neg e]
theorem set_self {α : Type} {l : List α} {i : Nat} {x : α} (h : l[i]? = some x) : l.set i x = l := by
  obtain ⟨h1, rfl⟩ := List.getElem?_eq_some_iff.1 h
  exact List.set_getElem_self h1
theorem kAt_push {ps : List Pc} {p : Pc} {i : Nat} (hi : i < ps.length) (sg : UInt8) (b : Bool) (r : Int) : kAt (ps ++ [p]) sg b r i = kAt ps sg b r i := by
  unfold kAt
  rw [List.getElem?_append_left hi]
/-- What lay below B lies as it lay; and so does every item's block. -/
structure KB (B : Nat) (w w' : World) : Prop where
  below : Below B w w'
  items : ∀ (g : Nat) (cs : Array Value) (fz : Nat × Nat), w.heap[g]? = some (Obj.cells cs 75 fz) → w'.heap[g]? = some (Obj.cells cs 75 fz)
theorem KB.refl (B : Nat) (w : World) : KB B w w := ⟨Below.refl _ _, fun _ _ _ h => h⟩
theorem KB.trans {B : Nat} {a b c : World} (h : KB B a b) (k : KB B b c) : KB B a c := ⟨h.below.trans k.below, fun g cs fz hg => k.items g cs fz (h.items g cs fz hg)⟩
theorem KB.size {B : Nat} {a b : World} (h : KB B a b) : a.heap.size ≤ b.heap.size := h.below.size
theorem KB.of {B : Nat} {w w' : World} (h : Below w.heap.size w w') (hB : B ≤ w.heap.size) : KB B w w' := ⟨h.mono hB, fun g cs fz hg => (h.block g (Array.getElem?_eq_some_iff.1 hg).1).trans hg⟩
theorem KB.thenB {B : Nat} {a b c : World} (h : KB B a b) (k : Below b.heap.size b c) (hB : B ≤ b.heap.size) : KB B a c := h.trans (KB.of k hB)
theorem KB.grown {B : Nat} {a b c : World} (h : KB B a b) {row : Option Nat} (hg : b.grownBy c row) (hB : B ≤ b.heap.size) (hr : ∀ g : Nat, row = some g → B ≤ g ∧ ∀ (cs : Array Value) (fz : Nat × Nat), b.heap[g]? ≠ some (Obj.cells cs 75 fz)) : KB B a c :=
  ⟨h.below.grown hg hB (fun g e => (hr g e).1), fun g cs fz hi => by
    have h1 := h.items g cs fz hi
    exact (hg.block g (Array.getElem?_eq_some_iff.1 h1).1 (fun e => (hr g e.symm).2 cs fz h1)).trans h1⟩
theorem not_item_ints {w : World} {base : Nat} {v : Value} {zs : List Int} (h : w.ownsInts base 3 .i64 v zs) {g : Nat} (hg : v.ownBlock = some g) (cs : Array Value) (fz : Nat × Nat) : w.heap[g]? ≠ some (Obj.cells cs 75 fz) := fun e => ints_ne h e (by decide) hg
theorem not_item_cells {w : World} {g : Nat} {cs0 : Array Value} {t : TypeId} {fz0 : Nat × Nat} (h : w.heap[g]? = some (Obj.cells cs0 t fz0)) (ht : t ≠ 75) (cs : Array Value) (fz : Nat × Nat) : w.heap[g]? ≠ some (Obj.cells cs 75 fz) := fun e => by
  rw [h] at e
  injection e with e
  injection e with _ e
  exact ht e
theorem not_item_map {w : World} {g : Nat} {es : Array MapEntry} {clock : Nat} (h : w.heap[g]? = some (Obj.map es clock)) (cs : Array Value) (fz : Nat × Nat) : w.heap[g]? ≠ some (Obj.cells cs 75 fz) := fun e => by
  rw [h] at e
  cases e
structure PrSt (w : World) (b bp bm cap n : Nat) (D : DU) (Ps : List Pm) (ops opsM : List Nat) (ov : Value) : Prop where
  blk : w.heap[b]? = some (.cells #[.slice (some ⟨bp, 0, none⟩) Ps.length cap, ov, .map (some bm)] 82 (0, 0))
  row : w.ownsRow bp 121 8 (.slice (some ⟨bp, 0, none⟩) Ps.length cap) Ps.length (flt pmC Ps)
  fam : Fam w (bm + 1) bm n D ((ov, natI ops) :: Ps.map fun x => (x.2.2, x.1.bg))
  kd : KD D (opsK (Ps.map Prod.fst) opsM)
  cnt : n + opsM.length ≤ 2 * Ps.length
  small : cap ≤ 1000
section
variable {w : World} {b bp bm cap n : Nat} {D : DU} {Ps : List Pm} {ops opsM : List Nat} {ov : Value}
theorem PrSt.bcells (h : PrSt w b bp bm cap n D Ps ops opsM ov) : w.cell? ⟨b, 0, none⟩ = some (.slice (some ⟨bp, 0, none⟩) Ps.length cap) ∧ w.cell? ⟨b, 1, none⟩ = some ov ∧ w.cell? ⟨b, 2, none⟩ = some (.map (some bm)) ∧ (∀ i, w.frozen? ⟨b, i, none⟩ = false) ∧ b < w.heap.size :=
  ⟨(cell_of_row w b 0 _ _ (0, 0) h.blk).trans rfl, (cell_of_row w b 1 _ _ (0, 0) h.blk).trans rfl, (cell_of_row w b 2 _ _ (0, 0) h.blk).trans rfl, fun i => by simp [World.frozen?, h.blk], (Array.getElem?_eq_some_iff.1 h.blk).1⟩
theorem PrSt.len (h : PrSt w b bp bm cap n D Ps ops opsM ov) : Ps.length ≤ cap := by
  rcases h.row.2 with ⟨e, _⟩ | ⟨g, c, cur, e, _, _, h1, _⟩
  · cases e
  · cases e; exact h1
theorem PrSt.rowObj (h : PrSt w b bp bm cap n D Ps ops opsM ov) : ∃ cur, w.heap[bp]? = some (.cells cur 121 (0, 0)) := by
  rcases h.row.2 with ⟨e, _⟩ | ⟨g, c, cur, e, _, h1, _⟩
  · cases e
  · cases e; exact ⟨cur, h1⟩
theorem PrSt.pcells (h : PrSt w b bp bm cap n D Ps ops opsM ov) {k : Nat} {x : Pm} (hk : Ps[k]? = some x) :
    (w.cell? ⟨bp, k * 8, none⟩ = some (.int .u8 x.1.it.sg.toNat) ∧ w.cell? ⟨bp, k * 8 + 1, none⟩ = some (.int .i64 x.1.it.ff) ∧ w.cell? ⟨bp, k * 8 + 2, none⟩ = some (.bool x.1.it.op) ∧ w.cell? ⟨bp, k * 8 + 3, none⟩ = some (.bool x.1.it.cl) ∧
      w.cell? ⟨bp, k * 8 + 4, none⟩ = some x.2.1 ∧ w.cell? ⟨bp, k * 8 + 5, none⟩ = some (.int .i64 x.1.it.n) ∧ w.cell? ⟨bp, k * 8 + 6, none⟩ = some (.int .i64 x.1.en) ∧ w.cell? ⟨bp, k * 8 + 7, none⟩ = some x.2.2) ∧
    (∀ i, w.frozen? ⟨bp, i, none⟩ = false) ∧ bp < w.heap.size ∧ k < Ps.length := by
  obtain ⟨hlt, hx⟩ := List.getElem?_eq_some_iff.1 hk
  have hc : ∀ j u, (pmC x)[j]? = some u → w.cell? ⟨bp, k * 8 + j, none⟩ = some u := fun j u hu => own_elt pmC_length h.row hlt j u (by rw [hx]; exact hu)
  exact ⟨⟨hc 0 _ rfl, hc 1 _ rfl, hc 2 _ rfl, hc 3 _ rfl, hc 4 _ rfl, hc 5 _ rfl, hc 6 _ rfl, hc 7 _ rfl⟩, fun i => h.row.frozenAt i, (h.row.lt bp rfl).2, hlt⟩
theorem PrSt.below {w' : World} (h : PrSt w b bp bm cap n D Ps ops opsM ov) (hb : Below w.heap.size w w') : PrSt w' b bp bm cap n D Ps ops opsM ov :=
  ⟨(hb.block b (Array.getElem?_eq_some_iff.1 h.blk).1).trans h.blk, ownsRow_below h.row hb, h.fam.below hb, h.kd, h.cnt, h.small⟩
theorem PrSt.row_b (h : PrSt w b bp bm cap n D Ps ops opsM ov) {B : Nat} (hB : B ≤ b) : ∀ g : Nat, some b = some g → B ≤ g ∧ ∀ (cs : Array Value) (fz : Nat × Nat), w.heap[g]? ≠ some (Obj.cells cs 75 fz) := fun g e => by
  cases e; exact ⟨hB, not_item_cells h.blk (by decide)⟩
theorem PrSt.row_bp (h : PrSt w b bp bm cap n D Ps ops opsM ov) {B : Nat} (hB : B ≤ bp) : ∀ g : Nat, some bp = some g → B ≤ g ∧ ∀ (cs : Array Value) (fz : Nat × Nat), w.heap[g]? ≠ some (Obj.cells cs 75 fz) := fun g e => by
  cases e
  obtain ⟨cur, hc⟩ := h.rowObj
  exact ⟨hB, not_item_cells hc (by decide)⟩
theorem PrSt.row_bm (h : PrSt w b bp bm cap n D Ps ops opsM ov) {B : Nat} (hB : B ≤ bm) : ∀ g : Nat, some bm = some g → B ≤ g ∧ ∀ (cs : Array Value) (fz : Nat × Nat), w.heap[g]? ≠ some (Obj.cells cs 75 fz) := fun g e => by
  cases e
  obtain ⟨es, clock, hm⟩ := fam_map h.fam
  exact ⟨hB, not_item_map hm⟩
theorem PrSt.b_ne (h : PrSt w b bp bm cap n D Ps ops opsM ov) : b ≠ bp := by
  obtain ⟨cur, hc⟩ := h.rowObj
  intro e
  have h1 := h.blk
  rw [e, hc] at h1
  injection h1 with h1
  injection h1 with _ h2
  exact absurd h2 (by decide)
theorem PrSt.own_at (h : PrSt w b bp bm cap n D Ps ops opsM ov) {k : Nat} {x : Pm} (hk : Ps[k]? = some x) : w.ownsInts (bm + 1) 3 .i64 x.2.2 x.1.bg :=
  h.fam.own (x.2.2, x.1.bg) (List.mem_cons_of_mem _ (List.mem_map.2 ⟨x, List.mem_of_getElem? hk, rfl⟩))
theorem PrSt.own_ops (h : PrSt w b bp bm cap n D Ps ops opsM ov) : w.ownsInts (bm + 1) 3 .i64 ov (natI ops) := h.fam.own (ov, natI ops) (by simp)
/-- A cell of a piece is written, but its slice. -/
theorem PrSt.setCell (h : PrSt w b bp bm cap n D Ps ops opsM ov) {k : Nat} {x : Pm} (hk : Ps[k]? = some x) (j : Nat) (hj : j < 8) (u : Value) (y : Pm) (hy : pmC y = (pmC x).set j u) (hb : (y.2.2, y.1.bg) = (x.2.2, x.1.bg))
    (h1 : y.1.it.sg = x.1.it.sg) (h2 : y.1.it.op = x.1.it.op) (h3 : y.1.it.cl = x.1.it.cl) (h4 : y.1.it.ff = x.1.it.ff) :
    PrSt (w.setCell ⟨bp, k * 8 + j, none⟩ u) b bp bm cap n D (Ps.set k y) ops opsM ov ∧ w.grownBy (w.setCell ⟨bp, k * 8 + j, none⟩ u) (some bp) := by
  obtain ⟨cur, hc⟩ := h.rowObj
  have hg := setc_grown w bp (k * 8 + j) u
  obtain ⟨s1, _⟩ := h.row.stored (k * 8 + j) u
  rw [flt_set1 pmC_length j u y hj Ps k x hk hy] at s1
  refine ⟨⟨?_, ?_, ?_, ?_, ?_, h.small⟩, hg⟩
  · rw [List.length_set]
    exact (hg.block b (Array.getElem?_eq_some_iff.1 h.blk).1 (fun e => h.b_ne (Option.some.inj e))).trans h.blk
  · rw [List.length_set]; exact s1
  · have e : (Ps.set k y).map (fun x => (x.2.2, x.1.bg)) = Ps.map fun x => (x.2.2, x.1.bg) := by
      rw [List.map_set, hb]
      exact set_self (by rw [List.getElem?_map, hk]; rfl)
    rw [e]
    exact h.fam.keep hg (fun g e => by cases e; exact ⟨cur, _, _, hc, by decide⟩)
  · rw [List.map_set, opsK_same fun i _ sg b r => kAt_set (p := x.1) (by rw [List.getElem?_map, hk]; rfl) h1 h2 h3 h4 sg b r i]
    exact h.kd
  · rw [List.length_set]; exact h.cnt
/-- What begins behind a piece grows; its slice is written. -/
theorem PrSt.begins (h : PrSt w b bp bm cap n D Ps ops opsM ov) {k : Nat} {x : Pm} (hk : Ps[k]? = some x) {w1 : World} {v' : Value} {zs' : List Int} (hg : w.grownBy w1 x.2.2.ownBlock) (ho : w1.ownsInts (bm + 1) 3 .i64 v' zs')
    (loc : v'.ownBlock = x.2.2.ownBlock ∨ ∃ g, v'.ownBlock = some g ∧ w.heap.size ≤ g) :
    PrSt (w1.setCell ⟨bp, k * 8 + 7, none⟩ v') b bp bm cap n D (Ps.set k ({ x.1 with bg := zs' }, x.2.1, v')) ops opsM ov ∧ w1.grownBy (w1.setCell ⟨bp, k * 8 + 7, none⟩ v') (some bp) := by
  obtain ⟨cur, hc⟩ := h.rowObj
  have hox := h.own_at hk
  have hr1 := h.row.kept hg (Or.inr (fun e => ints_ne hox hc (by decide) e.symm))
  have hc1 := (hg.block bp (Array.getElem?_eq_some_iff.1 hc).1 (fun e => ints_ne hox hc (by decide) e.symm)).trans hc
  have hb1 := (hg.block b (Array.getElem?_eq_some_iff.1 h.blk).1 (fun e => ints_ne hox h.blk (by decide) e.symm)).trans h.blk
  have hg2 := setc_grown w1 bp (k * 8 + 7) v'
  obtain ⟨s1, _⟩ := hr1.stored (k * 8 + 7) v'
  rw [flt_set1 pmC_length 7 v' (({ x.1 with bg := zs' } : Pc), x.2.1, v') (by omega) Ps k x hk rfl] at s1
  refine ⟨⟨?_, ?_, ?_, ?_, ?_, h.small⟩, hg2⟩
  · rw [List.length_set]
    exact (hg2.block b (Array.getElem?_eq_some_iff.1 hb1).1 (fun e => h.b_ne (Option.some.inj e))).trans hb1
  · rw [List.length_set]; exact s1
  · have f1 := h.fam.grow (i := k + 1) (v := x.2.2) (zs := x.1.bg) (by rw [List.getElem?_cons_succ, List.getElem?_map, hk]; rfl) hg ho loc
    rw [List.set_cons_succ] at f1
    rw [List.map_set]
    exact f1.keep hg2 (fun g e => by cases e; exact ⟨cur, _, _, hc1, by decide⟩)
  · have e : opsK ((Ps.set k ({ x.1 with bg := zs' }, x.2.1, v')).map Prod.fst) opsM = opsK (Ps.map Prod.fst) opsM := by
      rw [List.map_set]
      exact opsK_same fun i _ sg b r => kAt_set (p := x.1) (p' := ({ x.1 with bg := zs' } : Pc)) (by rw [List.getElem?_map, hk]; rfl) rfl rfl rfl rfl sg b r i
    rw [e]
    exact h.kd
  · rw [List.length_set]; exact h.cnt
/-- The list of openers is another one. -/
theorem PrSt.openers (h : PrSt w b bp bm cap n D Ps ops opsM ov) {w1 : World} {v' : Value} {ops' : List Nat} (hg : w.grownBy w1 ov.ownBlock) (ho : w1.ownsInts (bm + 1) 3 .i64 v' (natI ops'))
    (loc : v'.ownBlock = ov.ownBlock ∨ ∃ g, v'.ownBlock = some g ∧ w.heap.size ≤ g) :
    PrSt (w1.setCell ⟨b, 1, none⟩ v') b bp bm cap n D Ps ops' opsM v' ∧ w1.grownBy (w1.setCell ⟨b, 1, none⟩ v') (some b) := by
  obtain ⟨cur, hc⟩ := h.rowObj
  have hox := h.own_ops
  have hr1 := h.row.kept hg (Or.inr (fun e => ints_ne hox hc (by decide) e.symm))
  have hb1 := (hg.block b (Array.getElem?_eq_some_iff.1 h.blk).1 (fun e => ints_ne hox h.blk (by decide) e.symm)).trans h.blk
  have hg2 := setc_grown w1 b 1 v'
  refine ⟨⟨?_, ?_, ?_, h.kd, h.cnt, h.small⟩, hg2⟩
  · simp [World.setCell, Array.getElem?_modify, hb1]
  · exact hr1.kept hg2 (Or.inr (fun e => h.b_ne (Option.some.inj e).symm))
  · have f1 := h.fam.grow (i := 0) (v := ov) (zs := natI ops) rfl hg ho loc
    rw [List.set_cons_zero] at f1
    exact f1.keep hg2 (fun g e => by cases e; exact ⟨_, _, _, hb1, by decide⟩)
/-- A list of the map is another one. -/
theorem PrSt.kinds (h : PrSt w b bp bm cap n D Ps ops opsM ov) {w1 w2 : World} {u : Value} {zs : List Int} {D' : DU} {opsM' : List Nat} (hu : w.ownsInts (bm + 1) 3 .i64 u zs)
    (hsh : ∀ No : Nat → Prop, w.Shuns bm No → ∀ g, u.ownBlock = some g → ¬ No g) (hg1 : w.grownBy w1 u.ownBlock) (hg2 : w1.grownBy w2 (some bm)) (hgr : w2.ownsGroups Tryz.prog 124 (bm + 1) 3 .i64 bm (n + 1) D')
    (hs2 : w2.Shuns bm fun g => ∃ x ∈ ((ov, natI ops) :: Ps.map fun x => (x.2.2, x.1.bg)), x.1.ownBlock = some g) (hkd : KD D' (opsK (Ps.map Prod.fst) opsM')) (hcnt : n + 1 + opsM'.length ≤ 2 * Ps.length) :
    PrSt w2 b bp bm cap (n + 1) D' Ps ops opsM' ov := by
  obtain ⟨cur, hc⟩ := h.rowObj
  obtain ⟨es, clock, hm⟩ := fam_map h.fam
  have nb : some b ≠ some bm := fun e => by
    have h1 := h.blk
    rw [Option.some.inj e, hm] at h1
    cases h1
  have np : some bp ≠ some bm := fun e => by
    have h1 := hc
    rw [Option.some.inj e, hm] at h1
    cases h1
  have hb1 := (hg1.block b (Array.getElem?_eq_some_iff.1 h.blk).1 (fun e => ints_ne hu h.blk (by decide) e.symm)).trans h.blk
  have hr1 := h.row.kept hg1 (Or.inr (fun e => ints_ne hu hc (by decide) e.symm))
  exact ⟨(hg2.block b (Array.getElem?_eq_some_iff.1 hb1).1 nb).trans hb1, hr1.kept hg2 (Or.inr np), h.fam.store hu hsh hg1 hg2 hgr hs2, hkd, hcnt, h.small⟩
/-- A piece more. -/
theorem PrSt.push (h : PrSt w b bp bm cap n D Ps ops opsM ov) (hops : ∀ i ∈ opsM, i < Ps.length) {w1 : World} {x : Pm} (hg : w.grownBy w1 (some bp)) (hx : x.1.bg = [] ∧ x.2.2 = .slice none 0 0)
    (ho : w1.ownsRow bp 121 8 (.slice (some ⟨bp, 0, none⟩) (Ps.length + 1) cap) (Ps.length + 1) (flt pmC Ps ++ pmC x)) :
    PrSt (w1.setCell ⟨b, 0, none⟩ (.slice (some ⟨bp, 0, none⟩) (Ps.length + 1) cap)) b bp bm cap n D (Ps ++ [x]) ops opsM ov ∧ w1.grownBy (w1.setCell ⟨b, 0, none⟩ (.slice (some ⟨bp, 0, none⟩) (Ps.length + 1) cap)) (some b) := by
  obtain ⟨cur, hc⟩ := h.rowObj
  have hb1 := (hg.block b (Array.getElem?_eq_some_iff.1 h.blk).1 (fun e => h.b_ne (Option.some.inj e))).trans h.blk
  have hg2 := setc_grown w1 b 0 (.slice (some ⟨bp, 0, none⟩) (Ps.length + 1) cap)
  refine ⟨⟨?_, ?_, ?_, ?_, ?_, h.small⟩, hg2⟩
  · rw [List.length_append]
    simp [World.setCell, Array.getElem?_modify, hb1]
  · rw [List.length_append, flt_append, flt_one]
    exact ho.kept hg2 (Or.inr (fun e => h.b_ne (Option.some.inj e).symm))
  · have f1 := (h.fam.keep hg (fun g e => by cases e; exact ⟨cur, _, _, hc, by decide⟩)).keep hg2 (fun g e => by cases e; exact ⟨_, _, _, hb1, by decide⟩)
    rw [List.map_append, List.map_cons, List.map_nil, hx.1, hx.2]
    exact f1.push
  · rw [List.map_append, List.map_cons, List.map_nil, opsK_same fun i hi sg b r => kAt_push (by rw [List.length_map]; exact hops i hi) sg b r]
    exact h.kd
  · rw [List.length_append]; have := h.cnt; simp; omega
end
end Go.Proofs.YteihmgcphbijhaaGreatDoor

namespace Go.Proofs.YteihmgcphbijhaaGreatDoor
open Go.RowKit Go.Maps Go.ChangeShapes
set_option linter.unusedSimpArgs false
set_option linter.unusedVariables false
set_option maxRecDepth 100000
theorem zeroInts (w : World) : (zeroValue 22).run Tryz.prog w = .ok (.slice none 0 0) w := by kernel_rfl
/-- The look-up, in every world that keeps the map's block. -/
theorem groups_look {w : World} {base bm n : Nat} {D : DU} (h : w.ownsGroups Tryz.prog 124 base 3 .i64 bm n D) (hn : n < maxLen) (sg : UInt8) (b : Bool) (r : Int) (hr : -2 ≤ r ∧ r ≤ 2) :
    ∃ v zs, (∀ w' : World, w'.heap[bm]? = w.heap[bm]? → (Instr.lookup 80 (.map (some bm)) (kindV sg b r) false).run Tryz.prog w' = .ok v w') ∧ D.atKey (kLit sg b r) .nil = rowDatum .i64 v zs ∧ w.ownsInts base 3 .i64 v zs ∧ zs.length ≤ n ∧
      w.groupBack Tryz.prog 80 124 base 3 .i64 bm n D (kindV sg b r) (kLit sg b r) v ∧ (∀ No : Nat → Prop, w.Shuns bm No → ∀ g, v.ownBlock = some g → ¬ No g) := by
  have hkey := keyOf_kind sg b r hr
  obtain ⟨v, zs, hrun, hat, hoi, hzl, hback⟩ := h.at keyLaw Tryz.underlying80 (zeroInts w) hn hkey
  have hsh : ∀ No : Nat → Prop, w.Shuns bm No → ∀ g, v.ownBlock = some g → ¬ No g := by
    obtain ⟨es, clock, hb, F, _⟩ := h
    rcases Maps.fit_look false keyLaw Tryz.underlying80 (zeroInts w) hb F hkey with ⟨hrun', _, _⟩ | ⟨e0, y, hm0, _, hrun', _, _, _⟩
    · rw [hrun] at hrun'
      obtain rfl : v = .slice none 0 0 := by simpa using hrun'
      intro _ _ g hg'
      cases hg'
    · rw [hrun] at hrun'
      obtain rfl : v = e0.val := by simpa using hrun'
      exact fun No hs g hg' => hs es clock hb e0 hm0 g hg'
  obtain ⟨es, clock, hb, F, _⟩ := h
  have F0 : WideElems.Fit Tryz.prog 124 (fun v => some ((.held v : DataW Value), ([] : List MemPlace))) es clock := ⟨F.size, F.stamped, fun x hx => by
    obtain ⟨y, hy⟩ := F.reads x hx
    exact ⟨(y.1, .held x.val), by simp [WideElems.rd, WideElems.rd_key hy]⟩⟩
  have one : ∀ w' : World, w'.heap[bm]? = w.heap[bm]? → ∃ u, (Instr.lookup 80 (.map (some bm)) (kindV sg b r) false).run Tryz.prog w' = .ok u w' ∧
      (DataW.map ((es.toList.map (WideElems.rg Tryz.prog 124 (fun v => some ((.held v : DataW Value), ([] : List MemPlace))))).foldr DataW.insert [])).atKey (kLit sg b r) (.held (.slice none 0 0)) = .held u := by
    intro w' hw'
    rcases Maps.fit_look false keyLaw Tryz.underlying80 (zeroInts w') (hw'.trans hb) F0 hkey with ⟨h1, _, h2⟩ | ⟨e0, y, _, _, h1, hy, h2, _⟩
    · exact ⟨_, h1, h2 _⟩
    · refine ⟨_, h1, ?_⟩
      rw [h2]
      cases hy
      rfl
  obtain ⟨u, h1, h2⟩ := one w rfl
  rw [hrun] at h1
  obtain rfl : v = u := by simpa using h1
  refine ⟨v, zs, fun w' hw' => ?_, hat, hoi, hzl, hback, hsh⟩
  obtain ⟨u', h3, h4⟩ := one w' hw'
  rw [h2] at h4
  cases h4
  exact h3
/-- The greatest of those of which S holds; -1. -/
def IsBest (S : Nat → Prop) (v : Int) : Prop := (v = -1 ∧ ∀ i, ¬ S i) ∨ ∃ i : Nat, v = i ∧ S i ∧ ∀ j, S j → j ≤ i
theorem IsBest.congr {S S' : Nat → Prop} {v : Int} (h : IsBest S v) (e : ∀ i, S' i ↔ S i) : IsBest S' v := by
  rcases h with ⟨h1, h2⟩ | ⟨i, h1, h2, h3⟩
  · exact Or.inl ⟨h1, fun i hi => h2 i ((e i).1 hi)⟩
  · exact Or.inr ⟨i, h1, (e i).2 h2, fun j hj => h3 j ((e j).1 hj)⟩
theorem IsBest.ge {S : Nat → Prop} {v : Int} (h : IsBest S v) : -1 ≤ v ∧ (v = -1 ∨ ∃ i : Nat, v = i ∧ S i) := by
  rcases h with ⟨rfl, _⟩ | ⟨i, rfl, h, _⟩
  · exact ⟨Int.le_refl _, Or.inl rfl⟩
  · exact ⟨by omega, Or.inr ⟨i, rfl, h⟩⟩
theorem IsBest.add {S S' : Nat → Prop} {v : Int} (h : IsBest S v) {m : Nat} {T : Nat → Prop} (e : ∀ i, S' i ↔ S i ∨ T i) (hT : T m) (hm : ∀ j, T j → j ≤ m) : IsBest S' (max v m) := by
  rcases h with ⟨rfl, h2⟩ | ⟨i, rfl, h2, h3⟩
  · refine Or.inr ⟨m, by omega, (e m).2 (Or.inr hT), fun j hj => ?_⟩
    rcases (e j).1 hj with h4 | h4
    · exact absurd h4 (h2 j)
    · exact hm j h4
  · rcases Nat.le_total i m with hle | hle
    · refine Or.inr ⟨m, by omega, (e m).2 (Or.inr hT), fun j hj => ?_⟩
      rcases (e j).1 hj with h4 | h4
      · exact Nat.le_trans (h3 j h4) hle
      · exact hm j h4
    · refine Or.inr ⟨i, by omega, (e i).2 (Or.inl h2), fun j hj => ?_⟩
      rcases (e j).1 hj with h4 | h4
      · exact h3 j h4
      · exact Nat.le_trans (hm j h4) hle
/-- The last of ascending places is the greatest. -/
theorem last_best {L : List Nat} (h : L.Pairwise (· < ·)) (hne : L ≠ []) : ∀ j ∈ L, j ≤ L.getLast hne := by
  intro j hj
  obtain ⟨i, hi, rfl⟩ := List.getElem_of_mem hj
  rw [List.getLast_eq_getElem]
  rcases Nat.lt_or_ge i (L.length - 1) with h1 | h1
  · exact Nat.le_of_lt (List.pairwise_iff_getElem.1 h i (L.length - 1) hi (by omega) h1)
  · have e : i = L.length - 1 := by omega
    simp only [e, Nat.le_refl]
/-- What has been asked: kinds by whether they both open and close (q of them), and by the rest (k of them). -/
def proc (q k : Nat) (b : Bool) (r : Int) : Prop := 0 ≤ r ∧ r < 3 ∧ (b.toNat < q ∨ b.toNat = q ∧ r < k)
def SAt (ps : List Pc) (ops : List Nat) (sg : UInt8) (b2 : Bool) (r2 : Int) (q k : Nat) (i : Nat) : Prop := i ∈ ops ∧ ∃ b r, proc q k b r ∧ kAt ps sg b r i = true ∧ fitK sg b r b2 r2 = true
theorem proc_next {q k : Nat} {bq : Bool} (hq : bq.toNat = q) (hk : k < 3) (b : Bool) (r : Int) : proc q (k + 1) b r ↔ proc q k b r ∨ (b = bq ∧ r = k) := by
  unfold proc
  constructor
  · rintro ⟨h1, h2, h3 | ⟨h3, h4⟩⟩
    · exact Or.inl ⟨h1, h2, Or.inl h3⟩
    · by_cases e : r = k
      · refine Or.inr ⟨?_, e⟩
        have : b.toNat = bq.toNat := by rw [h3, hq]
        revert this
        cases b <;> cases bq <;> simp
      · exact Or.inl ⟨h1, h2, Or.inr ⟨h3, by omega⟩⟩
  · rintro (⟨h1, h2, h3 | ⟨h3, h4⟩⟩ | ⟨rfl, rfl⟩)
    · exact ⟨h1, h2, Or.inl h3⟩
    · exact ⟨h1, h2, Or.inr ⟨h3, by omega⟩⟩
    · exact ⟨by omega, by omega, Or.inr ⟨hq, by omega⟩⟩
theorem proc_row {q : Nat} (b : Bool) (r : Int) : proc q 3 b r ↔ proc (q + 1) 0 b r := by
  unfold proc
  constructor
  · rintro ⟨h1, h2, h3 | ⟨h3, h4⟩⟩
    · exact ⟨h1, h2, Or.inl (by omega)⟩
    · exact ⟨h1, h2, Or.inl (by omega)⟩
  · rintro ⟨h1, h2, h3 | ⟨h3, h4⟩⟩
    · by_cases e : b.toNat = q
      · exact ⟨h1, h2, Or.inr ⟨e, by omega⟩⟩
      · exact ⟨h1, h2, Or.inl (by omega)⟩
    · omega
theorem sat_next {ps : List Pc} {ops : List Nat} {sg : UInt8} {b2 : Bool} {r2 : Int} {q k : Nat} {bq : Bool} (hq : bq.toNat = q) (hk : k < 3) (i : Nat) :
    SAt ps ops sg b2 r2 q (k + 1) i ↔ SAt ps ops sg b2 r2 q k i ∨ (i ∈ ops.filter (kAt ps sg bq k) ∧ fitK sg bq k b2 r2 = true) := by
  unfold SAt
  constructor
  · rintro ⟨h1, b, r, hp, h2, h3⟩
    rcases (proc_next hq hk b r).1 hp with hp | ⟨rfl, rfl⟩
    · exact Or.inl ⟨h1, b, r, hp, h2, h3⟩
    · exact Or.inr ⟨List.mem_filter.2 ⟨h1, h2⟩, h3⟩
  · rintro (⟨h1, b, r, hp, h2, h3⟩ | ⟨h1, h3⟩)
    · exact ⟨h1, b, r, (proc_next hq hk b r).2 (Or.inl hp), h2, h3⟩
    · obtain ⟨h1, h2⟩ := List.mem_filter.1 h1
      exact ⟨h1, bq, k, (proc_next hq hk bq k).2 (Or.inr ⟨rfl, rfl⟩), h2, h3⟩
theorem sat_row {ps : List Pc} {ops : List Nat} {sg : UInt8} {b2 : Bool} {r2 : Int} {q : Nat} (i : Nat) : SAt ps ops sg b2 r2 (q + 1) 0 i ↔ SAt ps ops sg b2 r2 q 3 i := by
  unfold SAt
  constructor
  · rintro ⟨h1, b, r, hp, h2⟩
    exact ⟨h1, b, r, (proc_row b r).2 hp, h2⟩
  · rintro ⟨h1, b, r, hp, h2⟩
    exact ⟨h1, b, r, (proc_row b r).1 hp, h2⟩
theorem sat_start {ps : List Pc} {ops : List Nat} {sg : UInt8} {b2 : Bool} {r2 : Int} : IsBest (SAt ps ops sg b2 r2 0 0) (-1) := by
  refine Or.inl ⟨rfl, fun i => ?_⟩
  rintro ⟨_, b, r, ⟨h1, h2, h3 | ⟨h3, h4⟩⟩, _⟩
  · omega
  · omega
def BoxK (w wr : World) (sg : UInt8) (b2 : Bool) (r2 : Int) : Prop := wr.heap[w.heap.size]? = some (.cells #[.int .u8 sg.toNat, .bool b2, .int .i64 r2] 124 (0, 0))
theorem BoxK.cells {w wr : World} {sg : UInt8} {b2 : Bool} {r2 : Int} (h : BoxK w wr sg b2 r2) : wr.cell? ⟨w.heap.size, 0, none⟩ = some (.int .u8 sg.toNat) ∧ wr.cell? ⟨w.heap.size, 1, none⟩ = some (.bool b2) ∧ wr.cell? ⟨w.heap.size, 2, none⟩ = some (.int .i64 r2) ∧ w.heap.size < wr.heap.size :=
  ⟨(cell_of_row _ _ 0 _ _ (0, 0) h).trans rfl, (cell_of_row _ _ 1 _ _ (0, 0) h).trans rfl, (cell_of_row _ _ 2 _ _ (0, 0) h).trans rfl, (Array.getElem?_eq_some_iff.1 h).1⟩
theorem BoxK.below {w wr w2 : World} {sg : UInt8} {b2 : Bool} {r2 : Int} (h : BoxK w wr sg b2 r2) (hb : Below wr.heap.size wr w2) : BoxK w w2 sg b2 r2 := (hb.block _ h.cells.2.2.2).trans h
def OpRel (ps : List Pc) (ops : List Nat) (sg : UInt8) (b2 : Bool) (r2 : Int) (w : World) (q : Nat) (s t : Value) (wr : World) : Prop :=
  ∃ (k : Nat) (v : Int), s = .int .i64 v ∧ t = .int .i64 k ∧ k ≤ 3 ∧ IsBest (SAt ps ops sg b2 r2 q k) v ∧ Below w.heap.size w wr ∧ BoxK w wr sg b2 r2
def OpRel0 (ps : List Pc) (ops : List Nat) (sg : UInt8) (b2 : Bool) (r2 : Int) (w : World) (s t : Value) (wr : World) : Prop :=
  ∃ (q : Nat) (v qi : Int), s = .int .i64 v ∧ t = .int .i64 qi ∧ qi = q ∧ q ≤ 2 ∧ IsBest (SAt ps ops sg b2 r2 q 0) v ∧ Below w.heap.size w wr ∧ BoxK w wr sg b2 r2
set_option maxHeartbeats 4000000 in
theorem opener_any {w : World} {b bp bm cap n : Nat} {D : DU} {Ps : List Pm} {ops opsM : List Nat} {ov : Value} (h : PrSt w b bp bm cap n D Ps ops opsM ov) (ha : opsM.Pairwise (· < ·)) (hops : ∀ i ∈ opsM, i < Ps.length)
    (sg : UInt8) (b2 : Bool) (r2 : Int) (hr2 : -2 ≤ r2 ∧ r2 ≤ 2) :
    Calls Tryz.prog 87 #[.pointer (some ⟨b, 0, none⟩), kindV sg b2 r2] w fun e w' => (∃ v : Int, e = .returned (.int .i64 v) ∧ IsBest (SAt (Ps.map Prod.fst) opsM sg b2 r2 2 0) v) ∧ Below w.heap.size w w' := by
  have hcnt := h.cnt
  have hsm := h.small
  have hln := h.len
  have hbc := h.bcells
  have HH := Lib.hid h
  clear h
  generalize hps : Ps.map Prod.fst = ps at *
  unfold kindV
  have hix0 : ∀ W : World, (Instr.index 177 (.agg #[.bool false, .bool true]) (.int .i64 0)).run Tryz.prog W = .ok (.bool false) W := fun W => by kernel_rfl
  have hix1 : ∀ W : World, (Instr.index 177 (.agg #[.bool false, .bool true]) (.int .i64 1)).run Tryz.prog W = .ok (.bool true) W := fun W => by kernel_rfl
  go_enter Tryz.func87, Tryz.ntmps87
  go_wp2_with fail
  go_loopw [5, 12] (fun s t wr => OpRel0 ps opsM sg b2 r2 w s t wr) (fun _ t _ => 2 - (intOf t).toNat)
  case atStart => exact ⟨0, -1, 0, rfl, rfl, rfl, by omega, sat_start, (Below.refl _ w).alloc (Nat.le_refl _) _, heap_alloc_new _ _⟩
  case round =>
    obtain ⟨q, v, qi, rfl, rfl, hqi, hq, hbest, hbw, hbox⟩ := hrel
    have HBest := Lib.hid hbest
    clear hbest
    have hq3 : q = 0 ∨ q = 1 ∨ q = 2 := by omega
    rcases hq3 with rfl | rfl | rfl
    · obtain rfl : qi = 0 := by omega
      clear hqi
      go_wp2_with fail
      go_loopw [5, 15] (fun s t wr => OpRel ps opsM sg b2 r2 w 0 s t wr) (fun _ t _ => 3 - (intOf t).toNat)
      case atStart => exact ⟨0, v, rfl, rfl, by omega, HBest.out, hbw, hbox⟩
      case round =>
        obtain ⟨k, v, rfl, rfl, hk, hbest, hbw, hbox⟩ := hrel
        have hge := hbest.ge
        have HBest := Lib.hid hbest
        have HBW := Lib.hid hbw
        have HBox := Lib.hid hbox
        clear hbest
        by_cases hk3 : k < 3
        · obtain ⟨gv, zs, hrun, hat, hoi, hzl, _, _⟩ := groups_look HH.out.fam.grp (by unfold maxLen; omega) sg false (k : Int) (by omega)
          have hzs : zs = natI (opsM.filter (kAt ps sg false k)) := by
            have h1 := HH.out.kd.2 sg false (k : Int) (by omega) (by omega)
            rw [hat, zsOf_row hoi] at h1
            rw [h1, ← hps]
            rfl
          have HS := Lib.hid (sat_next (ps := ps) (ops := opsM) (sg := sg) (b2 := b2) (r2 := r2) (q := 0) (k := k) (bq := false) rfl hk3)
          have HP := Lib.hid (ha.filter (kAt ps sg false k))
          generalize opsM.filter (kAt ps sg false k) = L at *
          subst hzs
          have hcf := fun W => fits_any sg sg false b2 (k : Int) r2 W (by omega) hr2
          have bA := (Below.refl _ wr).alloc (Nat.le_refl _) (.cells #[.int .u8 sg.toNat, .bool false, .int .i64 k] 124)
          have hbA : Below w.heap.size w _ := hbw.then bA
          have hsA := alloc_size wr (.cells #[.int .u8 sg.toNat, .bool false, .int .i64 k] 124)
          obtain ⟨x0, x1, x2⟩ := box3 wr (.int .u8 sg.toNat) (.bool false) (.int .i64 k) 124
          obtain ⟨n0, n1, n2, _⟩ := hbox.cells
          obtain ⟨y0, y1, y2, hyl⟩ := (hbox.below bA).cells
          have hc2 := (hbA.cell (p := ⟨b, 2, none⟩) hbc.2.2.2.2).trans hbc.2.2.1
          have hlk : ∀ j, (Instr.lookup 80 (.map (some bm)) (.agg #[.int .u8 sg.toNat, .bool false, .int .i64 k]) false).run Tryz.prog ((wr.alloc (.cells #[.int .u8 sg.toNat, .bool false, .int .i64 k] 124)).drewN j) = .ok gv ((wr.alloc (.cells #[.int .u8 sg.toNat, .bool false, .int .i64 k] 124)).drewN j) := fun j =>
            hrun _ (hbA.block bm (fam_lt HH.out.fam))
          have HBA := Lib.hid bA
          have HG := Lib.hid hoi
          clear hrun hat hoi hbw hbox
          unfold kindV at hcf
          rcases L with _ | ⟨i0, L'⟩
          · obtain ⟨Ag, cg, rfl, _⟩ := own_form HG.out.1
            have HE := Lib.hid (HBest.out.congr (S' := SAt ps opsM sg b2 r2 0 (k + 1)) (fun i => by rw [HS.out i]; simp))
            have hl0 : (natI []).length = 0 := rfl
            clear HG HP
            go_wp2_with fail
            go_quiet (fail)
            go_wp2
            go_roundw
            case rel => exact ⟨k + 1, v, rfl, by go_num, by omega, HE.out, HBW.out.then (below_drewN' HBA.out _), HBox.out.below (below_drewN' HBA.out _)⟩
            case measure => simp [intOf]; omega
          · have hne : (i0 :: L') ≠ [] := by simp
            have hmx := last_best HP.out hne
            have hmem := List.getLast_mem hne
            obtain ⟨g, c, rfl, hbg, hgl⟩ := HG.out.1.form (by simp [natI])
            have hlen : (natI (i0 :: L')).length = L'.length + 1 := by simp [natI]
            have hcl := HG.out.1.cellAt L'.length (by rw [hlen]; omega)
            rw [List.getElem?_map, natI, List.getElem?_map, List.getElem?_eq_getElem (by simp)] at hcl
            have hgl1 : (i0 :: L')[L'.length]'(by simp) = (i0 :: L').getLast hne := by rw [List.getLast_eq_getElem]; simp
            rw [hgl1] at hcl
            simp only [Option.map_some] at hcl
            generalize (i0 :: L').getLast hne = m at *
            have HM := Lib.hid (And.intro hmx hmem)
            have hL : L'.length + 1 ≤ n := by rw [← hlen]; exact hzl
            have hcA := (hbA.cell (p := ⟨g, L'.length, none⟩) hgl).trans hcl
            clear hmx hmem hgl1 hcl HG HP hne hzl
            rw [hlen] at hlk
            cases hfk : fitK sg false (k : Int) b2 r2 with
            | false =>
              have HE := Lib.hid (HBest.out.congr (S' := SAt ps opsM sg b2 r2 0 (k + 1)) (fun i => by rw [HS.out i, hfk]; simp))
              rw [hfk] at hcf
              clear hfk
              go_wp2_with fail
              go_quiet (fail)
              go_wp2_with fail
              refine (hcf _).mono ?_
              rintro e w3 ⟨rfl, b3⟩
              go_wp2
              go_roundw
              case rel => exact ⟨k + 1, v, rfl, by go_num, by omega, HE.out, (HBW.out.then (below_drewN' HBA.out _)).then b3, (HBox.out.below (below_drewN' HBA.out _)).below b3⟩
              case measure => simp [intOf]; omega
            | true =>
              have HE := Lib.hid (HBest.out.add (S' := SAt ps opsM sg b2 r2 0 (k + 1)) (m := m) (T := fun i => i ∈ i0 :: L') (fun i => by rw [HS.out i, hfk]; simp) HM.out.2 HM.out.1)
              rw [hfk] at hcf
              clear hfk
              obtain ⟨mv, hmv⟩ : ∃ mv, max v (m : Int) = mv := ⟨_, rfl⟩
              rw [hmv] at HE
              go_wp2_with fail
              go_quiet (fail)
              go_wp2_with fail
              refine (hcf _).mono ?_
              rintro e w3 ⟨rfl, b3⟩
              have hc3 := (b3.cell (p := ⟨g, L'.length, none⟩) (by simp; omega)).trans hcA
              go_wp2
              go_roundw
              case rel => exact ⟨k + 1, mv, rfl, by go_num, by omega, HE.out, (HBW.out.then (below_drewN' HBA.out _)).then b3, (HBox.out.below (below_drewN' HBA.out _)).below b3⟩
              case measure => simp [intOf]; omega
        · obtain rfl : k = 3 := by omega
          have HE := Lib.hid (HBest.out.congr (S' := SAt ps opsM sg b2 r2 1 0) (fun i => sat_row (q := 0) i))
          clear hbw hbox
          go_wp2
          go_roundw
          case rel => exact ⟨1, v, 1, rfl, by go_num, rfl, by omega, HE.out, HBW.out, HBox.out⟩
          case measure => simp [intOf]
    · obtain rfl : qi = 1 := by omega
      clear hqi
      go_wp2_with fail
      go_loopw [5, 15] (fun s t wr => OpRel ps opsM sg b2 r2 w 1 s t wr) (fun _ t _ => 3 - (intOf t).toNat)
      case atStart => exact ⟨0, v, rfl, rfl, by omega, HBest.out, hbw, hbox⟩
      case round =>
        obtain ⟨k, v, rfl, rfl, hk, hbest, hbw, hbox⟩ := hrel
        have hge := hbest.ge
        have HBest := Lib.hid hbest
        have HBW := Lib.hid hbw
        have HBox := Lib.hid hbox
        clear hbest
        by_cases hk3 : k < 3
        · obtain ⟨gv, zs, hrun, hat, hoi, hzl, _, _⟩ := groups_look HH.out.fam.grp (by unfold maxLen; omega) sg true (k : Int) (by omega)
          have hzs : zs = natI (opsM.filter (kAt ps sg true k)) := by
            have h1 := HH.out.kd.2 sg true (k : Int) (by omega) (by omega)
            rw [hat, zsOf_row hoi] at h1
            rw [h1, ← hps]
            rfl
          have HS := Lib.hid (sat_next (ps := ps) (ops := opsM) (sg := sg) (b2 := b2) (r2 := r2) (q := 1) (k := k) (bq := true) rfl hk3)
          have HP := Lib.hid (ha.filter (kAt ps sg true k))
          generalize opsM.filter (kAt ps sg true k) = L at *
          subst hzs
          have hcf := fun W => fits_any sg sg true b2 (k : Int) r2 W (by omega) hr2
          have bA := (Below.refl _ wr).alloc (Nat.le_refl _) (.cells #[.int .u8 sg.toNat, .bool true, .int .i64 k] 124)
          have hbA : Below w.heap.size w _ := hbw.then bA
          have hsA := alloc_size wr (.cells #[.int .u8 sg.toNat, .bool true, .int .i64 k] 124)
          obtain ⟨x0, x1, x2⟩ := box3 wr (.int .u8 sg.toNat) (.bool true) (.int .i64 k) 124
          obtain ⟨n0, n1, n2, _⟩ := hbox.cells
          obtain ⟨y0, y1, y2, hyl⟩ := (hbox.below bA).cells
          have hc2 := (hbA.cell (p := ⟨b, 2, none⟩) hbc.2.2.2.2).trans hbc.2.2.1
          have hlk : ∀ j, (Instr.lookup 80 (.map (some bm)) (.agg #[.int .u8 sg.toNat, .bool true, .int .i64 k]) false).run Tryz.prog ((wr.alloc (.cells #[.int .u8 sg.toNat, .bool true, .int .i64 k] 124)).drewN j) = .ok gv ((wr.alloc (.cells #[.int .u8 sg.toNat, .bool true, .int .i64 k] 124)).drewN j) := fun j =>
            hrun _ (hbA.block bm (fam_lt HH.out.fam))
          have HBA := Lib.hid bA
          have HG := Lib.hid hoi
          clear hrun hat hoi hbw hbox
          unfold kindV at hcf
          rcases L with _ | ⟨i0, L'⟩
          · obtain ⟨Ag, cg, rfl, _⟩ := own_form HG.out.1
            have HE := Lib.hid (HBest.out.congr (S' := SAt ps opsM sg b2 r2 1 (k + 1)) (fun i => by rw [HS.out i]; simp))
            have hl0 : (natI []).length = 0 := rfl
            clear HG HP
            go_wp2_with fail
            go_quiet (fail)
            go_wp2
            go_roundw
            case rel => exact ⟨k + 1, v, rfl, by go_num, by omega, HE.out, HBW.out.then (below_drewN' HBA.out _), HBox.out.below (below_drewN' HBA.out _)⟩
            case measure => simp [intOf]; omega
          · have hne : (i0 :: L') ≠ [] := by simp
            have hmx := last_best HP.out hne
            have hmem := List.getLast_mem hne
            obtain ⟨g, c, rfl, hbg, hgl⟩ := HG.out.1.form (by simp [natI])
            have hlen : (natI (i0 :: L')).length = L'.length + 1 := by simp [natI]
            have hcl := HG.out.1.cellAt L'.length (by rw [hlen]; omega)
            rw [List.getElem?_map, natI, List.getElem?_map, List.getElem?_eq_getElem (by simp)] at hcl
            have hgl1 : (i0 :: L')[L'.length]'(by simp) = (i0 :: L').getLast hne := by rw [List.getLast_eq_getElem]; simp
            rw [hgl1] at hcl
            simp only [Option.map_some] at hcl
            generalize (i0 :: L').getLast hne = m at *
            have HM := Lib.hid (And.intro hmx hmem)
            have hL : L'.length + 1 ≤ n := by rw [← hlen]; exact hzl
            have hcA := (hbA.cell (p := ⟨g, L'.length, none⟩) hgl).trans hcl
            clear hmx hmem hgl1 hcl HG HP hne hzl
            rw [hlen] at hlk
            cases hfk : fitK sg true (k : Int) b2 r2 with
            | false =>
              have HE := Lib.hid (HBest.out.congr (S' := SAt ps opsM sg b2 r2 1 (k + 1)) (fun i => by rw [HS.out i, hfk]; simp))
              rw [hfk] at hcf
              clear hfk
              go_wp2_with fail
              go_quiet (fail)
              go_wp2_with fail
              refine (hcf _).mono ?_
              rintro e w3 ⟨rfl, b3⟩
              go_wp2
              go_roundw
              case rel => exact ⟨k + 1, v, rfl, by go_num, by omega, HE.out, (HBW.out.then (below_drewN' HBA.out _)).then b3, (HBox.out.below (below_drewN' HBA.out _)).below b3⟩
              case measure => simp [intOf]; omega
            | true =>
              have HE := Lib.hid (HBest.out.add (S' := SAt ps opsM sg b2 r2 1 (k + 1)) (m := m) (T := fun i => i ∈ i0 :: L') (fun i => by rw [HS.out i, hfk]; simp) HM.out.2 HM.out.1)
              rw [hfk] at hcf
              clear hfk
              obtain ⟨mv, hmv⟩ : ∃ mv, max v (m : Int) = mv := ⟨_, rfl⟩
              rw [hmv] at HE
              go_wp2_with fail
              go_quiet (fail)
              go_wp2_with fail
              refine (hcf _).mono ?_
              rintro e w3 ⟨rfl, b3⟩
              have hc3 := (b3.cell (p := ⟨g, L'.length, none⟩) (by simp; omega)).trans hcA
              go_wp2
              go_roundw
              case rel => exact ⟨k + 1, mv, rfl, by go_num, by omega, HE.out, (HBW.out.then (below_drewN' HBA.out _)).then b3, (HBox.out.below (below_drewN' HBA.out _)).below b3⟩
              case measure => simp [intOf]; omega
        · obtain rfl : k = 3 := by omega
          have HE := Lib.hid (HBest.out.congr (S' := SAt ps opsM sg b2 r2 2 0) (fun i => sat_row (q := 1) i))
          clear hbw hbox
          go_wp2
          go_roundw
          case rel => exact ⟨2, v, 2, rfl, by go_num, rfl, by omega, HE.out, HBW.out, HBox.out⟩
          case measure => simp [intOf]
    · obtain rfl : qi = 2 := by omega
      clear hqi
      go_wp2
      go_ret
      exact ⟨⟨v, rfl, HBest.out⟩, hbw⟩
end Go.Proofs.YteihmgcphbijhaaGreatDoor

namespace Go.Proofs.YteihmgcphbijhaaGreatDoor
set_option linter.unusedVariables false
section
variable {P : Program} {ops : Array Oper} {Q : Exit → Act → World → Prop} {md : Region.Mode} {S : World → Prop} {pre : Nat → Bool}
theorem listed_both {listed : Array Bool} {i : Nat} (h : listed.getD i true = false) : listed.getD i false = false := by
  rcases Nat.lt_or_ge i listed.size with h' | h'
  · simp [h'] at h ⊢; exact h
  · simp [Array.getElem?_eq_none h'] at h
/-- May the last ones come up in this order alone? -/
def seqN (md : Region.Mode) (ops : Array Oper) : Nat → Nat → Array Bool → Bool
  | 0, _, listed => (Region.ready md ops listed).isEmpty
  | g + 1, k, listed => decide (Region.ready md ops listed = [k]) && seqN md ops g (k + 1) (listed.setIfInBounds k true)
/-- Whatever order is picked from here on; behind what is 'pre' S holds. -/
def wpAnyN (P : Program) (md : Region.Mode) (ops : Array Oper) (Q : Exit → Act → World → Prop) (S : World → Prop) (pre : Nat → Bool) : Nat → Array Bool → Act → World → Prop
  | 0, listed, a, w => Region.ready md ops listed = [] ∧ Q .normal a w
  | fuel + 1, listed, a, w =>
    (Region.ready md ops listed = [] → Q .normal a w) ∧
    ∀ i ∈ Region.ready md ops listed, wpOp P ops Q i (fun a' w' => (pre i = true → S w') ∧ wpAnyN P md ops Q S pre fuel (listed.setIfInBounds i true) a' w') a w
theorem wpAny_of_N : ∀ (fuel : Nat) (listed : Array Bool) (a : Act) (w : World), wpAnyN P md ops Q S pre fuel listed a w → wpAny P md ops Q fuel listed a w
  | 0, _, _, _, h => h
  | fuel + 1, _, _, _, h => ⟨h.1, fun i hi => wpOp_mono (fun a' w' h' => wpAny_of_N fuel _ a' w' h'.2) (h.2 i hi)⟩
theorem wp_region_N {id : Nat} {a : Act} {w : World} (S : World → Prop) (pre : Nat → Bool) (hm : P.follows .mixedOrders = true)
    (h : wpAnyN P .any ops Q S pre ops.size (Array.replicate ops.size false) a w.drew) : (Code.region id ops true).wp P Q a w :=
  wp_region_any hm (wpAny_of_N _ _ _ _ h)
/-- What is in E waits for number i, by way of others in E. -/
def waitsB (md : Region.Mode) (ops : Array Oper) (listed : Array Bool) (i : Nat) (E : Nat → Bool) (pre : Nat → Bool) : Bool :=
  (List.range ops.size).all fun j => (E j || pre j) && (!E j || (!listed.getD j false && ((ops[j]?).map fun o => o.after.any fun e => Region.binds md e && (e.on == i || E e.on)).getD false))
theorem waitsB_spec {listed : Array Bool} {i : Nat} {E : Nat → Bool} (h : waitsB md ops listed i E pre = true) :
    (∀ j, j < ops.size → pre j = false → E j = true) ∧ (∀ j, j < ops.size → E j = true → listed.getD j false = false) ∧
      (∀ j oj, ops[j]? = some oj → E j = true → ∃ e ∈ oj.after, Region.binds md e = true ∧ (e.on = i ∨ E e.on = true)) := by
  have hall : ∀ j, j < ops.size → (E j = true ∨ pre j = true) ∧ (E j = false ∨ (listed.getD j false = false ∧ ((ops[j]?).map fun o => o.after.any fun e => Region.binds md e && (e.on == i || E e.on)).getD false = true)) := by
    intro j hj
    have := List.all_eq_true.1 h j (List.mem_range.2 hj)
    simp only [Bool.and_eq_true, Bool.or_eq_true, Bool.not_eq_true'] at this
    exact this
  refine ⟨fun j hj hp => ?_, fun j hj he => ?_, fun j oj hoj he => ?_⟩
  · rcases (hall j hj).1 with h1 | h1
    · exact h1
    · rw [hp] at h1; cases h1
  · rcases (hall j hj).2 with h1 | h1
    · rw [he] at h1; cases h1
    · exact h1.1
  · have hj : j < ops.size := (Array.getElem?_eq_some_iff.1 hoj).1
    rcases (hall j hj).2 with h1 | h1
    · rw [he] at h1; cases h1
    · have h2 := h1.2
      rw [hoj] at h2
      simp only [Option.map_some, Option.getD_some] at h2
      obtain ⟨e, hem, hb⟩ := Array.any_eq_true'.1 h2
      simp only [Bool.and_eq_true, Bool.or_eq_true, beq_iff_eq] at hb
      exact ⟨e, hem, hb.1, hb.2⟩
/-- A load that may come up now may be taken first. -/
theorem wpAnyN_first {i : Nat} {oi : Oper} {v : Value} {E : Nat → Bool} (hi : ops[i]? = some oi) (hsel : ∀ (j : Nat) (o : Oper) cs b, ops[j]? = some o → o.op ≠ .select cs b)
    (hQ : ∀ c a w, Q (.panic c) (a.put oi.dst v) w → Q (.panic c) a w)
    (hE1 : ∀ j, j < ops.size → pre j = false → E j = true) (hE3 : ∀ j oj, ops[j]? = some oj → E j = true → ∃ e ∈ oj.after, Region.binds md e = true ∧ (e.on = i ∨ E e.on = true)) :
    ∀ (fuel : Nat) (listed : Array Bool) (a : Act) (w : World),
      (∀ j oj, ops[j]? = some oj → j ≠ i → listed.getD j true = false → (∀ e ∈ oj.after, Region.binds md e = true → e.on ≠ i) → oi.apart ops oj = true) →
      i ∈ Region.ready md ops listed → YieldsIf P ops S oi v a → S w → (∀ j, j < ops.size → E j = true → listed.getD j false = false) → listed.size = ops.size →
      wpAnyN P md ops Q S pre fuel (listed.setIfInBounds i true) (a.put oi.dst v) w → wpAnyN P md ops Q S pre (fuel + 1) listed a w := by
  intro fuel
  induction fuel with
  | zero =>
    intro listed a w _ hr hy hS _ _ H
    refine ⟨fun h => (by rw [h] at hr; cases hr), fun j hj => ?_⟩
    by_cases hji : j = i
    · subst hji; exact hy.wpOp hi hS ⟨fun _ => hS, H⟩
    · have := ready_mono hj hji
      rw [H.1] at this
      cases this
  | succ fuel ih =>
    intro listed a w hfree hr hy hS hE2 hsz H
    refine ⟨fun h => (by rw [h] at hr; cases hr), fun j hj => ?_⟩
    by_cases hji : j = i
    · subst hji; exact hy.wpOp hi hS ⟨fun _ => hS, H⟩
    · have h1 := H.2 j (ready_mono hj hji)
      obtain ⟨hjun, oj, hoj, hall⟩ := mem_ready.1 hj
      have hjs : j < ops.size := (Array.getElem?_eq_some_iff.1 hoj).1
      have hiun : listed.getD i false = false := listed_both (mem_ready.1 hr).1
      have hnot : ∀ e ∈ oj.after, Region.binds md e = true → e.on ≠ i := fun e he hb heq => by
        have h1 := hall e he hb
        rw [heq, hiun] at h1
        cases h1
      have hEj : E j = false := by
        cases hx : E j with
        | false => rfl
        | true =>
          obtain ⟨e, he, hb, h2⟩ := hE3 j oj hoj hx
          have h3 := hall e he hb
          rcases h2 with h2 | h2
          · exact absurd h2 (hnot e he hb)
          · have hes : e.on < ops.size := by
              rcases Nat.lt_or_ge e.on listed.size with h' | h'
              · omega
              · simp [Array.getElem?_eq_none h'] at h3
            rw [hE2 e.on hes h2] at h3
            cases h3
      have hpj : pre j = true := by
        cases hx : pre j with
        | true => rfl
        | false => rw [hE1 j hjs hx] at hEj; cases hEj
      have h2 := wpOp_putIf hoj (hfree j oj hoj hji hjun hnot) (fun cs b => hsel i oi cs b hi) (fun cs b => hsel j oj cs b hoj) hQ hy h1
      have hfree' : ∀ k ok, ops[k]? = some ok → k ≠ i → (listed.setIfInBounds j true).getD k true = false →
          (∀ e ∈ ok.after, Region.binds md e = true → e.on ≠ i) → oi.apart ops ok = true := fun k ok hk hki hun hno => by
        refine hfree k ok hk hki ?_ hno
        by_cases hjk : j = k
        · subst hjk; exact hjun
        · rw [getD_set_ne true hjk] at hun; exact hun
      have hE2' : ∀ k, k < ops.size → E k = true → (listed.setIfInBounds j true).getD k false = false := fun k hk he => by
        have hjk : j ≠ k := fun e => by subst e; rw [he] at hEj; cases hEj
        rw [getD_set_ne false hjk]
        exact hE2 k hk he
      refine wpOp_mono (fun a' w' h3 => ⟨h3.2.1, ih (listed.setIfInBounds j true) a' w' hfree' (ready_mono hr (Ne.symm hji)) h3.1 (h3.2.1 hpj) hE2' (by simp [hsz]) ?_⟩) h2
      rw [Array.setIfInBounds_comm _ _ hji]
      exact h3.2.2
/-- What waits for number i, by way of others. -/
def descA (md : Region.Mode) (ops : Array Oper) (i : Nat) : Array Bool :=
  (List.range ops.size).foldl (fun arr j => arr.push (((ops[j]?).map fun o => o.after.any fun e => Region.binds md e && (e.on == i || arr.getD e.on false)).getD false)) #[]
/-- The same, its conditions as Bools. -/
theorem wpAnyN_take {i : Nat} {oi : Oper} {v : Value} {fuel : Nat} {listed : Array Bool} {a : Act} {w : World} (hi : ops[i]? = some oi)
    (hs : Region.noSelect ops = true) (hf : Region.free md ops listed i = true) (hr : (Region.ready md ops listed).contains i = true) (hw : waitsB md ops listed i (fun j => (descA md ops i).getD j false) pre = true) (hz : (listed.size == ops.size) = true)
    (hQ : ∀ c a w, Q (.panic c) (a.put oi.dst v) w → Q (.panic c) a w) (hy : YieldsIf P ops S oi v a) (hS : S w)
    (h : wpAnyN P md ops Q S pre fuel (listed.setIfInBounds i true) (a.put oi.dst v) w) : wpAnyN P md ops Q S pre (fuel + 1) listed a w := by
  obtain ⟨e1, e2, e3⟩ := waitsB_spec hw
  exact wpAnyN_first hi (Region.noSelect_spec hs) hQ e1 e3 fuel listed a w (Region.free_spec hi hf) (by simpa using hr) hy hS e2 (by simpa using hz) h
/-- The same, its slot told. -/
theorem wpAnyN_take_at (i : Nat) (d : Tmp) {oi : Oper} {v : Value} {fuel : Nat} {listed : Array Bool} {a : Act} {w : World} (hi : ops[i]? = some oi) (hd : oi.dst = some d)
    (hs : Region.noSelect ops = true) (hf : Region.free md ops listed i = true) (hr : (Region.ready md ops listed).contains i = true) (hw : waitsB md ops listed i (fun j => (descA md ops i).getD j false) pre = true) (hz : (listed.size == ops.size) = true)
    (hQ : ∀ c a w, Q (.panic c) (a.put (some d) v) w → Q (.panic c) a w) (hg : Region.wanted oi (yielded ops a.tmps) = true) (hv : ∀ w, S w → (execOp a.eval oi).run P w = .ok (.value v) w) (hS : S w)
    (h : wpAnyN P md ops Q S pre fuel (listed.setIfInBounds i true) (a.put (some d) v) w) : wpAnyN P md ops Q S pre (fuel + 1) listed a w := by
  refine wpAnyN_take (v := v) hi hs hf hr hw hz ?_ (Or.inl ⟨hg, hv⟩) hS ?_
  · rw [hd]; exact hQ
  · rw [hd]; exact h
/-- One alone may come up. -/
theorem wpAnyN_one {i : Nat} {o : Oper} {fuel : Nat} {listed : Array Bool} {a : Act} {w : World} (hi : ops[i]? = some o) (hr : Region.ready md ops listed = [i])
    (h : ∀ K : Act → World → Prop, (∀ a' w', (pre i = true → S w') → wpAnyN P md ops Q S pre fuel (listed.setIfInBounds i true) a' w' → K a' w') →
      if Region.wanted o (yielded ops a.tmps) = true then Oper.wp P o a w K Q else K (a.put o.dst undef) w) : wpAnyN P md ops Q S pre (fuel + 1) listed a w := by
  refine ⟨fun h0 => (by rw [hr] at h0; cases h0), fun j hj => ?_⟩
  rw [hr] at hj
  obtain rfl : j = i := by simpa using hj
  have hk := h (fun a' w' => (pre j = true → S w') ∧ wpAnyN P md ops Q S pre fuel (listed.setIfInBounds j true) a' w') (fun a' w' h1 h2 => ⟨h1, h2⟩)
  unfold wpOp
  simp only [hi]
  split
  · rename_i hw
    rw [if_pos hw] at hk
    exact .inl hk
  · rename_i hw
    rw [if_neg hw] at hk
    exact hk
/-- Two may come up. -/
theorem wpAnyN_two {i j : Nat} {o o' : Oper} {fuel : Nat} {listed : Array Bool} {a : Act} {w : World} (hi : ops[i]? = some o) (hj : ops[j]? = some o') (hr : Region.ready md ops listed = [i, j])
    (h : ∀ K : Act → World → Prop, (∀ a' w', (pre i = true → S w') → wpAnyN P md ops Q S pre fuel (listed.setIfInBounds i true) a' w' → K a' w') →
      if Region.wanted o (yielded ops a.tmps) = true then Oper.wp P o a w K Q else K (a.put o.dst undef) w)
    (h' : ∀ K : Act → World → Prop, (∀ a' w', (pre j = true → S w') → wpAnyN P md ops Q S pre fuel (listed.setIfInBounds j true) a' w' → K a' w') →
      if Region.wanted o' (yielded ops a.tmps) = true then Oper.wp P o' a w K Q else K (a.put o'.dst undef) w) : wpAnyN P md ops Q S pre (fuel + 1) listed a w := by
  refine ⟨fun h0 => (by rw [hr] at h0; cases h0), fun m hm => ?_⟩
  rw [hr] at hm
  have hm' : m = i ∨ m = j := by simpa using hm
  rcases hm' with rfl | rfl
  · have hk := h (fun a' w' => (pre m = true → S w') ∧ wpAnyN P md ops Q S pre fuel (listed.setIfInBounds m true) a' w') (fun a' w' h1 h2 => ⟨h1, h2⟩)
    unfold wpOp
    simp only [hi]
    split
    · rename_i hw
      rw [if_pos hw] at hk
      exact .inl hk
    · rename_i hw
      rw [if_neg hw] at hk
      exact hk
  · have hk := h' (fun a' w' => (pre m = true → S w') ∧ wpAnyN P md ops Q S pre fuel (listed.setIfInBounds m true) a' w') (fun a' w' h1 h2 => ⟨h1, h2⟩)
    unfold wpOp
    simp only [hj]
    split
    · rename_i hw
      rw [if_pos hw] at hk
      exact .inl hk
    · rename_i hw
      rw [if_neg hw] at hk
      exact hk
/-- The rest comes up one behind the other. -/
theorem wpAnyN_seq : ∀ (l : List Oper) (k : Nat) (listed : Array Bool) (a : Act) (w : World), (∀ j, l[j]? = ops[k + j]?) → seqN md ops l.length k listed = true →
    (∀ j, k ≤ j → j < k + l.length → pre j = false) → wpList P ops Q l a w → wpAnyN P md ops Q S pre l.length listed a w
  | [], _, _, _, _, _, hB, _, h => ⟨by simpa [seqN] using hB, h⟩
  | o :: l, k, listed, a, w, hl, hB, hp, h => by
    have h0 : ops[k]? = some o := by simpa using (hl 0).symm
    simp only [List.length_cons, seqN, Bool.and_eq_true, decide_eq_true_eq] at hB
    refine ⟨fun h1 => (by rw [hB.1] at h1; cases h1), fun i hi => ?_⟩
    rw [hB.1] at hi
    have hik : i = k := by simpa using hi
    subst hik
    have hw : wpOp P ops Q i (wpList P ops Q l) a w := by unfold wpOp; simp only [h0]; exact h
    exact wpOp_mono (fun a' w' h' => ⟨fun hx => (by rw [hp i (Nat.le_refl _) (by simp)] at hx; cases hx),
      wpAnyN_seq l (i + 1) _ a' w' (fun j => by have := hl (j + 1); simpa [Nat.add_assoc, Nat.add_comm 1 j] using this) hB.2 (fun j h1 h2 => hp j (by omega) (by simp; omega)) h'⟩) hw
theorem wpAnyN_rest (k : Nat) (l : List Oper) {listed : Array Bool} {a : Act} {w : World} (hl : ops.toList.drop k = l) (hB : seqN md ops l.length k listed = true)
    (hp : ((List.range l.length).all fun j => !pre (k + j)) = true) (h : wpList P ops Q l a w) : wpAnyN P md ops Q S pre l.length listed a w := by
  refine wpAnyN_seq l k listed a w (fun j => ?_) hB (fun j h1 h2 => ?_) h
  · rw [← hl, List.getElem?_drop, Array.getElem?_toList]
  · have := List.all_eq_true.1 hp (j - k) (List.mem_range.2 (by omega))
    rw [show k + (j - k) = j from by omega] at this
    simpa using this
end
end Go.Proofs.YteihmgcphbijhaaGreatDoor
namespace Go.Proofs.YteihmgcphbijhaaGreatDoor
set_option linter.unusedVariables false
section
variable {P : Program} {ops : Array Oper} {Q : Exit → Act → World → Prop} {md : Region.Mode} {S : World → Prop}
end
end Go.Proofs.YteihmgcphbijhaaGreatDoor
