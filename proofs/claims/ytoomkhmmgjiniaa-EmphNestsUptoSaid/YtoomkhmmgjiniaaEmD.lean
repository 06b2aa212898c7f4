/-
  Package emph: DeleteFunc; Merge.
-/
import Derived.Test.YtoomkhmmgjiniaaEmC
namespace Go.Proofs.Ytoomkhmmgjiniaa
open Go.RowKit
set_option linter.unusedSimpArgs false
set_option linter.unusedVariables false
set_option maxRecDepth 100000

/-! ### clear -/
theorem run_clear_inls (w : World) (B g cap n k : Nat) (xs : List Value) (h : w.ownsRow B 30 5 (.slice (some ⟨g, 0, none⟩) n cap) n xs) (hk : k < n) (c : Nat) (ty : TypeId) :
    ∃ w', (Builtin.clear_ #[24] ty #[.slice (some ⟨g, k * 5, none⟩) (n - k) c]).run Try.prog w = .ok (.tuple #[]) w' ∧
      w'.ownsRow B 30 5 (.slice (some ⟨g, 0, none⟩) k cap) k (xs.take (k * 5)) ∧ w.grownBy w' (some g) := by
  have hz : ∀ W : World, (zeroValue 30).run Try.prog W = .ok (.agg #[.int .i64 0, .int .i64 0, .string ByteArray.empty, .string ByteArray.empty, .string ByteArray.empty]) W := fun W => by kernel_rfl
  obtain ⟨m, hm⟩ : ∃ m, n - k = m + 1 := ⟨n - k - 1, by omega⟩
  have hcs : (Value.agg #[.int .i64 0, .int .i64 0, .string ByteArray.empty, .string ByteArray.empty, .string ByteArray.empty]).cells = #[.int .i64 0, .int .i64 0, .string ByteArray.empty, .string ByteArray.empty, .string ByteArray.empty] := by kernel_rfl
  obtain ⟨L, hL, hl5, h1⟩ : ∃ L : List Value, (Builtin.zeroCells #[.int .i64 0, .int .i64 0, .string ByteArray.empty, .string ByteArray.empty, .string ByteArray.empty] (n - k)).toList = L ∧ L.length = (n - k) * 5 ∧ ∀ u ∈ L, u.oneCell' = true := by
    refine ⟨_, rfl, ?_, fun u hu => ?_⟩
    · simp [Builtin.zeroCells]
    · simp [Builtin.zeroCells] at hu
      obtain ⟨i, _, rfl⟩ := hu
      have : i % 5 < 5 := Nat.mod_lt _ (by decide)
      match h : i % 5, this with
      | 0, _ => simp [h]; rfl
      | 1, _ => simp [h]; rfl
      | 2, _ => simp [h]; rfl
      | 3, _ => simp [h]; rfl
      | 4, _ => simp [h]; rfl
  have hlen := h.1
  have hst := run_storeCells_cells (P := Try.prog) g (k * 5) L 0 w
    (fun j hj => by rw [Nat.add_zero, h.cellAt _ (by omega), List.getElem?_eq_getElem (by omega)]; rfl)
    (fun j hj => h.frozenAt _) h1
  simp only [Nat.add_zero] at hst
  obtain ⟨ys, e1, e2, e3⟩ := own_setCells L (k * 5) w xs h
  refine ⟨w.setCells g (k * 5) L, ?_, ?_, e3⟩
  · rw [hm] at hL ⊢
    simp [Builtin.clear_, run_underlying Try.underlying24, hz, hcs, hL, hst]
  · have := own_cut e2 (Nat.le_of_lt hk)
    rw [e1] at this
    exact this

theorem wpList_clear {P : Program} (w : World) {ops : Array Oper} {rest : List Oper} {o : Oper} {a : Act} {Q : Exit → Act → World → Prop}
    (hg : o.guard = none) (x : Operand) (t : TypeId) (hop : o.op = Op.call { callee := Callee.builtin Builtin.clear, args := #[x], argTypes := #[t] })
    (v : Value) (hx : a.eval x = v) (w' : World) (hrun : ∀ ty, (Builtin.clear_ #[t] ty #[v]).run P w = .ok (.tuple #[]) w') (hK : wpList P ops Q rest (a.put o.dst (.tuple #[])) w') :
    wpList P ops Q (o :: rest) a w := by
  refine wpList_plain hg fun K' hK' => ?_
  unfold Oper.wp
  simp [execOp, hop, resolve, invoke, builtin, hx, hrun, Result.andThen]
  exact hK' _ _ hK

/-! ### DeleteFunc -/
theorem some_is (X : List Iln) : someI X = X.filter fun x => !emI x := rfl
theorem some_snoc (X : List Iln) (k : Nat) (h : k < X.length) : someI (X.take (k + 1)) = someI (X.take k) ++ (if emI X[k] = true then [] else [X[k]]) := by
  rw [List.take_succ_eq_append_getElem h, someI_append]
  congr 1
  rw [some_is, List.filter_cons, List.filter_nil]
  cases emI X[k] <;> rfl
theorem some_len (X : List Iln) : (someI X).length ≤ X.length := List.length_filter_le _ _
theorem del_store {B g cap n j : Nat} {w wr : World} {Y : List Iln} (x : Iln) (hown : wr.ownsRow B 30 5 (.slice (some ⟨g, 0, none⟩) n cap) n (flt ilC Y)) (hb : Below B w wr) (hj : j < Y.length) :
    ((((((wr.setCell ⟨g, j * 5, none⟩ (.int .i64 x.kd)).setCell ⟨g, j * 5 + 1, none⟩ (.int .i64 x.dp)).setCell ⟨g, j * 5 + 2, none⟩ (.string ⟨x.txt.toArray⟩)).setCell ⟨g, j * 5 + 3, none⟩ (.string ⟨x.url.toArray⟩)).setCell ⟨g, j * 5 + 4, none⟩ (.string ⟨x.ttl.toArray⟩)).ownsRow B 30 5 (.slice (some ⟨g, 0, none⟩) n cap) n (flt ilC (Y.set j x))) ∧
      Below B w (((((wr.setCell ⟨g, j * 5, none⟩ (.int .i64 x.kd)).setCell ⟨g, j * 5 + 1, none⟩ (.int .i64 x.dp)).setCell ⟨g, j * 5 + 2, none⟩ (.string ⟨x.txt.toArray⟩)).setCell ⟨g, j * 5 + 3, none⟩ (.string ⟨x.url.toArray⟩)).setCell ⟨g, j * 5 + 4, none⟩ (.string ⟨x.ttl.toArray⟩)) := by
  have hg := (hown.lt g rfl).1
  obtain ⟨s1, g1⟩ := hown.stored (j * 5) (.int .i64 x.kd)
  obtain ⟨s2, g2⟩ := s1.stored (j * 5 + 1) (.int .i64 x.dp)
  obtain ⟨s3, g3⟩ := s2.stored (j * 5 + 2) (.string ⟨x.txt.toArray⟩)
  obtain ⟨s4, g4⟩ := s3.stored (j * 5 + 3) (.string ⟨x.url.toArray⟩)
  obtain ⟨s5, g5⟩ := s4.stored (j * 5 + 4) (.string ⟨x.ttl.toArray⟩)
  rw [flt_set5 ilC_length _ _ _ _ _ x rfl _ j hj] at s5
  exact ⟨s5, ((((hb.setCell (p := ⟨g, j * 5, none⟩) hg _).setCell (p := ⟨g, j * 5 + 1, none⟩) hg _).setCell (p := ⟨g, j * 5 + 2, none⟩) hg _).setCell (p := ⟨g, j * 5 + 3, none⟩) hg _).setCell (p := ⟨g, j * 5 + 4, none⟩) hg _⟩

def DelRel (X : List Iln) (B g cap : Nat) (w : World) (s t : Value) (wr : World) : Prop :=
  ∃ (k j : Nat) (Y : List Iln), s = .int .i64 k ∧ t = .int .i64 j ∧ k < j ∧ j ≤ X.length ∧ Y.length = X.length ∧ wr.ownsRow B 30 5 (.slice (some ⟨g, 0, none⟩) X.length cap) X.length (flt ilC Y) ∧
    Y.take k = someI (X.take j) ∧ Y.drop j = X.drop j ∧ Below B w wr
set_option maxHeartbeats 4000000 in
theorem delete_any (B : Nat) (v : Value) (X : List Iln) (w : World) (hB : B ≤ w.heap.size) (hown : w.ownsRow B 30 5 v X.length (flt ilC X)) (hn : X.length ≤ 100000000) :
    Calls Try.prog 14 #[v, .func (.func 16) #[] #[]] w fun e w' => ∃ v', e = .returned v' ∧ w'.ownsRow B 30 5 v' (someI X).length (flt ilC (someI X)) ∧ Below B w w' := by
  obtain ⟨A, cap, rfl, hrow⟩ := EltsAt.own ilC_length hown
  have ci := idxE_any A cap X w hrow
  unfold idxI at ci
  by_cases hi : X.findIdx emI < X.length
  · rw [if_pos hi] at ci
    obtain ⟨b, off, e, hb, _⟩ := InlsAt.cells5 hrow hi
    obtain ⟨g, cap', hg, hBg, _⟩ := hown.form (by omega)
    cases hg
    clear e hb
    have hpi : emI X[X.findIdx emI] = true := List.findIdx_getElem (w := hi)
    have hbefore : someI (X.take (X.findIdx emI)) = X.take (X.findIdx emI) := by
      rw [some_is]
      refine List.filter_eq_self.2 fun x hx => ?_
      obtain ⟨i, hi2, rfl⟩ := List.getElem_of_mem hx
      rw [List.length_take] at hi2
      rw [List.getElem_take]
      have := List.not_of_lt_findIdx (p := emI) (xs := X) (i := i) (by omega)
      simpa using this
    have hst := some_snoc X (X.findIdx emI) hi
    rw [if_pos hpi, List.append_nil, hbefore] at hst
    have HH := Lib.hid hst
    have hcap := hrow.le
    have hcm := hrow.cap
    unfold maxLen at hcm
    clear hpi hbefore hst hrow
    generalize X.findIdx emI = i0 at *
    have HO := Lib.hid hown
    clear hown
    have hne : (((i0 : Nat) : Int) == -1) = false := by simp
    go_enter Try.func14, Try.ntmps14
    go_wp2_with fail
    refine ci.mono ?_
    rintro e w1 ⟨rfl, b1⟩
    have HB1 := Lib.hid b1
    have HO1 := Lib.hid (ownsRow_below HO.out b1)
    have hs1 := b1.size
    clear b1
    go_wp2_with fail
    go_loopw [5, 6] (fun s t wr => DelRel X B g cap w s t wr) (fun s t _ => X.length - (intOf t).toNat)
    case atStart => exact ⟨i0, i0 + 1, X, rfl, by go_num, by omega, by omega, rfl, HO1.out, by rw [HH.out], rfl, HB1.out.mono hB⟩
    case round =>
      obtain ⟨k, j, Y, rfl, rfl, hkj, hj, hY, hown, ht, hd, hbw⟩ := hrel
      have hBr : B ≤ wr.heap.size := Nat.le_trans hB hbw.size
      by_cases hp : j < X.length
      · have hyj : Y[j]'(by omega) = X[j] := by
          have h1 : (Y.drop j)[0]? = (X.drop j)[0]? := by rw [hd]
          rw [List.getElem?_drop, List.getElem?_drop, Nat.add_zero, List.getElem?_eq_getElem (by omega), List.getElem?_eq_getElem hp] at h1
          exact Option.some.inj h1
        have hst := some_snoc X j hp
        have c0 : wr.cell? ⟨g, j * 5, none⟩ = some (.int .i64 (Y[j]'(by omega)).kd) := own_elt ilC_length hown (k := j) (by omega) 0 _ rfl
        have c1 := own_elt ilC_length hown (k := j) (by omega) 1 _ rfl
        have c2 := own_elt ilC_length hown (k := j) (by omega) 2 _ rfl
        have c3 := own_elt ilC_length hown (k := j) (by omega) 3 _ rfl
        have c4 := own_elt ilC_length hown (k := j) (by omega) 4 _ rfl
        rw [hyj] at c0 c1 c2 c3 c4
        have hgl := (hown.lt g rfl).2
        have hlast := hown.1
        rw [flt_length ilC_length] at hlast
        have hud : Y.drop (j + 1) = X.drop (j + 1) := by rw [← List.drop_drop, ← List.drop_drop, hd]
        have ce := fun w1 => emI_any X[j] w1
        have HD := Lib.hid hud
        have HT := Lib.hid ht
        have HOR := Lib.hid hown
        have HBW := Lib.hid hbw
        have HYJ := Lib.hid hyj
        clear hud ht hown hbw hd hyj
        generalize hx : X[j] = x at *
        have HX := Lib.hid hx
        clear hx
        obtain ⟨x0, x1, x2, x3, x4⟩ := box5 wr (.int .i64 x.kd) (.int .i64 x.dp) (.string ⟨x.txt.toArray⟩) (.string ⟨x.url.toArray⟩) (.string ⟨x.ttl.toArray⟩) 30
        have bA := (Below.refl _ wr).alloc (Nat.le_refl _) (.cells #[.int .i64 x.kd, .int .i64 x.dp, .string ⟨x.txt.toArray⟩, .string ⟨x.url.toArray⟩, .string ⟨x.ttl.toArray⟩] 30)
        have HBA := Lib.hid bA
        have hsA := alloc_size wr (.cells #[.int .i64 x.kd, .int .i64 x.dp, .string ⟨x.txt.toArray⟩, .string ⟨x.url.toArray⟩, .string ⟨x.ttl.toArray⟩] 30)
        clear bA
        cases hex : emI x with
        | true =>
          rw [hex] at ce hst
          rw [if_pos rfl, List.append_nil] at hst
          have HST := Lib.hid hst
          clear hst hex
          obtain ⟨kd, dp, txt, url, ttl⟩ := x
          have CE := Lib.hid ce
          clear ce
          unfold ilV at CE
          dsimp only at CE c0 c1 c2 c3 c4 x0 x1 x2 x3 x4 HBA hsA
          go_wp2_with fail
          refine (CE.out _).mono ?_
          rintro e w2 ⟨rfl, b2⟩
          have HB2 := Lib.hid b2
          clear b2
          go_wp2
          go_roundw
          case rel => exact ⟨k, j + 1, Y, rfl, by go_num, by omega, by omega, hY, ownsRow_below (ownsRow_below HOR.out HBA.out) HB2.out, by rw [HT.out, HST.out], HD.out, (HBW.out.trans (HBA.out.mono hBr)).trans (HB2.out.mono (by rw [hsA]; omega))⟩
          case measure => simp [intOf]; omega
        | false =>
          rw [hex] at ce hst
          rw [if_neg (by simp)] at hst
          have HST := Lib.hid hst
          clear hst hex
          obtain ⟨kd, dp, txt, url, ttl⟩ := x
          have CE := Lib.hid ce
          clear ce
          unfold ilV at CE
          dsimp only at CE c0 c1 c2 c3 c4 x0 x1 x2 x3 x4 HBA hsA
          go_wp2_with fail
          refine (CE.out _).mono ?_
          rintro e w2 ⟨rfl, b2⟩
          have hw2 := b2.size
          have y0 := (b2.cell (p := ⟨wr.heap.size, 0, none⟩) (by show wr.heap.size < _; omega)).trans x0
          have y1 := (b2.cell (p := ⟨wr.heap.size, 1, none⟩) (by show wr.heap.size < _; omega)).trans x1
          have y2 := (b2.cell (p := ⟨wr.heap.size, 2, none⟩) (by show wr.heap.size < _; omega)).trans x2
          have y3 := (b2.cell (p := ⟨wr.heap.size, 3, none⟩) (by show wr.heap.size < _; omega)).trans x3
          have y4 := (b2.cell (p := ⟨wr.heap.size, 4, none⟩) (by show wr.heap.size < _; omega)).trans x4
          have hO2 := ownsRow_below (ownsRow_below HOR.out HBA.out) b2
          have hb2 : Below B w w2 := (HBW.out.trans (HBA.out.mono hBr)).trans (b2.mono (by rw [hsA]; omega))
          obtain ⟨hs1, hs2⟩ := del_store ⟨kd, dp, txt, url, ttl⟩ hO2 hb2 (j := k) (by omega)
          have hcell : ∀ i, i < 5 → ∃ u, w2.cell? ⟨g, k * 5 + i, none⟩ = some u := fun i hi => by
            have hc := hO2.cellAt (k * 5 + i) (by omega)
            rw [List.getElem?_eq_getElem (by rw [flt_length ilC_length]; omega)] at hc
            exact ⟨_, hc⟩
          obtain ⟨u0, d0⟩ : ∃ u, w2.cell? ⟨g, k * 5, none⟩ = some u := hcell 0 (by omega)
          obtain ⟨u1, d1⟩ := hcell 1 (by omega)
          obtain ⟨u2, d2⟩ := hcell 2 (by omega)
          obtain ⟨u3, d3⟩ := hcell 3 (by omega)
          obtain ⟨u4, d4⟩ := hcell 4 (by omega)
          have f0 := hO2.frozenAt (k * 5)
          have f1 := hO2.frozenAt (k * 5 + 1)
          have f2 := hO2.frozenAt (k * 5 + 2)
          have f3 := hO2.frozenAt (k * 5 + 3)
          have f4 := hO2.frozenAt (k * 5 + 4)
          have HS1 := Lib.hid hs1
          have HS2 := Lib.hid hs2
          have hgw : g < wr.heap.size := hgl
          clear hs1 hs2 hO2 hb2 b2 hcell x0 x1 x2 x3 x4 c0 c1 c2 c3 c4
          go_wp2
          go_roundw
          case rel =>
            refine ⟨k + 1, j + 1, Y.set k ⟨kd, dp, txt, url, ttl⟩, by go_num, by go_num, by omega, by omega, by rw [List.length_set]; exact hY, HS1.out, ?_, ?_, HS2.out⟩
            · rw [HST.out, ← HT.out, List.take_succ_eq_append_getElem (by rw [List.length_set]; omega), List.getElem_set_self, List.take_set_of_le (Nat.le_refl k)]
            · rw [List.drop_set_of_lt (by omega)]
              exact HD.out
          case measure => simp [intOf]; omega
      · obtain rfl : j = X.length := by omega
        have hk2 : k = (someI X).length := by
          have := congrArg List.length ht
          rw [List.length_take, List.take_length] at this
          omega
        rw [List.take_length] at ht
        have hcut : (flt ilC Y).take (k * 5) = flt ilC (someI X) := by
          rw [← ht]
          have h1 : flt ilC Y = flt ilC (Y.take k) ++ flt ilC (Y.drop k) := by rw [← flt_append, List.take_append_drop]
          rw [h1, List.take_left']
          rw [flt_length ilC_length, List.length_take]
          omega
        obtain ⟨w2, hcl, ho2, hg2⟩ := run_clear_inls wr B g cap X.length k (flt ilC Y) hown (by omega) (cap - k) 0
        have hcl2 : ∀ ty, (Builtin.clear_ #[24] ty #[.slice (some ⟨g, k * 5, none⟩) (X.length - k) (cap - k)]).run Try.prog wr = .ok (.tuple #[]) w2 := fun ty => hcl
        rw [hcut] at ho2
        have hb2 : Below B w w2 := hbw.grown hg2 (by omega) (fun r e => by cases e; exact hBg)
        have hl1 := islice_low (some ⟨g, 0, none⟩) X.length cap k (by omega)
        have hl2 := islice_high (some ⟨g, 0, none⟩) X.length cap k (by omega)
        rw [show dropI (some ⟨g, 0, none⟩) cap k = some ⟨g, k * 5, none⟩ from by unfold dropI; rw [if_neg (by omega)]; simp [addr_add]] at hl1
        have HO2 := Lib.hid ho2
        have HB2 := Lib.hid hb2
        have HK := Lib.hid hk2
        clear hcl hown ht hd hcut ho2 hb2 hg2 hk2
        go_wp2_with (at_builtin; refine wpList_clear _ rfl _ _ rfl _ rfl w2 hcl2 ?_)
        go_ret
        exact ⟨_, rfl, by rw [← HK.out]; exact HO2.out, HB2.out⟩
  · rw [if_neg hi] at ci
    have hall : someI X = X := by
      rw [some_is]
      refine List.filter_eq_self.2 fun x hx => ?_
      obtain ⟨i, hi2, rfl⟩ := List.getElem_of_mem hx
      have := List.not_of_lt_findIdx (p := emI) (xs := X) (i := i) (by omega)
      simpa using this
    have HA := Lib.hid hall
    have HO := Lib.hid hown
    clear hall hown hrow
    go_enter Try.func14, Try.ntmps14
    go_wp2_with fail
    refine ci.mono ?_
    rintro e w1 ⟨rfl, b1⟩
    go_wp2
    go_ret
    exact ⟨_, rfl, by rw [HA.out]; exact ownsRow_below HO.out b1, b1.mono hB⟩

end Go.Proofs.Ytoomkhmmgjiniaa
