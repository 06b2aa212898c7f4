/-
  The laws of the layer number: NumberParts.
-/
import Derived.Test.YtpifhjdbcdcelaaDoorNuG
import Derived.Test.YtpifhjdbcdcelaaDoorNuZ
namespace Go.Proofs.YtpifhjdbcdcelaaDoor
open Go.RowKit Go.Maps
set_option linter.unusedSimpArgs false
set_option linter.unusedVariables false
set_option maxRecDepth 100000

abbrev NbMap (w : World) (g n : Nat) (D : SlDU) : Prop := w.ownsMap Tryd.prog 9 (plainElem (H := Unit) Tryd.prog 4) g n D
theorem nbMap_block {w w' : World} {g n : Nat} {D : SlDU} (h : NbMap w g n D) (e : w'.heap[g]? = w.heap[g]?) : NbMap w' g n D := by
  obtain ⟨es, cl, hb, r⟩ := h
  exact ⟨es, cl, e.trans hb, r⟩
theorem nbMap_ne {w : World} {g n : Nat} {D : SlDU} (h : NbMap w g n D) {g' : Nat} {cs : Array Value} {t : TypeId} {fz : Nat × Nat} (hc : w.heap[g']? = some (.cells cs t fz)) : g' ≠ g := by
  rintro rfl
  obtain ⟨es, cl, hb, _⟩ := h
  rw [hb] at hc
  cases hc
def nats (l : List Nat) : List Value := l.map fun n : Nat => Value.int .i64 n
theorem nats_len (l : List Nat) : (nats l).length = l.length := by simp [nats]
theorem nats_get (l : List Nat) (i : Nat) (h : i < l.length) : (nats l).toArray[i]? = some (.int .i64 (l[i] : Nat)) := by simp [nats, h]
/-- What stands in memory: the counts, the set, the numbers. -/
structure NpSt (w wr : World) (nb mb : Nat) (v : Value) (L : List Int) (c : List Nat) (cnt : Nat) (D : SlDU) : Prop where
  blk : wr.heap[nb]? = some (.cells (nats c).toArray 28 (0, 0))
  map : NbMap wr mb cnt D
  row : wr.ownsRow w.heap.size 9 1 v L.length (strs (allN L))
  bel : Below w.heap.size w wr
  nbB : w.heap.size ≤ nb
  mbB : w.heap.size ≤ mb
theorem NpSt.below {w wr w' : World} {nb mb cnt : Nat} {v : Value} {L : List Int} {c : List Nat} {D : SlDU} (h : NpSt w wr nb mb v L c cnt D) (b : Below wr.heap.size wr w') : NpSt w w' nb mb v L c cnt D :=
  ⟨(b.block nb (Array.getElem?_eq_some_iff.1 h.blk).1).trans h.blk, nbMap_block h.map (b.block mb (by obtain ⟨_, _, hb, _⟩ := h.map; exact (Array.getElem?_eq_some_iff.1 hb).1)), ownsRow_below h.row b, h.bel.trans (b.mono h.bel.size), h.nbB, h.mbB⟩
theorem NpSt.set {w wr : World} {nb mb cnt : Nat} {v : Value} {L : List Int} {c : List Nat} {D : SlDU} (h : NpSt w wr nb mb v L c cnt D) (i x : Nat) (hi : i < c.length) : NpSt w (wr.setCell ⟨nb, i, none⟩ (.int .i64 x)) nb mb v L (c.set i x) cnt D := by
  refine ⟨?_, nbMap_block h.map (Below.heap_setCell wr ⟨nb, i, none⟩ _ mb (fun e => nbMap_ne h.map h.blk e.symm)), own_set h.row h.blk (by decide) i _, h.bel.setCell (p := ⟨nb, i, none⟩) h.nbB _, h.nbB, h.mbB⟩
  simp [World.setCell, Array.getElem?_modify, h.blk, nats, List.map_set]
theorem NpSt.iter {w wr : World} {nb mb cnt k : Nat} {v : Value} {L : List Int} {c : List Nat} {D : SlDU} {s : ByteArray} {pos : Nat} (h : NpSt w wr nb mb v L c cnt D) (hk : wr.heap[k]? = some (.stringIter s pos)) (hB : w.heap.size ≤ k) (pos' : Nat) : NpSt w (wr.iterAt k s pos') nb mb v L c cnt D := by
  refine ⟨?_, nbMap_block h.map (Lib.iterAt_other wr k mb s pos' (by rintro rfl; obtain ⟨_, _, hb, _⟩ := h.map; rw [hb] at hk; cases hk)), ownsRow_iterAt h.row hk pos', Lib.below_iterAt h.bel hB s pos', h.nbB, h.mbB⟩
  rw [Lib.iterAt_other wr k nb s pos' (by rintro rfl; have := h.blk; rw [hk] at this; cases this)]
  exact h.blk
theorem NpSt.put {w wr : World} {nb mb cnt : Nat} {v : Value} {L : List Int} {c : List Nat} {D : SlDU} (h : NpSt w wr nb mb v L c cnt D) (id : List UInt8) (hid : id.length ≤ maxLen) (hc : cnt < maxLen) :
    ∃ w', (Instr.mapUpdate 29 (.map (some mb)) (.string ⟨id.toArray⟩) (.bool true)).run Tryd.prog wr = .ok () w' ∧ ∃ D', NpSt w w' nb mb v L c (cnt + 1) D' := by
  obtain ⟨w6, hup, hm6, hg6⟩ := h.map.update slLaw Tryd.underlying29 hc (slKey id hid) (val := .bool true) (plainElem_bool Tryd.underlying4 true)
  refine ⟨w6, hup, _, ⟨(hg6.block nb (Array.getElem?_eq_some_iff.1 h.blk).1 (fun e => nbMap_ne h.map h.blk (by injection e))).trans h.blk, hm6, h.row.kept hg6 ?_, h.bel.grown hg6 h.bel.size (fun x e => by injection e with e; have := h.mbB; omega), h.nbB, h.mbB⟩⟩
  rcases h.row.2 with ⟨rfl, _⟩ | ⟨g, cap, cur, rfl, _, hg, _⟩
  · exact .inl rfl
  · exact .inr (fun e => nbMap_ne h.map hg (by simp [Value.ownBlock] at e; exact e))
theorem NpSt.cell {w wr : World} {nb mb cnt : Nat} {v : Value} {L : List Int} {c : List Nat} {D : SlDU} (h : NpSt w wr nb mb v L c cnt D) (i : Nat) (hi : i < c.length) : wr.cell? ⟨nb, i, none⟩ = some (.int .i64 (c[i] : Nat)) ∧ wr.frozen? ⟨nb, i, none⟩ = false :=
  ⟨(cell_of_row wr nb i _ _ (0, 0) h.blk).trans (nats_get c i hi), by have := h.blk; simp [World.frozen?, this]⟩

def NpRel (w : World) (nb mb : Nat) (v : Value) (L : List Int) (i : Value) (wr : World) : Prop :=
  ∃ (k cnt : Nat) (D : SlDU), i = .int .i64 k ∧ k ≤ L.length ∧ cnt ≤ k ∧ NpSt w wr nb mb v L (0 :: cntAll zero6 (L.take k)) cnt D
def NjRel (w : World) (nb mb : Nat) (v : Value) (L : List Int) (c : List Nat) (m cnt : Nat) (D : SlDU) (pv jv : Value) (wr : World) : Prop :=
  ∃ j : Nat, jv = .int .i64 j ∧ 1 ≤ j ∧ j ≤ 7 ∧ pv = .int .i64 (partsOf ((cJ c m j).take j)) ∧ NpSt w wr nb mb v L (cJ c m j) cnt D
def NdRel (w : World) (nb mb : Nat) (v : Value) (L : List Int) (c : List Nat) (cnt : Nat) (D : SlDU) (s : ByteArray) (ib : Nat) (dv : Value) (wr : World) : Prop :=
  ∃ k : Nat, dv = .int .i64 (dotsOf (s.data.toList.take k)) ∧ k ≤ s.size ∧ wr.heap[ib]? = some (.stringIter s k) ∧ NpSt w wr nb mb v L c cnt D

set_option maxHeartbeats 8000000 in
theorem numberParts_walk (w : World) (h7 : NuW w) (A0 : Option Addr) (c0 : Nat) (z0 : List Int) (r0 : RowOf w A0 c0 (z0.map (Value.int .i64))) (w0 : ∀ n ∈ z0, (Lit.int .i64 n).wf = true) :
    Calls Tryd.prog 4 #[.slice A0 z0.length c0] w fun e w' => e = .returned (.bool true) ∧ Below w.heap.size w w' := by
  have CA := Lib.hid (alive17_any w)
  have hle : z0.length ≤ c0 := by have := r0.1; simpa using this
  have hcap := r0.2.1
  unfold maxLen at hcap
  clear w0 h7
  by_cases hz : 60 < z0.length
  · go_enter Tryd.func4, Tryd.ntmps4
    go_wp2_with fail
    refine CA.out.mono ?_
    rintro e w1 ⟨rfl, b1⟩
    go_wp2
    go_ret
    exact ⟨rfl, b1⟩
  · have hz0 : z0.length ≤ 60 := by omega
    clear hz
    have R0 := Lib.hid r0
    clear r0
    have hmm := @run_makeMap Tryd.prog
    have hg60 : decide ((60 : Int) < (z0.length : Int)) = false := by simp; omega
    go_enter Tryd.func4, Tryd.ntmps4
    go_wp2_with fail
    refine CA.out.mono ?_
    rintro e w1 ⟨rfl, b1⟩
    have HB1 := Lib.hid (b1.alloc b1.size (.cells (nats [0, 0, 0, 0, 0, 0, 0]).toArray 28))
    have hbk1 := heap_alloc_new w1 (.cells (nats [0, 0, 0, 0, 0, 0, 0]).toArray 28)
    have hs1 := b1.size
    have ca := fun A c hr => all_any A c z0 (w1.alloc (.cells (nats [0, 0, 0, 0, 0, 0, 0]).toArray 28)) hr (by omega)
    have CB := Lib.hid (ca A0 c0 (R0.out.below HB1.out))
    have HK1 := Lib.hid hbk1
    clear ca hbk1 b1
    go_wp2_with fail
    refine CB.out.mono ?_
    rintro e w2 ⟨v, rfl, hv, b2⟩
    have HB2 := Lib.hid ((HB1.out.then b2).alloc (HB1.out.then b2).size (.map #[] 0))
    have hs2 : w1.heap.size < w2.heap.size := by have := b2.size; rw [alloc_size] at this; omega
    have hv2 := own_low hv (show w.heap.size ≤ _ from HB1.out.size)
    have hm0 : NbMap (w2.alloc (.map #[] 0)) w2.heap.size 0 (.map []) := World.ownsMap_made w2 Tryd.prog 9 (plainElem (H := Unit) Tryd.prog 4)
    have hk2 := (b2.block w1.heap.size (by rw [alloc_size]; omega)).trans HK1.out
    obtain ⟨Av, cv, rfl, hrv, _⟩ := RowOf.own hv2
    have HST0 := Lib.hid (show NpSt w (w2.alloc (.map #[] 0)) w1.heap.size w2.heap.size (.slice Av z0.length cv) z0 [0, 0, 0, 0, 0, 0, 0] 0 (.map []) from
      ⟨(Below.heap_alloc w2 _ _ hs2).trans hk2, hm0, hv2.alloc _, HB2.out, hs1, by omega⟩)
    have hcapv := hrv.2.1
    have hlev := hrv.1
    rw [strs_length, allN_len] at hlev
    unfold maxLen at hcapv
    clear hv hv2 hm0 hk2 hrv b2
    go_wp2_with fail
    go_loopw [31] (fun i wr => NpRel w w1.heap.size w2.heap.size (.slice Av z0.length cv) z0 i wr) (fun i _ => z0.length - (intOf i).toNat)
    case atStart => exact ⟨0, 0, _, rfl, Nat.zero_le _, Nat.le_refl _, HST0.out⟩
    case round =>
      obtain ⟨k, cnt, D, rfl, hk, hcnt, hst⟩ := hrel
      clear hmm
      by_cases hlt : k < z0.length
      · obtain ⟨ab, ao, hAe, hab, hac⟩ := R0.out.at (by intro e; rw [List.map_eq_nil_iff.1 e] at hlt; simp at hlt)
        have hcell : wr.cell? ⟨ab, ao + k, none⟩ = some (.int .i64 z0[k]) := by
          have := (hst.bel.cell (p := ⟨ab, ao + k, none⟩) hab).trans (hac k (by simpa using hlt))
          simpa using this
        subst hAe
        cases hok : okLevel z0[k] with
        | false =>
          have hcn : cntAll zero6 (z0.take (k + 1)) = cntAll zero6 (z0.take k) := by
            rw [List.take_succ_eq_append_getElem hlt, cntAll_snoc]; unfold cntOne; rw [if_neg (by rw [hok]; simp)]
          have HST := Lib.hid hst
          have HCN := Lib.hid hcn
          generalize z0[k] = z at *
          have hcase : z < 1 ∨ (1 ≤ z ∧ 6 < z) := by simp [okLevel] at hok; omega
          clear hok hcn hst hac
          rcases hcase with h1 | ⟨h1, h2⟩
          all_goals
            go_wp2
            go_roundw
            case rel => exact ⟨k + 1, cnt, D, by go_num, by omega, by omega, by rw [HCN.out]; exact HST.out⟩
            case measure => simp [intOf]; omega
        | true =>
          have hnum : numOne (cntAll zero6 (z0.take k)) z0[k] = numL ((cntStep (cntAll zero6 (z0.take k)) z0[k].toNat).map dg) := by unfold numOne; rw [if_pos hok]
          have hcn : cntAll zero6 (z0.take (k + 1)) = cntStep (cntAll zero6 (z0.take k)) z0[k].toNat := by
            rw [List.take_succ_eq_append_getElem hlt, cntAll_snoc]; unfold cntOne; rw [if_pos hok]
          have hmem := cntAll_mem (z0.take k)
          have hlen := cntAll_len (z0.take k) zero6 rfl
          have htl : (z0.take k).length = k := by rw [List.length_take]; omega
          have hdots := numL_dots (z0.take k) z0[k] hok (by rw [htl]; omega)
          have hbyt := numOne_bytes (z0.take k) z0[k] (by rw [htl]; omega)
          have hat : (allN z0)[k]'(by rw [allN_len]; exact hlt) = numOne (cntAll zero6 (z0.take k)) z0[k] := by
            have e1 := allN_take z0 (k + 1)
            rw [List.take_succ_eq_append_getElem (by rw [allN_len]; exact hlt), List.take_succ_eq_append_getElem hlt, allN_snoc] at e1
            exact (List.append_inj_right' e1 rfl |> fun e => by simpa using e)
          rw [htl] at hmem
          obtain ⟨m, hm, hm1, hm6⟩ : ∃ m : Nat, z0[k] = m ∧ 1 ≤ m ∧ m ≤ 6 := by
            simp [okLevel] at hok
            exact ⟨z0[k].toNat, by omega, by omega, by omega⟩
          have hnul : (numOne (cntAll zero6 (z0.take k)) z0[k]).length ≤ 1000 := by
            rw [hnum]
            have h1 := numL_len (cntStep (cntAll zero6 (z0.take k)) z0[k].toNat)
            rw [cntStep_len _ _ hlen (by rw [hm]; simpa using hm1) (by rw [hm]; simpa using hm6)] at h1
            omega
          have hco : cntOne (cntAll zero6 (z0.take k)) z0[k] = cntStep (cntAll zero6 (z0.take k)) z0[k].toNat := by unfold cntOne; rw [if_pos hok]
          rw [hco] at hdots
          rw [hm] at hdots hbyt hat hcell hcn hnul
          rw [Int.toNat_natCast] at hdots hcn
          generalize numOne (cntAll zero6 (z0.take k)) (m : Int) = nu at *
          generalize cntAll zero6 (z0.take k) = n at *
          have hcj := cJ_all n m hlen hm1 hm6
          have hml : m < (0 :: n).length := by rw [List.length_cons, hlen]; omega
          have hgd : (0 :: n).getD m 0 = (0 :: n)[m] := by rw [List.getD_eq_getElem?_getD, List.getElem?_eq_getElem hml]; rfl
          have hx60 : (0 :: n)[m] ≤ k := by
            rcases List.mem_cons.1 (List.getElem_mem hml) with e | e
            · omega
            · exact hmem _ e
          rw [hgd] at hcj
          obtain ⟨cm0, cf0⟩ := hst.cell m hml
          have hs1' := hst.set m ((0 :: n)[m] + 1) hml
          have hm7 : ∀ x ∈ (0 :: n).set m ((0 :: n)[m] + 1), x ≤ 61 := by
            intro x hx
            rcases List.mem_or_eq_of_mem_set hx with hx | rfl
            · rcases List.mem_cons.1 hx with rfl | hx
              · omega
              · have := hmem x hx; omega
            · omega
          have hl7 : ((0 :: n).set m ((0 :: n)[m] + 1)).length = 7 := by rw [List.length_set, List.length_cons, hlen]
          have hgx : (((0 :: n)[m] : Nat) : Int) + 1 = (((0 :: n)[m] + 1 : Nat) : Int) := by omega
          generalize (0 :: n)[m] = q at *
          rw [← hgx] at hs1'
          have h0c : ((0 :: n).set m (q + 1)).take 1 = [0] := by
            obtain ⟨m', rfl⟩ : ∃ m', m = m' + 1 := ⟨m - 1, by omega⟩
            rfl
          generalize (0 :: n).set m (q + 1) = c1 at *
          have HCJ := Lib.hid hcj
          have HST1 := Lib.hid hs1'
          have HM7 := Lib.hid hm7
          have HL7 := Lib.hid hl7
          have HDOT := Lib.hid hdots
          have HBY := Lib.hid hbyt
          have HAT := Lib.hid hat
          have HNL := Lib.hid (show nu.length ≤ 1000 from hnul)
          have HCN := Lib.hid hcn
          have H0C := Lib.hid h0c
          have hd1 : decide ((m : Int) < 1) = false := by simp; omega
          have hd2 : decide ((6 : Int) < (m : Int)) = false := by simp; omega
          have hnb1 : w1.heap.size < wr.heap.size := (Array.getElem?_eq_some_iff.1 hst.blk).1
          clear hok hnul hnum hcn hmem hlen htl hdots hbyt hat hm hco hcj hgd hst hs1' hm7 hl7 h0c hac hml hgx
          go_wp2_with fail
          generalize wr.setCell ⟨w1.heap.size, m, none⟩ (.int .i64 ((q : Int) + 1)) = wA at *
          go_loopw [8, 9] (fun pv jv w' => NjRel w w1.heap.size w2.heap.size (.slice Av z0.length cv) z0 c1 m cnt D pv jv w') (fun _ jv _ => 7 - (intOf jv).toNat)
          case atStart => exact ⟨1, rfl, Nat.le_refl _, by omega, by rw [cJ_one, H0C.out]; rfl, by rw [cJ_one]; exact HST1.out⟩
          case round =>
            obtain ⟨j, rfl, hj1, hj7, rfl, hst⟩ := hrel
            have hpl := parts_le (cJ c1 m j) j
            by_cases hj6 : j ≤ 6
            · have hjl : j < c1.length := by rw [HL7.out]; omega
              have hps := parts_step c1 m j hjl
              by_cases hjm : m < j
              · have hcjs : cJ c1 m (j + 1) = (cJ c1 m j).set j 0 := by rw [cJ, if_pos hjm]
                obtain ⟨cj0, fj0⟩ := hst.cell j (by rw [cJ_len]; exact hjl)
                have hst2 := hst.set j 0 (by rw [cJ_len]; exact hjl)
                have hst3 : NpSt w (wr.setCell ⟨w1.heap.size, j, none⟩ (.int .i64 0)) w1.heap.size w2.heap.size (.slice Av z0.length cv) z0 (cJ c1 m (j + 1)) cnt D := by rw [hcjs]; exact hst2
                have hz9 : (cJ c1 m (j + 1))[j]'(by rw [cJ_len]; exact hjl) = 0 := by simp only [hcjs]; rw [List.getElem_set_self]
                rw [hz9, if_neg (by omega), Nat.add_zero] at hps
                have HPS := Lib.hid hps
                have HS3 := Lib.hid hst3
                have hdj : decide ((m : Int) < (j : Int)) = true := by simp; omega
                generalize (cJ c1 m j)[j]'_ = u0 at *
                clear hps hst hst2 hst3 hcjs hz9
                go_wp2
                go_roundw
                case rel => exact ⟨j + 1, by go_num, by omega, by omega, by rw [HPS.out, Nat.add_zero], HS3.out⟩
                case measure => simp [intOf]; omega
              · have hcjs : cJ c1 m (j + 1) = cJ c1 m j := by rw [cJ, if_neg hjm]
                obtain ⟨cj0, fj0⟩ := hst.cell j (by rw [cJ_len]; exact hjl)
                have hx61 := cJ_mem c1 m 61 HM7.out j ((cJ c1 m j)[j]'(by rw [cJ_len]; exact hjl)) (List.getElem_mem _)
                simp only [hcjs] at hps
                generalize (cJ c1 m j)[j]'_ = x at *
                have hdj : decide ((m : Int) < (j : Int)) = false := by simp; omega
                have HCJS := Lib.hid hcjs
                have HS3 := Lib.hid hst
                by_cases hx0 : 0 < x
                · rw [if_pos hx0] at hps
                  have HPS := Lib.hid hps
                  generalize partsOf (List.take j (cJ c1 m j)) = p at *
                  clear hps hst hcjs
                  go_wp2
                  go_roundw
                  case rel => exact ⟨j + 1, by go_num, by omega, by omega, by rw [HCJS.out, HPS.out]; go_num, by rw [HCJS.out]; exact HS3.out⟩
                  case measure => simp [intOf]; omega
                · rw [if_neg hx0, Nat.add_zero] at hps
                  obtain rfl : x = 0 := by omega
                  have HPS := Lib.hid hps
                  clear hps hst hcjs hx0
                  go_wp2
                  go_roundw
                  case rel => exact ⟨j + 1, by go_num, by omega, by omega, by rw [HCJS.out, HPS.out, Nat.add_zero], by rw [HCJS.out]; exact HS3.out⟩
                  case measure => simp [intOf]; omega
            · obtain rfl : j = 7 := by omega
              rw [HCJ.out] at hst
              have hpe : partsOf ((cJ c1 m 7).take 7) = partsOf (cntStep n m) := by
                have := HL7.out
                rw [List.take_of_length_le (by rw [cJ_len]; omega), HCJ.out, parts_zero]
              rw [hpe]
              have hp1 := parts_pos n m
              have hp6 : partsOf (cntStep n m) ≤ 7 := by rw [← hpe]; exact hpl
              have hkl : k < (allN z0).length := by rw [allN_len]; exact hlt
              obtain ⟨A9, c9, e9, hr9, _⟩ := RowOf.own hst.row
              cases e9
              obtain ⟨bv, ov, rfl, hbv, hcv⟩ := RowOf.cellAt hr9 hkl
              rw [HAT.out] at hcv
              have hbw := hst.bel.size
              have hsl : (⟨nu.toArray⟩ : ByteArray).data.toList = nu := rfl
              have hdp : ((dotsOf nu : Int) != ((partsOf (cntStep n m) : Nat) : Int) - 1) = false := by rw [HDOT.out]; simp; omega
              have hby := HBY.out
              have hput := fun (w' : World) (h : NpSt w w' w1.heap.size w2.heap.size (.slice (some ⟨bv, ov, none⟩) z0.length cv) z0 (0 :: cntStep n m) cnt D) => h.put nu (by
                have h1 := numL_len (cntStep n m)
                have h2 := congrArg List.length HAT.out
                unfold maxLen
                have h3 := HNL.out
                omega) (by unfold maxLen; omega)
              have hst0 := hst.below ((Below.refl _ _).alloc (Nat.le_refl _) (.stringIter ⟨nu.toArray⟩ 0))
              have hnd := HDOT.out
              have hsz1 : (⟨nu.toArray⟩ : ByteArray).size ≤ 1000 := by rw [str_size]; exact HNL.out
              rw [← hsl] at hby hdp
              generalize hse : (⟨nu.toArray⟩ : ByteArray) = s at *
              have HSE := Lib.hid hse
              clear hse
              generalize partsOf (cntStep n m) = p at *
              have HBYS := Lib.hid hby
              have HPUT := Lib.hid hput
              have HDP := Lib.hid hdp
              have HST0 := Lib.hid hst0
              have HROWC := Lib.hid hcv
              have HPP := Lib.hid (And.intro hp1 hp6)
              clear hpe hpl hr9 hby hput hdp hst hst0 hsl hnd
              go_wp2_with fail
              obtain ⟨wo, hwo⟩ : ∃ wo, wo = wr := ⟨_, rfl⟩
              subst hwo
              go_loopw [10] (fun dv w' => NdRel w w1.heap.size w2.heap.size (.slice (some ⟨bv, ov, none⟩) z0.length cv) z0 (0 :: cntStep n m) cnt D s wo.heap.size dv w') (fun _ w' => s.size - w'.iterPos wo.heap.size)
              case atStart => exact ⟨0, rfl, Nat.zero_le _, World.iter_heap wo s 0, HST0.out⟩
              case round =>
                obtain ⟨y, rfl, hy, hit, hst⟩ := hrel
                have hszi : wo.heap.size < wr.heap.size := (Array.getElem?_eq_some_iff.1 hit).1
                have hdl := dots_le s.data.toList y
                by_cases hyl : y < s.size
                · have hyll : y < s.data.toList.length := by simpa using hyl
                  have hb9 := HBYS.out s[y] (by rw [ByteArray.getElem_eq_getElem_data]; exact List.getElem_mem (l := s.data.toList) _)
                  have hnx : ∀ ty, (Instr.next (.pointer (some ⟨wo.heap.size, 0, none⟩)) true ty).run Tryd.prog wr = _ := fun ty => Lib.run_next_ascii_at wr wo.heap.size s y ty hit hyl hb9
                  have hit2 := Lib.iterAt_heap wr wo.heap.size s y (y + 1) hit
                  have hst2 := hst.iter hit hbw (y + 1)
                  have hdt : dotsOf (s.data.toList.take (y + 1)) = dotsOf (s.data.toList.take y) + if s[y] = 46 then 1 else 0 := dots_take s.data.toList y hyll
                  have HIT := Lib.hid hit2
                  have HIT0 := Lib.hid hit
                  have HS2 := Lib.hid hst2
                  by_cases h46 : s[y] = 46
                  · rw [if_pos h46] at hdt
                    have hq : ((s[y].toNat : Int) == 46) = true := by rw [h46]; rfl
                    have HDT := Lib.hid hdt
                    generalize dotsOf (s.data.toList.take y) = dd at *
                    clear hit hit2 hst hst2 hdt h46 hb9
                    go_wp2
                    go_roundw
                    case rel => exact ⟨y + 1, by rw [HDT.out]; go_num, by omega, HIT.out, HS2.out⟩
                    case measure => simp only [World.iterPos, HIT.out, HIT0.out]; omega
                  · rw [if_neg h46, Nat.add_zero] at hdt
                    have hq : ((s[y].toNat : Int) == 46) = false := by
                      rw [beq_eq_false_iff_ne]; intro e; apply h46; apply UInt8.toNat_inj.1; show _ = 46; omega
                    have HDT := Lib.hid hdt
                    clear hit hit2 hst hst2 hdt h46 hb9
                    go_wp2
                    go_roundw
                    case rel => exact ⟨y + 1, by rw [HDT.out, Nat.add_zero], by omega, HIT.out, HS2.out⟩
                    case measure => simp only [World.iterPos, HIT.out, HIT0.out]; omega
                · obtain rfl : y = s.size := by omega
                  have hnx : ∀ ty, (Instr.next (.pointer (some ⟨wo.heap.size, 0, none⟩)) true ty).run Tryd.prog wr = _ := fun ty => Lib.run_next_end_at wr wo.heap.size s s.size ty hit hyl
                  have hdp := HDP.out
                  rw [List.take_of_length_le (by simp)] at hdl ⊢
                  obtain ⟨w6, hup, D', hst6⟩ := HPUT.out wr hst
                  obtain ⟨A9, c9, e9, hr9, _⟩ := RowOf.own hst.row
                  cases e9
                  obtain ⟨bv', ov', e8, hbv', hcv'⟩ := RowOf.cellAt hr9 hkl
                  cases e8
                  rw [HAT.out, HSE.out] at hcv'
                  have HST6 := Lib.hid hst6
                  generalize dotsOf s.data.toList = dd at *
                  clear hst hst6 hr9 hit
                  go_wp2
                  go_roundw
                  case rel => exact ⟨k + 1, cnt + 1, D', by go_num, by omega, by omega, by rw [HCN.out]; exact HST6.out⟩
                  case measure => simp [intOf]; omega
      · obtain rfl : k = z0.length := by omega
        have HST := Lib.hid hst
        obtain ⟨es, cl, hmb, _, hes, _⟩ := hst.map
        have hszm : es.size ≤ z0.length := Nat.le_trans hes hcnt
        have hlm := fun ty => run_len_map (P := Tryd.prog) (w := wr) 29 ty w2.heap.size es cl (by kernel_rfl) hmb
        clear hst
        go_wp2_with (simp only [hlm])
        go_ret
        exact ⟨ret_bool (by simp <;> omega), HST.out.bel⟩

end Go.Proofs.YtpifhjdbcdcelaaDoor
