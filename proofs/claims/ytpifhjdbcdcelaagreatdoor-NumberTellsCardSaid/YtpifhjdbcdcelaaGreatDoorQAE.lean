/- Texts joined: NuJ NuK RowS LnI BookA BookZ Tkp Grw Copy BookB BookC BookD BookE BookF. -/
import Derived.Test.YtpifhjdbcdcelaaGreatDoorQAB
import Derived.Test.YtpifhjdbcdcelaaGreatDoorQAD
import Derived.Test.YtpifhjdbcdcelaaGreatDoorQAA
import Derived.Laws.ResultCell
import Derived.Laws.AppendOwnNone
import Derived.RegionTactic
import Derived.Deep.AppendLies
import Derived.Laws.BytesArg
import Derived.Maps.AppendAt
import Derived.ArgAppend
import Derived.OwnWalk
import Derived.Deep.RegionLaw
import Derived.Deep.RegionHeld3
namespace Go.Proofs.YtpifhjdbcdcelaaGreatDoor
open Go.RowKit
set_option linter.unusedSimpArgs false
set_option linter.unusedVariables false
set_option maxRecDepth 100000
def natV (l : List Nat) : List Value := l.map fun n : Nat => Value.int .i64 n
theorem natV_get (l : List Nat) (i : Nat) (h : i < l.length) : (natV l).toArray[i]? = some (.int .i64 (l[i] : Nat)) := by simp [natV, h]
/-- What stands in memory: the counts, the numbers told by now. -/
structure NrSt (w wr : World) (nb : Nat) (v : Value) (k : Nat) (ls : List (List UInt8)) (c : List Nat) : Prop where
  blk : wr.heap[nb]? = some (.cells (natV c).toArray 64 (0, 0))
  row : wr.ownsRow w.heap.size 9 1 v k (strs ls)
  bel : Below w.heap.size w wr
  nbB : w.heap.size ≤ nb
theorem NrSt.below {w wr w' : World} {nb : Nat} {v : Value} {k : Nat} {ls : List (List UInt8)} {c : List Nat} (h : NrSt w wr nb v k ls c) (b : Below wr.heap.size wr w') : NrSt w w' nb v k ls c :=
  ⟨(b.block nb (Array.getElem?_eq_some_iff.1 h.blk).1).trans h.blk, ownsRow_below h.row b, h.bel.trans (b.mono h.bel.size), h.nbB⟩
theorem NrSt.set {w wr : World} {nb : Nat} {v : Value} {k : Nat} {ls : List (List UInt8)} {c : List Nat} (h : NrSt w wr nb v k ls c) (i x : Nat) (hi : i < c.length) : NrSt w (wr.setCell ⟨nb, i, none⟩ (.int .i64 x)) nb v k ls (c.set i x) := by
  refine ⟨?_, own_set h.row h.blk (by decide) i _, h.bel.setCell (p := ⟨nb, i, none⟩) h.nbB _, h.nbB⟩
  simp [World.setCell, Array.getElem?_modify, h.blk, natV, List.map_set]
theorem NrSt.cell {w wr : World} {nb : Nat} {v : Value} {k : Nat} {ls : List (List UInt8)} {c : List Nat} (h : NrSt w wr nb v k ls c) (i : Nat) (hi : i < c.length) : wr.cell? ⟨nb, i, none⟩ = some (.int .i64 (c[i] : Nat)) ∧ wr.frozen? ⟨nb, i, none⟩ = false :=
  ⟨(cell_of_row wr nb i _ _ (0, 0) h.blk).trans (natV_get c i hi), by have := h.blk; simp [World.frozen?, this]⟩
theorem NrSt.more {w wr w' : World} {nb : Nat} {v v' : Value} {k k' : Nat} {ls ls' : List (List UInt8)} {c : List Nat} (h : NrSt w wr nb v k ls c) (hg : wr.grownBy w' v.ownBlock) (ho : w'.ownsRow w.heap.size 9 1 v' k' (strs ls')) : NrSt w w' nb v' k' ls' c :=
  ⟨(hg.block nb (Array.getElem?_eq_some_iff.1 h.blk).1 (fun e => own_ne h.row h.blk (by decide) e.symm)).trans h.blk, ho, h.bel.trans (below_of_grown hg (fun g hg => (h.row.lt g hg).1) h.bel.size), h.nbB⟩
/-- The counts' text while they are put back. -/
def njS (c : List Nat) (m j : Nat) : List UInt8 := numL (((cJ c m j).take j).map dg)
theorem njS_step (c : List Nat) (m j : Nat) (h : j < c.length) : njS c m (j + 1) = numStep (njS c m j) (dg ((cJ c m (j + 1))[j]'(by rw [cJ_len]; exact h))) := by
  unfold njS
  rw [List.take_succ_eq_append_getElem (by rw [cJ_len]; exact h), cJ_take, List.map_append, List.map_cons, List.map_nil, numL_snoc]
theorem njS_len (c : List Nat) (m j : Nat) (hc : c.length = 7) : (njS c m j).length ≤ 21 := by
  have h1 := numL_len ((cJ c m j).take j)
  have h2 : ((cJ c m j).take j).length ≤ 7 := by rw [List.length_take, cJ_len]; omega
  unfold njS
  omega
theorem numL_zero (n : List Nat) : numL ((0 :: n).map dg) = numL (n.map dg) := by
  show (List.map dg n).foldl numStep (numStep [] (dg 0)) = _
  rfl
def NrRel (w : World) (nb : Nat) (L : List Int) (v i : Value) (wr : World) : Prop :=
  ∃ (k : Nat) (u : Value), u = v ∧ i = .int .i64 k ∧ k ≤ L.length ∧ NrSt w wr nb u k (allN (L.take k)) (0 :: cntAll zero6 (L.take k))
def NrjRel (w : World) (nb : Nat) (v : Value) (k : Nat) (ls : List (List UInt8)) (c : List Nat) (m : Nat) (sv jv : Value) (wr : World) : Prop :=
  ∃ j : Nat, jv = .int .i64 j ∧ 1 ≤ j ∧ j ≤ 7 ∧ sv = .string ⟨(njS c m j).toArray⟩ ∧ NrSt w wr nb v k ls (cJ c m j)
set_option maxHeartbeats 8000000 in
theorem refNumbers_any (A0 : Option Addr) (c0 : Nat) (z0 : List Int) (w : World) (r0 : RowOf w A0 c0 (z0.map (Value.int .i64))) (hl : z0.length ≤ 90) :
    Calls Tryz.prog 11 #[.slice A0 z0.length c0] w fun e w' => ∃ v, e = .returned v ∧ w'.ownsRow w.heap.size 9 1 v z0.length (strs (allN z0)) ∧ Below w.heap.size w w' := by
  have hle : z0.length ≤ c0 := by have := r0.1; simpa using this
  have hcap := r0.2.1
  unfold maxLen at hcap
  have R0 := Lib.hid r0
  clear r0
  go_enter Tryz.func11, Tryz.ntmps11
  go_wp2_with fail
  have HST0 := Lib.hid (show NrSt w (w.alloc (.cells (natV [0, 0, 0, 0, 0, 0, 0]).toArray 64)) w.heap.size (.slice none 0 0) 0 [] [0, 0, 0, 0, 0, 0, 0] from
    ⟨heap_alloc_new w _, ⟨rfl, .inl ⟨rfl, rfl⟩⟩, (Below.refl _ _).alloc (Nat.le_refl _) _, Nat.le_refl _⟩)
  go_loopw [3, 5] (fun v i wr => NrRel w w.heap.size z0 v i wr) (fun _ i _ => z0.length - (intOf i).toNat)
  case atStart => exact ⟨0, _, rfl, rfl, Nat.zero_le _, HST0.out⟩
  case round =>
    obtain ⟨k, v, rfl, rfl, hk, hst⟩ := hrel
    by_cases hlt : k < z0.length
    · obtain ⟨ab, ao, hAe, hab, hac⟩ := R0.out.at (by intro e; rw [List.map_eq_nil_iff.1 e] at hlt; simp at hlt)
      have hcell : wr.cell? ⟨ab, ao + k, none⟩ = some (.int .i64 z0[k]) := by
        have := (hst.bel.cell (p := ⟨ab, ao + k, none⟩) hab).trans (hac k (by simpa using hlt))
        simpa using this
      subst hAe
      have hans : allN (z0.take (k + 1)) = allN (z0.take k) ++ [numOne (cntAll zero6 (z0.take k)) z0[k]] := by rw [List.take_succ_eq_append_getElem hlt, allN_snoc]
      have hall : (allN (z0.take k)).length = k := by rw [allN_len, List.length_take]; omega
      cases hok : okLevel z0[k] with
      | false =>
        have hcn : cntAll zero6 (z0.take (k + 1)) = cntAll zero6 (z0.take k) := by
          rw [List.take_succ_eq_append_getElem hlt, cntAll_snoc]; unfold cntOne; rw [if_neg (by rw [hok]; simp)]
        have hnu : numOne (cntAll zero6 (z0.take k)) z0[k] = [] := by unfold numOne; rw [if_neg (by rw [hok]; simp)]
        rw [hnu] at hans
        have HANS := Lib.hid hans
        have HST := Lib.hid hst
        have HCN := Lib.hid hcn
        generalize allN (z0.take k) = ls at *
        generalize cntAll zero6 (z0.take k) = cc at *
        generalize z0[k] = z at *
        have hcase : z < 1 ∨ (1 ≤ z ∧ 6 < z) := by simp [okLevel] at hok; omega
        clear hok hcn hac hnu hans hst
        have HB := Lib.hid (HST.out.bel.alloc HST.out.bel.size (.cells (strs [[]]).toArray 9))
        have HS2 := Lib.hid (HST.out.below ((Below.refl _ _).alloc (Nat.le_refl _) (.cells (strs [[]]).toArray 9)))
        have HLit := Lib.hid (rowOf_lit wr 9 (strs [[]]) (by decide))
        rcases hcase with h1 | ⟨h1, h2⟩
        all_goals
          go_wp2_with (at_builtin; refine append_strs rfl _ _ rfl w.heap.size v ls (by rfl) (by rw [hall]; exact HS2.out.row) (some ⟨wr.heap.size, 0, none⟩) 1 [[]] rfl HLit.out (fun h => by cases h) (by rw [hall]; simp; omega) HB.out.size ?_)
          intro v' w' hown' hgr'
          have hst' := HS2.out.more hgr' hown'
          (try rw [List.length_append, hall] at hst'); rw [← HANS.out] at hst'
          have HST' := Lib.hid hst'
          clear hown' hgr' hst'
          go_wp2
          go_roundw
          case rel => exact ⟨k + 1, _, rfl, by go_num, by omega, by rw [HCN.out]; exact HST'.out⟩
          case measure => simp [intOf]; omega
      | true =>
        have hnum : numOne (cntAll zero6 (z0.take k)) z0[k] = numL ((cntStep (cntAll zero6 (z0.take k)) z0[k].toNat).map dg) := by unfold numOne; rw [if_pos hok]
        have hcn : cntAll zero6 (z0.take (k + 1)) = cntStep (cntAll zero6 (z0.take k)) z0[k].toNat := by
          rw [List.take_succ_eq_append_getElem hlt, cntAll_snoc]; unfold cntOne; rw [if_pos hok]
        have hmem := cntAll_mem (z0.take k)
        have hlen := cntAll_len (z0.take k) zero6 rfl
        have htl : (z0.take k).length = k := by rw [List.length_take]; omega
        rw [htl] at hmem
        obtain ⟨m, hm, hm1, hm6⟩ : ∃ m : Nat, z0[k] = m ∧ 1 ≤ m ∧ m ≤ 6 := by
          simp [okLevel] at hok
          exact ⟨z0[k].toNat, by omega, by omega, by omega⟩
        rw [hnum] at hans
        rw [hm] at hans hcell hcn
        rw [Int.toNat_natCast] at hans hcn
        generalize allN (z0.take k) = ls at *
        generalize cntAll zero6 (z0.take k) = n at *
        have hcj := cJ_all n m hlen hm1 hm6
        have hml : m < (0 :: n).length := by rw [List.length_cons, hlen]; omega
        have hgd : (0 :: n).getD m 0 = (0 :: n)[m] := by rw [List.getD_eq_getElem?_getD, List.getElem?_eq_getElem hml]; rfl
        have hx60 : (0 :: n)[m] ≤ k := by
          rcases List.mem_cons.1 (List.getElem_mem hml) with e | e
          · omega
          · exact hmem _ e
        rw [hgd] at hcj
        obtain ⟨cm0, cf0⟩ := hst.cell m hml
        have hs1' := hst.set m ((0 :: n)[m] + 1) hml
        have hm7 : ∀ x ∈ (0 :: n).set m ((0 :: n)[m] + 1), x ≤ 91 := by
          intro x hx
          rcases List.mem_or_eq_of_mem_set hx with hx | rfl
          · rcases List.mem_cons.1 hx with rfl | hx
            · omega
            · have := hmem x hx; omega
          · omega
        have hl7 : ((0 :: n).set m ((0 :: n)[m] + 1)).length = 7 := by rw [List.length_set, List.length_cons, hlen]
        have hgx : (((0 :: n)[m] : Nat) : Int) + 1 = (((0 :: n)[m] + 1 : Nat) : Int) := by omega
        generalize (0 :: n)[m] = q at *
        rw [← hgx] at hs1'
        have h0c : ((0 :: n).set m (q + 1)).take 1 = [0] := by
          obtain ⟨m', rfl⟩ : ∃ m', m = m' + 1 := ⟨m - 1, by omega⟩
          rfl
        generalize (0 :: n).set m (q + 1) = c1 at *
        have HCJ := Lib.hid hcj
        have HST1 := Lib.hid hs1'
        have HM7 := Lib.hid hm7
        have HL7 := Lib.hid hl7
        have HANS := Lib.hid hans
        have HCN := Lib.hid hcn
        have H0C := Lib.hid (show njS c1 m 1 = [] from by unfold njS; rw [cJ_one, h0c]; rfl)
        have hd1 : decide ((m : Int) < 1) = false := by simp; omega
        have hd2 : decide ((6 : Int) < (m : Int)) = false := by simp; omega
        have hd3 : decide ((1 : Int) ≤ (m : Int)) = true := by simp; omega
        have hd4 : decide ((m : Int) ≤ 6) = true := by simp; omega
        have hnb1 : w.heap.size < wr.heap.size := (Array.getElem?_eq_some_iff.1 hst.blk).1
        clear hok hnum hcn hmem hlen htl hm hcj hgd hst hs1' hm7 hl7 h0c hac hml hgx hans
        go_wp2_with fail
        generalize wr.setCell ⟨w.heap.size, m, none⟩ (.int .i64 ((q : Int) + 1)) = wA at *
        go_loopw [7, 8] (fun sv jv w' => NrjRel w w.heap.size v k ls c1 m sv jv w') (fun _ jv _ => 7 - (intOf jv).toNat)
        case atStart => exact ⟨1, rfl, Nat.le_refl _, by omega, by rw [H0C.out], by rw [cJ_one]; exact HST1.out⟩
        case round =>
          obtain ⟨j, rfl, hj1, hj7, rfl, hst⟩ := hrel
          by_cases hj6 : j ≤ 6
          · have hjl : j < c1.length := by rw [HL7.out]; omega
            have hps := njS_step c1 m j hjl
            have hnl := njS_len c1 m j HL7.out
            by_cases hjm : m < j
            · have hcjs : cJ c1 m (j + 1) = (cJ c1 m j).set j 0 := by rw [cJ, if_pos hjm]
              obtain ⟨cj0, fj0⟩ := hst.cell j (by rw [cJ_len]; exact hjl)
              have hst2 := hst.set j 0 (by rw [cJ_len]; exact hjl)
              have hst3 : NrSt w (wr.setCell ⟨w.heap.size, j, none⟩ (.int .i64 0)) w.heap.size v k ls (cJ c1 m (j + 1)) := by rw [hcjs]; exact hst2
              have hz9 : (cJ c1 m (j + 1))[j]'(by rw [cJ_len]; exact hjl) = 0 := by simp only [hcjs]; rw [List.getElem_set_self]
              rw [hz9] at hps
              have HPS := Lib.hid (show njS c1 m (j + 1) = njS c1 m j from hps)
              have HS3 := Lib.hid hst3
              have hdj : decide ((m : Int) < (j : Int)) = true := by simp; omega
              generalize (cJ c1 m j)[j]'_ = u0 at *
              clear hps hst hst2 hst3 hcjs hz9
              go_wp2
              go_roundw
              case rel => exact ⟨j + 1, by go_num, by omega, by omega, by rw [HPS.out], HS3.out⟩
              case measure => simp [intOf]; omega
            · have hcjs : cJ c1 m (j + 1) = cJ c1 m j := by rw [cJ, if_neg hjm]
              obtain ⟨cj0, fj0⟩ := hst.cell j (by rw [cJ_len]; exact hjl)
              have hx61 := cJ_mem c1 m 91 HM7.out j ((cJ c1 m j)[j]'(by rw [cJ_len]; exact hjl)) (List.getElem_mem _)
              simp only [hcjs] at hps
              generalize (cJ c1 m j)[j]'_ = x at *
              have hdj : decide ((m : Int) < (j : Int)) = false := by simp; omega
              have HCJS := Lib.hid hcjs
              have HS3 := Lib.hid hst
              by_cases hx0 : 0 < x
              · have hdg := dg_dec x hx0 (by omega)
                have hdl := dg_len x
                have cd := refDigits_any x wr hx0 (by omega)
                rw [← hdg] at cd
                have hdn : dg x ≠ [] := fun e => by have := (dg_nil x).1 e; omega
                have CD := Lib.hid cd
                have hpx : decide ((0 : Int) < (x : Int)) = true := by simp; omega
                by_cases he : njS c1 m j = []
                · have hps2 : njS c1 m (j + 1) = dg x := by rw [hps, he]; unfold numStep; rw [if_neg hdn, if_pos rfl]
                  have HPS := Lib.hid hps2
                  have r1 := fun W => run_string_add_sum (P := Tryz.prog) W (⟨([] : List UInt8).toArray⟩ : ByteArray) ⟨(dg x).toArray⟩ (by rw [str_size, str_size]; simp; omega)
                  have hsum : (⟨([] : List UInt8).toArray⟩ : ByteArray) ++ ⟨(dg x).toArray⟩ = ⟨(dg x).toArray⟩ := by rw [str_append]; rfl
                  rw [hsum] at r1
                  rw [he]
                  generalize dg x = dx at *
                  clear hps hps2 hst hcjs cd hdg hsum he hdn
                  go_wp2_with fail
                  refine CD.out.mono ?_
                  rintro e w3 ⟨rfl, b3⟩
                  have HS4 := Lib.hid (HS3.out.below b3)
                  clear b3
                  go_wp2
                  go_roundw
                  case rel => exact ⟨j + 1, by go_num, by omega, by omega, by rw [HPS.out], by rw [HCJS.out]; exact HS4.out⟩
                  case measure => simp [intOf]; omega
                · have hps2 : njS c1 m (j + 1) = njS c1 m j ++ 46 :: dg x := by rw [hps]; unfold numStep; rw [if_neg hdn, if_neg he]
                  have HPS := Lib.hid hps2
                  have hz0 : 0 < (⟨(njS c1 m j).toArray⟩ : ByteArray).size := by rw [str_size]; exact List.length_pos_iff.2 he
                  have e1 := toList_ne hz0
                  have e2 := toList_empty hz0
                  have r1 := fun W => run_string_add_sum (P := Tryz.prog) W (⟨(njS c1 m j).toArray⟩ : ByteArray) (⟨#[46]⟩ : ByteArray) (by rw [str_size]; show _ + 1 ≤ _; omega)
                  have hsum1 : (⟨(njS c1 m j).toArray⟩ : ByteArray) ++ (⟨#[46]⟩ : ByteArray) = ⟨(njS c1 m j ++ [46]).toArray⟩ := by rw [show (⟨#[46]⟩ : ByteArray) = ⟨([46] : List UInt8).toArray⟩ from rfl, str_append]
                  rw [hsum1] at r1
                  have r2 := fun W => run_string_add_sum (P := Tryz.prog) W (⟨(njS c1 m j ++ [46]).toArray⟩ : ByteArray) ⟨(dg x).toArray⟩ (by rw [str_size, str_size]; simp; omega)
                  have hsum2 : (⟨(njS c1 m j ++ [46]).toArray⟩ : ByteArray) ++ ⟨(dg x).toArray⟩ = ⟨(njS c1 m j ++ 46 :: dg x).toArray⟩ := by rw [str_append]; simp
                  rw [hsum2] at r2
                  generalize dg x = dx at *
                  generalize hB1 : (⟨(njS c1 m j ++ [46]).toArray⟩ : ByteArray) = B1 at *
                  generalize hB2 : (⟨(njS c1 m j ++ 46 :: dx).toArray⟩ : ByteArray) = B2 at *
                  generalize hB0 : (⟨(njS c1 m j).toArray⟩ : ByteArray) = B0 at *
                  have HB2 := Lib.hid hB2
                  clear hps hps2 hst hcjs cd hdg hsum1 hsum2 he hdn hB1 hB0 hz0 hB2
                  go_wp2_with fail
                  refine CD.out.mono ?_
                  rintro e w3 ⟨rfl, b3⟩
                  have HS4 := Lib.hid (HS3.out.below b3)
                  clear b3
                  go_wp2
                  go_roundw
                  case rel => exact ⟨j + 1, by go_num, by omega, by omega, by rw [HPS.out, HB2.out], by rw [HCJS.out]; exact HS4.out⟩
                  case measure => simp [intOf]; omega
              · obtain rfl : x = 0 := by omega
                have HPS := Lib.hid (show njS c1 m (j + 1) = njS c1 m j from hps)
                clear hps hst hcjs hx0
                go_wp2
                go_roundw
                case rel => exact ⟨j + 1, by go_num, by omega, by omega, by rw [HPS.out], by rw [HCJS.out]; exact HS3.out⟩
                case measure => simp [intOf]; omega
          · obtain rfl : j = 7 := by omega
            rw [HCJ.out] at hst
            have hpe : njS c1 m 7 = numL ((cntStep n m).map dg) := by
              have := HL7.out
              unfold njS
              rw [List.take_of_length_le (by rw [cJ_len]; omega), HCJ.out, numL_zero]
            rw [hpe]
            generalize numL ((cntStep n m).map dg) = nu at *
            have HS3 := Lib.hid hst
            have HB := Lib.hid (HS3.out.bel.alloc HS3.out.bel.size (.cells (strs [nu]).toArray 9))
            have HS2 := Lib.hid (HS3.out.below ((Below.refl _ _).alloc (Nat.le_refl _) (.cells (strs [nu]).toArray 9)))
            have HLit := Lib.hid (rowOf_lit wr 9 (strs [nu]) (by show (1 : Nat) ≤ maxLen; decide))
            clear hst hpe
            go_wp2_with (at_builtin; refine append_strs rfl _ _ rfl w.heap.size v ls (by rfl) (by rw [hall]; exact HS2.out.row) (some ⟨wr.heap.size, 0, none⟩) 1 [nu] rfl HLit.out (fun h => by cases h) (by rw [hall]; simp; omega) HB.out.size ?_)
            intro v' w' hown' hgr'
            have hst' := HS2.out.more hgr' hown'
            (try rw [List.length_append, hall] at hst'); rw [← HANS.out, ← HCN.out] at hst'
            have HST' := Lib.hid hst'
            clear hown' hgr' hst'
            go_wp2
            go_roundw
            case rel => exact ⟨k + 1, _, rfl, by go_num, by omega, HST'.out⟩
            case measure => simp [intOf]; omega
    · obtain rfl : k = z0.length := by omega
      rw [List.take_length] at hst
      have HST := Lib.hid hst
      clear hst
      go_wp2
      go_ret
      exact ⟨_, rfl, HST.out.row, HST.out.bel⟩
end Go.Proofs.YtpifhjdbcdcelaaGreatDoor

namespace Go.Proofs.YtpifhjdbcdcelaaGreatDoor
open Go.RowKit
set_option linter.unusedSimpArgs false
set_option linter.unusedVariables false
set_option maxRecDepth 100000
theorem secTo_succ (X : List Hdg) (k : Nat) : secTo X (k + 1) = secTo X k ++ [secOne X k] := by simp [secTo, List.range_succ]
/-- What stands in memory: the sections told by now, the anchors had. -/
structure RsSt (w1 wr : World) (ov hv : Value) (X : List Hdg) (k : Nat) : Prop where
  out : wr.ownsRow w1.heap.size 52 4 ov k (flt scC (secTo X k))
  had : wr.ownsRow w1.heap.size 9 1 hv k (strs (ancL ((X.take k).map hdT)))
  bel : Below w1.heap.size w1 wr
def RscRel (X : List Hdg) (w1 : World) (ov hv i : Value) (wr : World) : Prop :=
  ∃ (k : Nat) (o h : Value), o = ov ∧ h = hv ∧ i = .int .i64 k ∧ k ≤ X.length ∧ RsSt w1 wr o h X k
set_option maxHeartbeats 8000000 in
theorem refSections_any (A0 A1 : Option Addr) (c0 c1 : Nat) (X : List Hdg) (w : World) (r0 : RowOf w A0 c0 ((X.map Hdg.lv).map (Value.int .i64))) (r1 : RowOf w A1 c1 (strs (X.map hdT))) (hl : X.length ≤ 60) (hx : ∀ x ∈ X, x.tx.size ≤ 1000) (hT : Tabs w) :
    Calls Tryz.prog 14 #[.slice A0 X.length c0, .slice A1 X.length c1] w fun e w' => ∃ v, e = .returned v ∧ w'.ownsRow w.heap.size 52 4 v X.length (flt scC (secL X)) ∧ Below w.heap.size w w' := by
  obtain ⟨i0, hi, hz0, hz1, hz2⟩ := info_parts infoSec
  have hle : X.length ≤ c0 := by have := r0.1; simpa using this
  have hle1 : X.length ≤ c1 := by have := r1.1; rw [strs_length, List.length_map] at this; exact this
  have hcap := r0.2.1
  have hcap1 := r1.2.1
  unfold maxLen at hcap hcap1
  have cn := refNumbers_any A0 c0 (X.map Hdg.lv) w r0 (by rw [List.length_map]; omega)
  rw [List.length_map] at cn
  have CN := Lib.hid cn
  have R0 := Lib.hid r0
  have R1 := Lib.hid r1
  have HX := Lib.hid hx
  have HT := Lib.hid hT
  clear r0 r1 cn hx hT
  go_enter Tryz.func14, Tryz.ntmps14
  go_wp2_with fail
  refine CN.out.mono ?_
  rintro e w1 ⟨v1, rfl, hv1, b1⟩
  have HB1 := Lib.hid b1
  have hs1 := b1.size
  obtain ⟨An, cn, rfl, hrn, _⟩ := RowOf.own hv1
  have hlen := hrn.1
  have hcpn := hrn.2.1
  rw [strs_length, allN_len, List.length_map] at hlen
  unfold maxLen at hcpn
  have HRN := Lib.hid hrn
  have R0' := Lib.hid (R0.out.below b1)
  have R1' := Lib.hid (R1.out.below b1)
  have HT' := Lib.hid (HT.out.below b1)
  clear hv1 hrn b1 R0 R1 HT CN
  go_wp2_with fail
  go_loopw [5, 6, 8] (fun ov hv i wr => RscRel X w1 ov hv i wr) (fun _ _ i _ => X.length - (intOf i).toNat)
  case atStart => exact ⟨0, _, _, rfl, rfl, rfl, Nat.zero_le _, World.ownsRow_nil _ _ _ _, World.ownsRow_nil _ _ _ _, Below.refl _ _⟩
  case round =>
    obtain ⟨k, ov, hv, rfl, rfl, rfl, hk, hst⟩ := hrel
    by_cases hp : k < X.length
    · have hbw := hst.bel
      have hnl : k < (allN (X.map Hdg.lv)).length := by rw [allN_len, List.length_map]; exact hp
      obtain ⟨b0, o0, hA0, hb0, hc0⟩ := R0'.out.at (by intro e; rw [List.map_eq_nil_iff, List.map_eq_nil_iff] at e; rw [e] at hp; simp at hp)
      obtain ⟨b1, o1, hA1, hb1, hc1⟩ := RowOf.cellAt R1'.out (k := k) (by rw [List.length_map]; exact hp)
      obtain ⟨bn, on, hAn, hbn, hcn⟩ := RowOf.cellAt HRN.out hnl
      subst hA0 hA1 hAn
      have hs := hbw.size
      have d0 : wr.cell? ⟨b0, o0 + k, none⟩ = some (.int .i64 X[k].lv) := by
        have := (hbw.cell (p := ⟨b0, o0 + k, none⟩) hb0).trans (hc0 k (by simpa using hp))
        simpa using this
      have d1 : wr.cell? ⟨b1, o1 + k, none⟩ = some (.string X[k].tx) := by
        have := (hbw.cell (p := ⟨b1, o1 + k, none⟩) hb1).trans hc1
        rw [List.getElem_map] at this
        rw [this]
        exact congrArg (fun s => some (Value.string s)) (Lib.mk_data _)
      have d2 := (hbw.cell (p := ⟨bn, on + k, none⟩) hbn).trans hcn
      have hso := secOne_at X k hp hnl
      have han := anc_take X k hp
      have hxs := HX.out X[k] (List.getElem_mem hp)
      have hal : (ancL ((X.take k).map hdT)).length = k := by rw [ancL_len, List.length_map, List.length_take]; omega
      have hsec := secTo_succ X k
      rw [hso] at hsec
      generalize (allN (X.map Hdg.lv))[k] = nu at *
      have hhad := hst.had
      obtain ⟨Ah, ch, rfl, hrh, _⟩ := RowOf.own hhad
      have cA := refAnchor_any Ah ch (ancL ((X.take k).map hdT)) X[k].tx wr (by exact hrh) (by omega) (by omega) (HT'.out.below hbw)
      rw [hal] at cA
      change Calls _ _ _ _ (fun e w' => e = .returned (.string ⟨(slNext (ancL ((X.take k).map hdT)) (hdT X[k])).toArray⟩) ∧ _) at cA
      generalize hhd : ancL ((X.take k).map hdT) = had at *
      generalize slNext had (hdT X[k]) = nx at *
      have hpt : X[k].tx = ⟨(hdT X[k]).toArray⟩ := (Lib.mk_data _).symm
      generalize hdT X[k] = ht at *
      rw [hpt] at cA d1 hxs
      generalize X[k].lv = lv at *
      have CA := Lib.hid cA
      have HOUT := Lib.hid hst.out
      have HHAD := Lib.hid hhad
      have HBW := Lib.hid hbw
      have HD := Lib.hid (And.intro d0 (And.intro d2 d1))
      have HSEC := Lib.hid hsec
      have HAN := Lib.hid han
      have hbs : b0 < wr.heap.size ∧ b1 < wr.heap.size ∧ bn < wr.heap.size := by omega
      obtain ⟨hb0', hb1', hbn'⟩ := hbs
      clear hst hbw cA d0 d2 hso hsec han hrh hc0 hc1 hcn hxs hhad hnl hhd hpt
      go_wp2_with fail
      refine CA.out.mono ?_
      rintro e w2 ⟨rfl, b2⟩
      have hs2 := b2.size
      obtain ⟨d0, d2, d1⟩ := HD.out
      have bL := (Below.refl w2.heap.size w2).alloc (Nat.le_refl _) (.cells (strs [nx]).toArray 9)
      have b3 := b2.then bL
      have HHAD3 := Lib.hid (ownsRow_below HHAD.out b3)
      have HOUT3 := Lib.hid (ownsRow_below HOUT.out b3)
      have HB3 := Lib.hid (HBW.out.then b3)
      have HD3 := Lib.hid (And.intro ((b3.cell (p := ⟨b0, o0 + k, none⟩) hb0').trans d0) (And.intro ((b3.cell (p := ⟨bn, on + k, none⟩) hbn').trans d2) ((b3.cell (p := ⟨b1, o1 + k, none⟩) hb1').trans d1)))
      have HLit := Lib.hid (rowOf_lit w2 9 (strs [nx]) (by show (1 : Nat) ≤ maxLen; decide))
      clear d0 d1 d2 bL b2 b3 HD HHAD HOUT
      go_wp2_with (at_builtin; refine append_strs rfl _ _ rfl w1.heap.size (.slice Ah k ch) had (by rfl) (by rw [hal]; exact HHAD3.out) (some ⟨w2.heap.size, 0, none⟩) 1 [nx] rfl HLit.out (fun h => by cases h) (by rw [hal]; simp; omega) HB3.out.size ?_)
      intro v4 w4 hown4 hgr4
      have hown4' : w4.ownsRow w1.heap.size 9 1 v4 (k + 1) (strs (ancL ((X.take (k + 1)).map hdT))) := by
        rw [HAN.out]
        (try rw [List.length_append, hal] at hown4)
        exact hown4
      have hltb : ∀ g, (Value.slice Ah k ch).ownBlock = some g → w1.heap.size ≤ g := fun g hg => (HHAD3.out.lt g hg).1
      have HB4 := Lib.hid (HB3.out.trans (below_of_grown hgr4 hltb HB3.out.size))
      have HOUT4 := Lib.hid (HOUT3.out.kept hgr4 (own_apart HOUT3.out HHAD3.out (by decide)).ne)
      have HHAD4 := Lib.hid hown4'
      have HD4 := Lib.hid (show w4.drew.cell? ⟨b0, o0 + k, none⟩ = some (.int .i64 lv) ∧ w4.drew.cell? ⟨bn, on + k, none⟩ = some (.string ⟨nu.toArray⟩) ∧ w4.drew.cell? ⟨b1, o1 + k, none⟩ = some (.string ⟨ht.toArray⟩) from by
        obtain ⟨d0, d2, d1⟩ := HD3.out
        have bq := below_of_grown (B := w1.heap.size) hgr4 hltb HB3.out.size
        exact ⟨(bq.cell (p := ⟨b0, o0 + k, none⟩) hb0).trans d0, (bq.cell (p := ⟨bn, on + k, none⟩) hbn).trans d2, (bq.cell (p := ⟨b1, o1 + k, none⟩) hb1).trans d1⟩)
      clear hown4 hgr4 hown4' hltb HD3 HHAD3 HOUT3 HB3 HLit
      go_wp2_with fail
      refine wp_region_N (fun W => W.cell? ⟨b0, o0 + k, none⟩ = some (.int .i64 lv) ∧ W.cell? ⟨bn, on + k, none⟩ = some (.string ⟨nu.toArray⟩) ∧ W.cell? ⟨b1, o1 + k, none⟩ = some (.string ⟨ht.toArray⟩)) (fun n => decide (n < 16)) (by kernel_rfl) ?_
      have HS := Lib.hid HD4.out
      have HOD := Lib.hid (own_heap (w := w4) (w' := w4.drew) rfl HOUT4.out)
      have HHD := Lib.hid (own_heap (w := w4) (w' := w4.drew) rfl HHAD4.out)
      have HBD := Lib.hid (HB4.out.drew)
      clear HD4 HOUT4 HHAD4 HB4
      generalize w4.drew = wd at *
      refine wpAnyN_take_at 0 28 (v := ?_) rfl rfl (by kernel_rfl) (by kernel_rfl) (by kernel_rfl) (by kernel_rfl) (by kernel_rfl) (fun _ _ _ h => h) (by rfl) ?_ HS.out ?_
      rotate_left
      · intro W hSw; (try dsimp only at hSw); obtain ⟨p0, p1, p2⟩ := hSw; go_simp; (try with_reducible rfl)
      simp only [Act.put, List.setIfInBounds_toArray, List.set_cons_zero, List.set_cons_succ]
      refine wpAnyN_take_at 1 29 (v := ?_) rfl rfl (by kernel_rfl) (by kernel_rfl) (by kernel_rfl) (by kernel_rfl) (by kernel_rfl) (fun _ _ _ h => h) (by rfl) ?_ HS.out ?_
      rotate_left
      · intro W hSw; (try dsimp only at hSw); obtain ⟨p0, p1, p2⟩ := hSw; go_simp; (try with_reducible rfl)
      simp only [Act.put, List.setIfInBounds_toArray, List.set_cons_zero, List.set_cons_succ]
      refine wpAnyN_take_at 2 30 (v := ?_) rfl rfl (by kernel_rfl) (by kernel_rfl) (by kernel_rfl) (by kernel_rfl) (by kernel_rfl) (fun _ _ _ h => h) (by rfl) ?_ HS.out ?_
      rotate_left
      · intro W hSw; (try dsimp only at hSw); obtain ⟨p0, p1, p2⟩ := hSw; go_simp; (try with_reducible rfl)
      simp only [Act.put, List.setIfInBounds_toArray, List.set_cons_zero, List.set_cons_succ]
      refine wpAnyN_take_at 3 31 (v := ?_) rfl rfl (by kernel_rfl) (by kernel_rfl) (by kernel_rfl) (by kernel_rfl) (by kernel_rfl) (fun _ _ _ h => h) (by rfl) ?_ HS.out ?_
      rotate_left
      · intro W hSw; (try dsimp only at hSw); obtain ⟨p0, p1, p2⟩ := hSw; go_simp; (try with_reducible rfl)
      simp only [Act.put, List.setIfInBounds_toArray, List.set_cons_zero, List.set_cons_succ]
      refine wpAnyN_take_at 4 32 (v := ?_) rfl rfl (by kernel_rfl) (by kernel_rfl) (by kernel_rfl) (by kernel_rfl) (by kernel_rfl) (fun _ _ _ h => h) (by rfl) ?_ HS.out ?_
      rotate_left
      · intro W hSw; (try dsimp only at hSw); obtain ⟨p0, p1, p2⟩ := hSw; go_simp; (try with_reducible rfl)
      simp only [Act.put, List.setIfInBounds_toArray, List.set_cons_zero, List.set_cons_succ]
      refine wpAnyN_take_at 5 33 (v := ?_) rfl rfl (by kernel_rfl) (by kernel_rfl) (by kernel_rfl) (by kernel_rfl) (by kernel_rfl) (fun _ _ _ h => h) (by rfl) ?_ HS.out ?_
      rotate_left
      · intro W hSw; (try dsimp only at hSw); obtain ⟨p0, p1, p2⟩ := hSw; go_simp; (try with_reducible rfl)
      simp only [Act.put, List.setIfInBounds_toArray, List.set_cons_zero, List.set_cons_succ]
      refine wpAnyN_take_at 6 34 (v := ?_) rfl rfl (by kernel_rfl) (by kernel_rfl) (by kernel_rfl) (by kernel_rfl) (by kernel_rfl) (fun _ _ _ h => h) (by rfl) ?_ HS.out ?_
      rotate_left
      · intro W hSw; (try dsimp only at hSw); obtain ⟨p0, p1, p2⟩ := hSw; go_simp; (try with_reducible rfl)
      simp only [Act.put, List.setIfInBounds_toArray, List.set_cons_zero, List.set_cons_succ]
      refine wpAnyN_take_at 7 35 (v := ?_) rfl rfl (by kernel_rfl) (by kernel_rfl) (by kernel_rfl) (by kernel_rfl) (by kernel_rfl) (fun _ _ _ h => h) (by rfl) ?_ HS.out ?_
      rotate_left
      · intro W hSw; (try dsimp only at hSw); obtain ⟨p0, p1, p2⟩ := hSw; go_simp; (try with_reducible rfl)
      simp only [Act.put, List.setIfInBounds_toArray, List.set_cons_zero, List.set_cons_succ]
      refine wpAnyN_take_at 8 36 (v := ?_) rfl rfl (by kernel_rfl) (by kernel_rfl) (by kernel_rfl) (by kernel_rfl) (by kernel_rfl) (fun _ _ _ h => h) (by rfl) ?_ HS.out ?_
      rotate_left
      · intro W hSw; (try dsimp only at hSw); obtain ⟨p0, p1, p2⟩ := hSw; go_simp; (try with_reducible rfl)
      simp only [Act.put, List.setIfInBounds_toArray, List.set_cons_zero, List.set_cons_succ]
      refine wpAnyN_take_at 9 37 (v := ?_) rfl rfl (by kernel_rfl) (by kernel_rfl) (by kernel_rfl) (by kernel_rfl) (by kernel_rfl) (fun _ _ _ h => h) (by rfl) ?_ HS.out ?_
      rotate_left
      · intro W hSw; (try dsimp only at hSw); obtain ⟨p0, p1, p2⟩ := hSw; go_simp; (try with_reducible rfl)
      simp only [Act.put, List.setIfInBounds_toArray, List.set_cons_zero, List.set_cons_succ]
      refine wpAnyN_take_at 10 38 (v := ?_) rfl rfl (by kernel_rfl) (by kernel_rfl) (by kernel_rfl) (by kernel_rfl) (by kernel_rfl) (fun _ _ _ h => h) (by rfl) ?_ HS.out ?_
      rotate_left
      · intro W hSw; (try dsimp only at hSw); obtain ⟨p0, p1, p2⟩ := hSw; go_simp; (try with_reducible rfl)
      simp only [Act.put, List.setIfInBounds_toArray, List.set_cons_zero, List.set_cons_succ]
      refine wpAnyN_take_at 11 39 (v := ?_) rfl rfl (by kernel_rfl) (by kernel_rfl) (by kernel_rfl) (by kernel_rfl) (by kernel_rfl) (fun _ _ _ h => h) (by rfl) ?_ HS.out ?_
      rotate_left
      · intro W hSw; (try dsimp only at hSw); obtain ⟨p0, p1, p2⟩ := hSw; go_simp; (try with_reducible rfl)
      simp only [Act.put, List.setIfInBounds_toArray, List.set_cons_zero, List.set_cons_succ]
      refine wpAnyN_take_at 12 40 (v := ?_) rfl rfl (by kernel_rfl) (by kernel_rfl) (by kernel_rfl) (by kernel_rfl) (by kernel_rfl) (fun _ _ _ h => h) (by rfl) ?_ HS.out ?_
      rotate_left
      · intro W hSw; (try dsimp only at hSw); obtain ⟨p0, p1, p2⟩ := hSw; go_simp; (try with_reducible rfl)
      simp only [Act.put, List.setIfInBounds_toArray, List.set_cons_zero, List.set_cons_succ]
      refine wpAnyN_take_at 13 41 (v := ?_) rfl rfl (by kernel_rfl) (by kernel_rfl) (by kernel_rfl) (by kernel_rfl) (by kernel_rfl) (fun _ _ _ h => h) (by rfl) ?_ HS.out ?_
      rotate_left
      · intro W hSw; (try dsimp only at hSw); obtain ⟨p0, p1, p2⟩ := hSw; go_simp; (try with_reducible rfl)
      simp only [Act.put, List.setIfInBounds_toArray, List.set_cons_zero, List.set_cons_succ]
      refine wpAnyN_take_at 14 42 (v := ?_) rfl rfl (by kernel_rfl) (by kernel_rfl) (by kernel_rfl) (by kernel_rfl) (by kernel_rfl) (fun _ _ _ h => h) (by rfl) ?_ HS.out ?_
      rotate_left
      · intro W hSw; (try dsimp only at hSw); obtain ⟨p0, p1, p2⟩ := hSw; go_simp; (try with_reducible rfl)
      simp only [Act.put, List.setIfInBounds_toArray, List.set_cons_zero, List.set_cons_succ]
      have bL := (Below.refl wd.heap.size wd).alloc (Nat.le_refl _) (.cells #[.int .i64 lv, .string ⟨nu.toArray⟩, .string ⟨nx.toArray⟩, .string ⟨ht.toArray⟩] 52)
      have hsd := HBD.out.size
      have HS5 := Lib.hid (show (wd.alloc (.cells #[.int .i64 lv, .string ⟨nu.toArray⟩, .string ⟨nx.toArray⟩, .string ⟨ht.toArray⟩] 52)).cell? ⟨b0, o0 + k, none⟩ = some (.int .i64 lv) ∧ (wd.alloc (.cells #[.int .i64 lv, .string ⟨nu.toArray⟩, .string ⟨nx.toArray⟩, .string ⟨ht.toArray⟩] 52)).cell? ⟨bn, on + k, none⟩ = some (.string ⟨nu.toArray⟩) ∧ (wd.alloc (.cells #[.int .i64 lv, .string ⟨nu.toArray⟩, .string ⟨nx.toArray⟩, .string ⟨ht.toArray⟩] 52)).cell? ⟨b1, o1 + k, none⟩ = some (.string ⟨ht.toArray⟩) from
        ⟨(bL.cell (p := ⟨b0, o0 + k, none⟩) (by show b0 < _; omega)).trans HS.out.1, (bL.cell (p := ⟨bn, on + k, none⟩) (by show bn < _; omega)).trans HS.out.2.1, (bL.cell (p := ⟨b1, o1 + k, none⟩) (by show b1 < _; omega)).trans HS.out.2.2⟩)
      have hnc := elt_cells wd (scC ⟨lv, nu, nx, ht⟩) 52
      have HA5 := Lib.hid (HOD.out.alloc (.cells (scC ⟨lv, nu, nx, ht⟩).toArray 52))
      have HH5 := Lib.hid (HHD.out.alloc (.cells (scC ⟨lv, nu, nx, ht⟩).toArray 52))
      have HB5 := Lib.hid (HBD.out.then bL)
      clear bL
      refine wpAnyN_one (i := 15) rfl (by kernel_rfl) (fun K hK => ?_)
      go_simp
      refine hK _ _ (fun _ => HS5.out) ?_
      clear hK HS HS5 HOD HHD HBD
      (try simp only [Act.put, List.setIfInBounds_toArray, List.set_cons_zero, List.set_cons_succ])
      refine wpAnyN_rest 16 [_, _] rfl (by kernel_rfl) (by kernel_rfl) ?_
      go_wp2_with (at_builtin; refine wpList_append_own _ rfl _ _ 42 rfl w1.heap.size 52 i0 (.agg #[.int .i64 0, .string ByteArray.empty, .string ByteArray.empty, .string ByteArray.empty]) 4 56 Tryz.underlying42 hi hz0 hz1 hz2 rfl (by decide) _ k (flt scC (secTo X k)) rfl HA5.out ⟨wd.heap.size, 0, none⟩ 1 1 (scC ⟨lv, nu, nx, ht⟩) rfl rfl hnc (scC_one _) (by unfold maxLen; omega) (by omega) HB5.out.size ?_)
      intro v6 w6 hown6 hgr6 _
      have hown6' : w6.ownsRow w1.heap.size 52 4 v6 (k + 1) (flt scC (secTo X (k + 1))) := by
        rw [HSEC.out, flt_append, flt_one]
        exact hown6
      have HB6 := Lib.hid (HB5.out.trans (below_of_grown hgr6 (fun g hg => (HA5.out.lt g hg).1) HB5.out.size))
      have HH6 := Lib.hid (HH5.out.kept hgr6 (own_apart HH5.out HA5.out (by decide)).ne)
      have HO6 := Lib.hid hown6'
      clear hown6 hown6' hgr6 hnc
      go_wp2
      go_roundw
      case rel => exact ⟨k + 1, _, _, rfl, rfl, by go_num, by omega, HO6.out, HH6.out, HB6.out⟩
      case measure => simp [intOf]; omega
    · obtain rfl : k = X.length := by omega
      have HO := Lib.hid (own_low hst.out hs1)
      have HB := Lib.hid (HB1.out.then hst.bel)
      clear hst
      go_wp2
      go_ret
      exact ⟨_, rfl, HO.out, HB.out⟩
end Go.Proofs.YtpifhjdbcdcelaaGreatDoor

namespace Go.Proofs.YtpifhjdbcdcelaaGreatDoor
open Go.RowKit
set_option linter.unusedSimpArgs false
set_option linter.unusedVariables false
set_option maxRecDepth 100000
theorem run_append_noneR {w : World} (base : Nat) (t ty e : TypeId) (i : TypeInfo) (size c : Nat) (ht : Tryz.prog.underlying t = some (.slice e)) (hi : Tryz.prog.info? e = some i)
    (v : Value) (n : Nat) (xs : List Value) (hown : w.ownsRow base e size v n xs) : (Builtin.append_ #[t, t] ty #[v, .slice none 0 c]).run Tryz.prog w = .ok v w := by
  obtain ⟨hl, h⟩ := hown
  rcases h with ⟨rfl, rfl⟩ | ⟨g, cap, cur, rfl, hb, hg, hnc, hcm, hcs, htk⟩
  · simp [Builtin.append_, run_underlying ht, sizeOf, typeInfo, hi, Builtin.lenOf, Builtin.firstCells, storeCells]
  · simp [Builtin.append_, run_underlying ht, sizeOf, typeInfo, hi, Builtin.lenOf, Builtin.firstCells, hnc, storeCells]
/-- One operation: a row of one-celled elements, nil or not, behind one of the call's own. -/
theorem wp_append_row {w : World} {o : Oper} {a : Act} {K : Act → World → Prop} {Q : Exit → Act → World → Prop} (s x : Operand) (t : TypeId)
    (ho : o.op = .call { callee := .builtin .append, args := #[s, x], argTypes := #[t, t] }) (base : Nat) (e : TypeId) (i : TypeInfo) (z : Value) (bytes : Nat)
    (ht : Tryz.prog.underlying t = some (.slice e)) (hi : Tryz.prog.info? e = some i) (hz : i.zero = some z) (hsize : i.size = 1) (hby : i.bytes = bytes) (hzs : z.cells.size = 1)
    (v : Value) (n : Nat) (xs : List Value) (hs : a.eval s = v) (hown : w.ownsRow base e 1 v n xs) (A : Option Addr) (m c : Nat) (news : List Value) (hx : a.eval x = .slice A m c) (hm : news.length = m) (hrow : RowOf w A c news) (h1 : ∀ u ∈ news, u.oneCell' = true)
    (h63 : n + m ≤ maxLen) (hbytes : (n + m) * bytes ≤ 140737488355328) (hbase : base ≤ w.heap.size)
    (h : ∀ v' w', w'.ownsRow base e 1 v' (n + m) (xs ++ news) → w.grownBy w' v.ownBlock → K (a.put o.dst v') w') : o.wp Tryz.prog a w K Q := by
  cases A with
  | none =>
    obtain rfl : news = [] := by
      rcases hrow.2.2 with h | ⟨b, off, e, _⟩
      · exact h
      · cases e
    have hrun := run_append_noneR (w := w) base t o.type e i 1 c ht hi v n xs hown
    subst hm
    unfold Oper.wp
    rw [List.length_nil] at hx
    simp [execOp, ho, resolve, invoke, builtin, hs, hx, hrun, Result.andThen]
    exact h v w (by simpa using hown) ⟨rfl, rfl, rfl, Nat.le_refl _, fun _ _ _ => rfl⟩
  | some ad =>
    refine wp_append_own w s x t ho base e i z 1 bytes ht hi hz hsize hby hzs (by decide) v n xs hs hown ad m c news hx (by rw [Nat.mul_one]; exact hm) hrow.cells h1 h63 hbytes hbase ?_
    intro v' w' h2 h3 _
    exact h v' w' h2 h3
end Go.Proofs.YtpifhjdbcdcelaaGreatDoor

namespace Go.Proofs.YtpifhjdbcdcelaaGreatDoor
open Go.RowKit
set_option linter.unusedSimpArgs false
set_option linter.unusedVariables false
set_option maxRecDepth 100000
theorem ints_len (l : List Int) : (ints l).length = l.length := by simp [ints]
theorem ints_one' (l : List Int) : ∀ u ∈ ints l, u.oneCell' = true := by
  intro u hu
  obtain ⟨x, _, rfl⟩ := List.mem_map.1 hu
  rfl
theorem ints_at {w : World} {A : Option Addr} {cap : Nat} {l : List Int} (h : RowOf w A cap (ints l)) {k : Nat} (hk : k < l.length) :
    ∃ b off, A = some ⟨b, off, none⟩ ∧ b < w.heap.size ∧ w.cell? ⟨b, off + k, none⟩ = some (.int .i64 l[k]) := by
  obtain ⟨b, off, e, hb, hc⟩ := h.at (by intro e; have := congrArg List.length e; rw [ints_len, List.length_nil] at this; omega)
  have := hc k (by rw [ints_len]; exact hk)
  exact ⟨b, off, e, hb, by rw [this]; simp [ints]⟩
def SiiRel (la : List Int) (w : World) (i : Value) (wr : World) : Prop := ∃ k n : Nat, i = .int .i64 k ∧ k ≤ la.length ∧ wr = w.drewN n
set_option maxHeartbeats 2000000 in
theorem sameInts_same (A B : Option Addr) (ca cb : Nat) (la : List Int) (w : World) (ha : RowOf w A ca (ints la)) (hb : RowOf w B cb (ints la)) :
    Calls Tryz.prog 24 #[.slice A la.length ca, .slice B la.length cb] w (QuietBool w true) := by
  have ha1 := ha.1
  have ha2 := ha.2.1
  have hb1 := hb.1
  have hb2 := hb.2.1
  rw [ints_len] at ha1 hb1
  unfold maxLen at ha2 hb2
  have HA := Lib.hid ha
  have HB := Lib.hid hb
  clear ha hb
  go_enter Tryz.func24, Tryz.ntmps24
  go_wp2_with fail
  go_loopw [5] (fun i wr => SiiRel la w i wr) (fun i wr => la.length - (intOf i).toNat)
  case atStart => exact ⟨0, 0, rfl, Nat.zero_le _, rfl⟩
  case round =>
    obtain ⟨k, n, rfl, hk, rfl⟩ := hrel
    by_cases hp : k < la.length
    · obtain ⟨b1, o1, rfl, hl1, hc1⟩ := ints_at HA.out hp
      obtain ⟨b2, o2, rfl, hl2, hc2⟩ := ints_at HB.out hp
      generalize la[k] = x at *
      go_wp2_with fail
      go_quiet (fail)
      go_wp2
      exact ⟨⟨k + 1, _, by go_num, by omega, rfl⟩, by simp [intOf]; omega⟩
    · obtain rfl : k = la.length := by omega
      go_wp2
      go_ret
      exact ⟨rfl, _, rfl⟩
set_option maxHeartbeats 1000000 in
theorem lentInts_any (A : Option Addr) (cap : Nat) (ls : List Int) (w : World) (hrow : RowOf w A cap (ints ls)) (hn : ls.length ≤ 100000) :
    Calls Tryz.prog 5 #[.slice A ls.length cap] w fun e w' => ∃ g c, e = .returned (.slice (some ⟨g, 0, none⟩) ls.length c) ∧
      w'.ownsRow w.heap.size 3 1 (.slice (some ⟨g, 0, none⟩) (ls.length + 1) c) (ls.length + 1) (ints (ls ++ [-77])) ∧ Below w.heap.size w w' := by
  obtain ⟨i0, hi, hz0, hz1, hz2⟩ := info_parts infoInt1
  have cc : Calls Tryz.prog 16 #[.slice A ls.length cap] w fun e w' => ∃ v, e = .returned v ∧ w'.ownsRow w.heap.size 3 1 v ls.length (ints ls) ∧ Below w.heap.size w w' := by
    have HR := Lib.hid hrow
    clear hrow
    go_enter Tryz.func16, Tryz.ntmps16
    go_wp2_with (at_builtin; refine wpList_plain rfl fun K hK => ?_; refine wp_append_row _ _ 22 rfl w.heap.size 3 i0 (.int .i64 0) 8 Tryz.underlying22 hi hz0 hz1 hz2 rfl (.slice none 0 0) 0 [] rfl (World.ownsRow_nil _ _ _ _) A ls.length cap (ints ls) rfl (ints_len _) HR.out (ints_one' _) (by unfold maxLen; omega) (by omega) (Nat.le_refl _) ?_)
    intro v' w' hown' hgrow
    have hb := (Below.refl w.heap.size w).grown hgrow (Nat.le_refl _) (fun k hk => by simp [Value.ownBlock] at hk)
    have HO := Lib.hid hown'
    refine hK _ _ ?_
    clear hown' hgrow hK
    go_wp2
    go_ret
    exact ⟨_, rfl, HO.out, hb⟩
  have CC := Lib.hid cc
  clear cc hrow
  go_enter Tryz.func5, Tryz.ntmps5
  go_wp2_with fail
  refine CC.out.mono ?_
  rintro e w1 ⟨v, rfl, hown, b1⟩
  obtain ⟨A1, c1, rfl, _, _⟩ := RowOf.own hown
  have hs1 := b1.size
  go_wp2_with (at_builtin; refine wpList_append_lies _ rfl _ _ 22 rfl w.heap.size 3 i0 (.int .i64 0) 1 8 Tryz.underlying22 hi hz0 hz1 hz2 rfl (by decide) _ _ _ rfl (hown.alloc _) ⟨w1.heap.size, 0, none⟩ 1 1 [.int .i64 (-77)] rfl rfl ?c1 ?c2 (by omega) ?c3 ?c4 ?c5 _ rfl ?_)
  case c1 =>
    intro j x hj
    match j, hj with
    | 0, hj =>
      simp at hj
      subst hj
      rw [addr_add, cell_of_row _ _ 0 _ _ (0, 0) (heap_alloc_new w1 _)]
      rfl
  case c2 => intro u hu; simp at hu; subst hu; rfl
  case c3 => unfold maxLen; omega
  case c4 => omega
  case c5 => simp; omega
  · intro g cap1 w2 hown2 hgrow hat hlt
    have hbw := ((b1.alloc (by omega) (.cells #[.int .i64 (-77)] 3)).grown hgrow (by simp; omega) (fun k hk => (hown.lt k hk).1))
    have hcap : (ls.length : Int) ≤ cap1 := by
      obtain ⟨A2, c2, e2, hr2, _⟩ := RowOf.own hown2
      cases e2
      have := hr2.1
      simp [ints] at this
      omega
    have HO := Lib.hid (show w2.ownsRow w.heap.size 3 1 (.slice (some ⟨g, 0, none⟩) (ls.length + 1) cap1) (ls.length + 1) (ints (ls ++ [-77])) from by rw [show ints (ls ++ [-77]) = ints ls ++ [.int .i64 (-77)] from by simp [ints]]; exact hown2)
    clear hown2 hgrow hat hown
    go_wp2
    go_ret
    exact ⟨g, cap1, rfl, HO.out, hbw⟩
set_option maxHeartbeats 1000000 in
theorem staysInts_any (g c : Nat) (B : Option Addr) (cb : Nat) (ls : List Int) (w : World) (hr1 : RowOf w (some ⟨g, 0, none⟩) c (ints (ls ++ [-77]))) (hr2 : RowOf w B cb (ints ls)) (hn : ls.length ≤ 100000) :
    Calls Tryz.prog 12 #[.slice (some ⟨g, 0, none⟩) ls.length c, .slice B ls.length cb] w (QuietBool w true) := by
  have hr3 := hr1.take ls.length
  rw [show (ints (ls ++ [-77])).take ls.length = ints ls from by simp [ints]] at hr3
  have cs := sameInts_same (some ⟨g, 0, none⟩) B c cb ls w hr3 hr2
  have hc1 := hr1.1
  have hc2 := hr1.2.1
  rw [ints_len, List.length_append] at hc1
  simp only [List.length_cons, List.length_nil] at hc1
  unfold maxLen at hc2
  obtain ⟨b, off, e, hb, hcell⟩ := ints_at hr1 (k := ls.length) (by simp)
  cases e
  have hcell2 : w.cell? ⟨g, ls.length, none⟩ = some (.int .i64 (-77)) := by
    rw [Nat.zero_add] at hcell
    rw [hcell]
    simp
  have CS := Lib.hid cs
  clear cs hcell
  have hk1 : (ls.length : Int) + 1 ≤ c := by omega
  go_enter Tryz.func12, Tryz.ntmps12
  go_wp2_with (go_at_call 24; refine CS.out.mono ?_; rintro e w' ⟨rfl, n, rfl⟩)
  go_ret
  exact ⟨rfl, _, rfl⟩
end Go.Proofs.YtpifhjdbcdcelaaGreatDoor

namespace Go.Proofs.YtpifhjdbcdcelaaGreatDoor
open Go.RowKit
set_option linter.unusedSimpArgs false
set_option linter.unusedVariables false
def nameN (i k : Int) : List Int := [109, 65 + i % 26, 65 + i / 26 % 26, 48 + k % 10, 48 + k / 10 % 10, 48 + k / 100 % 10]
def nameL (i k : Int) : List UInt8 := (nameN i k).map fun n => UInt8.ofNat n.toNat
set_option maxRecDepth 100000 in
theorem name_any (i k : Int) (w : World) (hi : 0 ≤ i) (hi2 : i ≤ 100000) (hk : 0 ≤ k) (hk2 : k ≤ 1000000000) :
    Calls Tryz.prog 89 #[.int .i64 i, .int .i64 k] w fun e w' => e = .returned (.string ⟨(nameL i k).toArray⟩) ∧ Below w.heap.size w w' := by
  have hconv := run_convert_bytes_arg (P := Tryz.prog) (w.alloc (.cells #[.int .u8 109, .int .u8 (65 + i % 26), .int .u8 (65 + i / 26 % 26), .int .u8 (48 + k % 10), .int .u8 (48 + k / 10 % 10), .int .u8 (48 + k / 100 % 10)] 5))
    85 5 Tryz.underlying85 Tryz.underlying5 w.heap.size 0 6 6 (nameN i k) rfl (fun j hj => by
      rw [Nat.zero_add, cell_of_row _ _ j _ 5 (0, 0) (heap_alloc_new w _)]
      match j, hj with
      | 0, _ => rfl
      | 1, _ => rfl
      | 2, _ => rfl
      | 3, _ => rfl
      | 4, _ => rfl
      | 5, _ => rfl
      | n + 6, h => omega) 9 Tryz.underlying9
  rw [show strOfNums (nameN i k) = ⟨(nameL i k).toArray⟩ from rfl] at hconv
  generalize nameL i k = X at *
  go_enter Tryz.func89, Tryz.ntmps89
  go_wp2
  go_ret
  exact ⟨rfl, (Below.refl _ w).alloc (Nat.le_refl _) _⟩
/-- The marks of list i from 'from' on. -/
def marks (i : Int) (from' n : Nat) : List (List UInt8) := (List.range n).map fun j => nameL i ((from' + j : Nat) : Int)
theorem marks_length (i : Int) (f n : Nat) : (marks i f n).length = n := by simp [marks]
theorem marks_succ (i : Int) (f n : Nat) : marks i f (n + 1) = marks i f n ++ [nameL i ((f + n : Nat) : Int)] := by simp [marks, List.range_succ]
theorem marks_add (i : Int) (a b : Nat) : marks i 0 a ++ marks i a b = marks i 0 (a + b) := by
  induction b with
  | zero => simp [marks]
  | succ b ih => rw [marks_succ, ← List.append_assoc, ih, ← Nat.add_assoc, marks_succ]; simp
def MarkRel (i : Int) (f n : Nat) (w : World) (v k : Value) (wr : World) : Prop :=
  ∃ j q : Nat, k = .int .i64 q ∧ q = f + j ∧ j ≤ n ∧ wr.ownsRow w.heap.size 9 1 v j (strs (marks i f j)) ∧ Below w.heap.size w wr
set_option maxHeartbeats 1000000 in
set_option maxRecDepth 100000 in
theorem markTexts_any (i : Int) (f n : Nat) (w : World) (hi : 0 ≤ i) (hi2 : i ≤ 100000) (hf : f ≤ 1000000) (hn : n ≤ 1000000) :
    Calls Tryz.prog 74 #[.int .i64 i, .int .i64 f, .int .i64 n] w fun e w' => ∃ v, e = .returned v ∧ w'.ownsRow w.heap.size 9 1 v n (strs (marks i f n)) ∧ Below w.heap.size w w' := by
  obtain ⟨i0, hi0, hz0, hz1, hz2⟩ := info_parts infoString
  go_enter Tryz.func74, Tryz.ntmps74
  go_wp2_with fail
  go_loopw [7, 8] (fun v k wr => MarkRel i f n w v k wr) (fun _ k _ => f + n - (intOf k).toNat)
  case atStart => exact ⟨0, f, rfl, rfl, Nat.zero_le _, World.ownsRow_nil _ _ _ _, Below.refl _ _⟩
  case round =>
    obtain ⟨j, q, rfl, hq, hj, hown, hbw⟩ := hrel
    have hsz := hbw.size
    have hq0 : f ≤ q := by omega
    have hq1 : q ≤ f + n := by omega
    by_cases hp : j < n
    · have HM := Lib.hid (show marks i f (j + 1) = marks i f j ++ [nameL i (q : Int)] from by rw [marks_succ, hq])
      have hcn := name_any i (q : Int) wr hi hi2 (by omega) (by omega)
      have hq2 : q < f + n := by omega
      have HQ := Lib.hid hq
      have hU := strs_append (marks i f j) [nameL i (q : Int)]
      rw [strs_one] at hU
      have HU := Lib.hid hU
      clear hU
      generalize nameL i (q : Int) = X at *
      clear hq
      go_wp2_with fail
      refine hcn.mono ?_
      rintro e w1 ⟨rfl, b1⟩
      have hown1 := ownsRow_below hown b1
      have hsz1 := b1.size
      go_wp2_with (at_builtin; refine wpList_append_own _ rfl _ _ 23 rfl w.heap.size 9 i0 (.string ByteArray.empty) 1 16 Tryz.underlying23 hi0 hz0 hz1 hz2 rfl (by decide) _ _ _ rfl (hown1.alloc _) ⟨w1.heap.size, 0, none⟩ 1 1 [.string ⟨X.toArray⟩] rfl rfl ?c1 ?c2 ?c3 ?c4 ?c5 ?_)
      case c1 =>
        intro j u hj
        match j, hj with
        | 0, hj => simp at hj; subst hj; simp [Addr.add]
      case c2 => intro u hu; simp at hu; subst hu; rfl
      case c3 => unfold maxLen; omega
      case c4 => omega
      case c5 => simp; omega
      · intro v' w2 hown' hgrow _
        have hbw3 := ((hbw.trans (b1.mono hsz)).alloc (by omega) _).grown hgrow (by simp; omega) (fun k hk => (hown1.lt k hk).1)
        rw [← HU.out] at hown'
        have HO := Lib.hid hown'
        clear hown' hgrow
        go_wp2
        go_roundw
        case rel => exact ⟨j + 1, q + 1, by go_num, by rw [HQ.out]; omega, by omega, by rw [HM.out]; exact HO.out, hbw3⟩
        case measure => simp [intOf]; omega
    · obtain rfl : j = n := by omega
      have hq3 : ¬ q < f + j := by omega
      clear hq
      go_wp2
      go_ret
      exact ⟨_, rfl, hown, hbw⟩
end Go.Proofs.YtpifhjdbcdcelaaGreatDoor

namespace Go.Proofs.YtpifhjdbcdcelaaGreatDoor
open Go.RowKit
set_option linter.unusedSimpArgs false
set_option linter.unusedVariables false
theorem stillInts_none (b : Nat) (w : World) (h : w.cell? ⟨b, 2, none⟩ = some (.slice none 0 0)) :
    Calls Tryz.prog 27 #[.pointer (some ⟨b, 0, none⟩)] w fun e w' => e = .returned (.bool true) ∧ w = w' := by
  go_enter Tryz.func27, Tryz.ntmps27
  go_wp2_with fail
  refine wp_loop_rounds 1 ?_
  rw [rounds_succ]
  go_wp2
  go_ret
  exact ⟨rfl, rfl⟩
theorem putInts_none (b : Nat) (w : World) (h : w.cell? ⟨b, 2, none⟩ = some (.slice none 0 0)) :
    Calls Tryz.prog 36 #[.pointer (some ⟨b, 0, none⟩)] w fun e w' => e = .returned (.tuple #[]) ∧ w = w' := by
  go_enter Tryz.func36, Tryz.ntmps36
  go_wp2_with fail
  refine wp_loop_rounds 1 ?_
  rw [rounds_succ]
  go_wp2
  go_end0
  exact ⟨rfl, rfl⟩
theorem growInts_none (b : Nat) (w : World) (h : w.cell? ⟨b, 2, none⟩ = some (.slice none 0 0)) :
    Calls Tryz.prog 43 #[.pointer (some ⟨b, 0, none⟩)] w fun e w' => e = .returned (.slice none 0 0) ∧ w = w' := by
  go_enter Tryz.func43, Tryz.ntmps43
  go_wp2_with fail
  refine wp_loop_rounds 1 ?_
  rw [rounds_succ]
  go_wp2
  go_ret
  exact ⟨rfl, rfl⟩
theorem markedInts_none (w : World) :
    Calls Tryz.prog 51 #[.slice none 0 0] w fun e w' => e = .returned (.bool true) ∧ w = w' := by
  go_enter Tryz.func51, Tryz.ntmps51
  go_wp2_with fail
  refine wp_loop_rounds 1 ?_
  rw [rounds_succ]
  go_wp2
  go_ret
  exact ⟨rfl, rfl⟩
theorem stillBlocks_none (b : Nat) (w : World) (h : w.cell? ⟨b, 4, none⟩ = some (.slice none 0 0)) :
    Calls Tryz.prog 28 #[.pointer (some ⟨b, 0, none⟩)] w fun e w' => e = .returned (.bool true) ∧ w = w' := by
  go_enter Tryz.func28, Tryz.ntmps28
  go_wp2_with fail
  refine wp_loop_rounds 1 ?_
  rw [rounds_succ]
  go_wp2
  go_ret
  exact ⟨rfl, rfl⟩
theorem putBlocks_none (b : Nat) (w : World) (h : w.cell? ⟨b, 4, none⟩ = some (.slice none 0 0)) :
    Calls Tryz.prog 37 #[.pointer (some ⟨b, 0, none⟩)] w fun e w' => e = .returned (.tuple #[]) ∧ w = w' := by
  go_enter Tryz.func37, Tryz.ntmps37
  go_wp2_with fail
  refine wp_loop_rounds 1 ?_
  rw [rounds_succ]
  go_wp2
  go_end0
  exact ⟨rfl, rfl⟩
theorem growBlocks_none (b : Nat) (w : World) (h : w.cell? ⟨b, 4, none⟩ = some (.slice none 0 0)) :
    Calls Tryz.prog 44 #[.pointer (some ⟨b, 0, none⟩)] w fun e w' => e = .returned (.slice none 0 0) ∧ w = w' := by
  go_enter Tryz.func44, Tryz.ntmps44
  go_wp2_with fail
  refine wp_loop_rounds 1 ?_
  rw [rounds_succ]
  go_wp2
  go_ret
  exact ⟨rfl, rfl⟩
theorem markedBlocks_none (w : World) :
    Calls Tryz.prog 52 #[.slice none 0 0] w fun e w' => e = .returned (.bool true) ∧ w = w' := by
  go_enter Tryz.func52, Tryz.ntmps52
  go_wp2_with fail
  refine wp_loop_rounds 1 ?_
  rw [rounds_succ]
  go_wp2
  go_ret
  exact ⟨rfl, rfl⟩
theorem stillInls_none (b : Nat) (w : World) (h : w.cell? ⟨b, 6, none⟩ = some (.slice none 0 0)) :
    Calls Tryz.prog 29 #[.pointer (some ⟨b, 0, none⟩)] w fun e w' => e = .returned (.bool true) ∧ w = w' := by
  go_enter Tryz.func29, Tryz.ntmps29
  go_wp2_with fail
  refine wp_loop_rounds 1 ?_
  rw [rounds_succ]
  go_wp2
  go_ret
  exact ⟨rfl, rfl⟩
theorem putInls_none (b : Nat) (w : World) (h : w.cell? ⟨b, 6, none⟩ = some (.slice none 0 0)) :
    Calls Tryz.prog 38 #[.pointer (some ⟨b, 0, none⟩)] w fun e w' => e = .returned (.tuple #[]) ∧ w = w' := by
  go_enter Tryz.func38, Tryz.ntmps38
  go_wp2_with fail
  refine wp_loop_rounds 1 ?_
  rw [rounds_succ]
  go_wp2
  go_end0
  exact ⟨rfl, rfl⟩
theorem growInls_none (b : Nat) (w : World) (h : w.cell? ⟨b, 6, none⟩ = some (.slice none 0 0)) :
    Calls Tryz.prog 45 #[.pointer (some ⟨b, 0, none⟩)] w fun e w' => e = .returned (.slice none 0 0) ∧ w = w' := by
  go_enter Tryz.func45, Tryz.ntmps45
  go_wp2_with fail
  refine wp_loop_rounds 1 ?_
  rw [rounds_succ]
  go_wp2
  go_ret
  exact ⟨rfl, rfl⟩
theorem markedInls_none (w : World) :
    Calls Tryz.prog 53 #[.slice none 0 0] w fun e w' => e = .returned (.bool true) ∧ w = w' := by
  go_enter Tryz.func53, Tryz.ntmps53
  go_wp2_with fail
  refine wp_loop_rounds 1 ?_
  rw [rounds_succ]
  go_wp2
  go_ret
  exact ⟨rfl, rfl⟩
theorem stillParts_none (b : Nat) (w : World) (h : w.cell? ⟨b, 8, none⟩ = some (.slice none 0 0)) :
    Calls Tryz.prog 30 #[.pointer (some ⟨b, 0, none⟩)] w fun e w' => e = .returned (.bool true) ∧ w = w' := by
  go_enter Tryz.func30, Tryz.ntmps30
  go_wp2_with fail
  refine wp_loop_rounds 1 ?_
  rw [rounds_succ]
  go_wp2
  go_ret
  exact ⟨rfl, rfl⟩
theorem putParts_none (b : Nat) (w : World) (h : w.cell? ⟨b, 8, none⟩ = some (.slice none 0 0)) :
    Calls Tryz.prog 34 #[.pointer (some ⟨b, 0, none⟩)] w fun e w' => e = .returned (.tuple #[]) ∧ w = w' := by
  go_enter Tryz.func34, Tryz.ntmps34
  go_wp2_with fail
  refine wp_loop_rounds 1 ?_
  rw [rounds_succ]
  go_wp2
  go_end0
  exact ⟨rfl, rfl⟩
theorem growParts_none (b : Nat) (w : World) (h : w.cell? ⟨b, 8, none⟩ = some (.slice none 0 0)) :
    Calls Tryz.prog 46 #[.pointer (some ⟨b, 0, none⟩)] w fun e w' => e = .returned (.slice none 0 0) ∧ w = w' := by
  go_enter Tryz.func46, Tryz.ntmps46
  go_wp2_with fail
  refine wp_loop_rounds 1 ?_
  rw [rounds_succ]
  go_wp2
  go_ret
  exact ⟨rfl, rfl⟩
theorem markedParts_none (w : World) :
    Calls Tryz.prog 54 #[.slice none 0 0] w fun e w' => e = .returned (.bool true) ∧ w = w' := by
  go_enter Tryz.func54, Tryz.ntmps54
  go_wp2_with fail
  refine wp_loop_rounds 1 ?_
  rw [rounds_succ]
  go_wp2
  go_ret
  exact ⟨rfl, rfl⟩
theorem stillDefs_none (b : Nat) (w : World) (h : w.cell? ⟨b, 10, none⟩ = some (.slice none 0 0)) :
    Calls Tryz.prog 31 #[.pointer (some ⟨b, 0, none⟩)] w fun e w' => e = .returned (.bool true) ∧ w = w' := by
  go_enter Tryz.func31, Tryz.ntmps31
  go_wp2_with fail
  refine wp_loop_rounds 1 ?_
  rw [rounds_succ]
  go_wp2
  go_ret
  exact ⟨rfl, rfl⟩
theorem putDefs_none (b : Nat) (w : World) (h : w.cell? ⟨b, 10, none⟩ = some (.slice none 0 0)) :
    Calls Tryz.prog 39 #[.pointer (some ⟨b, 0, none⟩)] w fun e w' => e = .returned (.tuple #[]) ∧ w = w' := by
  go_enter Tryz.func39, Tryz.ntmps39
  go_wp2_with fail
  refine wp_loop_rounds 1 ?_
  rw [rounds_succ]
  go_wp2
  go_end0
  exact ⟨rfl, rfl⟩
theorem growDefs_none (b : Nat) (w : World) (h : w.cell? ⟨b, 10, none⟩ = some (.slice none 0 0)) :
    Calls Tryz.prog 47 #[.pointer (some ⟨b, 0, none⟩)] w fun e w' => e = .returned (.slice none 0 0) ∧ w = w' := by
  go_enter Tryz.func47, Tryz.ntmps47
  go_wp2_with fail
  refine wp_loop_rounds 1 ?_
  rw [rounds_succ]
  go_wp2
  go_ret
  exact ⟨rfl, rfl⟩
theorem markedDefs_none (w : World) :
    Calls Tryz.prog 55 #[.slice none 0 0] w fun e w' => e = .returned (.bool true) ∧ w = w' := by
  go_enter Tryz.func55, Tryz.ntmps55
  go_wp2_with fail
  refine wp_loop_rounds 1 ?_
  rw [rounds_succ]
  go_wp2
  go_ret
  exact ⟨rfl, rfl⟩
theorem stillDiags_none (b : Nat) (w : World) (h : w.cell? ⟨b, 14, none⟩ = some (.slice none 0 0)) :
    Calls Tryz.prog 33 #[.pointer (some ⟨b, 0, none⟩)] w fun e w' => e = .returned (.bool true) ∧ w = w' := by
  go_enter Tryz.func33, Tryz.ntmps33
  go_wp2_with fail
  refine wp_loop_rounds 1 ?_
  rw [rounds_succ]
  go_wp2
  go_ret
  exact ⟨rfl, rfl⟩
theorem putDiags_none (b : Nat) (w : World) (h : w.cell? ⟨b, 14, none⟩ = some (.slice none 0 0)) :
    Calls Tryz.prog 41 #[.pointer (some ⟨b, 0, none⟩)] w fun e w' => e = .returned (.tuple #[]) ∧ w = w' := by
  go_enter Tryz.func41, Tryz.ntmps41
  go_wp2_with fail
  refine wp_loop_rounds 1 ?_
  rw [rounds_succ]
  go_wp2
  go_end0
  exact ⟨rfl, rfl⟩
theorem growDiags_none (b : Nat) (w : World) (h : w.cell? ⟨b, 14, none⟩ = some (.slice none 0 0)) :
    Calls Tryz.prog 49 #[.pointer (some ⟨b, 0, none⟩)] w fun e w' => e = .returned (.slice none 0 0) ∧ w = w' := by
  go_enter Tryz.func49, Tryz.ntmps49
  go_wp2_with fail
  refine wp_loop_rounds 1 ?_
  rw [rounds_succ]
  go_wp2
  go_ret
  exact ⟨rfl, rfl⟩
theorem markedDiags_none (w : World) :
    Calls Tryz.prog 57 #[.slice none 0 0] w fun e w' => e = .returned (.bool true) ∧ w = w' := by
  go_enter Tryz.func57, Tryz.ntmps57
  go_wp2_with fail
  refine wp_loop_rounds 1 ?_
  rw [rounds_succ]
  go_wp2
  go_ret
  exact ⟨rfl, rfl⟩
end Go.Proofs.YtpifhjdbcdcelaaGreatDoor

namespace Go.Proofs.YtpifhjdbcdcelaaGreatDoor
open Go.RowKit
set_option linter.unusedSimpArgs false
set_option linter.unusedVariables false
/-- A book's other cells: nothing. -/
def nilR : Nat → Value := fun _ => .slice none 0 0
/-- All blocks whose elements are of none of these types stay as they were. -/
def TKept (ts : List TypeId) (w w' : World) : Prop := ∀ (g : Nat) (cs : Array Value) (t : TypeId) (fz : Nat × Nat), w.heap[g]? = some (.cells cs t fz) → t ∉ ts → w'.heap[g]? = some (.cells cs t fz)
theorem TKept.refl (ts : List TypeId) (w : World) : TKept ts w w := fun _ _ _ _ h _ => h
theorem TKept.trans {ts : List TypeId} {a b c : World} (h : TKept ts a b) (k : TKept ts b c) : TKept ts a c := fun g cs t fz hg ht => k g cs t fz (h g cs t fz hg ht) ht
theorem TKept.mono {ts ts' : List TypeId} {a b : World} (h : TKept ts a b) (hs : ∀ t ∈ ts, t ∈ ts') : TKept ts' a b := fun g cs t fz hg ht => h g cs t fz hg (fun e => ht (hs t e))
theorem TKept.below {w w' : World} (ts : List TypeId) (h : Below w.heap.size w w') : TKept ts w w' := fun g cs t fz hg _ => (h.block g (Array.getElem?_eq_some_iff.1 hg).1).trans hg
theorem TKept.drewN (ts : List TypeId) (w : World) (n : Nat) : TKept ts w (w.drewN n) := fun _ _ _ _ h _ => h
theorem TKept.alloc (ts : List TypeId) (w : World) (o : Obj) : TKept ts w (w.alloc o) := fun g cs t fz hg _ => (Below.heap_alloc w o g (Array.getElem?_eq_some_iff.1 hg).1).trans hg
theorem TKept.grown {ts : List TypeId} {w w' : World} {B : Nat} {e : TypeId} {size : Nat} {v : Value} {n : Nat} {xs : List Value} (h : w.ownsRow B e size v n xs) (hg : w.grownBy w' v.ownBlock) (he : e ∈ ts) : TKept ts w w' := by
  intro g cs t fz hgg ht
  rw [hg.block g (Array.getElem?_eq_some_iff.1 hgg).1 (fun e1 => own_ne h hgg (fun e2 => ht (e2 ▸ he)) e1.symm)]
  exact hgg
theorem TKept.setCell {ts : List TypeId} {w : World} {b : Nat} {cs : Array Value} {t : TypeId} {fz : Nat × Nat} (hb : w.heap[b]? = some (.cells cs t fz)) (he : t ∈ ts) (i : Nat) (u : Value) : TKept ts w (w.setCell ⟨b, i, none⟩ u) := by
  intro g cs' t' fz' hg ht
  have hgb : g ≠ b := by
    rintro rfl
    rw [hb] at hg
    injection hg with hg
    injection hg with _ h2
    exact ht (h2 ▸ he)
  rw [Below.heap_setCell w ⟨b, i, none⟩ u g hgb]
  exact hg
/-- A new row that is grown: all elder blocks stay. -/
theorem TKept.grownNew {ts : List TypeId} {w0 w w' : World} {B : Nat} {e : TypeId} {size : Nat} {v : Value} {n : Nat} {xs : List Value} (h0 : TKept ts w0 w) (h : w.ownsRow B e size v n xs) (hg : w.grownBy w' v.ownBlock) (hB : w0.heap.size ≤ B) : TKept ts w0 w' := by
  intro g cs t fz hgg ht
  have h1 := h0 g cs t fz hgg ht
  have hlt := (Array.getElem?_eq_some_iff.1 hgg).1
  rw [hg.block g (Array.getElem?_eq_some_iff.1 h1).1 (fun e1 => by have := (h.lt g e1.symm).1; omega)]
  exact h1
theorem TKept.row {ts : List TypeId} {w w' : World} (h : TKept ts w w') {B : Nat} {e : TypeId} {size : Nat} {v : Value} {n : Nat} {xs : List Value} (k : w.ownsRow B e size v n xs) (he : e ∉ ts) : w'.ownsRow B e size v n xs := by
  refine ⟨k.1, ?_⟩
  rcases k.2 with hn | ⟨g, cap, cur, rfl, hB, hg, rest⟩
  · exact .inl hn
  · exact .inr ⟨g, cap, cur, rfl, hB, h _ _ _ _ hg he, rest⟩
end Go.Proofs.YtpifhjdbcdcelaaGreatDoor

namespace Go.Proofs.YtpifhjdbcdcelaaGreatDoor
open Go.RowKit
set_option linter.unusedSimpArgs false
set_option linter.unusedVariables false
/-- No two of them share a block. -/
def Dist (vs : List Value) : Prop := vs.Pairwise Apart
theorem Dist.get {vs : List Value} (h : Dist vs) {i j : Nat} {v u : Value} (hv : vs[i]? = some v) (hu : vs[j]? = some u) (hij : i ≠ j) : Apart v u := by
  obtain ⟨hi, rfl⟩ := List.getElem?_eq_some_iff.1 hv
  obtain ⟨hj, rfl⟩ := List.getElem?_eq_some_iff.1 hu
  rcases Nat.lt_or_gt_of_ne hij with h1 | h1
  · exact List.pairwise_iff_getElem.1 h i j hi hj h1
  · exact (List.pairwise_iff_getElem.1 h j i hj hi h1).symm
/-- An append in place, or to a new block. -/
def Grew (w w' : World) (v v' : Value) : Prop := (v'.ownBlock = v.ownBlock ∧ w.grownBy w' v.ownBlock) ∨ (w.grownBy w' none ∧ ∃ g, v'.ownBlock = some g ∧ w.heap.size ≤ g)
theorem wpList_append_two {P : Program} (w : World) {ops : Array Oper} {rest : List Oper} {o : Oper} {a : Act} {Q : Exit → Act → World → Prop}
    (hg : o.guard = none) (s x : Operand) (t : TypeId) (hop : o.op = Op.call { callee := Callee.builtin Builtin.append, args := #[s, x], argTypes := #[t, t] })
    (base : Nat) (e : TypeId) (i : TypeInfo) (z : Value) (size bytes : Nat) (h1 : P.underlying t = some (.slice e)) (h2 : P.info? e = some i) (h3 : i.zero = some z) (h4 : i.size = size) (h5 : i.bytes = bytes) (h6 : z.cells.size = size) (h7 : 0 < size)
    (A : Option Addr) (n cap : Nat) (xs : List Value) (hs : a.eval s = .slice A n cap) (hown : w.ownsRow base e size (.slice A n cap) n xs) (hbase : base ≤ w.heap.size)
    (ad : Addr) (m c : Nat) (news : List Value) (hx : a.eval x = .slice (some ad) m c) (hn : news.length = m * size) (hc : ∀ j u, news[j]? = some u → w.cell? (ad.add j) = some u) (h1c : ∀ u ∈ news, u.oneCell' = true)
    (hm : 0 < m) (b1 : n + m ≤ maxLen) (b2 : (n + m) * bytes ≤ 140737488355328)
    (hK : ∀ v' w', w'.ownsRow base e size v' (n + m) (xs ++ news) → Grew w w' (.slice A n cap) v' → wpList P ops Q rest (a.put o.dst v') w') :
    wpList P ops Q (o :: rest) a w := by
  by_cases hr : n + m ≤ cap
  · have hA : ∃ g, A = some ⟨g, 0, none⟩ := by
      rcases hown.2 with ⟨h, _⟩ | ⟨g, cap', cur, h, _⟩
      · simp at h; omega
      · simp at h; exact ⟨g, h.1⟩
    obtain ⟨g, rfl⟩ := hA
    exact wpList_append_fits w hg s x t hop base e i size h1 h2 h4 g n cap xs hs hown ad m c news hx hn hc h1c hr fun w' r1 r2 => hK _ w' r1 (Or.inl ⟨rfl, r2⟩)
  · refine wpList_append_grows w hg s x t hop e i z size bytes h1 h2 h3 h4 h5 h6 h7 A n cap xs hs ?_ hown.1 ?_ ad m c news hx hn hc h1c (by omega) b1 b2 ?_
    · intro hA
      subst hA
      rcases hown.2 with ⟨h, h0⟩ | ⟨g, cap', cur, h, _⟩
      · simp at h; exact ⟨h0, h.2⟩
      · simp at h
    · intro b hb j u hu
      subst hb
      rcases hown.2 with ⟨h, _⟩ | ⟨g, cap', cur, h, _⟩
      · simp at h
      · simp at h
        rw [h.1]
        exact hown.cells (g := g) (by rw [h.1]; rfl) j u hu
    · intro v' w' r1 r2
      obtain ⟨g, cap', hv, hb, _⟩ := r1.form (by omega)
      exact hK v' w' (own_low r1 hbase) (Or.inr ⟨r2, g, by rw [hv]; rfl, hb⟩)
end Go.Proofs.YtpifhjdbcdcelaaGreatDoor

namespace Go.Proofs.YtpifhjdbcdcelaaGreatDoor
open Go.RowKit
set_option linter.unusedSimpArgs false
set_option linter.unusedVariables false
theorem copyTexts_any (A : Option Addr) (cap : Nat) (ls : List (List UInt8)) (w : World) (hrow : RowOf w A cap (strs ls)) (hn : ls.length ≤ 1000000) :
    Calls Tryz.prog 19 #[.slice A ls.length cap] w fun e w' => ∃ v, e = .returned v ∧ w'.ownsRow w.heap.size 9 1 v ls.length (strs ls) ∧ Below w.heap.size w w' := by
  obtain ⟨i0, hi, hz0, hz1, hz2⟩ := info_parts infoString
  have hl := strs_length ls
  have h1 := strs_one' ls
  rcases A with _ | ad
  · have h0 : ls = [] := by
      rcases hrow.2.2 with h | ⟨b, off, e, _⟩
      · exact List.map_eq_nil_iff.1 h
      · cases e
    subst h0
    go_enter Tryz.func19, Tryz.ntmps19
    go_wp2
    go_ret
    exact ⟨_, rfl, World.ownsRow_nil _ _ _ _, Below.refl _ _⟩
  · have hc := hrow.cells
    have HL := Lib.hid hl
    clear hl
    go_enter Tryz.func19, Tryz.ntmps19
    go_wp2_with (at_builtin; refine wpList_append_own _ rfl _ _ 23 rfl w.heap.size 9 i0 (.string ByteArray.empty) 1 16 Tryz.underlying23 hi hz0 hz1 hz2 rfl (by decide) _ 0 [] rfl (World.ownsRow_nil _ _ _ _) ad ls.length cap (strs ls) rfl (by rw [HL.out]; omega) hc h1 (by unfold maxLen; omega) (by omega) (Nat.le_refl _) ?_)
    intro v' w2 hown' hgrow _
    have hb := (Below.refl w.heap.size w).grown hgrow (Nat.le_refl _) (fun k hk => by simp [Value.ownBlock] at hk)
    have HO := Lib.hid hown'
    clear hown' hgrow
    go_wp2
    go_ret
    exact ⟨_, rfl, HO.out, hb⟩
end Go.Proofs.YtpifhjdbcdcelaaGreatDoor

namespace Go.Proofs.YtpifhjdbcdcelaaGreatDoor
open Go.RowKit
set_option linter.unusedSimpArgs false
set_option linter.unusedVariables false
variable {r : Nat → Value}
theorem infoSlice : (Tryz.prog.info? 23).map (fun i => (i.zero, i.size, i.bytes)) = some (some (.slice none 0 0), 1, 24) := by kernel_rfl
/-- The book's cells where it holds texts alone. -/
def bookCells (tv uv : Value) (r : Nat → Value := nilR) : Array Value := #[tv, uv, r 2, r 3, r 4, r 5, r 6, r 7, r 8, r 9, r 10, r 11, r 12, r 13, r 14, r 15]
/-- Rows of texts, one behind the other in blocks of their own. -/
def Rows1 (w : World) (B : Nat) (vs : List Value) (lss : List (List (List UInt8))) : Prop :=
  vs.length = lss.length ∧ ∀ (i : Nat) (v : Value) (ls : List (List UInt8)), vs[i]? = some v → lss[i]? = some ls → w.ownsRow B 9 1 v ls.length (strs ls)
/-- The types whose blocks a new list turns. -/
abbrev tkL : List TypeId := [23, 36]
abbrev tkE : List TypeId := [9]
/-- What the book at b holds: texts (and copies of what was in them). -/
structure BookIs (w : World) (B b : Nat) (tv uv : Value) (vs us : List Value) (lss : List (List (List UInt8))) (r : Nat → Value := nilR) : Prop where
  blk : w.heap[b]? = some (.cells (bookCells tv uv r) 36 (0, 0))
  base : B ≤ b
  tvs : w.ownsRow B 23 1 tv vs.length vs
  uvs : w.ownsRow B 23 1 uv us.length us
  ne : Apart tv uv
  tl : Rows1 w B vs lss
  ul : Rows1 w B us lss
  dist : Dist (vs ++ us)
theorem BookIs.lt {w : World} {B b : Nat} {tv uv : Value} {vs us : List Value} {lss : List (List (List UInt8))} (h : BookIs w B b tv uv vs us lss r) : b < w.heap.size := (Array.getElem?_eq_some_iff.1 h.blk).1
theorem BookIs.cell {w : World} {B b : Nat} {tv uv : Value} {vs us : List Value} {lss : List (List (List UInt8))} (h : BookIs w B b tv uv vs us lss r) (i : Nat) : w.cell? ⟨b, i, none⟩ = (bookCells tv uv r)[i]? := cell_of_row w b i _ _ (0, 0) h.blk
theorem BookIs.free {w : World} {B b : Nat} {tv uv : Value} {vs us : List Value} {lss : List (List (List UInt8))} (h : BookIs w B b tv uv vs us lss r) (i : Nat) : w.frozen? ⟨b, i, none⟩ = false := by
  have := h.blk
  simp [World.frozen?, this]
/-- Every row of texts stays as it was. -/
def StrKept (w w' : World) : Prop := ∀ (g : Nat) (cs : Array Value) (fz : Nat × Nat), w.heap[g]? = some (.cells cs 9 fz) → w'.heap[g]? = some (.cells cs 9 fz)
theorem StrKept.row {w w' : World} (h : StrKept w w') {B : Nat} {v : Value} {n : Nat} {xs : List Value} (k : w.ownsRow B 9 1 v n xs) : w'.ownsRow B 9 1 v n xs := by
  refine ⟨k.1, ?_⟩
  rcases k.2 with hn | ⟨g, cap, cur, rfl, hB, hg, rest⟩
  · exact .inl hn
  · exact .inr ⟨g, cap, cur, rfl, hB, h _ _ _ hg, rest⟩
theorem StrKept.rows {w w' : World} (h : StrKept w w') {B : Nat} {vs : List Value} {lss : List (List (List UInt8))} (k : Rows1 w B vs lss) : Rows1 w' B vs lss :=
  ⟨k.1, fun i v ls hv hl => h.row (k.2 i v ls hv hl)⟩
theorem StrKept.refl (w : World) : StrKept w w := fun _ _ _ h => h
theorem StrKept.trans {a b c : World} (h : StrKept a b) (k : StrKept b c) : StrKept a c := fun g cs fz hg => k g cs fz (h g cs fz hg)
theorem StrKept.below {w w' : World} (h : Below w.heap.size w w') : StrKept w w' := fun g cs fz hg => (h.block g (Array.getElem?_eq_some_iff.1 hg).1).trans hg
theorem StrKept.drew (w : World) : StrKept w w.drew := fun _ _ _ h => h
theorem StrKept.alloc (w : World) (o : Obj) : StrKept w (w.alloc o) := fun g cs fz hg => (Below.heap_alloc w o g (Array.getElem?_eq_some_iff.1 hg).1).trans hg
theorem StrKept.grown {w w' : World} {B : Nat} {e : TypeId} {size : Nat} {v : Value} {n : Nat} {xs : List Value} (h : w.ownsRow B e size v n xs) (hg : w.grownBy w' v.ownBlock) (hne : e ≠ 9) : StrKept w w' := by
  intro g cs fz hgg
  rw [hg.block g (Array.getElem?_eq_some_iff.1 hgg).1 (fun e1 => own_ne h hgg hne e1.symm)]
  exact hgg
theorem StrKept.setCell {w : World} {b : Nat} {cs : Array Value} {t : TypeId} {fz : Nat × Nat} (hb : w.heap[b]? = some (.cells cs t fz)) (hne : t ≠ 9) (i : Nat) (u : Value) : StrKept w (w.setCell ⟨b, i, none⟩ u) := by
  intro g cs' fz' hg
  have hgb : g ≠ b := by
    rintro rfl
    rw [hb] at hg
    injection hg with hg
    injection hg with _ ht
    exact hne ht
  rw [Below.heap_setCell w ⟨b, i, none⟩ u g hgb]
  exact hg
end Go.Proofs.YtpifhjdbcdcelaaGreatDoor

namespace Go.Proofs.YtpifhjdbcdcelaaGreatDoor
open Go.RowKit
set_option linter.unusedSimpArgs false
set_option linter.unusedVariables false
variable {r : Nat → Value}
/-- What stands behind a copy that was made while the book's second list is known. -/
structure CopyPost (B b : Nat) (ls : List (List UInt8)) (tv uv : Value) (us : List Value) (W : World) (Au : Option Addr) (cu : Nat) (w3 : World) (r : Nat → Value) : Prop where
  below : Below W.heap.size W w3
  blk : w3.heap[b]? = some (.cells (bookCells tv uv r) 36 (0, 0))
  own : w3.ownsRow B 23 1 uv us.length us
  new : w3.ownsRow W.heap.size 9 1 (.slice Au ls.length cu) ls.length (strs ls)
theorem book_cell {w : World} {b : Nat} {tv uv : Value} (h : w.heap[b]? = some (.cells (bookCells tv uv r) 36 (0, 0))) : w.cell? ⟨b, 1, none⟩ = some uv ∧ w.frozen? ⟨b, 1, none⟩ = false :=
  ⟨(cell_of_row w b 1 _ _ (0, 0) h).trans rfl, by simp [World.frozen?, h]⟩
theorem copy_at (B b : Nat) (A : Option Addr) (cap : Nat) (ls : List (List UInt8)) (tv uv : Value) (us : List Value) (W : World) (hrow : RowOf W A cap (strs ls)) (hl : ls.length ≤ 1000000)
    (hb : W.heap[b]? = some (.cells (bookCells tv uv r) 36 (0, 0))) (huv : W.ownsRow B 23 1 uv us.length us) :
    Calls Tryz.prog 19 #[.slice A ls.length cap] W.drew fun e w' => ∃ Au cu, e = .returned (.slice Au ls.length cu) ∧ w'.cell? ⟨b, 1, none⟩ = some uv ∧ (∀ o, (w'.alloc o).cell? ⟨b, 1, none⟩ = some uv) ∧ CopyPost B b ls tv uv us W Au cu w' r := by
  refine (copyTexts_any A cap ls W.drew (rowOf_heap rfl hrow) hl).mono ?_
  rintro e w3 ⟨v, rfl, hown, hb3⟩
  obtain ⟨Au, cu, rfl, _, _⟩ := RowOf.own hown
  have hb4 : Below W.heap.size W w3 := ⟨hb3.os, hb3.tape, hb3.output, hb3.size, hb3.block⟩
  have e1 := (hb4.block b (Array.getElem?_eq_some_iff.1 hb).1).trans hb
  exact ⟨Au, cu, rfl, (book_cell e1).1, fun o => (book_cell ((Below.heap_alloc w3 o b (Array.getElem?_eq_some_iff.1 e1).1).trans e1)).1, hb4, e1, ownsRow_below huv hb4, hown⟩
theorem grow_book {w3 w4 : World} {B b : Nat} {tv uv v : Value} {n : Nat} {xs : List Value} (blk : w3.heap[b]? = some (.cells (bookCells tv uv r) 36 (0, 0))) (own : w3.ownsRow B 23 1 v n xs) {o : Obj}
    (hg : (w3.alloc o).grownBy w4 v.ownBlock) : w4.heap[b]? = some (.cells (bookCells tv uv r) 36 (0, 0)) := by
  have hb := (Array.getElem?_eq_some_iff.1 blk).1
  rw [hg.block b (by simp; omega) (fun e => own_ne own blk (by decide) e.symm), Below.heap_alloc w3 _ b hb]
  exact blk
theorem book_set0 {w : World} {b : Nat} {tv uv : Value} (h : w.heap[b]? = some (.cells (bookCells tv uv r) 36 (0, 0))) (tv' : Value) :
    (w.setCell ⟨b, 0, none⟩ tv').heap[b]? = some (.cells (bookCells tv' uv r) 36 (0, 0)) := by
  simp [World.setCell, Array.getElem?_modify, h, bookCells]
theorem book_set1 {w : World} {b : Nat} {tv uv : Value} (h : w.heap[b]? = some (.cells (bookCells tv uv r) 36 (0, 0))) (uv' : Value) :
    (w.setCell ⟨b, 1, none⟩ uv').heap[b]? = some (.cells (bookCells tv uv' r) 36 (0, 0)) := by
  simp [World.setCell, Array.getElem?_modify, h, bookCells]
theorem texts_end (B b : Nat) (tv uv : Value) (vs us : List Value) (lss : List (List (List UInt8))) (A : Option Addr) (cap : Nat) (ls : List (List UInt8)) (w : World) (hB : B ≤ w.heap.size)
    (h : BookIs w B b tv uv vs us lss r) (hown : w.ownsRow B 9 1 (.slice A ls.length cap) ls.length (strs ls)) (hd : ∀ u ∈ vs ++ us, Apart (.slice A ls.length cap) u)
    (o1 : Obj) (w1 : World) (g1 cap1 : Nat) (hown1 : w1.ownsRow B 23 1 (.slice (some ⟨g1, 0, none⟩) (vs.length + 1) cap1) (vs.length + 1) (vs ++ [.slice A ls.length cap])) (hg1 : (w.alloc o1).grownBy w1 tv.ownBlock)
    (hat1 : tv.ownBlock = some g1 ∨ g1 = w.heap.size + 1) (hlt1 : g1 < w1.heap.size)
    (w2 : World) (hw2 : w2 = w1.setCell ⟨b, 0, none⟩ (.slice (some ⟨g1, 0, none⟩) (vs.length + 1) cap1))
    (w3 : World) (Au : Option Addr) (cu : Nat) (hp : CopyPost B b ls (.slice (some ⟨g1, 0, none⟩) (vs.length + 1) cap1) uv us w2 Au cu w3 r)
    (o3 : Obj) (w4 : World) (g4 cap4 : Nat) (hown4 : w4.ownsRow B 23 1 (.slice (some ⟨g4, 0, none⟩) (us.length + 1) cap4) (us.length + 1) (us ++ [.slice Au ls.length cu])) (hg4 : (w3.alloc o3).grownBy w4 uv.ownBlock)
    (hat4 : uv.ownBlock = some g4 ∨ g4 = (w3.alloc o3).heap.size) :
    (∃ tv' uv' u, BookIs (w4.setCell ⟨b, 1, none⟩ (.slice (some ⟨g4, 0, none⟩) (us.length + 1) cap4)) B b tv' uv' (vs ++ [.slice A ls.length cap]) (us ++ [u]) (lss ++ [ls]) r ∧ ∀ g, u.ownBlock = some g → w.heap.size ≤ g) ∧
      StrKept w (w4.setCell ⟨b, 1, none⟩ (.slice (some ⟨g4, 0, none⟩) (us.length + 1) cap4)) ∧ TKept tkL w (w4.setCell ⟨b, 1, none⟩ (.slice (some ⟨g4, 0, none⟩) (us.length + 1) cap4)) ∧ Below B w (w4.setCell ⟨b, 1, none⟩ (.slice (some ⟨g4, 0, none⟩) (us.length + 1) cap4)) := by
  have hbl := h.lt
  have s0 : (w.alloc o1).heap.size = w.heap.size + 1 := by show (w.heap.push _).size = _; simp
  have s1 := hg1.size
  have blk1 : w1.heap[b]? = some (.cells (bookCells tv uv r) 36 (0, 0)) := grow_book h.blk h.tvs hg1
  have blk2 : w2.heap[b]? = some (.cells (bookCells (.slice (some ⟨g1, 0, none⟩) (vs.length + 1) cap1) uv r) 36 (0, 0)) := by rw [hw2]; exact book_set0 blk1 _
  have s2 : w2.heap.size = w1.heap.size := by rw [hw2]; simp [World.setCell]
  have hown2 : w2.ownsRow B 23 1 (.slice (some ⟨g1, 0, none⟩) (vs.length + 1) cap1) (vs.length + 1) (vs ++ [.slice A ls.length cap]) := by rw [hw2]; exact own_set hown1 blk1 (by decide) 0 _
  have s3 := hp.below.size
  have s3a : (w3.alloc o3).heap.size = w3.heap.size + 1 := by show (w3.heap.push _).size = _; simp
  have s4 := hg4.size
  have hown3 := ownsRow_below hown2 hp.below
  have blk4 := grow_book hp.blk hp.own hg4
  have sk12 : StrKept w w2 := by
    rw [hw2]
    exact ((StrKept.alloc w o1).trans (StrKept.grown (h.tvs.alloc o1) hg1 (by decide))).trans (StrKept.setCell blk1 (by decide) 0 _)
  have sk35 : StrKept w3 (w4.setCell ⟨b, 1, none⟩ (.slice (some ⟨g4, 0, none⟩) (us.length + 1) cap4)) :=
    ((StrKept.alloc w3 o3).trans (StrKept.grown (hp.own.alloc o3) hg4 (by decide))).trans (StrKept.setCell blk4 (by decide) 1 _)
  have sk := (sk12.trans (StrKept.below hp.below)).trans sk35
  have tk12 : TKept tkL w w2 := by
    rw [hw2]
    exact ((TKept.alloc _ w o1).trans (TKept.grown (h.tvs.alloc o1) hg1 (by decide))).trans (TKept.setCell blk1 (by decide) 0 _)
  have tk35 : TKept tkL w3 (w4.setCell ⟨b, 1, none⟩ (.slice (some ⟨g4, 0, none⟩) (us.length + 1) cap4)) :=
    ((TKept.alloc _ w3 o3).trans (TKept.grown (hp.own.alloc o3) hg4 (by decide))).trans (TKept.setCell blk4 (by decide) 1 _)
  have tk := (tk12.trans (TKept.below _ hp.below)).trans tk35
  have ne1 : Apart (.slice (some ⟨g1, 0, none⟩) (vs.length + 1) cap1) uv := by
    intro g hg hu
    simp [Value.ownBlock] at hg
    subst hg
    rcases hat1 with e | e
    · exact h.ne _ e hu
    · have := (h.uvs.lt _ hu).2
      omega
  have tv4 : w4.ownsRow B 23 1 (.slice (some ⟨g1, 0, none⟩) (vs.length + 1) cap1) (vs.length + 1) (vs ++ [.slice A ls.length cap]) := (hown3.alloc o3).kept hg4 ne1.ne
  refine ⟨⟨.slice (some ⟨g1, 0, none⟩) (vs.length + 1) cap1, .slice (some ⟨g4, 0, none⟩) (us.length + 1) cap4, .slice Au ls.length cu, ⟨book_set1 blk4 _, h.base, ?_, ?_, ?_, ?_, ?_, ?_⟩, fun g hg => by have := (hp.new.lt g hg).1; omega⟩, sk, tk, ?_⟩
  · rw [List.length_append]; exact own_set tv4 blk4 (by decide) 1 _
  · rw [List.length_append]; exact own_set hown4 blk4 (by decide) 1 _
  · intro g hg hu
    simp [Value.ownBlock] at hg hu
    subst hg
    rcases hat4 with e | e
    · exact ne1 _ rfl (by rw [e, hu])
    · omega
  · refine ⟨by simp [h.tl.1], fun i v l hv hl => ?_⟩
    have e1 := h.tl.1
    by_cases hi : i < vs.length
    · rw [List.getElem?_append_left hi] at hv
      rw [List.getElem?_append_left (by omega)] at hl
      exact sk.row (h.tl.2 i v l hv hl)
    · rw [List.getElem?_append_right (by omega)] at hv hl
      rw [← e1] at hl
      have h0 : i - vs.length = 0 := by
        have := (List.getElem?_eq_some_iff.1 hv).1
        simp at this
        omega
      rw [h0] at hv hl
      simp at hv hl
      subst hv hl
      exact sk.row hown
  · refine ⟨by simp [h.ul.1], fun i v l hv hl => ?_⟩
    have e1 := h.ul.1
    by_cases hi : i < us.length
    · rw [List.getElem?_append_left hi] at hv
      rw [List.getElem?_append_left (by omega)] at hl
      exact sk.row (h.ul.2 i v l hv hl)
    · rw [List.getElem?_append_right (by omega)] at hv hl
      rw [← e1] at hl
      have h0 : i - us.length = 0 := by
        have := (List.getElem?_eq_some_iff.1 hv).1
        simp at this
        omega
      rw [h0] at hv hl
      simp at hv hl
      subst hv hl
      have hn := sk35.row hp.new
      exact own_low hn (by omega)
  · have hnew : ∀ x ∈ vs ++ us, Apart x (.slice Au ls.length cu) := by
      intro x hx
      rw [List.mem_append] at hx
      rcases hx with hx | hx
      · obtain ⟨i, hi⟩ := List.mem_iff_getElem?.1 hx
        have hil := (List.getElem?_eq_some_iff.1 hi).1
        have e1 := h.tl.1
        exact own_new (h.tl.2 i x lss[i] hi (List.getElem?_eq_getElem (by omega))) hp.new (by omega)
      · obtain ⟨i, hi⟩ := List.mem_iff_getElem?.1 hx
        have hil := (List.getElem?_eq_some_iff.1 hi).1
        have e1 := h.ul.1
        exact own_new (h.ul.2 i x lss[i] hi (List.getElem?_eq_getElem (by omega))) hp.new (by omega)
    have hln : Apart (.slice A ls.length cap) (.slice Au ls.length cu) := own_new hown hp.new (by omega)
    have hdd := h.dist
    unfold Dist at hdd ⊢
    rw [List.pairwise_append] at hdd
    simp only [List.pairwise_append, List.mem_append, List.mem_singleton, List.pairwise_cons, List.Pairwise.nil, List.not_mem_nil, false_implies, implies_true, and_true, true_and]
    refine ⟨⟨hdd.1, fun a ha c hc => ?_⟩, ⟨hdd.2.1, fun a ha c hc => ?_⟩, fun a ha c hc => ?_⟩
    · subst hc; exact (hd a (by simp [ha])).symm
    · subst hc; exact hnew a (by simp [ha])
    · rcases ha with ha | rfl
      · rcases hc with hc | rfl
        · exact hdd.2.2 a ha c hc
        · exact hnew a (by simp [ha])
      · rcases hc with hc | rfl
        · exact hd c (by simp [hc])
        · exact hln
  · have q1 : Below B w w1 := ((Below.refl B w).alloc hB o1).grown hg1 (by omega) (fun k hk => (h.tvs.lt k hk).1)
    have q2 : Below B w w2 := by rw [hw2]; exact q1.setCell (p := ⟨b, 0, none⟩) h.base _
    have q3 : Below B w w3 := q2.trans (hp.below.mono (by omega))
    have q4 : Below B w w4 := (q3.alloc (by omega) o3).grown hg4 (by omega) (fun k hk => (hp.own.lt k hk).1)
    exact q4.setCell (p := ⟨b, 1, none⟩) h.base _
end Go.Proofs.YtpifhjdbcdcelaaGreatDoor

namespace Go.Proofs.YtpifhjdbcdcelaaGreatDoor
open Go.RowKit
set_option linter.unusedSimpArgs false
set_option linter.unusedVariables false
variable {r : Nat → Value}
set_option maxHeartbeats 1000000 in
set_option maxRecDepth 100000 in
theorem texts_anyK (B b : Nat) (tv uv : Value) (vs us : List Value) (lss : List (List (List UInt8))) (A : Option Addr) (cap : Nat) (ls : List (List UInt8)) (w : World) (hB : B ≤ w.heap.size)
    (h : BookIs w B b tv uv vs us lss r) (hown : w.ownsRow B 9 1 (.slice A ls.length cap) ls.length (strs ls)) (hd : ∀ u ∈ vs ++ us, Apart (.slice A ls.length cap) u)
    (hm : vs.length < 250) (hl : ls.length ≤ 1000000) :
    Calls Tryz.prog 7 #[.pointer (some ⟨b, 0, none⟩), .slice A ls.length cap] w fun e w' => e = .returned (.tuple #[]) ∧
      (∃ tv' uv' u, BookIs w' B b tv' uv' (vs ++ [.slice A ls.length cap]) (us ++ [u]) (lss ++ [ls]) r ∧ ∀ g, u.ownBlock = some g → w.heap.size ≤ g) ∧ StrKept w w' ∧ TKept tkL w w' ∧ Below B w w' := by
  obtain ⟨i0, hi, hz0, hz1, hz2⟩ := info_parts infoSlice
  obtain ⟨At, ct, rfl, hrowt, _⟩ := RowOf.own h.tvs
  have hc0 : w.cell? ⟨b, 0, none⟩ = some (.slice At vs.length ct) := (h.cell 0).trans rfl
  have hbl := h.lt
  have htv := h.tvs
  have H := Lib.hid h
  have HD := Lib.hid hd
  have HO := Lib.hid hown
  clear h hd hown
  go_enter Tryz.func7, Tryz.ntmps7
  go_wp2_with (at_builtin; refine wpList_append_lies _ rfl _ _ 27 rfl B 23 i0 (.slice none 0 0) 1 24 Tryz.underlying27 hi hz0 hz1 hz2 rfl (by decide) _ _ _ rfl (htv.alloc _) ⟨w.heap.size, 0, none⟩ 1 1 [.slice A ls.length cap] rfl rfl ?c1 ?c2 (by omega) ?c3 ?c4 ?c5 _ rfl ?_)
  case c1 =>
    intro j u hj
    match j, hj with
    | 0, hj => simp at hj; subst hj; simp [Addr.add]
  case c2 => intro u hu; simp at hu; subst hu; rfl
  case c3 => unfold maxLen; omega
  case c4 => omega
  case c5 => simp; omega
  · intro g1 cap1 w1 hown1 hgrow hat hlt
    have hblk1 := grow_book H.out.blk htv hgrow
    have hc1 : w1.cell? ⟨b, 0, none⟩ = some (.slice At vs.length ct) := (cell_of_row w1 b 0 _ _ (0, 0) hblk1).trans rfl
    have hf1 : w1.frozen? ⟨b, 0, none⟩ = false := by simp [World.frozen?, hblk1]
    have hblk2 := book_set0 hblk1 (Value.slice (some ⟨g1, 0, none⟩) (vs.length + 1) cap1)
    have hs1 := hgrow.size
    have hsw : (w.alloc (.cells #[.slice A ls.length cap] 23)).heap.size = w.heap.size + 1 := by show (w.heap.push _).size = _; simp
    have hB2 : B ≤ w1.heap.size := by omega
    have hsk : StrKept w (w1.setCell ⟨b, 0, none⟩ (Value.slice (some ⟨g1, 0, none⟩) (vs.length + 1) cap1)) := ((StrKept.alloc w _).trans (StrKept.grown (htv.alloc _) hgrow (by decide))).trans (StrKept.setCell hblk1 (by decide) 0 _)
    have huv2 : (w1.setCell ⟨b, 0, none⟩ (Value.slice (some ⟨g1, 0, none⟩) (vs.length + 1) cap1)).ownsRow B 23 1 uv us.length us :=
      own_set ((H.out.uvs.alloc _).kept hgrow H.out.ne.symm.ne) hblk1 (by decide) 0 _
    have HG := Lib.hid hgrow
    have HW := Lib.hid hown1
    have HA := Lib.hid hat
    have HL := Lib.hid hlt
    clear hblk1 hgrow hown1 hat hlt hs1 hsw
    go_wp2
    obtain ⟨w2, hw2⟩ : ∃ w2, w2 = w1.setCell ⟨b, 0, none⟩ (Value.slice (some ⟨g1, 0, none⟩) (vs.length + 1) cap1) := ⟨_, rfl⟩
    rw [← hw2] at hblk2 hsk huv2 ⊢
    have hB3 : B ≤ w2.heap.size := by rw [hw2]; simp [World.setCell]; omega
    have hc2 := (book_cell hblk2).1
    have hf2 := (book_cell hblk2).2
    have hus : us.length < 250 := by have h1 := H.out.tl.1; have h2 := H.out.ul.1; omega
    obtain ⟨Ar, cr, hlr, hrow, _⟩ := RowOf.own (hsk.row HO.out)
    cases hlr
    have HC := Lib.hid (copy_at B b A cap ls _ uv us w2 hrow hl hblk2 huv2)
    have HW2 := Lib.hid hw2
    clear hblk2 hsk huv2 hrow hw2
    go_region_law (first | (go_simp; go_at_call 19; refine HC.out.mono ?_; rintro e w3 ⟨Au, cu, rfl, hc3, hc5, hp3⟩) | (refine step_append_lies _ rfl (.tmp 24) (.tmp 27) _ rfl B 23 i0 (.slice none 0 0) 1 24 Tryz.underlying27 hi hz0 hz1 hz2 rfl (by decide) uv us.length us rfl (hp3.own.alloc _) ⟨w3.heap.size, 0, none⟩ 1 1 [.slice Au ls.length cu] rfl rfl (cells_one w3 _ _) (one_slice _ _ _) (by omega) (by unfold maxLen; omega) (by omega) (by have hs3 := hp3.below.size; simp; omega) _ rfl ?_; intro g4 cap4 w4 hown4 hgrow4 hat4 hlt4; have hblk4 := grow_book hp3.blk hp3.own hgrow4; have hc4 := (book_cell hblk4).1; have hf4 := (book_cell hblk4).2))
    all_goals
      go_wp2
      go_end0
      exact ⟨rfl, texts_end B b _ uv vs us lss A cap ls w hB H.out HO.out HD.out _ w1 g1 cap1 HW.out HG.out HA.out HL.out w2 HW2.out w3 Au cu hp3 _ w4 g4 cap4 hown4 hgrow4 hat4⟩
end Go.Proofs.YtpifhjdbcdcelaaGreatDoor

namespace Go.Proofs.YtpifhjdbcdcelaaGreatDoor
open Go.RowKit
set_option linter.unusedSimpArgs false
set_option linter.unusedVariables false
variable {r : Nat → Value}
theorem BookIs.heap {w w' : World} (hh : w'.heap = w.heap) {B b : Nat} {tv uv : Value} {vs us : List Value} {lss : List (List (List UInt8))} (h : BookIs w B b tv uv vs us lss r) : BookIs w' B b tv uv vs us lss r :=
  ⟨by rw [hh]; exact h.blk, h.base, own_heap hh h.tvs, own_heap hh h.uvs, h.ne, ⟨h.tl.1, fun i v ls hv hl => own_heap hh (h.tl.2 i v ls hv hl)⟩, ⟨h.ul.1, fun i v ls hv hl => own_heap hh (h.ul.2 i v ls hv hl)⟩, h.dist⟩
theorem BookIs.below {w w' : World} {B b : Nat} {tv uv : Value} {vs us : List Value} {lss : List (List (List UInt8))} (h : BookIs w B b tv uv vs us lss r) (hb : Below w.heap.size w w') : BookIs w' B b tv uv vs us lss r :=
  ⟨(hb.block b h.lt).trans h.blk, h.base, ownsRow_below h.tvs hb, ownsRow_below h.uvs hb, h.ne, ⟨h.tl.1, fun i v ls hv hl => ownsRow_below (h.tl.2 i v ls hv hl) hb⟩, ⟨h.ul.1, fun i v ls hv hl => ownsRow_below (h.ul.2 i v ls hv hl) hb⟩, h.dist⟩
/-- A new book. -/
theorem BookIs.new {w : World} {B b : Nat} (hb : w.heap[b]? = some (.cells (bookCells (.slice none 0 0) (.slice none 0 0) r) 36 (0, 0))) (hB : B ≤ b) : BookIs w B b (.slice none 0 0) (.slice none 0 0) [] [] [] r :=
  ⟨hb, hB, World.ownsRow_nil _ _ _ _, World.ownsRow_nil _ _ _ _, fun g hg => by simp [Value.ownBlock] at hg, ⟨rfl, fun i v ls hv => by simp at hv⟩, ⟨rfl, fun i v ls hv => by simp at hv⟩, List.Pairwise.nil⟩
def StillRel (m : Nat) (w : World) (i : Value) (wr : World) : Prop := ∃ k n : Nat, i = .int .i64 k ∧ k ≤ m ∧ wr = w.drewN n
set_option maxHeartbeats 1000000 in
theorem stillTexts_any (B b : Nat) (tv uv : Value) (vs us : List Value) (lss : List (List (List UInt8))) (w : World) (h : BookIs w B b tv uv vs us lss r) (hm : vs.length ≤ 1000) :
    Calls Tryz.prog 26 #[.pointer (some ⟨b, 0, none⟩)] w (QuietBool w true) := by
  have H := Lib.hid h
  clear h
  go_enter Tryz.func26, Tryz.ntmps26
  go_wp2_with fail
  go_loopw [3] (fun i wr => StillRel vs.length w i wr) (fun i _ => vs.length - (intOf i).toNat)
  case atStart => exact ⟨0, 0, rfl, Nat.zero_le _, rfl⟩
  case round =>
    obtain ⟨k, n, rfl, hk, hw⟩ := hrel
    have hbk : BookIs wr B b tv uv vs us lss r := H.out.heap (by rw [hw]; rfl)
    have HW := Lib.hid hw
    clear hw
    obtain ⟨At, ct, rfl, _, _⟩ := RowOf.own hbk.tvs
    obtain ⟨Au, cu, rfl, _, _⟩ := RowOf.own hbk.uvs
    have hc0 : wr.cell? ⟨b, 0, none⟩ = some (.slice At vs.length ct) := (hbk.cell 0).trans rfl
    have hc1 : wr.cell? ⟨b, 1, none⟩ = some (.slice Au us.length cu) := (hbk.cell 1).trans rfl
    have hlu : us.length = vs.length := by rw [hbk.ul.1, hbk.tl.1]
    have hls : lss.length = vs.length := by rw [hbk.tl.1]
    by_cases hp : k < vs.length
    · obtain ⟨gt, rfl, hgt, hct⟩ := row_cell hbk.tvs hp
      obtain ⟨gu, rfl, hgu, hcu⟩ := row_cell hbk.uvs (k := k) (by omega)
      have hv := hbk.tl.2 k vs[k] (lss[k]'(by omega)) (List.getElem?_eq_getElem hp) (List.getElem?_eq_getElem (by omega))
      have hu := hbk.ul.2 k (us[k]'(by omega)) (lss[k]'(by omega)) (List.getElem?_eq_getElem (by omega)) (List.getElem?_eq_getElem (by omega))
      obtain ⟨A1, c1, e1, hr1, _⟩ := RowOf.own hv
      obtain ⟨A2, c2, e2, hr2, _⟩ := RowOf.own hu
      rw [e1] at hct
      rw [e2] at hcu
      have hsm := fun W hh => same_any A1 A2 c1 c2 (lss[k]'(by omega)) (lss[k]'(by omega)) W (rowOf_heap hh hr1) (rowOf_heap hh hr2)
      generalize (lss[k]'(by omega)) = ls at *
      rw [decide_eq_true (rfl : ls = ls)] at hsm
      have hpu : k < us.length := by omega
      have HB := Lib.hid hbk
      clear hbk hlu hls e1 e2 hv hu
      have HS := Lib.hid hsm
      clear hsm
      go_wp2_with fail
      go_quiet ((go_at_call 10; exact Calls.quiet_of (HS.out _ rfl)))
      rename_i nq
      go_wp2
      go_roundw
      case rel => exact ⟨k + 1, n + nq, by go_num, by omega, by rw [HW.out, World.drewN_drewN]⟩
      case measure => simp [intOf]; omega
    · have HB := Lib.hid hbk
      clear hbk hlu hls
      go_wp2
      go_ret
      exact ⟨rfl, n, HW.out⟩
end Go.Proofs.YtpifhjdbcdcelaaGreatDoor

namespace Go.Proofs.YtpifhjdbcdcelaaGreatDoor
open Go.RowKit
set_option linter.unusedSimpArgs false
set_option linter.unusedVariables false
variable {r : Nat → Value}
/-- Each list of vs is read as its marks. -/
def Marked (w : World) (vs : List Value) : Prop := ∀ (i : Nat) (v : Value), vs[i]? = some v → ∃ A n c, v = .slice A n c ∧ n ≤ 1000000 ∧ RowOf w A c (strs (marks i 0 n))
theorem Marked.below {w w' : World} {vs : List Value} (h : Marked w vs) (hb : Below w.heap.size w w') : Marked w' vs := fun i v hv => by
  obtain ⟨A, n, c, e, hn, hr⟩ := h i v hv
  exact ⟨A, n, c, e, hn, hr.below hb⟩
theorem mark_at (w : World) (p : Addr) (u : Value) (hp : p.block < w.heap.size) (i : Int) (n : Nat) (hi : 0 ≤ i) (hi2 : i ≤ 100000) (hn : n ≤ 1000000) (W : World) (h : W.cell? p = some u ∧ Below w.heap.size w W) :
    Calls Tryz.prog 74 #[.int .i64 i, .int .i64 0, .int .i64 n] W fun e w' => ∃ A2 c2, e = .returned (.slice A2 n c2) ∧ (w'.cell? p = some u ∧ Below w.heap.size w w') ∧ RowOf w' A2 c2 (strs (marks i 0 n)) := by
  refine (markTexts_any i 0 n W hi hi2 (by omega) hn).mono ?_
  rintro e w' ⟨v, rfl, hown, hb⟩
  obtain ⟨A2, c2, rfl, hr, _⟩ := RowOf.own hown
  exact ⟨A2, c2, rfl, ⟨(hb.cell (p := p) (Nat.lt_of_lt_of_le hp h.2.size)).trans h.1, h.2.then hb⟩, hr⟩
theorem same_at (w : World) (p : Addr) (u : Value) (A1 : Option Addr) (c1 : Nat) (ls : List (List UInt8)) (n : Nat) (hl : ls.length = n) (hr1 : RowOf w A1 c1 (strs ls)) (A2 : Option Addr) (c2 : Nat) (W : World) (h : W.cell? p = some u ∧ Below w.heap.size w W)
    (hr2 : RowOf W A2 c2 (strs ls)) :
    Calls Tryz.prog 10 #[.slice A1 n c1, .slice A2 n c2] W fun e w' => e = .returned (.bool true) ∧ (w'.cell? p = some u ∧ Below w.heap.size w w') := by
  subst hl
  refine (same_any A1 A2 c1 c2 ls ls W (hr1.below h.2) hr2).mono ?_
  rintro e w' ⟨rfl, n, rfl⟩
  exact ⟨by rw [decide_eq_true (rfl : ls = ls)], h.1, below_drewN' h.2 n⟩
def MarkedRel (m : Nat) (w : World) (i : Value) (wr : World) : Prop := ∃ k : Nat, i = .int .i64 k ∧ k ≤ m ∧ Below w.heap.size w wr
set_option maxHeartbeats 2000000 in
theorem markedTexts_any (A : Option Addr) (cap : Nat) (vs : List Value) (w : World) (hrow : RowOf w A cap vs) (hm : Marked w vs) (hl : vs.length ≤ 1000) :
    Calls Tryz.prog 50 #[.slice A vs.length cap] w fun e w' => e = .returned (.bool true) ∧ Below w.heap.size w w' := by
  have hc1 := hrow.1
  have hc2 := hrow.2.1
  unfold maxLen at hc2
  have HM := Lib.hid hm
  clear hm
  go_enter Tryz.func50, Tryz.ntmps50
  go_wp2_with fail
  go_loopw [3] (fun i wr => MarkedRel vs.length w i wr) (fun i _ => vs.length - (intOf i).toNat)
  case atStart => exact ⟨0, rfl, Nat.zero_le _, Below.refl _ _⟩
  case round =>
    obtain ⟨k, rfl, hk, hbw⟩ := hrel
    by_cases hp : k < vs.length
    · have hne : vs ≠ [] := by intro e; rw [e] at hp; simp at hp
      obtain ⟨g, off, rfl, hg, hc⟩ := hrow.at hne
      have hck := (hbw.cell (p := ⟨g, off + k, none⟩) hg).trans (hc k hp)
      obtain ⟨A1, n, c1, e1, hn, hr⟩ := HM.out k vs[k] (List.getElem?_eq_getElem hp)
      rw [e1] at hck
      have hgw : (⟨g, off + k, none⟩ : Addr).block < wr.heap.size := Nat.lt_of_lt_of_le hg hbw.size
      have ca := mark_at wr ⟨g, off + k, none⟩ (.slice A1 n c1) hgw k n (by omega) (by omega) hn
      have cb := fun A2 c2 => same_at wr ⟨g, off + k, none⟩ (.slice A1 n c1) A1 c1 (marks k 0 n) n (marks_length _ _ _) (hr.below hbw) A2 c2
      have CA := Lib.hid ca
      have CB := Lib.hid cb
      have hS : wr.drew.cell? ⟨g, off + k, none⟩ = some (.slice A1 n c1) ∧ Below wr.heap.size wr wr.drew := ⟨hck, (Below.refl _ _).drew⟩
      have hgk : g < wr.heap.size := hgw
      clear ca cb hc hr hne
      go_wp2_with fail
      go_region_held3 (fun W => W.cell? ⟨g, off + k, none⟩ = some (.slice A1 n c1) ∧ Below wr.heap.size wr W) (assumption) (first | (go_at_call 74; (with_reducible refine (CA.out _ (by assumption)).mono ?_); rintro e w5 ⟨A2, c2, rfl, hS5, hr5⟩) | (go_at_call 10; (with_reducible refine (CB.out _ _ _ (by assumption) (by assumption)).mono ?_); rintro e w6 ⟨rfl, hS6⟩))
      go_wp2
      go_roundw
      case rel => exact ⟨k + 1, by go_num, by omega, hbw.then hS6.2⟩
      case measure => simp [intOf]; omega
    · go_wp2
      go_ret
      exact ⟨rfl, hbw⟩
end Go.Proofs.YtpifhjdbcdcelaaGreatDoor
