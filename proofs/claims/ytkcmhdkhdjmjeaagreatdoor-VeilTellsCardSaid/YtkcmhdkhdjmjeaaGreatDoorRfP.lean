/-
  The document's own frames (bowdlerref1): Parts: a list of its own, that holds the parts of the lines.
  The document's own frames (bowdlerref1): PartsWrite: the lines of parts that may be.
-/
import Derived.Test.YtkcmhdkhdjmjeaaGreatDoorRfA
import Derived.Test.YtkcmhdkhdjmjeaaGreatDoorFrmC
import Derived.Laws.AppendOwnNone
import Derived.Test.YtkcmhdkhdjmjeaaGreatDoorRvW
import Derived.Test.YtkcmhdkhdjmjeaaGreatDoorRgtA
import Derived.Test.YtkcmhdkhdjmjeaaGreatDoorReg
import Derived.Deep.AppendLies
import Derived.Lib.MinMax
namespace Go.Proofs.YtkcmhdkhdjmjeaaGreatDoor
open Go.RowKit
set_option linter.unusedSimpArgs false
set_option linter.unusedVariables false
set_option maxRecDepth 100000

theorem ints_one (os : List Nat) : ∀ u ∈ ints os, u.oneCell' = true := by
  intro u hu
  obtain ⟨j, _, rfl⟩ := List.mem_map.1 hu
  rfl
/-- A list of numbers, nil or not, behind nothing. -/
theorem copy_ints {w : World} {ops : Array Oper} {rest : List Oper} {o : Oper} {a : Act} {Q : Exit → Act → World → Prop} (hgd : o.guard = none) (s x : Operand)
    (ho : o.op = .call { callee := .builtin .append, args := #[s, x], argTypes := #[79, 79] }) (base : Nat) (hs : a.eval s = .slice none 0 0)
    (A : Option Addr) (c : Nat) (os : List Nat) (hx : a.eval x = .slice A os.length c) (hrow : RowOf w A c (ints os)) (hnil : A = none → os = [] ∧ c = 0)
    (h63 : os.length ≤ 200000000000) (hbase : base ≤ w.heap.size)
    (h : ∀ v' w', w'.ownsRow base 3 1 v' os.length (ints os) → Below w.heap.size w w' → wpList Tryz.prog ops Q rest (a.put o.dst v') w') : wpList Tryz.prog ops Q (o :: rest) a w := by
  obtain ⟨i0, hi, hz0, hz1, hz2⟩ := info_parts infoInt
  cases A with
  | none =>
    obtain ⟨rfl, rfl⟩ := hnil rfl
    refine wpList_append_own_none hgd s x 79 ho base 3 i0 1 Tryz.underlying79 hi (.slice none 0 0) 0 [] hs (World.ownsRow_nil _ _ _ _) hx ?_
    exact h _ w (World.ownsRow_nil _ _ _ _) (Below.refl _ _)
  | some ad =>
    refine wpList_append_own w hgd s x 79 ho base 3 i0 (.int .i64 0) 1 8 Tryz.underlying79 hi hz0 hz1 hz2 rfl (by decide) (.slice none 0 0) 0 [] hs (World.ownsRow_nil _ _ _ _) ad os.length c (ints os) hx (by rw [ints_len, Nat.mul_one]) hrow.cells (ints_one os) (by unfold maxLen; omega) (by omega) hbase ?_
    intro v' w' h2 h3 _
    refine h v' w' ?_ (below_of_grown h3 (fun g hg => by simp [Value.ownBlock] at hg) (Nat.le_refl _))
    rw [Nat.zero_add, List.nil_append] at h2
    exact h2
/-- A division more; the open ones are laid anew. -/
theorem PMem.ropen {w0 w w2 w3 w4 : World} {ls : List Txt} {k : Nat} {v ov v' ov1 ov2 : Value} {X : List (Prt × Value)} {os : List Nat} {lab : Txt} (h : PMem w0 ls k v ov X os w) (hk : k < ls.length) (ho : opensL ls[k] = some lab)
    (h2 : w2.ownsRow w0.heap.size 94 5 v' (X.length + 1) (psC X ++ ptC (⟨os.length, true, lab, true, []⟩, .slice none 0 0)))
    (g2 : (w.alloc (.cells #[.int .i64 os.length, .bool true, .string ⟨lab.toArray⟩, .bool true, .slice none 0 0] 94)).grownBy w2 v.ownBlock)
    (b3 : Below w2.heap.size w2 w3) (h3 : w3.ownsRow w0.heap.size 3 1 ov1 os.length (ints os))
    (h4 : w4.ownsRow w0.heap.size 3 1 ov2 (os.length + 1) (ints os ++ [.int .i64 X.length])) (g4 : (w3.alloc (.cells #[.int .i64 X.length] 3)).grownBy w4 ov1.ownBlock) :
    PMem w0 ls (k + 1) v' ov2 (X ++ [(⟨os.length, true, lab, true, []⟩, .slice none 0 0)]) (os ++ [X.length]) w4 := by
  have hB := h.bel.size
  have b1 : Below w.heap.size w (w.alloc (.cells #[.int .i64 os.length, .bool true, .string ⟨lab.toArray⟩, .bool true, .slice none 0 0] 94)) := (Below.refl _ w).alloc (Nat.le_refl _) _
  have hs1 := alloc_size w (.cells #[.int .i64 os.length, .bool true, .string ⟨lab.toArray⟩, .bool true, .slice none 0 0] 94)
  have p1 := h.parts.below b1
  generalize w.alloc (.cells #[.int .i64 os.length, .bool true, .string ⟨lab.toArray⟩, .bool true, .slice none 0 0] 94) = w1 at *
  have hs2 := g2.size
  have p2 := p1.snoc g2 h2 (World.ownsRow_nil _ _ _ _) (fun k y hy g hg => by simp [Value.ownBlock])
  have hs3 := b3.size
  have p3 := (p2.below b3).alloc (.cells #[.int .i64 X.length] 3)
  have b4 : Below w3.heap.size w3 (w3.alloc (.cells #[.int .i64 X.length] 3)) := (Below.refl _ w3).alloc (Nat.le_refl _) _
  have r3 := ownsRow_below h3 b4
  have hs4 := alloc_size w3 (.cells #[.int .i64 X.length] 3)
  generalize w3.alloc (.cells #[.int .i64 X.length] 3) = w5 at *
  refine ⟨p3.keptInt r3 g4, ?_, ?_, ?_⟩
  · rw [List.length_append, show ints (os ++ [X.length]) = ints os ++ [.int .i64 X.length] from by simp [ints]]
    exact h4
  · rw [parseF_take ls k hk, ← h.st]
    unfold stepP
    rw [ho]
    simp
  · exact ((((h.bel.then b1).trans (below_of_grown g2 (fun g hg => (p1.row.lt g hg).1) (by omega))).trans (b3.mono (by omega))).trans (b4.mono (by omega))).trans (below_of_grown g4 (fun g hg => (r3.lt g hg).1) (by omega))
theorem closes_cmp (s : Txt) : ((⟨(trimR s).toArray⟩ : ByteArray).toList == [58, 58, 58]) = closesL s := by
  rw [Bool.eq_iff_iff, beq_iff_eq, ByteArray.toList_eq]
  unfold closesL divE
  simp

set_option maxHeartbeats 16000000 in
theorem rparts_any (A : Option Addr) (c : Nat) (ls : List Txt) (w : World) (hrow : RowOf w A c (strs ls)) (hm : ls.length ≤ 100000) (hz : ∀ y ∈ ls, y.length ≤ 140737488355328) :
    Calls Tryz.prog 48 #[.slice A ls.length c] w fun e w' => ∃ v X, e = .returned v ∧ PartsOwn w' w.heap.size v X ∧ X.map Prod.fst = parseL ls ∧ Below w.heap.size w w' := by
  obtain ⟨i0, hi, hz0, hz1, hz2⟩ := info_parts infoInt
  obtain ⟨i1, hi1, hw0, hw1, hw2⟩ := info_parts infoPart
  obtain ⟨i3, hi3, hv0, hv1, hv2⟩ := info_parts infoString
  have hcl := hrow.1
  have hcm := hrow.2.1
  rw [strs_length] at hcl
  unfold maxLen at hcm
  have HZ := Lib.hid hz
  clear hz
  go_enter Tryz.func48, Tryz.ntmps48
  go_wp2_with fail
  go_loopw [3, 4, 5] (fun v ov i wr => ParseRel w ls v ov i wr) (fun _ _ i _ => ls.length - (intOf i).toNat)
  case atStart => exact ⟨0, [], [], rfl, Nat.zero_le _, PartsOwn.nil _ _, World.ownsRow_nil _ _ _ _, rfl, Below.refl _ _⟩
  case round =>
    obtain ⟨k, X, os, rfl, hk, hM⟩ := hrel
    obtain ⟨bX, bO, bI, bL⟩ := hM.bound hk
    by_cases hp : k < ls.length
    · have hrow2 := hrow.below hM.bel
      obtain ⟨b, off, rfl, hb, hc⟩ := hrow2.cellAt hp
      have hsz := HZ.out ls[k] (List.getElem_mem hp)
      rw [← str_size] at hsz
      have co := rdopens_any ⟨ls[k].toArray⟩ wr hsz
      rw [show (⟨ls[k].toArray⟩ : ByteArray).data.toList = ls[k] from rfl] at co
      obtain ⟨A3, c3, rfl, hat⟩ := hM.parts.at
      obtain ⟨A4, c4, rfl, hr4, hN4, _⟩ := RowOf.own hM.row
      cases ho : opensL ls[k] with
      | some lab =>
        rw [ho] at co
        unfold optV2 at co
        dsimp only at co
        have HO := Lib.hid ho
        have HM := Lib.hid hM
        have p1 := hM.parts.alloc (.cells #[.int .i64 os.length, .bool true, .string ⟨lab.toArray⟩, .bool true, .slice none 0 0] 94)
        have hn1 := part_cells wr (⟨os.length, true, lab, true, []⟩, .slice none 0 0) 94
        have hr5 := hr4.alloc (.cells #[.int .i64 os.length, .bool true, .string ⟨lab.toArray⟩, .bool true, .slice none 0 0] 94)
        have hs0 := hM.bel.size
        have hs1 := alloc_size wr (.cells #[.int .i64 os.length, .bool true, .string ⟨lab.toArray⟩, .bool true, .slice none 0 0] 94)
        have hrI := hM.row.alloc (.cells #[.int .i64 os.length, .bool true, .string ⟨lab.toArray⟩, .bool true, .slice none 0 0] 94)
        clear hat hr4 hr5 hrow2 hM bI bL
        go_wp2_with fail
        refine co.mono ?_
        rintro e w1 ⟨rfl, hwe⟩
        have hwe := hwe.symm
        subst hwe
        go_wp2_with (at_builtin; refine wpList_append_own _ rfl _ _ 63 rfl w.heap.size 94 i1 (.agg #[.int .i64 0, .bool false, .string ByteArray.empty, .bool false, .slice none 0 0]) 5 64 Tryz.underlying63 hi1 hw0 hw1 hw2 rfl (by decide) _ _ _ rfl p1.row ⟨wr.heap.size, 0, none⟩ 1 1 (ptC (⟨os.length, true, lab, true, []⟩, .slice none 0 0)) rfl rfl hn1 (ptC_one _ rfl) (by unfold maxLen; omega) (by omega) (by simp; omega) ?_)
        intro v' w2 hown2 hgrow2 _
        obtain ⟨g7, c7, cur7, rfl, _, _, _, _, _, _⟩ := own_block hown2 (by omega)
        have hrI2 := hrI.kept hgrow2 (own_apart hrI p1.row (by decide)).ne
        have hs2 := hgrow2.size
        have HO2 := Lib.hid hown2
        have HG2 := Lib.hid hgrow2
        have HRI := Lib.hid hrI2
        clear p1 hrI hown2 hgrow2 hn1
        obtain ⟨A5, c5, e5, hr5, _⟩ := RowOf.own hrI2
        cases e5
        have hnil : A4 = none → os = [] ∧ c4 = 0 := by
          intro e
          rcases hrI2.2 with ⟨e1, _⟩ | ⟨g, cap, cur, e1, _⟩
          · injection e1 with q1 q2 q3; exact ⟨List.eq_nil_of_length_eq_zero (hN4 e), q3⟩
          · rw [e] at e1; cases e1
        clear hrI2 hN4
        go_wp2_with (at_builtin; refine copy_ints rfl _ _ rfl w.heap.size rfl A4 c4 os rfl hr5 hnil (by omega) (by omega) ?_)
        intro ov1 w3 hown3 b3
        have hrJ := hown3.alloc (.cells #[.int .i64 X.length] 3)
        have hn3 := cells_one w3 (.int .i64 X.length) 3
        have hs3 := b3.size
        have hs4 := alloc_size w3 (.cells #[.int .i64 X.length] 3)
        have HO3 := Lib.hid hown3
        have HB3 := Lib.hid b3
        clear hown3 b3 hr5 hnil
        go_wp2_with (at_builtin; refine wpList_append_own _ rfl _ _ 79 rfl w.heap.size 3 i0 (.int .i64 0) 1 8 Tryz.underlying79 hi hz0 hz1 hz2 rfl (by decide) _ _ _ rfl hrJ ⟨w3.heap.size, 0, none⟩ 1 1 [.int .i64 X.length] rfl rfl hn3 (by simp [Value.oneCell']) (by unfold maxLen; omega) (by omega) (by simp; omega) ?_)
        intro ov2 w4 hown4 hgrow4 _
        have HF := Lib.hid (HM.out.ropen hp HO.out HO2.out HG2.out HB3.out HO3.out hown4 hgrow4)
        clear hown4 hgrow4 hrJ
        go_wp2
        go_roundw
        case rel => exact ⟨k + 1, _, _, by go_num, by omega, HF.out⟩
        case measure => simp [intOf]; omega
      | none =>
        rw [ho] at co
        unfold optV2 at co
        dsimp only at co
        have HO := Lib.hid ho
        have hBs := hM.bel.size
        have cr := rrest_any ⟨ls[k].toArray⟩ wr hsz
        rw [show (⟨ls[k].toArray⟩ : ByteArray).data.toList = ls[k] from rfl] at cr
        have fcc := closes_cmp ls[k]
        generalize (⟨(trimR ls[k]).toArray⟩ : ByteArray) = T at *
        by_cases hcd : os ≠ [] ∧ closesL ls[k] = true
        · obtain ⟨hne, hcl'⟩ := hcd
          rw [hcl'] at fcc
          have HC := Lib.hid hcl'
          obtain ⟨d, hd⟩ : ∃ d, os.length = d + 1 := ⟨os.length - 1, by have := List.length_pos_iff.2 hne; omega⟩
          have hj : os[d]? = some (os[d]'(by omega)) := List.getElem?_eq_getElem (by omega)
          have hjl := bI _ (List.getElem_mem (l := os) (n := d) (by omega))
          generalize os[d]'(by omega) = j at *
          obtain ⟨g3, c3', cur3, e3, _, hlt3, hnc3, hcm3, hblk3, hcell3⟩ := own_block hM.parts.row (by omega)
          cases e3
          obtain ⟨g4, c4', cur4, e4, _, hlt4, hnc4, hcm4, hblk4, hcell4⟩ := own_block hM.row (by omega)
          cases e4
          have hc3 := hcell3 _ _ (psC_get X j hjl 3 (.bool (X[j]).1.opn) rfl)
          have hf3 := own_frozen hblk3 (j * 5 + 3)
          have hc4 := hcell4 d (.int .i64 j) (by unfold ints; rw [List.getElem?_map, hj]; rfl)
          have HF := Lib.hid (hM.close hp HO.out HC.out hd hj hjl)
          have f0 : decide ((0 : Int) < os.length) = true := by simp; omega
          clear hM hcell3 hcell4 hat hr4 hrow2 bI bL ho hne hcl' hN4
          unfold maxLen at hcm3 hcm4
          rw [hd] at hnc4 f0 bO ⊢
          go_wp2_with fail
          refine co.mono ?_
          rintro e w1 ⟨rfl, hwe⟩
          have hwe := hwe.symm
          subst hwe
          go_wp2_with fail
          refine cr.mono ?_
          rintro e w1 ⟨rfl, hwe⟩
          have hwe := hwe.symm
          subst hwe
          go_wp2
          go_roundw
          case rel => exact ⟨k + 1, _, _, by go_num, by omega, HF.out⟩
          case measure => simp [intOf]; omega
        · have HN := Lib.hid hcd
          have hcase : (T.toList == [58, 58, 58]) = false ∨ ((T.toList == [58, 58, 58]) = true ∧ os.length = 0) := by
            rw [fcc]
            cases hcl' : closesL ls[k] with
            | false => exact Or.inl rfl
            | true => exact Or.inr ⟨rfl, by
                by_cases h0 : os = []
                · rw [h0]; rfl
                · exact absurd ⟨h0, hcl'⟩ hcd⟩
          have h2 := (hM.parts.alloc (.cells #[.string ⟨ls[k].toArray⟩] 9)).alloc (.cells #[.int .i64 os.length, .bool false, .string ⟨#[]⟩, .bool false, .slice (some ⟨wr.heap.size, 0, none⟩) 1 1] 94)
          have hs1 := alloc_size wr (.cells #[.string ⟨ls[k].toArray⟩] 9)
          have hs2 := alloc_size (wr.alloc (.cells #[.string ⟨ls[k].toArray⟩] 9)) (.cells #[.int .i64 os.length, .bool false, .string ⟨#[]⟩, .bool false, .slice (some ⟨wr.heap.size, 0, none⟩) 1 1] 94)
          have hn := part_cells (wr.alloc (.cells #[.string ⟨ls[k].toArray⟩] 9)) (⟨os.length, false, [], false, [ls[k]]⟩, .slice (some ⟨wr.heap.size, 0, none⟩) 1 1) 94
          rw [alloc_size] at hn
          have HE := Lib.hid (fun v' w2 => new_run (v' := v') (w2 := w2) (d := (os.length : Int)) (s := ⟨ls[k].toArray⟩) hBs hM.parts)
          have HM := Lib.hid hM
          cases hg : (X.map Prod.fst).getLast? with
          | none =>
            have HAd := Lib.hid (addLn_none os.length ls[k] hg)
            obtain rfl : X = [] := by rw [List.getLast?_eq_none_iff, List.map_eq_nil_iff] at hg; exact hg
            have hr2 := h2.row
            clear hM hat hr4 hrow2 bI bL ho hcd fcc hN4 h2 hg
            rcases hcase with fT | ⟨fT, h0⟩
            · go_wp2_with fail
              refine co.mono ?_
              rintro e w1 ⟨rfl, hwe⟩
              have hwe := hwe.symm
              subst hwe
              go_wp2_with fail
              refine cr.mono ?_
              rintro e w1 ⟨rfl, hwe⟩
              have hwe := hwe.symm
              subst hwe
              go_wp2_with (at_builtin; refine wpList_append_own _ rfl _ _ 63 rfl w.heap.size 94 i1 (.agg #[.int .i64 0, .bool false, .string ByteArray.empty, .bool false, .slice none 0 0]) 5 64 Tryz.underlying63 hi1 hw0 hw1 hw2 rfl (by decide) _ _ _ rfl hr2 ⟨wr.heap.size + 1, 0, none⟩ 1 1 (ptC (⟨os.length, false, [], false, [ls[k]]⟩, .slice (some ⟨wr.heap.size, 0, none⟩) 1 1)) rfl rfl hn (ptC_one _ rfl) (by unfold maxLen; omega) (by omega) (by simp; omega) ?_)
              intro v' w2 hown hgrow _
              obtain ⟨v2, X2, e, hP, hXe, hIk, hB2⟩ := HE.out v' w2 hown hgrow
              cases e
              have HF := Lib.hid (HM.out.line hp HO.out HN.out hP (hXe.trans HAd.out.symm) hIk hB2)
              clear hown hgrow hP hXe hIk hB2
              go_wp2
              go_roundw
              case rel => exact ⟨k + 1, _, _, by go_num, by omega, HF.out⟩
              case measure => simp [intOf]; omega
            · obtain rfl : os = [] := List.eq_nil_of_length_eq_zero h0
              rw [show ((([] : List Nat).length : Nat) : Int) = 0 from rfl] at hr2 hn HE
              go_wp2_with fail
              refine co.mono ?_
              rintro e w1 ⟨rfl, hwe⟩
              have hwe := hwe.symm
              subst hwe
              go_wp2_with fail
              refine cr.mono ?_
              rintro e w1 ⟨rfl, hwe⟩
              have hwe := hwe.symm
              subst hwe
              go_wp2_with (at_builtin; refine wpList_append_own _ rfl _ _ 63 rfl w.heap.size 94 i1 (.agg #[.int .i64 0, .bool false, .string ByteArray.empty, .bool false, .slice none 0 0]) 5 64 Tryz.underlying63 hi1 hw0 hw1 hw2 rfl (by decide) _ _ _ rfl hr2 ⟨wr.heap.size + 1, 0, none⟩ 1 1 (ptC (⟨0, false, [], false, [ls[k]]⟩, .slice (some ⟨wr.heap.size, 0, none⟩) 1 1)) rfl rfl hn (ptC_one _ rfl) (by unfold maxLen; omega) (by omega) (by simp; omega) ?_)
              intro v' w2 hown hgrow _
              obtain ⟨v2, X2, e, hP, hXe, hIk, hB2⟩ := HE.out v' w2 hown hgrow
              cases e
              have HF := Lib.hid (HM.out.line hp HO.out HN.out hP (hXe.trans HAd.out.symm) hIk hB2)
              clear hown hgrow hP hXe hIk hB2
              go_wp2
              go_roundw
              case rel => exact ⟨k + 1, _, _, by go_num, by omega, HF.out⟩
              case measure => simp [intOf]; omega
          | some p =>
            obtain ⟨ys, e⟩ := List.getLast?_eq_some_iff.1 hg
            have hmm : X.length = ys.length + 1 := by have := congrArg List.length e; simpa using this
            generalize hm0 : ys.length = m at *
            have hx : X[m]? = some (X[m]'(by omega)) := List.getElem?_eq_getElem (by omega)
            have hxp : (X[m]'(by omega)).1 = p := by
              have h1 : (X.map Prod.fst)[m]? = some p := by rw [e, ← hm0]; simp
              rw [List.getElem?_map, hx] at h1
              simpa using h1
            obtain ⟨g, cap, cur, e7, hbg, hlt, hcap, hcm7, hblk, hcx⟩ := own_block hM.parts.row (by omega)
            cases e7
            have hc0 := hcx _ _ (psC_get X m (by omega) 0 (.int .i64 p.depth) (by rw [← hxp]; rfl))
            have hc1 := hcx _ _ (psC_get X m (by omega) 1 (.bool p.dv) (by rw [← hxp]; rfl))
            rw [Nat.add_zero] at hc0
            have f1 : decide ((0 : Int) < X.length) = true := by simp; omega
            unfold maxLen at hcm7
            have hr2 := h2.row
            by_cases hpn : p.dv = true ∨ p.depth ≠ os.length
            · have HAd := Lib.hid (addLn_new os.length ls[k] hg hpn)
              clear hM hat hr4 hrow2 bI bL ho hcd fcc hN4 h2 hg hx hxp hblk hcx e
              generalize p.depth = pd at *
              generalize p.dv = pv at *
              cases pv with
              | true =>
                clear hpn
                have bX2 : m + 1 ≤ k := by omega
                rw [hmm] at hr2 HE f1 hcap ⊢
                clear bX hmm
                rcases hcase with fT | ⟨fT, h0⟩
                · go_wp2_with fail
                  refine co.mono ?_
                  rintro e w1 ⟨rfl, hwe⟩
                  have hwe := hwe.symm
                  subst hwe
                  go_wp2_with fail
                  refine cr.mono ?_
                  rintro e w1 ⟨rfl, hwe⟩
                  have hwe := hwe.symm
                  subst hwe
                  go_wp2_with (at_builtin; refine wpList_append_own _ rfl _ _ 63 rfl w.heap.size 94 i1 (.agg #[.int .i64 0, .bool false, .string ByteArray.empty, .bool false, .slice none 0 0]) 5 64 Tryz.underlying63 hi1 hw0 hw1 hw2 rfl (by decide) _ _ _ rfl hr2 ⟨wr.heap.size + 1, 0, none⟩ 1 1 (ptC (⟨os.length, false, [], false, [ls[k]]⟩, .slice (some ⟨wr.heap.size, 0, none⟩) 1 1)) rfl rfl hn (ptC_one _ rfl) (by unfold maxLen; omega) (by omega) (by simp; omega) ?_)
                  intro v' w2 hown hgrow _
                  obtain ⟨v2, X2, e, hP, hXe, hIk, hB2⟩ := HE.out v' w2 hown hgrow
                  cases e
                  have HF := Lib.hid (HM.out.line hp HO.out HN.out hP (hXe.trans HAd.out.symm) hIk hB2)
                  clear hown hgrow hP hXe hIk hB2
                  go_wp2
                  go_roundw
                  case rel => exact ⟨k + 1, _, _, by go_num, by omega, HF.out⟩
                  case measure => simp [intOf]; omega
                · obtain rfl : os = [] := List.eq_nil_of_length_eq_zero h0
                  rw [show ((([] : List Nat).length : Nat) : Int) = 0 from rfl] at hr2 hn HE
                  go_wp2_with fail
                  refine co.mono ?_
                  rintro e w1 ⟨rfl, hwe⟩
                  have hwe := hwe.symm
                  subst hwe
                  go_wp2_with fail
                  refine cr.mono ?_
                  rintro e w1 ⟨rfl, hwe⟩
                  have hwe := hwe.symm
                  subst hwe
                  go_wp2_with (at_builtin; refine wpList_append_own _ rfl _ _ 63 rfl w.heap.size 94 i1 (.agg #[.int .i64 0, .bool false, .string ByteArray.empty, .bool false, .slice none 0 0]) 5 64 Tryz.underlying63 hi1 hw0 hw1 hw2 rfl (by decide) _ _ _ rfl hr2 ⟨wr.heap.size + 1, 0, none⟩ 1 1 (ptC (⟨0, false, [], false, [ls[k]]⟩, .slice (some ⟨wr.heap.size, 0, none⟩) 1 1)) rfl rfl hn (ptC_one _ rfl) (by unfold maxLen; omega) (by omega) (by simp; omega) ?_)
                  intro v' w2 hown hgrow _
                  obtain ⟨v2, X2, e, hP, hXe, hIk, hB2⟩ := HE.out v' w2 hown hgrow
                  cases e
                  have HF := Lib.hid (HM.out.line hp HO.out HN.out hP (hXe.trans HAd.out.symm) hIk hB2)
                  clear hown hgrow hP hXe hIk hB2
                  go_wp2
                  go_roundw
                  case rel => exact ⟨k + 1, _, _, by go_num, by omega, HF.out⟩
                  case measure => simp [intOf]; omega
              | false =>
                have fpd : (pd == (os.length : Int)) = false := by
                  rcases hpn with h | h
                  · cases h
                  · simpa using h
                clear hpn
                have bX2 : m + 1 ≤ k := by omega
                rw [hmm] at hr2 HE f1 hcap ⊢
                clear bX hmm
                rcases hcase with fT | ⟨fT, h0⟩
                · go_wp2_with fail
                  refine co.mono ?_
                  rintro e w1 ⟨rfl, hwe⟩
                  have hwe := hwe.symm
                  subst hwe
                  go_wp2_with fail
                  refine cr.mono ?_
                  rintro e w1 ⟨rfl, hwe⟩
                  have hwe := hwe.symm
                  subst hwe
                  go_wp2_with (at_builtin; refine wpList_append_own _ rfl _ _ 63 rfl w.heap.size 94 i1 (.agg #[.int .i64 0, .bool false, .string ByteArray.empty, .bool false, .slice none 0 0]) 5 64 Tryz.underlying63 hi1 hw0 hw1 hw2 rfl (by decide) _ _ _ rfl hr2 ⟨wr.heap.size + 1, 0, none⟩ 1 1 (ptC (⟨os.length, false, [], false, [ls[k]]⟩, .slice (some ⟨wr.heap.size, 0, none⟩) 1 1)) rfl rfl hn (ptC_one _ rfl) (by unfold maxLen; omega) (by omega) (by simp; omega) ?_)
                  intro v' w2 hown hgrow _
                  obtain ⟨v2, X2, e, hP, hXe, hIk, hB2⟩ := HE.out v' w2 hown hgrow
                  cases e
                  have HF := Lib.hid (HM.out.line hp HO.out HN.out hP (hXe.trans HAd.out.symm) hIk hB2)
                  clear hown hgrow hP hXe hIk hB2
                  go_wp2
                  go_roundw
                  case rel => exact ⟨k + 1, _, _, by go_num, by omega, HF.out⟩
                  case measure => simp [intOf]; omega
                · obtain rfl : os = [] := List.eq_nil_of_length_eq_zero h0
                  rw [show ((([] : List Nat).length : Nat) : Int) = 0 from rfl] at hr2 hn HE
                  go_wp2_with fail
                  refine co.mono ?_
                  rintro e w1 ⟨rfl, hwe⟩
                  have hwe := hwe.symm
                  subst hwe
                  go_wp2_with fail
                  refine cr.mono ?_
                  rintro e w1 ⟨rfl, hwe⟩
                  have hwe := hwe.symm
                  subst hwe
                  go_wp2_with (at_builtin; refine wpList_append_own _ rfl _ _ 63 rfl w.heap.size 94 i1 (.agg #[.int .i64 0, .bool false, .string ByteArray.empty, .bool false, .slice none 0 0]) 5 64 Tryz.underlying63 hi1 hw0 hw1 hw2 rfl (by decide) _ _ _ rfl hr2 ⟨wr.heap.size + 1, 0, none⟩ 1 1 (ptC (⟨0, false, [], false, [ls[k]]⟩, .slice (some ⟨wr.heap.size, 0, none⟩) 1 1)) rfl rfl hn (ptC_one _ rfl) (by unfold maxLen; omega) (by omega) (by simp; omega) ?_)
                  intro v' w2 hown hgrow _
                  obtain ⟨v2, X2, e, hP, hXe, hIk, hB2⟩ := HE.out v' w2 hown hgrow
                  cases e
                  have HF := Lib.hid (HM.out.line hp HO.out HN.out hP (hXe.trans HAd.out.symm) hIk hB2)
                  clear hown hgrow hP hXe hIk hB2
                  go_wp2
                  go_roundw
                  case rel => exact ⟨k + 1, _, _, by go_num, by omega, HF.out⟩
                  case measure => simp [intOf]; omega
            · have hp1 : p.dv = false := by cases h : p.dv <;> simp [h] at hpn ⊢
              have hp2 : p.depth = os.length := by
                by_cases e : p.depth = os.length
                · exact e
                · exact absurd (Or.inr e) hpn
              have HAd := Lib.hid (show addLn (X.map Prod.fst) os.length ls[k] = (X.map Prod.fst).set m { (X[m]'(by omega)).1 with ls := (X[m]'(by omega)).1.ls ++ [ls[k]] } from by
                rw [hxp, e, addLn_same os.length ls[k] hp1 hp2, set_last hm0])
              have hc4 := hcx _ _ (psC_get X m (by omega) 4 (X[m]'(by omega)).2 rfl)
              have hfz := own_frozen hblk (m * 5 + 4)
              have hrow9 := hM.parts.ls m _ hx
              have hl9 := bL _ (List.getElem_mem (l := X) (n := m) (by omega))
              have HX := Lib.hid hx
              clear hxp hx e
              generalize (X[m]'(by omega)) = x at *
              obtain ⟨A8, c8, e2, hra, _⟩ := RowOf.own hrow9
              rw [e2] at hc4 hrow9
              rw [hp2] at hc0
              rw [hp1] at hc1
              have HE2 := Lib.hid e2
              have hnw := cells_one wr (.string ⟨ls[k].toArray⟩) 9
              have hrow8 := hrow9.alloc (.cells #[.string ⟨ls[k].toArray⟩] 9)
              have HMM := Lib.hid hmm
              rw [hmm] at HM f1 hcap bX ⊢
              clear hM hat hr4 hrow2 bI bL ho hcd fcc hN4 h2 hg hblk hcx hpn hp1 hp2 HE hr2 hmm hrow9 hra e2 hn hs2
              rcases hcase with fT | ⟨fT, h0⟩
              · go_wp2_with fail
                refine co.mono ?_
                rintro e w1 ⟨rfl, hwe⟩
                have hwe := hwe.symm
                subst hwe
                go_wp2_with fail
                refine cr.mono ?_
                rintro e w1 ⟨rfl, hwe⟩
                have hwe := hwe.symm
                subst hwe
                have HMd := Lib.hid (HM.out.below ((Below.refl wr.heap.size wr).drew))
                have hS : wr.drew.cell? ⟨g, m * 5 + 4, none⟩ = some (.slice A8 x.1.ls.length c8) ∧ wr.drew.cell? ⟨b, off + k, none⟩ = some (.string ⟨ls[k].toArray⟩) := ⟨hc4, hc⟩
                have hfz : wr.drew.frozen? ⟨g, m * 5 + 4, none⟩ = false := hfz
                go_wp2_with fail
                refine wp_region_N (fun W => W.cell? ⟨g, m * 5 + 4, none⟩ = some (.slice A8 x.1.ls.length c8) ∧ W.cell? ⟨b, off + k, none⟩ = some (.string ⟨ls[k].toArray⟩)) (fun j => decide (j < 15)) (by kernel_rfl) ?_
                clear hc4 hc hc0 hc1 hrow8 hnw
                have hds : wr.heap.size ≤ wr.drew.heap.size := Nat.le_refl _
                generalize wr.drew = wd at *
                have hrowd := HMd.out.parts.ls m x HX.out
                rw [HE2.out] at hrowd
                have hrow8 := hrowd.alloc (.cells #[.string ⟨ls[k].toArray⟩] 9)
                have hnw := cells_one wd (.string ⟨ls[k].toArray⟩) 9
                have hm0' : (0 : Int) ≤ (m : Int) := by omega
                have hmlt : (m : Int) < (m : Int) + 1 := by omega
                have hwm : IntKind.i64.wrap (m : Int) = m := IntWalk.i64_in _ (by omega)
                refine wpAnyN_take_at 0 85 (v := ?_) rfl rfl (by kernel_rfl) (by kernel_rfl) (by kernel_rfl) (by kernel_rfl) (by kernel_rfl) (fun _ _ _ h => h) (by rfl) ?_ hS ?_
                rotate_left
                · intro w hSw; (try dsimp only at hSw); obtain ⟨s1, s2⟩ := hSw; go_simp; (try with_reducible rfl)
                simp only [Act.put, List.setIfInBounds_toArray, List.set_cons_zero, List.set_cons_succ]
                refine wpAnyN_take_at 1 86 (v := ?_) rfl rfl (by kernel_rfl) (by kernel_rfl) (by kernel_rfl) (by kernel_rfl) (by kernel_rfl) (fun _ _ _ h => h) (by rfl) ?_ hS ?_
                rotate_left
                · intro w hSw; (try dsimp only at hSw); obtain ⟨s1, s2⟩ := hSw; go_simp; (try with_reducible rfl)
                simp only [Act.put, List.setIfInBounds_toArray, List.set_cons_zero, List.set_cons_succ]
                refine wpAnyN_take_at 2 87 (v := .int .i64 (m : Int)) rfl rfl (by kernel_rfl) (by kernel_rfl) (by kernel_rfl) (by kernel_rfl) (by kernel_rfl) (fun _ _ _ h => h) (by rfl) ?_ hS ?_
                · intro w hSw; (try dsimp only at hSw); obtain ⟨s1, s2⟩ := hSw; go_simp; (try simp only [hwm]); (try with_reducible rfl)
                simp only [Act.put, List.setIfInBounds_toArray, List.set_cons_zero, List.set_cons_succ]
                refine wpAnyN_take_at 3 88 (v := ?_) rfl rfl (by kernel_rfl) (by kernel_rfl) (by kernel_rfl) (by kernel_rfl) (by kernel_rfl) (fun _ _ _ h => h) (by rfl) ?_ hS ?_
                rotate_left
                · intro w hSw; (try dsimp only at hSw); obtain ⟨s1, s2⟩ := hSw; go_simp; (try with_reducible rfl)
                simp only [Act.put, List.setIfInBounds_toArray, List.set_cons_zero, List.set_cons_succ]
                refine wpAnyN_take_at 4 89 (v := ?_) rfl rfl (by kernel_rfl) (by kernel_rfl) (by kernel_rfl) (by kernel_rfl) (by kernel_rfl) (fun _ _ _ h => h) (by rfl) ?_ hS ?_
                rotate_left
                · intro w hSw; (try dsimp only at hSw); obtain ⟨s1, s2⟩ := hSw; go_simp; (try with_reducible rfl)
                simp only [Act.put, List.setIfInBounds_toArray, List.set_cons_zero, List.set_cons_succ]
                refine wpAnyN_take_at 5 90 (v := .int .i64 (m : Int)) rfl rfl (by kernel_rfl) (by kernel_rfl) (by kernel_rfl) (by kernel_rfl) (by kernel_rfl) (fun _ _ _ h => h) (by rfl) ?_ hS ?_
                · intro w hSw; (try dsimp only at hSw); obtain ⟨s1, s2⟩ := hSw; go_simp; (try simp only [hwm]); (try with_reducible rfl)
                simp only [Act.put, List.setIfInBounds_toArray, List.set_cons_zero, List.set_cons_succ]
                refine wpAnyN_take_at 6 91 (v := ?_) rfl rfl (by kernel_rfl) (by kernel_rfl) (by kernel_rfl) (by kernel_rfl) (by kernel_rfl) (fun _ _ _ h => h) (by rfl) ?_ hS ?_
                rotate_left
                · intro w hSw; (try dsimp only at hSw); obtain ⟨s1, s2⟩ := hSw; go_simp; (try with_reducible rfl)
                simp only [Act.put, List.setIfInBounds_toArray, List.set_cons_zero, List.set_cons_succ]
                refine wpAnyN_take_at 7 92 (v := ?_) rfl rfl (by kernel_rfl) (by kernel_rfl) (by kernel_rfl) (by kernel_rfl) (by kernel_rfl) (fun _ _ _ h => h) (by rfl) ?_ hS ?_
                rotate_left
                · intro w hSw; (try dsimp only at hSw); obtain ⟨s1, s2⟩ := hSw; go_simp; (try with_reducible rfl)
                simp only [Act.put, List.setIfInBounds_toArray, List.set_cons_zero, List.set_cons_succ]
                refine wpAnyN_take_at 8 93 (v := ?_) rfl rfl (by kernel_rfl) (by kernel_rfl) (by kernel_rfl) (by kernel_rfl) (by kernel_rfl) (fun _ _ _ h => h) (by rfl) ?_ hS ?_
                rotate_left
                · intro w hSw; (try dsimp only at hSw); obtain ⟨s1, s2⟩ := hSw; go_simp; (try with_reducible rfl)
                simp only [Act.put, List.setIfInBounds_toArray, List.set_cons_zero, List.set_cons_succ]
                refine wpAnyN_take_at 9 94 (v := ?_) rfl rfl (by kernel_rfl) (by kernel_rfl) (by kernel_rfl) (by kernel_rfl) (by kernel_rfl) (fun _ _ _ h => h) (by rfl) ?_ hS ?_
                rotate_left
                · intro w hSw; (try dsimp only at hSw); obtain ⟨s1, s2⟩ := hSw; go_simp; (try with_reducible rfl)
                simp only [Act.put, List.setIfInBounds_toArray, List.set_cons_zero, List.set_cons_succ]
                refine wpAnyN_take_at 10 95 (v := ?_) rfl rfl (by kernel_rfl) (by kernel_rfl) (by kernel_rfl) (by kernel_rfl) (by kernel_rfl) (fun _ _ _ h => h) (by rfl) ?_ hS ?_
                rotate_left
                · intro w hSw; (try dsimp only at hSw); obtain ⟨s1, s2⟩ := hSw; go_simp; (try with_reducible rfl)
                simp only [Act.put, List.setIfInBounds_toArray, List.set_cons_zero, List.set_cons_succ]
                refine wpAnyN_take_at 11 96 (v := ?_) rfl rfl (by kernel_rfl) (by kernel_rfl) (by kernel_rfl) (by kernel_rfl) (by kernel_rfl) (fun _ _ _ h => h) (by rfl) ?_ hS ?_
                rotate_left
                · intro w hSw; (try dsimp only at hSw); obtain ⟨s1, s2⟩ := hSw; go_simp; (try with_reducible rfl)
                simp only [Act.put, List.setIfInBounds_toArray, List.set_cons_zero, List.set_cons_succ]
                refine wpAnyN_take_at 12 97 (v := ?_) rfl rfl (by kernel_rfl) (by kernel_rfl) (by kernel_rfl) (by kernel_rfl) (by kernel_rfl) (fun _ _ _ h => h) (by rfl) ?_ hS ?_
                rotate_left
                · intro w hSw; (try dsimp only at hSw); obtain ⟨s1, s2⟩ := hSw; go_simp; (try with_reducible rfl)
                simp only [Act.put, List.setIfInBounds_toArray, List.set_cons_zero, List.set_cons_succ]
                refine wpAnyN_one (i := 13) rfl (by kernel_rfl) (fun K hK => ?_)
                go_simp
                have b1 : Below wd.heap.size wd (wd.alloc (.cells #[.string ⟨ls[k].toArray⟩] 9)) := (Below.refl _ wd).alloc (Nat.le_refl _) _
                have hS1 := And.intro ((b1.cell (p := ⟨g, m * 5 + 4, none⟩) (World.block_lt_of_cell? _ _ hS.1)).trans hS.1) ((b1.cell (p := ⟨b, off + k, none⟩) (World.block_lt_of_cell? _ _ hS.2)).trans hS.2)
                refine hK _ _ (fun _ => hS1) ?_
                clear hK
                refine wpAnyN_one (i := 14) rfl (by kernel_rfl) (fun K hK => ?_)
                refine step_append_lies _ rfl (.tmp 93) (.tmp 98) 22 rfl w.heap.size 9 i3 (.string ByteArray.empty) 1 16 Tryz.underlying22 hi3 hv0 hv1 hv2 rfl (by decide) (.slice A8 x.1.ls.length c8) x.1.ls.length (strs x.1.ls) rfl hrow8 ⟨wd.heap.size, 0, none⟩ 1 1 [.string ⟨ls[k].toArray⟩] rfl rfl hnw (by simp [Value.oneCell']) (by omega) (by unfold maxLen; omega) (by omega) (by simp; omega) (wd.heap.size + 1) (by simp) ?_
                intro g4 cap4 w4 hown4 hgrow4 hat4 hlt4
                have hk4 := own_keep HMd.out.parts HX.out HE2.out hgrow4
                have hc44 := hk4.1 (m * 5 + 4) _ hS.1
                have hf44 := hk4.2 (m * 5 + 4)
                obtain ⟨b9, o9, e9, hb9, hc9⟩ := hrow.cellAt hp
                cases e9
                have bw4 : Below w.heap.size wd w4 := (b1.mono (by omega)).trans (below_of_grown hgrow4 (fun g hg => (hrow8.lt g hg).1) (by have := b1.size; omega))
                have hc94 := (bw4.cell (p := ⟨b, off + k, none⟩) hb9).trans hS.2
                obtain ⟨v2, X2, e, hP, hXe, hIk, hB2⟩ := same_run (by omega) HMd.out.parts HMM.out HX.out hown4 (by rw [HE2.out]; exact hgrow4) (by rw [HE2.out]; exact hat4)
                cases e
                have HF := Lib.hid (HMd.out.line hp HO.out HN.out hP (hXe.trans HAd.out.symm) hIk hB2)
                refine hK _ _ (fun _ => ⟨hc44, hc94⟩) ?_
                clear hK hown4 hgrow4 hat4 hlt4 hk4 hP hXe hIk hB2 hS hS1 bw4 hc94 hrow8 hrowd hnw b1
                refine wpAnyN_rest 15 [_, _, _] rfl (by kernel_rfl) (by kernel_rfl) ?_
                go_wp2
                go_roundw
                case rel => exact ⟨k + 1, _, _, by go_num, by omega, HF.out⟩
                case measure => simp [intOf]; omega
              · obtain rfl : os = [] := List.eq_nil_of_length_eq_zero h0
                rw [show ((([] : List Nat).length : Nat) : Int) = 0 from rfl] at hc0
                go_wp2_with fail
                refine co.mono ?_
                rintro e w1 ⟨rfl, hwe⟩
                have hwe := hwe.symm
                subst hwe
                go_wp2_with fail
                refine cr.mono ?_
                rintro e w1 ⟨rfl, hwe⟩
                have hwe := hwe.symm
                subst hwe
                have HMd := Lib.hid (HM.out.below ((Below.refl wr.heap.size wr).drew))
                have hS : wr.drew.cell? ⟨g, m * 5 + 4, none⟩ = some (.slice A8 x.1.ls.length c8) ∧ wr.drew.cell? ⟨b, off + k, none⟩ = some (.string ⟨ls[k].toArray⟩) := ⟨hc4, hc⟩
                have hfz : wr.drew.frozen? ⟨g, m * 5 + 4, none⟩ = false := hfz
                go_wp2_with fail
                refine wp_region_N (fun W => W.cell? ⟨g, m * 5 + 4, none⟩ = some (.slice A8 x.1.ls.length c8) ∧ W.cell? ⟨b, off + k, none⟩ = some (.string ⟨ls[k].toArray⟩)) (fun j => decide (j < 15)) (by kernel_rfl) ?_
                clear hc4 hc hc0 hc1 hrow8 hnw
                have hds : wr.heap.size ≤ wr.drew.heap.size := Nat.le_refl _
                generalize wr.drew = wd at *
                have hrowd := HMd.out.parts.ls m x HX.out
                rw [HE2.out] at hrowd
                have hrow8 := hrowd.alloc (.cells #[.string ⟨ls[k].toArray⟩] 9)
                have hnw := cells_one wd (.string ⟨ls[k].toArray⟩) 9
                have hm0' : (0 : Int) ≤ (m : Int) := by omega
                have hmlt : (m : Int) < (m : Int) + 1 := by omega
                have hwm : IntKind.i64.wrap (m : Int) = m := IntWalk.i64_in _ (by omega)
                refine wpAnyN_take_at 0 85 (v := ?_) rfl rfl (by kernel_rfl) (by kernel_rfl) (by kernel_rfl) (by kernel_rfl) (by kernel_rfl) (fun _ _ _ h => h) (by rfl) ?_ hS ?_
                rotate_left
                · intro w hSw; (try dsimp only at hSw); obtain ⟨s1, s2⟩ := hSw; go_simp; (try with_reducible rfl)
                simp only [Act.put, List.setIfInBounds_toArray, List.set_cons_zero, List.set_cons_succ]
                refine wpAnyN_take_at 1 86 (v := ?_) rfl rfl (by kernel_rfl) (by kernel_rfl) (by kernel_rfl) (by kernel_rfl) (by kernel_rfl) (fun _ _ _ h => h) (by rfl) ?_ hS ?_
                rotate_left
                · intro w hSw; (try dsimp only at hSw); obtain ⟨s1, s2⟩ := hSw; go_simp; (try with_reducible rfl)
                simp only [Act.put, List.setIfInBounds_toArray, List.set_cons_zero, List.set_cons_succ]
                refine wpAnyN_take_at 2 87 (v := .int .i64 (m : Int)) rfl rfl (by kernel_rfl) (by kernel_rfl) (by kernel_rfl) (by kernel_rfl) (by kernel_rfl) (fun _ _ _ h => h) (by rfl) ?_ hS ?_
                · intro w hSw; (try dsimp only at hSw); obtain ⟨s1, s2⟩ := hSw; go_simp; (try simp only [hwm]); (try with_reducible rfl)
                simp only [Act.put, List.setIfInBounds_toArray, List.set_cons_zero, List.set_cons_succ]
                refine wpAnyN_take_at 3 88 (v := ?_) rfl rfl (by kernel_rfl) (by kernel_rfl) (by kernel_rfl) (by kernel_rfl) (by kernel_rfl) (fun _ _ _ h => h) (by rfl) ?_ hS ?_
                rotate_left
                · intro w hSw; (try dsimp only at hSw); obtain ⟨s1, s2⟩ := hSw; go_simp; (try with_reducible rfl)
                simp only [Act.put, List.setIfInBounds_toArray, List.set_cons_zero, List.set_cons_succ]
                refine wpAnyN_take_at 4 89 (v := ?_) rfl rfl (by kernel_rfl) (by kernel_rfl) (by kernel_rfl) (by kernel_rfl) (by kernel_rfl) (fun _ _ _ h => h) (by rfl) ?_ hS ?_
                rotate_left
                · intro w hSw; (try dsimp only at hSw); obtain ⟨s1, s2⟩ := hSw; go_simp; (try with_reducible rfl)
                simp only [Act.put, List.setIfInBounds_toArray, List.set_cons_zero, List.set_cons_succ]
                refine wpAnyN_take_at 5 90 (v := .int .i64 (m : Int)) rfl rfl (by kernel_rfl) (by kernel_rfl) (by kernel_rfl) (by kernel_rfl) (by kernel_rfl) (fun _ _ _ h => h) (by rfl) ?_ hS ?_
                · intro w hSw; (try dsimp only at hSw); obtain ⟨s1, s2⟩ := hSw; go_simp; (try simp only [hwm]); (try with_reducible rfl)
                simp only [Act.put, List.setIfInBounds_toArray, List.set_cons_zero, List.set_cons_succ]
                refine wpAnyN_take_at 6 91 (v := ?_) rfl rfl (by kernel_rfl) (by kernel_rfl) (by kernel_rfl) (by kernel_rfl) (by kernel_rfl) (fun _ _ _ h => h) (by rfl) ?_ hS ?_
                rotate_left
                · intro w hSw; (try dsimp only at hSw); obtain ⟨s1, s2⟩ := hSw; go_simp; (try with_reducible rfl)
                simp only [Act.put, List.setIfInBounds_toArray, List.set_cons_zero, List.set_cons_succ]
                refine wpAnyN_take_at 7 92 (v := ?_) rfl rfl (by kernel_rfl) (by kernel_rfl) (by kernel_rfl) (by kernel_rfl) (by kernel_rfl) (fun _ _ _ h => h) (by rfl) ?_ hS ?_
                rotate_left
                · intro w hSw; (try dsimp only at hSw); obtain ⟨s1, s2⟩ := hSw; go_simp; (try with_reducible rfl)
                simp only [Act.put, List.setIfInBounds_toArray, List.set_cons_zero, List.set_cons_succ]
                refine wpAnyN_take_at 8 93 (v := ?_) rfl rfl (by kernel_rfl) (by kernel_rfl) (by kernel_rfl) (by kernel_rfl) (by kernel_rfl) (fun _ _ _ h => h) (by rfl) ?_ hS ?_
                rotate_left
                · intro w hSw; (try dsimp only at hSw); obtain ⟨s1, s2⟩ := hSw; go_simp; (try with_reducible rfl)
                simp only [Act.put, List.setIfInBounds_toArray, List.set_cons_zero, List.set_cons_succ]
                refine wpAnyN_take_at 9 94 (v := ?_) rfl rfl (by kernel_rfl) (by kernel_rfl) (by kernel_rfl) (by kernel_rfl) (by kernel_rfl) (fun _ _ _ h => h) (by rfl) ?_ hS ?_
                rotate_left
                · intro w hSw; (try dsimp only at hSw); obtain ⟨s1, s2⟩ := hSw; go_simp; (try with_reducible rfl)
                simp only [Act.put, List.setIfInBounds_toArray, List.set_cons_zero, List.set_cons_succ]
                refine wpAnyN_take_at 10 95 (v := ?_) rfl rfl (by kernel_rfl) (by kernel_rfl) (by kernel_rfl) (by kernel_rfl) (by kernel_rfl) (fun _ _ _ h => h) (by rfl) ?_ hS ?_
                rotate_left
                · intro w hSw; (try dsimp only at hSw); obtain ⟨s1, s2⟩ := hSw; go_simp; (try with_reducible rfl)
                simp only [Act.put, List.setIfInBounds_toArray, List.set_cons_zero, List.set_cons_succ]
                refine wpAnyN_take_at 11 96 (v := ?_) rfl rfl (by kernel_rfl) (by kernel_rfl) (by kernel_rfl) (by kernel_rfl) (by kernel_rfl) (fun _ _ _ h => h) (by rfl) ?_ hS ?_
                rotate_left
                · intro w hSw; (try dsimp only at hSw); obtain ⟨s1, s2⟩ := hSw; go_simp; (try with_reducible rfl)
                simp only [Act.put, List.setIfInBounds_toArray, List.set_cons_zero, List.set_cons_succ]
                refine wpAnyN_take_at 12 97 (v := ?_) rfl rfl (by kernel_rfl) (by kernel_rfl) (by kernel_rfl) (by kernel_rfl) (by kernel_rfl) (fun _ _ _ h => h) (by rfl) ?_ hS ?_
                rotate_left
                · intro w hSw; (try dsimp only at hSw); obtain ⟨s1, s2⟩ := hSw; go_simp; (try with_reducible rfl)
                simp only [Act.put, List.setIfInBounds_toArray, List.set_cons_zero, List.set_cons_succ]
                refine wpAnyN_one (i := 13) rfl (by kernel_rfl) (fun K hK => ?_)
                go_simp
                have b1 : Below wd.heap.size wd (wd.alloc (.cells #[.string ⟨ls[k].toArray⟩] 9)) := (Below.refl _ wd).alloc (Nat.le_refl _) _
                have hS1 := And.intro ((b1.cell (p := ⟨g, m * 5 + 4, none⟩) (World.block_lt_of_cell? _ _ hS.1)).trans hS.1) ((b1.cell (p := ⟨b, off + k, none⟩) (World.block_lt_of_cell? _ _ hS.2)).trans hS.2)
                refine hK _ _ (fun _ => hS1) ?_
                clear hK
                refine wpAnyN_one (i := 14) rfl (by kernel_rfl) (fun K hK => ?_)
                refine step_append_lies _ rfl (.tmp 93) (.tmp 98) 22 rfl w.heap.size 9 i3 (.string ByteArray.empty) 1 16 Tryz.underlying22 hi3 hv0 hv1 hv2 rfl (by decide) (.slice A8 x.1.ls.length c8) x.1.ls.length (strs x.1.ls) rfl hrow8 ⟨wd.heap.size, 0, none⟩ 1 1 [.string ⟨ls[k].toArray⟩] rfl rfl hnw (by simp [Value.oneCell']) (by omega) (by unfold maxLen; omega) (by omega) (by simp; omega) (wd.heap.size + 1) (by simp) ?_
                intro g4 cap4 w4 hown4 hgrow4 hat4 hlt4
                have hk4 := own_keep HMd.out.parts HX.out HE2.out hgrow4
                have hc44 := hk4.1 (m * 5 + 4) _ hS.1
                have hf44 := hk4.2 (m * 5 + 4)
                obtain ⟨b9, o9, e9, hb9, hc9⟩ := hrow.cellAt hp
                cases e9
                have bw4 : Below w.heap.size wd w4 := (b1.mono (by omega)).trans (below_of_grown hgrow4 (fun g hg => (hrow8.lt g hg).1) (by have := b1.size; omega))
                have hc94 := (bw4.cell (p := ⟨b, off + k, none⟩) hb9).trans hS.2
                obtain ⟨v2, X2, e, hP, hXe, hIk, hB2⟩ := same_run (by omega) HMd.out.parts HMM.out HX.out hown4 (by rw [HE2.out]; exact hgrow4) (by rw [HE2.out]; exact hat4)
                cases e
                have HF := Lib.hid (HMd.out.line hp HO.out HN.out hP (hXe.trans HAd.out.symm) hIk hB2)
                refine hK _ _ (fun _ => ⟨hc44, hc94⟩) ?_
                clear hK hown4 hgrow4 hat4 hlt4 hk4 hP hXe hIk hB2 hS hS1 bw4 hc94 hrow8 hrowd hnw b1
                refine wpAnyN_rest 15 [_, _, _] rfl (by kernel_rfl) (by kernel_rfl) ?_
                go_wp2
                go_roundw
                case rel => exact ⟨k + 1, _, _, by go_num, by omega, HF.out⟩
                case measure => simp [intOf]; omega
    · obtain rfl : k = ls.length := by omega
      have HF := Lib.hid (show X.map Prod.fst = parseL ls from by
        have := hM.st
        rw [List.take_length] at this
        unfold parseL
        rw [← this])
      go_wp2
      go_ret
      exact ⟨_, X, rfl, hM.parts, HF.out, hM.bel⟩

end Go.Proofs.YtkcmhdkhdjmjeaaGreatDoor

namespace Go.Proofs.YtkcmhdkhdjmjeaaGreatDoor
open Go.RowKit
set_option linter.unusedSimpArgs false
set_option linter.unusedVariables false
set_option maxRecDepth 100000

theorem psC_take (X : List (Prt × Value)) : ∀ m, psC (X.take m) = (psC X).take (m * 5) := by
  induction X with
  | nil => intro m; simp [psC]
  | cons x X ih =>
    intro m
    cases m with
    | zero => simp [psC]
    | succ m =>
      have e : ∀ X, psC (x :: X) = ptC x ++ psC X := fun _ => rfl
      have hl : (ptC x).length = 5 := rfl
      rw [List.take_succ_cons, e, e, ih, show (m + 1) * 5 = 5 + m * 5 from by omega, List.take_append, hl, Nat.add_sub_cancel_left, List.take_of_length_le (l := ptC x) (by omega)]
theorem own_take5 {w : World} {B : Nat} {e : TypeId} {g n cap m : Nat} {X : List (Prt × Value)} (h : w.ownsRow B e 5 (.slice (some ⟨g, 0, none⟩) n cap) n (psC X)) (hm : m ≤ n) :
    w.ownsRow B e 5 (.slice (some ⟨g, 0, none⟩) m cap) m (psC (X.take m)) := by
  obtain ⟨hl, h⟩ := h
  rw [psC_take]
  refine ⟨by rw [List.length_take]; omega, ?_⟩
  rcases h with ⟨e1, h0⟩ | ⟨g', cap', cur, e1, hb, hg, hnc, hcm, hcs, ht⟩
  · cases e1
  · cases e1
    refine .inr ⟨g, cap, cur, rfl, hb, hg, by omega, hcm, hcs, ?_⟩
    rw [← ht, List.take_take, Nat.min_eq_left (Nat.mul_le_mul_right 5 hm)]
theorem psC_snoc (X : List (Prt × Value)) (x : Prt × Value) : psC X ++ ptC x = psC (X ++ [x]) := by rw [psC_append, psC_one]
theorem strs_snoc1 (ls : List Txt) (x : Txt) : strs ls ++ [Value.string ⟨x.toArray⟩] = strs (ls ++ [x]) := by rw [strs_append]; rfl
theorem ends_snoc (L : List Txt) (n : Nat) : (L ++ ends n) ++ [divE] = L ++ ends (n + 1) := by rw [ends_succ, List.append_assoc]

/-- The lines that were written, the divisions one is in. -/
structure RWMem (w0 : World) (ps : List Prt) (k : Nat) (L : List Txt) (O : List (Prt × Value)) (v ov : Value) (w : World) : Prop where
  out : w.ownsRow w0.heap.size 9 1 v L.length (strs L)
  row : w.ownsRow w0.heap.size 94 5 ov O.length (psC O)
  one : ∀ x ∈ O, x.2.oneCell' = true
  bel : Below w0.heap.size w0 w
theorem RWMem.below {w0 w w' : World} {ps : List Prt} {k : Nat} {L : List Txt} {O : List (Prt × Value)} {v ov : Value} (h : RWMem w0 ps k L O v ov w) (hb : Below w.heap.size w w') : RWMem w0 ps k L O v ov w' :=
  ⟨ownsRow_below h.out hb, ownsRow_below h.row hb, h.one, h.bel.then hb⟩
/-- One closed division is told. -/
theorem RWMem.tell {w0 w w2 : World} {ps : List Prt} {k : Nat} {L : List Txt} {O : List (Prt × Value)} {v ov v' : Value} {s : Txt} (h : RWMem w0 ps k L O v ov w)
    (h2 : w2.ownsRow w0.heap.size 9 1 v' (L.length + 1) (strs L ++ [.string ⟨s.toArray⟩])) (g2 : (w.alloc (.cells #[.string ⟨s.toArray⟩] 9)).grownBy w2 v.ownBlock) : RWMem w0 ps k (L ++ [s]) O v' ov w2 := by
  have hB := h.bel.size
  have h1 := h.below ((Below.refl _ w).alloc (Nat.le_refl _) (.cells #[.string ⟨s.toArray⟩] 9))
  have hs := alloc_size w (.cells #[.string ⟨s.toArray⟩] 9)
  refine ⟨?_, h1.row.kept g2 (own_apart h1.row h1.out (by decide)).ne, h.one, h1.bel.trans (below_of_grown g2 (fun g hg => (h1.out.lt g hg).1) (by omega))⟩
  rw [List.length_append, ← strs_snoc1]
  exact h2
/-- One division fewer. -/
theorem RWMem.pop {w0 w : World} {ps : List Prt} {k g cap m : Nat} {L : List Txt} {O : List (Prt × Value)} {v : Value} (h : RWMem w0 ps k L O v (.slice (some ⟨g, 0, none⟩) O.length cap) w) (hm : m ≤ O.length) :
    RWMem w0 ps k L (O.take m) v (.slice (some ⟨g, 0, none⟩) m cap) w := by
  have e : (O.take m).length = m := by rw [List.length_take]; omega
  refine ⟨h.out, ?_, fun x hx => h.one x (List.mem_of_mem_take hx), h.bel⟩
  rw [e]
  exact own_take5 h.row hm
/-- How the pops go on: the divisions from the m-th on are behind. -/
def PopRel (w0 : World) (ps : List Prt) (k c t : Nat) (L : List Txt) (O : List (Prt × Value)) (v ov : Value) (wr : World) : Prop :=
  ∃ m : Nat, t ≤ m ∧ m ≤ O.length ∧ RWMem w0 ps k (L ++ ends (O.length - max m c)) (O.take m) v ov wr
theorem PopRel.start {w0 w : World} {ps : List Prt} {k c t : Nat} {L : List Txt} {O : List (Prt × Value)} {v ov : Value} (h : RWMem w0 ps k L O v ov w) (ht : t ≤ O.length) (hc : c ≤ O.length) : PopRel w0 ps k c t L O v ov w := by
  refine ⟨O.length, ht, Nat.le_refl _, ?_⟩
  rw [List.take_length, show O.length - max O.length c = 0 from by omega, ends_zero, List.append_nil]
  exact h
theorem psC_ones (X : List (Prt × Value)) (h : ∀ x ∈ X, x.2.oneCell' = true) : ∀ u ∈ psC X, u.oneCell' = true := by
  intro u hu
  obtain ⟨x, hx, hu⟩ := List.mem_flatMap.1 hu
  exact ptC_one x (h x hx) u hu
/-- Where a list of the call's own lies. -/
theorem own_slice {w : World} {B : Nat} {e : TypeId} {size n : Nat} {v : Value} {xs : List Value} (h : w.ownsRow B e size v n xs) :
    ∃ A cap, v = .slice A n cap ∧ n ≤ cap ∧ cap ≤ maxLen ∧ (A = none → n = 0 ∧ cap = 0) ∧ ∀ ad, A = some ad → ∀ j u, xs[j]? = some u → w.cell? (ad.add j) = some u := by
  obtain ⟨hl, h⟩ := h
  rcases h with ⟨rfl, h0⟩ | ⟨g, cap, cur, rfl, hb, hg, hnc, hcm, hcs, ht⟩
  · exact ⟨none, 0, by rw [h0], by omega, Nat.zero_le _, fun _ => ⟨h0, rfl⟩, fun ad e => by cases e⟩
  · refine ⟨some ⟨g, 0, none⟩, cap, rfl, hnc, hcm, (fun e => absurd e (by simp)), fun ad e j u hu => ?_⟩
    cases e
    rw [addr_add, Nat.zero_add, cell_of_row w g j cur _ (0, 0) hg]
    have h3 : (cur.toList.take (n * size))[j]? = some u := by rw [ht]; exact hu
    rw [List.getElem?_take] at h3
    split at h3
    · simpa using h3
    · cases h3
/-- A list of parts, nil or not, behind nothing. -/
theorem copy_prts {w : World} {ops : Array Oper} {rest : List Oper} {o : Oper} {a : Act} {Q : Exit → Act → World → Prop} (hgd : o.guard = none) (s x : Operand)
    (ho : o.op = .call { callee := .builtin .append, args := #[s, x], argTypes := #[63, 63] }) (base : Nat) (hs : a.eval s = .slice none 0 0)
    (A : Option Addr) (c : Nat) (X : List (Prt × Value)) (hx : a.eval x = .slice A X.length c) (hcells : ∀ ad, A = some ad → ∀ j u, (psC X)[j]? = some u → w.cell? (ad.add j) = some u) (h1 : ∀ x ∈ X, x.2.oneCell' = true)
    (hnil : A = none → X = [] ∧ c = 0) (h63 : X.length ≤ 100000000) (hbase : base ≤ w.heap.size)
    (h : ∀ v' w', w'.ownsRow base 94 5 v' X.length (psC X) → Below w.heap.size w w' → wpList Tryz.prog ops Q rest (a.put o.dst v') w') : wpList Tryz.prog ops Q (o :: rest) a w := by
  obtain ⟨i0, hi, hz0, hz1, hz2⟩ := info_parts infoPart
  cases A with
  | none =>
    obtain ⟨rfl, rfl⟩ := hnil rfl
    refine wpList_append_own_none hgd s x 63 ho base 94 i0 5 Tryz.underlying63 hi (.slice none 0 0) 0 [] hs (World.ownsRow_nil _ _ _ _) hx ?_
    exact h _ w (World.ownsRow_nil _ _ _ _) (Below.refl _ _)
  | some ad =>
    refine wpList_append_own w hgd s x 63 ho base 94 i0 (.agg #[.int .i64 0, .bool false, .string ByteArray.empty, .bool false, .slice none 0 0]) 5 64 Tryz.underlying63 hi hz0 hz1 hz2 rfl (by decide) (.slice none 0 0) 0 [] hs (World.ownsRow_nil _ _ _ _) ad X.length c (psC X) hx (psC_length X) (hcells ad rfl) (psC_ones X h1) (by unfold maxLen; omega) (by omega) hbase ?_
    intro v' w' h2 h3 _
    refine h v' w' ?_ (below_of_grown h3 (fun g hg => by simp [Value.ownBlock] at hg) (Nat.le_refl _))
    rw [Nat.zero_add, List.nil_append] at h2
    exact h2
/-- The same at a step of a region that draws. -/
theorem step_copy_prts {w : World} {ops : Array Oper} {o : Oper} {a : Act} {K : Act → World → Prop} {Q : Exit → Act → World → Prop} {E : Prop} (hgd : o.guard = none) (s x : Operand)
    (ho : o.op = .call { callee := .builtin .append, args := #[s, x], argTypes := #[63, 63] }) (base : Nat) (hs : a.eval s = .slice none 0 0)
    (A : Option Addr) (c : Nat) (X : List (Prt × Value)) (n : Nat) (hn : X.length = n) (hx : a.eval x = .slice A n c) (hcells : ∀ ad, A = some ad → ∀ j u, (psC X)[j]? = some u → w.cell? (ad.add j) = some u) (h1 : ∀ x ∈ X, x.2.oneCell' = true)
    (hnil : A = none → X = [] ∧ c = 0) (h63 : X.length ≤ 100000000) (hbase : base ≤ w.heap.size)
    (h : ∀ v' w', w'.ownsRow base 94 5 v' X.length (psC X) → Below w.heap.size w w' → K (a.put o.dst v') w') : if Region.wanted o (yielded ops a.tmps) = true then Oper.wp Tryz.prog o a w K Q else E := by
  obtain ⟨i0, hi, hz0, hz1, hz2⟩ := info_parts infoPart
  have hw : Region.wanted o (yielded ops a.tmps) = true := by simp [Region.wanted, hgd]
  rw [if_pos hw]
  subst hn
  cases A with
  | none =>
    obtain ⟨rfl, rfl⟩ := hnil rfl
    have hrun := run_append_owned_none (P := Tryz.prog) (w := w) base 63 o.type 94 i0 5 Tryz.underlying63 hi (.slice none 0 0) 0 [] (World.ownsRow_nil _ _ _ _)
    unfold Oper.wp
    simp [execOp, ho, resolve, invoke, builtin, hs, hx, hrun, Result.andThen]
    exact h _ w (World.ownsRow_nil _ _ _ _) (Below.refl _ _)
  | some ad =>
    refine wp_append_own w s x 63 ho base 94 i0 (.agg #[.int .i64 0, .bool false, .string ByteArray.empty, .bool false, .slice none 0 0]) 5 64 Tryz.underlying63 hi hz0 hz1 hz2 rfl (by decide) (.slice none 0 0) 0 [] hs (World.ownsRow_nil _ _ _ _) ad X.length c (psC X) hx (psC_length X) (hcells ad rfl) (psC_ones X h1) (by unfold maxLen; omega) (by omega) hbase ?_
    intro v' w' h2 h3 _
    refine h v' w' ?_ (below_of_grown h3 (fun g hg => by simp [Value.ownBlock] at hg) (Nat.le_refl _))
    rw [Nat.zero_add, List.nil_append] at h2
    exact h2
/-- The divisions one is in, and one more. -/
theorem RWMem.push {w0 w w3 w4 : World} {ps : List Prt} {k : Nat} {L : List Txt} {O : List (Prt × Value)} {v ov ov1 ov2 : Value} {x : Prt × Value} (h : RWMem w0 ps k L O v ov w) (b3 : Below w.heap.size w w3) (h3 : w3.ownsRow w0.heap.size 94 5 ov1 O.length (psC O))
    (h4 : w4.ownsRow w0.heap.size 94 5 ov2 (O.length + 1) (psC O ++ ptC x)) (g4 : w3.grownBy w4 ov1.ownBlock) (hx : x.2.oneCell' = true) : RWMem w0 ps k L (O ++ [x]) v ov2 w4 := by
  have hB := h.bel.size
  have h5 := h.below b3
  have hs3 := b3.size
  refine ⟨h5.out.kept g4 (own_apart h5.out h3 (by decide)).ne, ?_, ?_, h5.bel.trans (below_of_grown g4 (fun g hg => (h3.lt g hg).1) (by omega))⟩
  · rw [List.length_append, ← psC_snoc]; exact h4
  · intro y hy
    rw [List.mem_append, List.mem_singleton] at hy
    rcases hy with hy | rfl
    · exact h.one y hy
    · exact hx
def slN : Value → Nat | .slice _ n _ => n | _ => 0
def RWRel (ps : List Prt) (w : World) (v ov i : Value) (wr : World) : Prop :=
  ∃ (k : Nat) (O : List (Prt × Value)), i = .int .i64 k ∧ k ≤ ps.length ∧ StkOk ps k (O.map Prod.fst) ∧ (bodyF 0 (ps.take k)).length ≤ 300000 * k ∧ O.length ≤ k ∧ RWMem w ps k (bodyF 0 (ps.take k)) O v ov wr
/-- The last of the divisions one is in, and what lies in its cells. -/
theorem stk_last {w0 w : World} {ps : List Prt} {k n : Nat} {L : List Txt} {O : List (Prt × Value)} {v ov : Value} (h : RWMem w0 ps k L (O.take (n + 1)) v ov w) (hs : StkOk ps k (O.map Prod.fst)) (hn : n < O.length) :
    ∃ g cap, ov = .slice (some ⟨g, 0, none⟩) (n + 1) cap ∧ n + 1 ≤ cap ∧ cap ≤ maxLen ∧ w.cell? ⟨g, n * 5, none⟩ = some (.int .i64 n) ∧ w.cell? ⟨g, n * 5 + 3, none⟩ = some (.bool (decide (n < cnt (ps.take k)))) := by
  have hl : (O.take (n + 1)).length = n + 1 := by rw [List.length_take]; omega
  have hr := h.row
  rw [hl] at hr
  obtain ⟨g, cap, cur, e, _, _, h1, h2, _, hc⟩ := own_block hr (by omega)
  have hx : (O.take (n + 1))[n]'(by omega) = O[n] := List.getElem_take
  have hd := hs.dep n (by rw [List.length_map]; exact hn)
  have ho := hs.opn n (by rw [List.length_map]; exact hn)
  rw [List.getElem_map] at hd ho
  refine ⟨g, cap, e, h1, h2, ?_, ?_⟩
  · exact hc _ _ (psC_get (O.take (n + 1)) n (by omega) 0 (.int .i64 n) (by rw [hx, ← hd]; rfl))
  · exact hc _ _ (psC_get (O.take (n + 1)) n (by omega) 3 (.bool (decide (n < cnt (ps.take k)))) (by rw [hx, ← ho]; rfl))
theorem RWMem.popN {w0 w : World} {ps : List Prt} {k g cap n : Nat} {L : List Txt} {O : List (Prt × Value)} {v : Value} (h : RWMem w0 ps k L (O.take (n + 1)) v (.slice (some ⟨g, 0, none⟩) (n + 1) cap) w) (hm : n < O.length) :
    RWMem w0 ps k L (O.take n) v (.slice (some ⟨g, 0, none⟩) n cap) w := by
  have e : (O.take (n + 1)).length = n + 1 := by rw [List.length_take]; omega
  have h' := RWMem.pop (m := n) (cap := cap) (g := g) (O := O.take (n + 1)) (by rw [e]; exact h) (by omega)
  rw [List.take_take, Nat.min_eq_left (by omega)] at h'
  exact h'

set_option maxHeartbeats 16000000 in
theorem rwrite_any (A : Option Addr) (cap : Nat) (X : List (Prt × Value)) (w : World) (hX : PartsAt w A cap X) (hm : X.length ≤ 100000) (hsm : PartsSmall X) (hln : PartsLent X) (hr : rightP (X.map Prod.fst) = true) :
    Calls Tryz.prog 52 #[.slice A X.length cap] w fun e w' => ∃ v, e = .returned v ∧ w'.ownsRow w.heap.size 9 1 v (writeP (X.map Prod.fst)).length (strs (writeP (X.map Prod.fst))) ∧ Below w.heap.size w w' := by
  obtain ⟨i0, hi, hz0, hz1, hz2⟩ := info_parts infoString
  obtain ⟨i1, hi1, hw0, hw1, hw2⟩ := info_parts infoPart
  have hle := hX.le
  have hcm := hX.cap
  unfold maxLen at hcm
  have hXl : (X.map Prod.fst).length = X.length := by simp
  generalize hps : X.map Prod.fst = ps at *
  have HPS := Lib.hid hps
  have HSM := Lib.hid hsm
  have HLN := Lib.hid hln
  have HR := Lib.hid hr
  clear hps hsm hln hr
  go_enter Tryz.func52, Tryz.ntmps52
  go_wp2_with fail
  go_loopw [3, 4, 5] (fun v ov i wr => RWRel ps w v ov i wr) (fun _ _ i _ => ps.length - (intOf i).toNat)
  case atStart => exact ⟨0, [], rfl, Nat.zero_le _, StkOk.nil ps, by simp [bodyF], Nat.zero_le _, World.ownsRow_nil _ _ _ _, World.ownsRow_nil _ _ _ _, by simp, Below.refl _ _⟩
  case round =>
    obtain ⟨k, O, rfl, hk, hS, hLl, hOk, hM⟩ := hrel
    generalize hLe : bodyF 0 (ps.take k) = L at *
    have HLe := Lib.hid hLe
    by_cases hp : k < ps.length
    · have hpx : k < X.length := by omega
      have hX2 := hX.below hM.bel
      obtain ⟨b, off, rfl, hb, y0, y1, y2, y3, y4⟩ := hX2.at hpx
      obtain ⟨A9, c9, e9, hr9⟩ := hX2.ls X[k] (List.getElem_mem hpx)
      have hpk : X[k].1 = ps[k] := by
        have h1 : ps[k]? = some X[k].1 := by rw [← HPS.out, List.getElem?_map, List.getElem?_eq_getElem hpx]; rfl
        rw [List.getElem?_eq_getElem hp] at h1
        exact (Option.some.inj h1).symm
      have hs9 := (HSM.out X[k] (List.getElem_mem hpx)).1
      have hl9 := HLN.out X[k] (List.getElem_mem hpx)
      obtain ⟨d0, d1, d2, hS2⟩ := hS.step HR.out hp
      have hB := bodyF_step hS hp d0
      rw [List.length_map] at d1 hB
      rw [← hpk] at d0 d1 d2 hS2 hB
      have hRP := (right_step HR.out hp).1
      rw [← hpk] at hRP
      generalize hxk : X[k] = x at *
      have HXK := Lib.hid hxk
      clear hxk
      obtain ⟨⟨d, dv, lab, opn, ls⟩, xv⟩ := x
      simp only at e9 hr9 hs9 hl9 d0 d1 d2 hS2 hB y0 y1 y2 y3 y4
      subst e9
      obtain ⟨t, rfl⟩ : ∃ t : Nat, d = t := ⟨d.toNat, by omega⟩
      rw [Int.toNat_natCast] at hS2 hB
      rw [hLe] at hB
      have HB := Lib.hid hB
      have HS := Lib.hid hS
      have HS2 := Lib.hid hS2
      have HR9 := Lib.hid hr9
      have HRP := Lib.hid hRP
      have HL9 := Lib.hid hl9
      have HM := Lib.hid hM
      have HX2 := Lib.hid hX2
      have HP0 := Lib.hid (PopRel.start (c := cnt (ps.take k)) hM (by omega : t ≤ O.length) (by have := hS.cnt; rw [List.length_map] at this; exact this))
      have hcn : cnt (ps.take k) ≤ t := by omega
      have hto : t ≤ O.length := by omega
      clear hB hS hS2 hr9 hRP hl9 hM hX2 hLe d0 d1 d2
      go_wp2_with fail
      go_loopw [3, 4] (fun v ov wr => PopRel w ps k (cnt (ps.take k)) t L O v ov wr) (fun _ ov _ => slN ov)
      case atStart => exact HP0.out
      case round =>
        obtain ⟨m, htm, hmO, hM⟩ := hrel
        clear HP0 y0 y1 y2 y3 y4
        by_cases htm2 : t < m
        · obtain ⟨n, rfl⟩ : ∃ n, m = n + 1 := ⟨m - 1, by omega⟩
          obtain ⟨g, cap2, rfl, hc1, hc2, q0, q3⟩ := stk_last hM HS.out (by omega)
          rw [decide_eq_false (by omega)] at q3
          unfold maxLen at hc2
          have ftn : (t : Int) ≤ (n : Int) := by omega
          have hlL : (L ++ ends (O.length - max (n + 1) (cnt (ps.take k)))).length ≤ 400000 * 100001 := by simp [ends]; omega
          have hgen := fun v' w2 h1 h2 => (hM.tell (s := divE) (v' := v') (w2 := w2) h1 h2).popN (by omega : n < O.length)
          rw [ends_snoc, show O.length - max (n + 1) (cnt (ps.take k)) + 1 = O.length - max n (cnt (ps.take k)) from by omega] at hgen
          have HG := Lib.hid hgen
          have hrow2 := hM.out.alloc (.cells #[.string ⟨#[58, 58, 58]⟩] 9)
          rename World => wi
          have hnw := cells_one wi (.string ⟨#[58, 58, 58]⟩) 9
          have hBs := hM.bel.size
          clear hM hgen
          generalize L ++ ends (O.length - max (n + 1) (cnt (ps.take k))) = L1 at *
          obtain ⟨Av, cv, rfl, hv1', hv2', _⟩ := own_slice hrow2
          unfold maxLen at hv2'
          go_wp2_with (at_builtin; refine wpList_append_own _ rfl _ _ 22 rfl w.heap.size 9 i0 (.string ByteArray.empty) 1 16 Tryz.underlying22 hi hz0 hz1 hz2 rfl (by decide) _ _ _ rfl hrow2 ⟨wi.heap.size, 0, none⟩ 1 1 [.string ⟨#[58, 58, 58]⟩] rfl rfl hnw (by simp [Value.oneCell']) (by unfold maxLen; omega) (by omega) (by simp; omega) ?_)
          intro v' w2 hown hgrow _
          have HF := Lib.hid (HG.out v' w2 hown hgrow)
          clear hown hgrow hrow2
          go_wp2
          go_roundw
          case rel => exact ⟨n, by omega, by omega, HF.out⟩
          case measure => simp [slN]
        · obtain rfl : m = t := by omega
          rw [show max m (cnt (ps.take k)) = m from by omega] at hM
          have hlO : (O.take m).length = m := by rw [List.length_take]; omega
          have hlL : (L ++ ends (O.length - m)).length ≤ 400000 * 100001 := by simp [ends]; omega
          obtain ⟨Av, cv, rfl, hv1', hv2', _⟩ := own_slice hM.out
          unfold maxLen at hv2'
          obtain ⟨Ao, co, rfl, ho1, ho2, _⟩ := own_slice hM.row
          unfold maxLen at ho2
          rw [hlO] at hM ho1 ⊢
          rename World => wi
          generalize hL2 : L ++ ends (O.length - m) = L2 at *
          have HL2 := Lib.hid hL2
          clear hL2
          have HRel := Lib.hid (show dv = true → ∀ v ov wr, RWMem w ps k (L2 ++ [divLine lab]) (O.take m ++ [(⟨m, dv, lab, opn, ls⟩, .slice A9 ls.length c9)]) v ov wr → RWRel ps w v ov (.int .i64 (k + 1 : Nat)) wr from by
            rintro rfl v ov wr hF
            have hls : ls = [] := by
              have := HRP.out
              unfold rightPart at this
              simp only [if_true, Bool.and_eq_true, List.isEmpty_iff] at this
              exact this.1.1
            have hB := HB.out
            rw [if_pos rfl] at hB
            have h2 := HS2.out
            rw [if_pos rfl] at h2
            have hB2 : bodyF 0 (ps.take (k + 1)) = L2 ++ [divLine lab] := by rw [hB, hls, List.append_nil]
            have hl2 : L2.length = L.length + (O.length - m) := by rw [← HL2.out]; simp [ends]
            refine ⟨k + 1, O.take m ++ [(⟨m, true, lab, opn, ls⟩, .slice A9 ls.length c9)], rfl, by omega, by rw [List.map_append, List.map_take]; exact h2, by rw [hB2, List.length_append, List.length_singleton]; omega, by rw [List.length_append, hlO, List.length_singleton]; omega, ?_⟩
            rw [hB2]
            exact ⟨hF.out, hF.row, hF.one, hF.bel⟩)
          have HRel2 := Lib.hid (show dv = false → ∀ v wr, RWMem w ps k (L2 ++ ls) (O.take m) v (.slice Ao m co) wr → RWRel ps w v (.slice Ao m co) (.int .i64 (k + 1 : Nat)) wr from by
            rintro rfl v wr hF
            have hB := HB.out
            rw [if_neg (by simp), List.nil_append] at hB
            have h2 := HS2.out
            rw [if_neg (by simp), List.append_nil] at h2
            have hl2 : L2.length = L.length + (O.length - m) := by rw [← HL2.out]; simp [ends]
            have hl9 := HL9.out.1
            refine ⟨k + 1, O.take m, rfl, by omega, by rw [List.map_take]; exact h2, by rw [hB, List.length_append]; omega, by rw [hlO]; omega, ?_⟩
            rw [hB]
            exact ⟨hF.out, hF.row, hF.one, hF.bel⟩)
          rcases m with _ | n
          · -- one is in no division
            have hX3 := hX.below hM.bel
            obtain ⟨b3, off3, e3, hb3, z30, z31, z32, z33, z34⟩ := hX3.at hpx
            cases e3
            rw [HXK.out] at z30 z31 z32 z33 z34
            simp only at z30 z31 z32 z33 z34
            cases dv with
            | true =>
              have hgen := fun v' w2 h1 h2 => hM.tell (s := divLine lab) (v' := v') (w2 := w2) h1 h2
              rw [← divLine_sum] at hgen
              have HG := Lib.hid hgen
              have hrow2 := hM.out.alloc (.cells #[.string (((⟨#[58, 58, 58, 123]⟩ : ByteArray) ++ ⟨lab.toArray⟩) ++ ⟨#[125]⟩)] 9)
              have hnw := cells_one wi (.string (((⟨#[58, 58, 58, 123]⟩ : ByteArray) ++ ⟨lab.toArray⟩) ++ ⟨#[125]⟩)) 9
              have hBs := hM.bel.size
              clear hM hgen
              go_wp2_with (at_builtin; refine wpList_append_own _ rfl _ _ 22 rfl w.heap.size 9 i0 (.string ByteArray.empty) 1 16 Tryz.underlying22 hi hz0 hz1 hz2 rfl (by decide) _ _ _ rfl hrow2 ⟨wi.heap.size, 0, none⟩ 1 1 [.string (((⟨#[58, 58, 58, 123]⟩ : ByteArray) ++ ⟨lab.toArray⟩) ++ ⟨#[125]⟩)] rfl rfl hnw (by simp [Value.oneCell']) (by unfold maxLen; omega) (by omega) (by first | (simp; done) | (simp; omega)) ?_)
              intro v' w5 hown hgrow _
              have hT := HG.out v' w5 hown hgrow
              have hs5 := hT.bel.size
              obtain ⟨Ax, cx, ex, _, _, n5, c5⟩ := own_slice hT.row
              rw [hlO] at ex
              cases ex
              have hnil5 : Ao = none → O.take 0 = [] ∧ co = 0 := fun e => ⟨List.eq_nil_of_length_eq_zero (n5 e).1, (n5 e).2⟩
              have HT := Lib.hid hT
              have hone := hT.one
              clear hown hgrow hrow2 hT z30 z31 z32 z33 z34
              have hX5 := hX.below HT.out.bel
              obtain ⟨b5, off5, e5, hb5, hS⟩ := hX5.at hpx
              cases e5
              rw [HXK.out] at hS
              simp only at hS
              go_wp2_with fail
              refine wp_region_N (fun W => W.cell? ⟨b, off + k * 5, none⟩ = some (.int .i64 0) ∧ W.cell? ⟨b, off + k * 5 + 1, none⟩ = some (.bool true) ∧ W.cell? ⟨b, off + k * 5 + 2, none⟩ = some (.string ⟨lab.toArray⟩) ∧ W.cell? ⟨b, off + k * 5 + 3, none⟩ = some (.bool opn) ∧ W.cell? ⟨b, off + k * 5 + 4, none⟩ = some (.slice A9 ls.length c9)) (fun j => decide (j < 7)) (by kernel_rfl) ?_
              have hS : w5.drew.cell? ⟨b, off + k * 5, none⟩ = some (.int .i64 0) ∧ w5.drew.cell? ⟨b, off + k * 5 + 1, none⟩ = some (.bool true) ∧ w5.drew.cell? ⟨b, off + k * 5 + 2, none⟩ = some (.string ⟨lab.toArray⟩) ∧ w5.drew.cell? ⟨b, off + k * 5 + 3, none⟩ = some (.bool opn) ∧ w5.drew.cell? ⟨b, off + k * 5 + 4, none⟩ = some (.slice A9 ls.length c9) := hS
              have HD := Lib.hid (HT.out.below ((Below.refl w5.heap.size w5).drew))
              have c5 : ∀ ad, Ao = some ad → ∀ j u, (psC (O.take 0))[j]? = some u → w5.drew.cell? (ad.add j) = some u := c5
              have hs5 : w.heap.size ≤ w5.drew.heap.size := hs5
              clear hX5
              generalize w5.drew = wd at *
              refine wpAnyN_take_at 0 72 (v := ?_) rfl rfl (by kernel_rfl) (by kernel_rfl) (by kernel_rfl) (by kernel_rfl) (by kernel_rfl) (fun _ _ _ h => h) (by rfl) ?_ hS ?_
              rotate_left
              · intro w hSw; (try dsimp only at hSw); obtain ⟨s0, s1, s2, s3, s4⟩ := hSw; go_simp; (try with_reducible rfl)
              simp only [Act.put, List.setIfInBounds_toArray, List.set_cons_zero, List.set_cons_succ]
              refine wpAnyN_take_at 2 74 (v := ?_) rfl rfl (by kernel_rfl) (by kernel_rfl) (by kernel_rfl) (by kernel_rfl) (by kernel_rfl) (fun _ _ _ h => h) (by rfl) ?_ hS ?_
              rotate_left
              · intro w hSw; (try dsimp only at hSw); obtain ⟨s0, s1, s2, s3, s4⟩ := hSw; go_simp; (try with_reducible rfl)
              simp only [Act.put, List.setIfInBounds_toArray, List.set_cons_zero, List.set_cons_succ]
              refine wpAnyN_take_at 3 75 (v := ?_) rfl rfl (by kernel_rfl) (by kernel_rfl) (by kernel_rfl) (by kernel_rfl) (by kernel_rfl) (fun _ _ _ h => h) (by rfl) ?_ hS ?_
              rotate_left
              · intro w hSw; (try dsimp only at hSw); obtain ⟨s0, s1, s2, s3, s4⟩ := hSw; go_simp; (try with_reducible rfl)
              simp only [Act.put, List.setIfInBounds_toArray, List.set_cons_zero, List.set_cons_succ]
              refine wpAnyN_take_at 4 76 (v := ?_) rfl rfl (by kernel_rfl) (by kernel_rfl) (by kernel_rfl) (by kernel_rfl) (by kernel_rfl) (fun _ _ _ h => h) (by rfl) ?_ hS ?_
              rotate_left
              · intro w hSw; (try dsimp only at hSw); obtain ⟨s0, s1, s2, s3, s4⟩ := hSw; go_simp; (try with_reducible rfl)
              simp only [Act.put, List.setIfInBounds_toArray, List.set_cons_zero, List.set_cons_succ]
              refine wpAnyN_take_at 5 77 (v := ?_) rfl rfl (by kernel_rfl) (by kernel_rfl) (by kernel_rfl) (by kernel_rfl) (by kernel_rfl) (fun _ _ _ h => h) (by rfl) ?_ hS ?_
              rotate_left
              · intro w hSw; (try dsimp only at hSw); obtain ⟨s0, s1, s2, s3, s4⟩ := hSw; go_simp; (try with_reducible rfl)
              simp only [Act.put, List.setIfInBounds_toArray, List.set_cons_zero, List.set_cons_succ]
              refine wpAnyN_two (i := 1) (j := 6) rfl rfl (by kernel_rfl) (fun K hK => ?_) (fun K hK => ?_)
              · refine step_copy_prts rfl _ _ rfl w.heap.size rfl Ao co (O.take 0) 0 hlO rfl c5 hone hnil5 (by omega) (by omega) ?_
                intro ov1 w6 hown6 b6
                have hbd : b < wd.heap.size := World.block_lt_of_cell? _ _ hS.1
                have hS6 := And.intro ((b6.cell (p := ⟨b, off + k * 5, none⟩) hbd).trans hS.1) (And.intro ((b6.cell (p := ⟨b, off + k * 5 + 1, none⟩) hbd).trans hS.2.1) (And.intro ((b6.cell (p := ⟨b, off + k * 5 + 2, none⟩) hbd).trans hS.2.2.1) (And.intro ((b6.cell (p := ⟨b, off + k * 5 + 3, none⟩) hbd).trans hS.2.2.2.1) ((b6.cell (p := ⟨b, off + k * 5 + 4, none⟩) hbd).trans hS.2.2.2.2))))
                refine hK _ _ (fun _ => hS6) ?_
                clear hK
                refine wpAnyN_one (i := 6) rfl (by kernel_rfl) (fun K hK => ?_)
                go_simp
                have b66 : Below w6.heap.size w6 (w6.alloc (.cells #[.int .i64 0, .bool true, .string ⟨lab.toArray⟩, .bool opn, .slice A9 ls.length c9] 94)) := (Below.refl _ w6).alloc (Nat.le_refl _) _
                have b67 := b6.then b66
                have hr6 := ownsRow_below hown6 b66
                have hr6n := hr6
                rw [hlO] at hr6n
                have hn6 := part_cells w6 (⟨0, true, lab, opn, ls⟩, .slice A9 ls.length c9) 94
                have hs6 := b6.size
                refine hK _ _ (fun _ => And.intro ((b66.cell (p := ⟨b, off + k * 5, none⟩) (Nat.lt_of_lt_of_le hbd b6.size)).trans hS6.1) (And.intro ((b66.cell (p := ⟨b, off + k * 5 + 1, none⟩) (Nat.lt_of_lt_of_le hbd b6.size)).trans hS6.2.1) (And.intro ((b66.cell (p := ⟨b, off + k * 5 + 2, none⟩) (Nat.lt_of_lt_of_le hbd b6.size)).trans hS6.2.2.1) (And.intro ((b66.cell (p := ⟨b, off + k * 5 + 3, none⟩) (Nat.lt_of_lt_of_le hbd b6.size)).trans hS6.2.2.2.1) ((b66.cell (p := ⟨b, off + k * 5 + 4, none⟩) (Nat.lt_of_lt_of_le hbd b6.size)).trans hS6.2.2.2.2))))) ?_
                clear hK hown6 hS6
                refine wpAnyN_rest 7 [_, _] rfl (by kernel_rfl) (by kernel_rfl) ?_
                go_wp2_with (at_builtin; refine wpList_append_own _ rfl _ _ 63 rfl w.heap.size 94 i1 (.agg #[.int .i64 0, .bool false, .string ByteArray.empty, .bool false, .slice none 0 0]) 5 64 Tryz.underlying63 hi1 hw0 hw1 hw2 rfl (by decide) ov1 0 (psC (O.take 0)) rfl hr6n ⟨w6.heap.size, 0, none⟩ 1 1 (ptC (⟨0, true, lab, opn, ls⟩, .slice A9 ls.length c9)) rfl rfl hn6 (ptC_one _ rfl) (by unfold maxLen; omega) (by omega) (by first | omega | (simp; omega)) ?_)
                intro ov2 w7 hown7 hgrow7 _
                have HF := Lib.hid (HD.out.push (x := (⟨0, true, lab, opn, ls⟩, .slice A9 ls.length c9)) b67 hr6 (by rw [hlO]; exact hown7) hgrow7 rfl)
                clear hown7 hgrow7 hr6
                go_wp2
                go_roundw
                case rel => exact HRel.out (by first | trivial | rfl) _ _ _ HF.out
                case measure => simp [intOf]; omega
              · go_simp
                have hbd : b < wd.heap.size := World.block_lt_of_cell? _ _ hS.1
                have b66 : Below wd.heap.size wd (wd.alloc (.cells #[.int .i64 0, .bool true, .string ⟨lab.toArray⟩, .bool opn, .slice A9 ls.length c9] 94)) := (Below.refl _ wd).alloc (Nat.le_refl _) _
                have hS6 := And.intro ((b66.cell (p := ⟨b, off + k * 5, none⟩) hbd).trans hS.1) (And.intro ((b66.cell (p := ⟨b, off + k * 5 + 1, none⟩) hbd).trans hS.2.1) (And.intro ((b66.cell (p := ⟨b, off + k * 5 + 2, none⟩) hbd).trans hS.2.2.1) (And.intro ((b66.cell (p := ⟨b, off + k * 5 + 3, none⟩) hbd).trans hS.2.2.2.1) ((b66.cell (p := ⟨b, off + k * 5 + 4, none⟩) hbd).trans hS.2.2.2.2))))
                refine hK _ _ (fun _ => hS6) ?_
                clear hK
                have c6 : ∀ ad, Ao = some ad → ∀ j u, (psC (O.take 0))[j]? = some u → (wd.alloc (.cells #[.int .i64 0, .bool true, .string ⟨lab.toArray⟩, .bool opn, .slice A9 ls.length c9] 94)).cell? (ad.add j) = some u := fun ad e j u hu => by
                  have h1 := c5 ad e j u hu
                  exact (b66.cell (p := ad.add j) (World.block_lt_of_cell? _ _ h1)).trans h1
                have hn5 := part_cells wd (⟨0, true, lab, opn, ls⟩, .slice A9 ls.length c9) 94
                have hsz6 := b66.size
                refine wpAnyN_one (i := 1) rfl (by kernel_rfl) (fun K hK => ?_)
                refine step_copy_prts rfl _ _ rfl w.heap.size rfl Ao co (O.take 0) 0 hlO rfl c6 hone hnil5 (by omega) (by first | omega | (simp; omega)) ?_
                intro ov1 w6 hown6 b6
                have b67 := b66.then b6
                have hs66 : wd.heap.size ≤ w6.heap.size := b67.size
                have hr6 := hown6
                have hr6n := hr6
                rw [hlO] at hr6n
                have hn6 := fun j u hu => (b6.cell (p := (⟨wd.heap.size, 0, none⟩ : Addr).add j) (World.block_lt_of_cell? _ _ (hn5 j u hu))).trans (hn5 j u hu)
                have hs6 := b6.size
                refine hK _ _ (fun _ => And.intro ((b6.cell (p := ⟨b, off + k * 5, none⟩) (Nat.lt_of_lt_of_le hbd b66.size)).trans hS6.1) (And.intro ((b6.cell (p := ⟨b, off + k * 5 + 1, none⟩) (Nat.lt_of_lt_of_le hbd b66.size)).trans hS6.2.1) (And.intro ((b6.cell (p := ⟨b, off + k * 5 + 2, none⟩) (Nat.lt_of_lt_of_le hbd b66.size)).trans hS6.2.2.1) (And.intro ((b6.cell (p := ⟨b, off + k * 5 + 3, none⟩) (Nat.lt_of_lt_of_le hbd b66.size)).trans hS6.2.2.2.1) ((b6.cell (p := ⟨b, off + k * 5 + 4, none⟩) (Nat.lt_of_lt_of_le hbd b66.size)).trans hS6.2.2.2.2))))) ?_
                clear hK hown6 hS6
                refine wpAnyN_rest 7 [_, _] rfl (by kernel_rfl) (by kernel_rfl) ?_
                go_wp2_with (at_builtin; refine wpList_append_own _ rfl _ _ 63 rfl w.heap.size 94 i1 (.agg #[.int .i64 0, .bool false, .string ByteArray.empty, .bool false, .slice none 0 0]) 5 64 Tryz.underlying63 hi1 hw0 hw1 hw2 rfl (by decide) ov1 0 (psC (O.take 0)) rfl hr6n ⟨wd.heap.size, 0, none⟩ 1 1 (ptC (⟨0, true, lab, opn, ls⟩, .slice A9 ls.length c9)) rfl rfl hn6 (ptC_one _ rfl) (by unfold maxLen; omega) (by omega) (by first | omega | (simp; omega)) ?_)
                intro ov2 w7 hown7 hgrow7 _
                have HF := Lib.hid (HD.out.push (x := (⟨0, true, lab, opn, ls⟩, .slice A9 ls.length c9)) b67 hr6 (by rw [hlO]; exact hown7) hgrow7 rfl)
                clear hown7 hgrow7 hr6
                go_wp2
                go_roundw
                case rel => exact HRel.out (by first | trivial | rfl) _ _ _ HF.out
                case measure => simp [intOf]; omega
            | false =>
              obtain ⟨A8, c8, e8, hr8⟩ := hX3.ls X[k] (List.getElem_mem hpx)
              rw [HXK.out] at e8 hr8
              simp only at e8 hr8
              cases e8
              have hl9 := HL9.out.1
              have hnil9 : A9 = none → ls = [] ∧ c9 = 0 := by
                rintro rfl
                have := HL9.out.2 _ _ rfl
                exact ⟨List.eq_nil_of_length_eq_zero this.1, this.2⟩
              have hBs := hM.bel.size
              have hrow2 := hM.out
              have HM3 := Lib.hid hM
              clear hM
              go_wp2_with (at_builtin; refine append_strs rfl _ _ rfl w.heap.size (.slice Av L2.length cv) L2 rfl hrow2 A9 c9 ls rfl hr8 hnil9 (by omega) (by omega) ?_)
              intro v4 w4 hown4 hgr4
              have HF := Lib.hid (HRel2.out (by first | trivial | rfl) v4 w4 ⟨(by rw [List.length_append]; exact hown4), HM3.out.row.kept hgr4 (own_apart HM3.out.row HM3.out.out (by decide)).ne, HM3.out.one, HM3.out.bel.trans (below_of_grown hgr4 (fun g hg => (HM3.out.out.lt g hg).1) hBs)⟩)
              clear hown4 hgr4 hrow2 hnil9
              go_wp2
              go_roundw
              case rel => exact HF.out
              case measure => simp [intOf]; omega
          · obtain ⟨g9, cap9, e9, hq1, hq2, q9, _⟩ := stk_last hM HS.out (by omega)
            cases e9
            have hX3 := hX.below hM.bel
            obtain ⟨b3, off3, e3, hb3, z30, z31, z32, z33, z34⟩ := hX3.at hpx
            cases e3
            rw [HXK.out] at z30 z31 z32 z33 z34
            simp only at z30 z31 z32 z33 z34
            cases dv with
            | true =>
              have hgen := fun v' w2 h1 h2 => hM.tell (s := divLine lab) (v' := v') (w2 := w2) h1 h2
              rw [← divLine_sum] at hgen
              have HG := Lib.hid hgen
              have hrow2 := hM.out.alloc (.cells #[.string (((⟨#[58, 58, 58, 123]⟩ : ByteArray) ++ ⟨lab.toArray⟩) ++ ⟨#[125]⟩)] 9)
              have hnw := cells_one wi (.string (((⟨#[58, 58, 58, 123]⟩ : ByteArray) ++ ⟨lab.toArray⟩) ++ ⟨#[125]⟩)) 9
              have hBs := hM.bel.size
              clear hM hgen
              go_wp2_with (at_builtin; refine wpList_append_own _ rfl _ _ 22 rfl w.heap.size 9 i0 (.string ByteArray.empty) 1 16 Tryz.underlying22 hi hz0 hz1 hz2 rfl (by decide) _ _ _ rfl hrow2 ⟨wi.heap.size, 0, none⟩ 1 1 [.string (((⟨#[58, 58, 58, 123]⟩ : ByteArray) ++ ⟨lab.toArray⟩) ++ ⟨#[125]⟩)] rfl rfl hnw (by simp [Value.oneCell']) (by unfold maxLen; omega) (by omega) (by first | (simp; done) | (simp; omega)) ?_)
              intro v' w5 hown hgrow _
              have hT := HG.out v' w5 hown hgrow
              have hs5 := hT.bel.size
              obtain ⟨Ax, cx, ex, _, _, n5, c5⟩ := own_slice hT.row
              rw [hlO] at ex
              cases ex
              have hnil5 : (some (⟨g9, 0, none⟩ : Addr)) = none → O.take (n + 1) = [] ∧ co = 0 := fun e => ⟨List.eq_nil_of_length_eq_zero (n5 e).1, (n5 e).2⟩
              have HT := Lib.hid hT
              have hone := hT.one
              clear hown hgrow hrow2 hT z30 z31 z32 z33 z34
              have hX5 := hX.below HT.out.bel
              obtain ⟨b5, off5, e5, hb5, hS⟩ := hX5.at hpx
              cases e5
              rw [HXK.out] at hS
              simp only at hS
              go_wp2_with fail
              refine wp_region_N (fun W => W.cell? ⟨b, off + k * 5, none⟩ = some (.int .i64 ((n + 1 : Nat) : Int)) ∧ W.cell? ⟨b, off + k * 5 + 1, none⟩ = some (.bool true) ∧ W.cell? ⟨b, off + k * 5 + 2, none⟩ = some (.string ⟨lab.toArray⟩) ∧ W.cell? ⟨b, off + k * 5 + 3, none⟩ = some (.bool opn) ∧ W.cell? ⟨b, off + k * 5 + 4, none⟩ = some (.slice A9 ls.length c9)) (fun j => decide (j < 7)) (by kernel_rfl) ?_
              have hS : w5.drew.cell? ⟨b, off + k * 5, none⟩ = some (.int .i64 ((n + 1 : Nat) : Int)) ∧ w5.drew.cell? ⟨b, off + k * 5 + 1, none⟩ = some (.bool true) ∧ w5.drew.cell? ⟨b, off + k * 5 + 2, none⟩ = some (.string ⟨lab.toArray⟩) ∧ w5.drew.cell? ⟨b, off + k * 5 + 3, none⟩ = some (.bool opn) ∧ w5.drew.cell? ⟨b, off + k * 5 + 4, none⟩ = some (.slice A9 ls.length c9) := hS
              have HD := Lib.hid (HT.out.below ((Below.refl w5.heap.size w5).drew))
              have c5 : ∀ ad, (some (⟨g9, 0, none⟩ : Addr)) = some ad → ∀ j u, (psC (O.take (n + 1)))[j]? = some u → w5.drew.cell? (ad.add j) = some u := c5
              have hs5 : w.heap.size ≤ w5.drew.heap.size := hs5
              clear hX5
              generalize w5.drew = wd at *
              refine wpAnyN_take_at 0 72 (v := ?_) rfl rfl (by kernel_rfl) (by kernel_rfl) (by kernel_rfl) (by kernel_rfl) (by kernel_rfl) (fun _ _ _ h => h) (by rfl) ?_ hS ?_
              rotate_left
              · intro w hSw; (try dsimp only at hSw); obtain ⟨s0, s1, s2, s3, s4⟩ := hSw; go_simp; (try with_reducible rfl)
              simp only [Act.put, List.setIfInBounds_toArray, List.set_cons_zero, List.set_cons_succ]
              refine wpAnyN_take_at 2 74 (v := ?_) rfl rfl (by kernel_rfl) (by kernel_rfl) (by kernel_rfl) (by kernel_rfl) (by kernel_rfl) (fun _ _ _ h => h) (by rfl) ?_ hS ?_
              rotate_left
              · intro w hSw; (try dsimp only at hSw); obtain ⟨s0, s1, s2, s3, s4⟩ := hSw; go_simp; (try with_reducible rfl)
              simp only [Act.put, List.setIfInBounds_toArray, List.set_cons_zero, List.set_cons_succ]
              refine wpAnyN_take_at 3 75 (v := ?_) rfl rfl (by kernel_rfl) (by kernel_rfl) (by kernel_rfl) (by kernel_rfl) (by kernel_rfl) (fun _ _ _ h => h) (by rfl) ?_ hS ?_
              rotate_left
              · intro w hSw; (try dsimp only at hSw); obtain ⟨s0, s1, s2, s3, s4⟩ := hSw; go_simp; (try with_reducible rfl)
              simp only [Act.put, List.setIfInBounds_toArray, List.set_cons_zero, List.set_cons_succ]
              refine wpAnyN_take_at 4 76 (v := ?_) rfl rfl (by kernel_rfl) (by kernel_rfl) (by kernel_rfl) (by kernel_rfl) (by kernel_rfl) (fun _ _ _ h => h) (by rfl) ?_ hS ?_
              rotate_left
              · intro w hSw; (try dsimp only at hSw); obtain ⟨s0, s1, s2, s3, s4⟩ := hSw; go_simp; (try with_reducible rfl)
              simp only [Act.put, List.setIfInBounds_toArray, List.set_cons_zero, List.set_cons_succ]
              refine wpAnyN_take_at 5 77 (v := ?_) rfl rfl (by kernel_rfl) (by kernel_rfl) (by kernel_rfl) (by kernel_rfl) (by kernel_rfl) (fun _ _ _ h => h) (by rfl) ?_ hS ?_
              rotate_left
              · intro w hSw; (try dsimp only at hSw); obtain ⟨s0, s1, s2, s3, s4⟩ := hSw; go_simp; (try with_reducible rfl)
              simp only [Act.put, List.setIfInBounds_toArray, List.set_cons_zero, List.set_cons_succ]
              refine wpAnyN_two (i := 1) (j := 6) rfl rfl (by kernel_rfl) (fun K hK => ?_) (fun K hK => ?_)
              · refine step_copy_prts rfl _ _ rfl w.heap.size rfl (some (⟨g9, 0, none⟩ : Addr)) co (O.take (n + 1)) (n + 1) hlO rfl c5 hone hnil5 (by omega) (by omega) ?_
                intro ov1 w6 hown6 b6
                have hbd : b < wd.heap.size := World.block_lt_of_cell? _ _ hS.1
                have hS6 := And.intro ((b6.cell (p := ⟨b, off + k * 5, none⟩) hbd).trans hS.1) (And.intro ((b6.cell (p := ⟨b, off + k * 5 + 1, none⟩) hbd).trans hS.2.1) (And.intro ((b6.cell (p := ⟨b, off + k * 5 + 2, none⟩) hbd).trans hS.2.2.1) (And.intro ((b6.cell (p := ⟨b, off + k * 5 + 3, none⟩) hbd).trans hS.2.2.2.1) ((b6.cell (p := ⟨b, off + k * 5 + 4, none⟩) hbd).trans hS.2.2.2.2))))
                refine hK _ _ (fun _ => hS6) ?_
                clear hK
                refine wpAnyN_one (i := 6) rfl (by kernel_rfl) (fun K hK => ?_)
                go_simp
                have b66 : Below w6.heap.size w6 (w6.alloc (.cells #[.int .i64 ((n + 1 : Nat) : Int), .bool true, .string ⟨lab.toArray⟩, .bool opn, .slice A9 ls.length c9] 94)) := (Below.refl _ w6).alloc (Nat.le_refl _) _
                have b67 := b6.then b66
                have hr6 := ownsRow_below hown6 b66
                have hr6n := hr6
                rw [hlO] at hr6n
                have hn6 := part_cells w6 (⟨((n + 1 : Nat) : Int), true, lab, opn, ls⟩, .slice A9 ls.length c9) 94
                have hs6 := b6.size
                refine hK _ _ (fun _ => And.intro ((b66.cell (p := ⟨b, off + k * 5, none⟩) (Nat.lt_of_lt_of_le hbd b6.size)).trans hS6.1) (And.intro ((b66.cell (p := ⟨b, off + k * 5 + 1, none⟩) (Nat.lt_of_lt_of_le hbd b6.size)).trans hS6.2.1) (And.intro ((b66.cell (p := ⟨b, off + k * 5 + 2, none⟩) (Nat.lt_of_lt_of_le hbd b6.size)).trans hS6.2.2.1) (And.intro ((b66.cell (p := ⟨b, off + k * 5 + 3, none⟩) (Nat.lt_of_lt_of_le hbd b6.size)).trans hS6.2.2.2.1) ((b66.cell (p := ⟨b, off + k * 5 + 4, none⟩) (Nat.lt_of_lt_of_le hbd b6.size)).trans hS6.2.2.2.2))))) ?_
                clear hK hown6 hS6
                refine wpAnyN_rest 7 [_, _] rfl (by kernel_rfl) (by kernel_rfl) ?_
                go_wp2_with (at_builtin; refine wpList_append_own _ rfl _ _ 63 rfl w.heap.size 94 i1 (.agg #[.int .i64 0, .bool false, .string ByteArray.empty, .bool false, .slice none 0 0]) 5 64 Tryz.underlying63 hi1 hw0 hw1 hw2 rfl (by decide) ov1 (n + 1) (psC (O.take (n + 1))) rfl hr6n ⟨w6.heap.size, 0, none⟩ 1 1 (ptC (⟨((n + 1 : Nat) : Int), true, lab, opn, ls⟩, .slice A9 ls.length c9)) rfl rfl hn6 (ptC_one _ rfl) (by unfold maxLen; omega) (by omega) (by first | omega | (simp; omega)) ?_)
                intro ov2 w7 hown7 hgrow7 _
                have HF := Lib.hid (HD.out.push (x := (⟨((n + 1 : Nat) : Int), true, lab, opn, ls⟩, .slice A9 ls.length c9)) b67 hr6 (by rw [hlO]; exact hown7) hgrow7 rfl)
                clear hown7 hgrow7 hr6
                go_wp2
                go_roundw
                case rel => exact HRel.out (by first | trivial | rfl) _ _ _ HF.out
                case measure => simp [intOf]; omega
              · go_simp
                have hbd : b < wd.heap.size := World.block_lt_of_cell? _ _ hS.1
                have b66 : Below wd.heap.size wd (wd.alloc (.cells #[.int .i64 ((n + 1 : Nat) : Int), .bool true, .string ⟨lab.toArray⟩, .bool opn, .slice A9 ls.length c9] 94)) := (Below.refl _ wd).alloc (Nat.le_refl _) _
                have hS6 := And.intro ((b66.cell (p := ⟨b, off + k * 5, none⟩) hbd).trans hS.1) (And.intro ((b66.cell (p := ⟨b, off + k * 5 + 1, none⟩) hbd).trans hS.2.1) (And.intro ((b66.cell (p := ⟨b, off + k * 5 + 2, none⟩) hbd).trans hS.2.2.1) (And.intro ((b66.cell (p := ⟨b, off + k * 5 + 3, none⟩) hbd).trans hS.2.2.2.1) ((b66.cell (p := ⟨b, off + k * 5 + 4, none⟩) hbd).trans hS.2.2.2.2))))
                refine hK _ _ (fun _ => hS6) ?_
                clear hK
                have c6 : ∀ ad, (some (⟨g9, 0, none⟩ : Addr)) = some ad → ∀ j u, (psC (O.take (n + 1)))[j]? = some u → (wd.alloc (.cells #[.int .i64 ((n + 1 : Nat) : Int), .bool true, .string ⟨lab.toArray⟩, .bool opn, .slice A9 ls.length c9] 94)).cell? (ad.add j) = some u := fun ad e j u hu => by
                  have h1 := c5 ad e j u hu
                  exact (b66.cell (p := ad.add j) (World.block_lt_of_cell? _ _ h1)).trans h1
                have hn5 := part_cells wd (⟨((n + 1 : Nat) : Int), true, lab, opn, ls⟩, .slice A9 ls.length c9) 94
                have hsz6 := b66.size
                refine wpAnyN_one (i := 1) rfl (by kernel_rfl) (fun K hK => ?_)
                refine step_copy_prts rfl _ _ rfl w.heap.size rfl (some (⟨g9, 0, none⟩ : Addr)) co (O.take (n + 1)) (n + 1) hlO rfl c6 hone hnil5 (by omega) (by first | omega | (simp; omega)) ?_
                intro ov1 w6 hown6 b6
                have b67 := b66.then b6
                have hs66 : wd.heap.size ≤ w6.heap.size := b67.size
                have hr6 := hown6
                have hr6n := hr6
                rw [hlO] at hr6n
                have hn6 := fun j u hu => (b6.cell (p := (⟨wd.heap.size, 0, none⟩ : Addr).add j) (World.block_lt_of_cell? _ _ (hn5 j u hu))).trans (hn5 j u hu)
                have hs6 := b6.size
                refine hK _ _ (fun _ => And.intro ((b6.cell (p := ⟨b, off + k * 5, none⟩) (Nat.lt_of_lt_of_le hbd b66.size)).trans hS6.1) (And.intro ((b6.cell (p := ⟨b, off + k * 5 + 1, none⟩) (Nat.lt_of_lt_of_le hbd b66.size)).trans hS6.2.1) (And.intro ((b6.cell (p := ⟨b, off + k * 5 + 2, none⟩) (Nat.lt_of_lt_of_le hbd b66.size)).trans hS6.2.2.1) (And.intro ((b6.cell (p := ⟨b, off + k * 5 + 3, none⟩) (Nat.lt_of_lt_of_le hbd b66.size)).trans hS6.2.2.2.1) ((b6.cell (p := ⟨b, off + k * 5 + 4, none⟩) (Nat.lt_of_lt_of_le hbd b66.size)).trans hS6.2.2.2.2))))) ?_
                clear hK hown6 hS6
                refine wpAnyN_rest 7 [_, _] rfl (by kernel_rfl) (by kernel_rfl) ?_
                go_wp2_with (at_builtin; refine wpList_append_own _ rfl _ _ 63 rfl w.heap.size 94 i1 (.agg #[.int .i64 0, .bool false, .string ByteArray.empty, .bool false, .slice none 0 0]) 5 64 Tryz.underlying63 hi1 hw0 hw1 hw2 rfl (by decide) ov1 (n + 1) (psC (O.take (n + 1))) rfl hr6n ⟨wd.heap.size, 0, none⟩ 1 1 (ptC (⟨((n + 1 : Nat) : Int), true, lab, opn, ls⟩, .slice A9 ls.length c9)) rfl rfl hn6 (ptC_one _ rfl) (by unfold maxLen; omega) (by omega) (by first | omega | (simp; omega)) ?_)
                intro ov2 w7 hown7 hgrow7 _
                have HF := Lib.hid (HD.out.push (x := (⟨((n + 1 : Nat) : Int), true, lab, opn, ls⟩, .slice A9 ls.length c9)) b67 hr6 (by rw [hlO]; exact hown7) hgrow7 rfl)
                clear hown7 hgrow7 hr6
                go_wp2
                go_roundw
                case rel => exact HRel.out (by first | trivial | rfl) _ _ _ HF.out
                case measure => simp [intOf]; omega
            | false =>
              obtain ⟨A8, c8, e8, hr8⟩ := hX3.ls X[k] (List.getElem_mem hpx)
              rw [HXK.out] at e8 hr8
              simp only at e8 hr8
              cases e8
              have hl9 := HL9.out.1
              have hnil9 : A9 = none → ls = [] ∧ c9 = 0 := by
                rintro rfl
                have := HL9.out.2 _ _ rfl
                exact ⟨List.eq_nil_of_length_eq_zero this.1, this.2⟩
              have hBs := hM.bel.size
              have hrow2 := hM.out
              have HM3 := Lib.hid hM
              clear hM
              go_wp2_with (at_builtin; refine append_strs rfl _ _ rfl w.heap.size (.slice Av L2.length cv) L2 rfl hrow2 A9 c9 ls rfl hr8 hnil9 (by omega) (by omega) ?_)
              intro v4 w4 hown4 hgr4
              have HF := Lib.hid (HRel2.out (by first | trivial | rfl) v4 w4 ⟨(by rw [List.length_append]; exact hown4), HM3.out.row.kept hgr4 (own_apart HM3.out.row HM3.out.out (by decide)).ne, HM3.out.one, HM3.out.bel.trans (below_of_grown hgr4 (fun g hg => (HM3.out.out.lt g hg).1) hBs)⟩)
              clear hown4 hgr4 hrow2 hnil9
              go_wp2
              go_roundw
              case rel => exact HF.out
              case measure => simp [intOf]; omega
    · obtain rfl : k = X.length := by omega
      have hSc := hS.cnt
      rw [List.length_map] at hSc
      have HP0 := Lib.hid (PopRel.start (c := cnt (ps.take X.length)) hM (Nat.zero_le _ : 0 ≤ O.length) hSc)
      have HS := Lib.hid hS
      have HFin := Lib.hid (show writeP ps = L ++ ends (O.length - cnt (ps.take X.length)) from by
        have h1 := hS
        rw [← hXl] at h1
        have := h1.done
        rw [List.length_map] at this
        rw [this, ← HLe.out, ← hXl, List.take_length])
      have hOk2 : O.length ≤ 100000 := by omega
      clear hS hM hLe hp
      generalize hcc : cnt (ps.take X.length) = c at *
      have HCC := Lib.hid hcc
      clear hcc
      go_wp2_with fail
      go_loopw [3, 4] (fun v ov wr => PopRel w ps X.length c 0 L O v ov wr) (fun _ ov _ => slN ov)
      case atStart => exact HP0.out
      case round =>
        obtain ⟨m, htm, hmO, hM⟩ := hrel
        clear HP0
        rcases m with _ | n
        · have hlO : (O.take 0).length = 0 := rfl
          obtain ⟨Av, cv, rfl, _, _, _⟩ := own_slice hM.out
          obtain ⟨Ao, co, rfl, _, _, _⟩ := own_slice hM.row
          rw [hlO] at hM ⊢
          have HF := Lib.hid (show writeP ps = L ++ ends (O.length - max 0 c) from by rw [HFin.out, Nat.zero_max])
          generalize L ++ ends (O.length - max 0 c) = L1 at *
          have HM := Lib.hid hM
          clear hM
          go_wp2
          go_ret
          exact ⟨_, rfl, by rw [HF.out]; exact HM.out.out, HM.out.bel⟩
        · obtain ⟨g, cap2, rfl, hc1, hc2, q0, q3⟩ := stk_last hM HS.out (by omega)
          rw [HCC.out] at q3
          unfold maxLen at hc2
          by_cases hnc : n < c
          · rw [decide_eq_true hnc] at q3
            have hgen := hM.popN (by omega : n < O.length)
            rw [show max (n + 1) c = max n c from by omega] at hgen
            have HF := Lib.hid hgen
            clear hM hgen
            go_wp2
            go_roundw
            case rel => exact ⟨n, by omega, by omega, HF.out⟩
            case measure => simp [slN]
          · rw [decide_eq_false hnc] at q3
            have hlL : (L ++ ends (O.length - max (n + 1) c)).length ≤ 400000 * 100001 := by simp [ends]; omega
            have hgen := fun v' w2 h1 h2 => (hM.tell (s := divE) (v' := v') (w2 := w2) h1 h2).popN (by omega : n < O.length)
            rw [ends_snoc, show O.length - max (n + 1) c + 1 = O.length - max n c from by omega] at hgen
            have HG := Lib.hid hgen
            have hrow2 := hM.out.alloc (.cells #[.string ⟨#[58, 58, 58]⟩] 9)
            rename World => wi
            have hnw := cells_one wi (.string ⟨#[58, 58, 58]⟩) 9
            have hBs := hM.bel.size
            clear hM hgen
            generalize L ++ ends (O.length - max (n + 1) c) = L1 at *
            obtain ⟨Av, cv, rfl, hv1', hv2', _⟩ := own_slice hrow2
            unfold maxLen at hv2'
            go_wp2_with (at_builtin; refine wpList_append_own _ rfl _ _ 22 rfl w.heap.size 9 i0 (.string ByteArray.empty) 1 16 Tryz.underlying22 hi hz0 hz1 hz2 rfl (by decide) _ _ _ rfl hrow2 ⟨wi.heap.size, 0, none⟩ 1 1 [.string ⟨#[58, 58, 58]⟩] rfl rfl hnw (by simp [Value.oneCell']) (by unfold maxLen; omega) (by omega) (by simp; omega) ?_)
            intro v' w2 hown hgrow _
            have HF := Lib.hid (HG.out v' w2 hown hgrow)
            clear hown hgrow hrow2
            go_wp2
            go_roundw
            case rel => exact ⟨n, by omega, by omega, HF.out⟩
            case measure => simp [slN]

end Go.Proofs.YtkcmhdkhdjmjeaaGreatDoor
