/-
  Package frame: Parse: a list of its own, that holds the parts of the lines.
-/
import Derived.Test.YtodnioihadpncaaDoorFrmD
namespace Go.Proofs.YtodnioihadpncaaDoor
open Go.RowKit
set_option linter.unusedSimpArgs false
set_option linter.unusedVariables false
set_option maxRecDepth 100000

def ints (os : List Nat) : List Value := os.map fun j : Nat => Value.int .i64 j
theorem ints_len (os : List Nat) : (ints os).length = os.length := by simp [ints]
theorem infoInt : (Tryd.prog.info? 3).map (fun i => (i.zero, i.size, i.bytes)) = some (some (.int .i64 0), 1, 8) := by kernel_rfl

/-- One reads on: the parts in X, the open ones in os. -/
structure PMem (w0 : World) (ls : List Txt) (k : Nat) (v ov : Value) (X : List (Prt × Value)) (os : List Nat) (w : World) : Prop where
  parts : PartsOwn w w0.heap.size v X
  row : w.ownsRow w0.heap.size 3 1 ov os.length (ints os)
  st : (X.map Prod.fst, os) = parseF ([], []) (ls.take k)
  bel : Below w0.heap.size w0 w
theorem PMem.bound {w0 w : World} {ls : List Txt} {k : Nat} {v ov : Value} {X : List (Prt × Value)} {os : List Nat} (h : PMem w0 ls k v ov X os w) (hk : k ≤ ls.length) :
    X.length ≤ k ∧ os.length ≤ k ∧ (∀ j ∈ os, j < X.length) ∧ ∀ x ∈ X, x.1.ls.length ≤ k := by
  obtain ⟨a, b, c, d⟩ := parse_bound ls k hk
  rw [← h.st] at a b c d
  rw [List.length_map] at a c
  exact ⟨a, b, c, fun x hx => d x.1 (List.mem_map.2 ⟨x, hx, rfl⟩)⟩
theorem PMem.below {w0 w w' : World} {ls : List Txt} {k : Nat} {v ov : Value} {X : List (Prt × Value)} {os : List Nat} (h : PMem w0 ls k v ov X os w) (hb : Below w.heap.size w w') : PMem w0 ls k v ov X os w' :=
  ⟨h.parts.below hb, ownsRow_below h.row hb, h.st, h.bel.then hb⟩
/-- A division more. -/
theorem PMem.open {w0 w w2 w3 : World} {ls : List Txt} {k : Nat} {v ov v' ov' : Value} {X : List (Prt × Value)} {os : List Nat} {lab : Txt} (h : PMem w0 ls k v ov X os w) (hk : k < ls.length) (ho : opensL ls[k] = some lab)
    (h2 : w2.ownsRow w0.heap.size 3 1 ov' (os.length + 1) (ints os ++ [.int .i64 X.length])) (g2 : (w.alloc (.cells #[.int .i64 X.length] 3)).grownBy w2 ov.ownBlock)
    (h3 : w3.ownsRow w0.heap.size 32 5 v' (X.length + 1) (psC X ++ ptC (⟨os.length, true, lab, true, []⟩, .slice none 0 0)))
    (g3 : (w2.alloc (.cells #[.int .i64 os.length, .bool true, .string ⟨lab.toArray⟩, .bool true, .slice none 0 0] 32)).grownBy w3 v.ownBlock) :
    PMem w0 ls (k + 1) v' ov' (X ++ [(⟨os.length, true, lab, true, []⟩, .slice none 0 0)]) (os ++ [X.length]) w3 := by
  have hB := h.bel.size
  have b1 : Below w.heap.size w (w.alloc (.cells #[.int .i64 X.length] 3)) := (Below.refl _ w).alloc (Nat.le_refl _) _
  have hs1 := alloc_size w (.cells #[.int .i64 X.length] 3)
  have p1 := h.parts.below b1
  have r1 := ownsRow_below h.row b1
  generalize w.alloc (.cells #[.int .i64 X.length] 3) = w1 at *
  have p2 := p1.keptInt r1 g2
  have hs2 := g2.size
  have b3 : Below w2.heap.size w2 (w2.alloc (.cells #[.int .i64 os.length, .bool true, .string ⟨lab.toArray⟩, .bool true, .slice none 0 0] 32)) := (Below.refl _ w2).alloc (Nat.le_refl _) _
  have hs3 := alloc_size w2 (.cells #[.int .i64 os.length, .bool true, .string ⟨lab.toArray⟩, .bool true, .slice none 0 0] 32)
  have p3 := p2.below b3
  have r3 := ownsRow_below h2 b3
  generalize w2.alloc (.cells #[.int .i64 os.length, .bool true, .string ⟨lab.toArray⟩, .bool true, .slice none 0 0] 32) = w4 at *
  refine ⟨p3.snoc g3 h3 (World.ownsRow_nil _ _ _ _) (fun k y hy g hg => by simp [Value.ownBlock]), ?_, ?_, ?_⟩
  · have r5 := r3.kept g3 (own_apart r3 p3.row (by decide)).ne
    rw [List.length_append, show ints (os ++ [X.length]) = ints os ++ [.int .i64 X.length] from by simp [ints]]
    exact r5
  · rw [parseF_take ls k hk, ← h.st]
    unfold stepP
    rw [ho]
    simp
  · exact (((h.bel.then b1).trans (below_of_grown g2 (fun g hg => (r1.lt g hg).1) (by omega))).trans (b3.mono (by omega))).trans (below_of_grown g3 (fun g hg => (p3.row.lt g hg).1) (by omega))
/-- The last one is closed. -/
theorem PMem.close {w0 w : World} {ls : List Txt} {k g g' cap cap' d : Nat} {X : List (Prt × Value)} {os : List Nat} (h : PMem w0 ls k (.slice (some ⟨g, 0, none⟩) X.length cap) (.slice (some ⟨g', 0, none⟩) os.length cap') X os w) (hk : k < ls.length)
    (ho : opensL ls[k] = none) (hc : closesL ls[k] = true) (hd : os.length = d + 1) {j : Nat} (hj : os[d]? = some j) (hjl : j < X.length) :
    PMem w0 ls (k + 1) (.slice (some ⟨g, 0, none⟩) X.length cap) (.slice (some ⟨g', 0, none⟩) d cap') (X.set j ({ X[j].1 with opn := false }, X[j].2)) os.dropLast (w.setCell ⟨g, j * 5 + 3, none⟩ (.bool false)) := by
  have hb : ∃ cur, w.heap[g]? = some (.cells cur 32 (0, 0)) ∧ w0.heap.size ≤ g := by
    obtain ⟨g', cap', cur, e, hB, _, _, _, hg, _⟩ := own_block h.parts.row (by omega)
    cases e
    exact ⟨cur, hg, hB⟩
  obtain ⟨cur, hg, hB⟩ := hb
  refine ⟨h.parts.setOpn hjl false, ?_, ?_, h.bel.setCell (p := ⟨g, j * 5 + 3, none⟩) hB _⟩
  · have h1 := own_take h.row (m := d) (by omega)
    have e1 : os.dropLast.length = d := by rw [List.length_dropLast]; omega
    have e2 : ints os.dropLast = (ints os).take d := by unfold ints; rw [List.dropLast_eq_take, List.map_take, hd]; rfl
    rw [e1, e2]
    exact own_set h1 hg (by decide) _ _
  · rw [parseF_take ls k hk, ← h.st]
    unfold stepP
    rw [ho]
    dsimp only
    have hne : os ≠ [] := by intro e; rw [e] at hd; simp at hd
    rw [if_pos ⟨hne, hc⟩]
    have hl : os.getLast?.getD 0 = j := by rw [List.getLast?_eq_getElem?, hd, Nat.add_sub_cancel, hj]; rfl
    rw [hl]
    have e3 : (X.set j ({ X[j].1 with opn := false }, X[j].2)).map Prod.fst = shut (X.map Prod.fst) j := by
      apply List.ext_getElem?
      intro i
      unfold shut
      rw [List.getElem?_map, List.getElem?_set, List.getElem?_modify, List.getElem?_map]
      split
      · rename_i e
        subst e
        rw [List.getElem?_eq_getElem hjl]; rfl
      · cases X[i]? <;> rfl
    rw [e3]
/-- A line more. -/
theorem PMem.line {w0 w w' : World} {ls : List Txt} {k : Nat} {v ov v' : Value} {X X' : List (Prt × Value)} {os : List Nat} (h : PMem w0 ls k v ov X os w) (hk : k < ls.length) (ho : opensL ls[k] = none) (hc : ¬ (os ≠ [] ∧ closesL ls[k] = true))
    (hp : PartsOwn w' w0.heap.size v' X') (hX : X'.map Prod.fst = addLn (X.map Prod.fst) os.length ls[k]) (hi : IntsKept w w') (hb : Below w0.heap.size w w') : PMem w0 ls (k + 1) v' ov X' os w' := by
  refine ⟨hp, hi.own h.row, ?_, h.bel.trans hb⟩
  rw [parseF_take ls k hk, ← h.st, hX]
  unfold stepP
  rw [ho]
  dsimp only
  rw [if_neg hc]

def ParseRel (w0 : World) (ls : List Txt) (v ov i : Value) (wr : World) : Prop := ∃ (k : Nat) (X : List (Prt × Value)) (os : List Nat), i = .int .i64 k ∧ k ≤ ls.length ∧ PMem w0 ls k v ov X os wr

set_option maxHeartbeats 8000000 in
theorem parse_any (A : Option Addr) (c : Nat) (ls : List Txt) (w : World) (hrow : RowOf w A c (strs ls)) (hm : ls.length ≤ 100000) (hz : ∀ y ∈ ls, y.length ≤ 140737488355328) :
    Calls Tryd.prog 13 #[.slice A ls.length c] w fun e w' => ∃ v X, e = .returned v ∧ PartsOwn w' w.heap.size v X ∧ X.map Prod.fst = parseL ls ∧ Below w.heap.size w w' := by
  obtain ⟨i0, hi, hz0, hz1, hz2⟩ := info_parts infoInt
  obtain ⟨i1, hi1, hw0, hw1, hw2⟩ := info_parts infoPart
  have hcl := hrow.1
  have hcm := hrow.2.1
  rw [strs_length] at hcl
  unfold maxLen at hcm
  have HZ := Lib.hid hz
  clear hz
  go_enter Tryd.func13, Tryd.ntmps13
  go_wp2_with fail
  go_loopw [3, 4, 12] (fun v ov i wr => ParseRel w ls v ov i wr) (fun _ _ i _ => ls.length - (intOf i).toNat)
  case atStart => exact ⟨0, [], [], rfl, Nat.zero_le _, PartsOwn.nil _ _, World.ownsRow_nil _ _ _ _, rfl, Below.refl _ _⟩
  case round =>
    obtain ⟨k, X, os, rfl, hk, hM⟩ := hrel
    obtain ⟨bX, bO, bI, bL⟩ := hM.bound hk
    by_cases hp : k < ls.length
    · have hrow2 := hrow.below hM.bel
      obtain ⟨b, off, rfl, hb, hc⟩ := hrow2.cellAt hp
      have hsz := HZ.out ls[k] (List.getElem_mem hp)
      rw [← str_size] at hsz
      have co := fun w1 => opens_any ⟨ls[k].toArray⟩ w1 hsz
      rw [show (⟨ls[k].toArray⟩ : ByteArray).data.toList = ls[k] from rfl] at co
      obtain ⟨A3, c3, rfl, hat⟩ := hM.parts.at
      obtain ⟨A4, c4, rfl, hr4, _⟩ := RowOf.own hM.row
      cases ho : opensL ls[k] with
      | some lab =>
        rw [ho] at co
        unfold optV at co
        dsimp only at co
        have HO := Lib.hid ho
        have HM := Lib.hid hM
        clear hat hr4 hrow2 hM bI bL
        go_wp2_with fail
        refine (co _).mono ?_
        rintro e w1 ⟨rfl, b1⟩
        have hM1 := HM.out.below b1
        have r1 := hM1.row.alloc (.cells #[.int .i64 X.length] 3)
        have hs0 := hM1.bel.size
        have hn1 := cells_one w1 (.int .i64 X.length) 3
        have H1 := Lib.hid hM1
        clear hM1
        go_wp2_with (at_builtin; refine wpList_append_own _ rfl _ _ 47 rfl w.heap.size 3 i0 (.int .i64 0) 1 8 Tryd.underlying47 hi hz0 hz1 hz2 rfl (by decide) _ _ _ rfl r1 ⟨w1.heap.size, 0, none⟩ 1 1 [.int .i64 X.length] rfl rfl hn1 (by simp [Value.oneCell']) (by unfold maxLen; omega) (by omega) (by simp; omega) ?_)
        intro ov' w2 hown2 hgrow2 _
        have hs1 := hgrow2.size
        have hs2 := alloc_size w1 (.cells #[.int .i64 X.length] 3)
        have p2 := ((H1.out.parts.alloc (.cells #[.int .i64 X.length] 3)).keptInt r1 hgrow2).alloc (.cells #[.int .i64 os.length, .bool true, .string ⟨lab.toArray⟩, .bool true, .slice none 0 0] 32)
        have hn2 := part_cells w2 (⟨os.length, true, lab, true, []⟩, .slice none 0 0) 32
        have HO2 := Lib.hid hown2
        have HG2 := Lib.hid hgrow2
        clear hown2 hgrow2
        go_wp2_with (at_builtin; refine wpList_append_own _ rfl _ _ 25 rfl w.heap.size 32 i1 (.agg #[.int .i64 0, .bool false, .string ByteArray.empty, .bool false, .slice none 0 0]) 5 64 Tryd.underlying25 hi1 hw0 hw1 hw2 rfl (by decide) _ _ _ rfl p2.row ⟨w2.heap.size, 0, none⟩ 1 1 (ptC (⟨os.length, true, lab, true, []⟩, .slice none 0 0)) rfl rfl hn2 (ptC_one _ rfl) (by unfold maxLen; omega) (by omega) (by simp; omega) ?_)
        intro v' w3 hown3 hgrow3 _
        have HF := Lib.hid (H1.out.open hp HO.out HO2.out HG2.out hown3 hgrow3)
        clear hown3 hgrow3 p2 r1
        go_wp2
        go_roundw
        case rel => exact ⟨k + 1, _, _, by go_num, by omega, HF.out⟩
        case measure => simp [intOf]; omega
      | none =>
        rw [ho] at co
        unfold optV at co
        dsimp only at co
        have HO := Lib.hid ho
        have HM := Lib.hid hM
        have HI := Lib.hid bI
        have HL := Lib.hid bL
        have cc := fun w1 => closes_any ⟨ls[k].toArray⟩ w1 hsz
        rw [show (⟨ls[k].toArray⟩ : ByteArray).data.toList = ls[k] from rfl] at cc
        have ca := fun w1 hB h => addLine_any w.heap.size (.slice A3 X.length c3) X os.length ⟨ls[k].toArray⟩ w1 hB h (by omega) (fun x hx => by have := HL.out x hx; omega)
        rw [show (⟨ls[k].toArray⟩ : ByteArray).data.toList = ls[k] from rfl] at ca
        clear hat hr4 hrow2 hM bI bL ho
        by_cases h0 : os.length = 0
        · obtain rfl : os = [] := List.eq_nil_of_length_eq_zero h0
          have HN := Lib.hid (show ¬ (([] : List Nat) ≠ [] ∧ closesL ls[k] = true) from fun h => h.1 rfl)
          rw [show ((([] : List Nat).length : Nat) : Int) = 0 from rfl] at ca
          clear h0
          go_wp2_with fail
          refine (co _).mono ?_
          rintro e w1 ⟨rfl, b1⟩
          have hM1 := HM.out.below b1
          have H1 := Lib.hid hM1
          clear hM1
          go_wp2_with fail
          refine (ca _ H1.out.bel.size H1.out.parts).mono ?_
          rintro e w2 ⟨v', X', rfl, hP, hXe, hIk, hB2⟩
          have HF := Lib.hid (H1.out.line hp HO.out HN.out hP hXe hIk hB2)
          clear hP hXe hIk hB2
          go_wp2
          go_roundw
          case rel => exact ⟨k + 1, _, _, by go_num, by omega, HF.out⟩
          case measure => simp [intOf]; omega
        · have f0 : decide ((0 : Int) < os.length) = true := by simp; omega
          cases hcl' : closesL ls[k] with
          | false =>
            have HN := Lib.hid (show ¬ (os ≠ [] ∧ closesL ls[k] = true) from fun h => by rw [hcl'] at h; cases h.2)
            rw [hcl'] at cc
            clear hcl'
            go_wp2_with fail
            refine (co _).mono ?_
            rintro e w1 ⟨rfl, b1⟩
            have hM1 := HM.out.below b1
            have H1 := Lib.hid hM1
            clear hM1
            go_wp2_with fail
            refine (cc _).mono ?_
            rintro e w9 ⟨rfl, rfl⟩
            go_wp2_with fail
            refine (ca _ H1.out.bel.size H1.out.parts).mono ?_
            rintro e w2 ⟨v', X', rfl, hP, hXe, hIk, hB2⟩
            have HF := Lib.hid (H1.out.line hp HO.out HN.out hP hXe hIk hB2)
            clear hP hXe hIk hB2
            go_wp2
            go_roundw
            case rel => exact ⟨k + 1, _, _, by go_num, by omega, HF.out⟩
            case measure => simp [intOf]; omega
          | true =>
            have HC := Lib.hid hcl'
            rw [hcl'] at cc
            clear hcl'
            obtain ⟨d, hd⟩ : ∃ d, os.length = d + 1 := ⟨os.length - 1, by omega⟩
            have hj : os[d]? = some (os[d]'(by omega)) := List.getElem?_eq_getElem (by omega)
            have hjl := HI.out _ (List.getElem_mem (l := os) (n := d) (by omega))
            generalize os[d]'(by omega) = j at *
            go_wp2_with fail
            refine (co _).mono ?_
            rintro e w1 ⟨rfl, b1⟩
            have hM1 := HM.out.below b1
            obtain ⟨g3, c3', cur3, e3, _, hlt3, hnc3, hcm3, hblk3, hcell3⟩ := own_block hM1.parts.row (by omega)
            cases e3
            obtain ⟨g4, c4', cur4, e4, _, hlt4, hnc4, hcm4, hblk4, hcell4⟩ := own_block hM1.row (by omega)
            cases e4
            have hc3 := hcell3 _ _ (psC_get X j hjl 3 (.bool (X[j]).1.opn) rfl)
            have hf3 := own_frozen hblk3 (j * 5 + 3)
            have hc4 := hcell4 d (.int .i64 j) (by unfold ints; rw [List.getElem?_map, hj]; rfl)
            have HF := Lib.hid (hM1.close hp HO.out HC.out hd hj hjl)
            have H1 := Lib.hid hM1
            clear hM1 hcell3 hcell4
            unfold maxLen at hcm3 hcm4
            rw [hd] at hnc4 f0 h0 bO ⊢
            go_wp2_with fail
            refine (cc _).mono ?_
            rintro e w9 ⟨rfl, rfl⟩
            go_wp2
            go_roundw
            case rel => exact ⟨k + 1, _, _, by go_num, by omega, HF.out⟩
            case measure => simp [intOf]; omega
    · obtain rfl : k = ls.length := by omega
      have HF := Lib.hid (show X.map Prod.fst = parseL ls from by
        have := hM.st
        rw [List.take_length] at this
        unfold parseL
        rw [← this])
      go_wp2
      go_ret
      exact ⟨_, X, rfl, hM.parts, HF.out, hM.bel⟩

end Go.Proofs.YtodnioihadpncaaDoor
