/-
  Package frame: Write: the lines of parts that may be; nothing of parts that may not.
-/
import Derived.Test.YtodnioihadpncaaDoorRgtB
import Derived.Test.YtodnioihadpncaaDoorFrmT
import Derived.Laws.AppendOwnNone
namespace Go.Proofs.YtodnioihadpncaaDoor
open Go.RowKit
set_option linter.unusedSimpArgs false
set_option linter.unusedVariables false
set_option maxRecDepth 100000

/-- Lists of parts, and parts, stay. -/
def PartsKept (w w' : World) : Prop := ∀ (g : Nat) (cs : Array Value) (fz : Nat × Nat), w.heap[g]? = some (Obj.cells cs 32 fz) → w'.heap[g]? = some (Obj.cells cs 32 fz)
theorem PartsKept.refl (w : World) : PartsKept w w := fun _ _ _ h => h
theorem PartsKept.trans {a b c : World} (h : PartsKept a b) (k : PartsKept b c) : PartsKept a c := fun g cs fz hg => k g cs fz (h g cs fz hg)
theorem PartsKept.of_below {w w' : World} (h : Below w.heap.size w w') : PartsKept w w' := fun g cs fz hg => (h.block g (Array.getElem?_eq_some_iff.1 hg).1).trans hg
theorem PartsKept.of_grown {w w' : World} {B n size : Nat} {e : TypeId} {v : Value} {xs : List Value} (ho : w.ownsRow B e size v n xs) (hne : e ≠ 32) (hg : w.grownBy w' v.ownBlock) : PartsKept w w' := fun g cs fz hh =>
  (hg.block g (Array.getElem?_eq_some_iff.1 hh).1 (fun e1 => own_ne ho hh hne e1.symm)).trans hh

/-- A list of texts behind one of the call's own. -/
theorem append_strs {w : World} {ops : Array Oper} {rest : List Oper} {o : Oper} {a : Act} {Q : Exit → Act → World → Prop} (hgd : o.guard = none) (s x : Operand)
    (ho : o.op = .call { callee := .builtin .append, args := #[s, x], argTypes := #[22, 22] }) (base : Nat) (v : Value) (ls : List Txt) (hs : a.eval s = v)
    (hown : w.ownsRow base 9 1 v ls.length (strs ls)) (A : Option Addr) (c : Nat) (more : List Txt) (hx : a.eval x = .slice A more.length c) (hrow : RowOf w A c (strs more)) (hnil : A = none → more = [] ∧ c = 0)
    (h63 : ls.length + more.length ≤ 1000000) (hbase : base ≤ w.heap.size)
    (h : ∀ v' w', w'.ownsRow base 9 1 v' (ls ++ more).length (strs (ls ++ more)) → w.grownBy w' v.ownBlock → wpList Tryd.prog ops Q rest (a.put o.dst v') w') : wpList Tryd.prog ops Q (o :: rest) a w := by
  obtain ⟨i0, hi, hz0, hz1, hz2⟩ := info_parts infoString
  cases A with
  | none =>
    obtain ⟨rfl, rfl⟩ := hnil rfl
    refine wpList_append_own_none hgd s x 22 ho base 9 i0 1 Tryd.underlying22 hi v ls.length (strs ls) hs hown hx ?_
    exact h v w (by rw [List.append_nil]; exact hown) ⟨rfl, rfl, rfl, Nat.le_refl _, fun _ _ _ => rfl⟩
  | some ad =>
    refine wpList_append_own w hgd s x 22 ho base 9 i0 (.string ByteArray.empty) 1 16 Tryd.underlying22 hi hz0 hz1 hz2 rfl (by decide) v ls.length (strs ls) hs hown ad more.length c (strs more) hx (by rw [strs_length, Nat.mul_one]) hrow.cells (strs_one' more) (by unfold maxLen; omega) (by omega) hbase ?_
    intro v' w' h2 h3 _
    exact h v' w' (by rw [List.length_append, strs_append]; exact h2) h3

theorem block_cells {w : World} {g : Nat} {u0 u1 u2 u3 u4 : Value} {t : TypeId} {fz : Nat × Nat} (h : w.heap[g]? = some (.cells #[u0, u1, u2, u3, u4] t fz)) :
    w.cell? ⟨g, 0, none⟩ = some u0 ∧ w.cell? ⟨g, 1, none⟩ = some u1 ∧ w.cell? ⟨g, 2, none⟩ = some u2 ∧ w.cell? ⟨g, 3, none⟩ = some u3 ∧ w.cell? ⟨g, 4, none⟩ = some u4 := by
  refine ⟨?_, ?_, ?_, ?_, ?_⟩ <;> rw [cell_of_row w g _ _ t fz h] <;> rfl

/-! ### addEnds, and what it leaves -/
def EndRel2 (B : Nat) (ls : List Txt) (n : Nat) (w : World) (v i : Value) (wr : World) : Prop :=
  ∃ k : Nat, i = .int .i64 k ∧ k ≤ n ∧ B ≤ wr.heap.size ∧ wr.ownsRow B 9 1 v (ls ++ ends k).length (strs (ls ++ ends k)) ∧ Below B w wr ∧ PartsKept w wr

set_option maxHeartbeats 4000000 in
theorem addEnds_kept (B : Nat) (v : Value) (ls : List Txt) (n : Int) (w : World) (hB : B ≤ w.heap.size) (h : w.ownsRow B 9 1 v ls.length (strs ls)) (hm : ls.length ≤ 1000000) (hn : n ≤ 1000000) :
    Calls Tryd.prog 23 #[v, .int .i64 n] w fun e w' => ∃ v', e = .returned v' ∧ w'.ownsRow B 9 1 v' (ls ++ ends n.toNat).length (strs (ls ++ ends n.toNat)) ∧ Below B w w' ∧ PartsKept w w' := by
  obtain ⟨i0, hi, hz0, hz1, hz2⟩ := info_parts infoString
  by_cases hn0 : n ≤ 0
  · have e0 : n.toNat = 0 := by omega
    rw [e0, ends_zero, List.append_nil]
    clear e0
    go_enter Tryd.func23, Tryd.ntmps23
    go_wp2_with fail
    go_loopw [0, 6] (fun u i wr => u = v ∧ i = .int .i64 0 ∧ wr = w) (fun _ _ _ => 0)
    case atStart => exact ⟨rfl, rfl, rfl⟩
    case round =>
      obtain ⟨rfl, rfl, rfl⟩ := hrel
      go_wp2
      go_ret
      exact ⟨_, rfl, h, Below.refl _ _, PartsKept.refl _⟩
  · obtain ⟨m, rfl⟩ : ∃ m : Nat, n = m := ⟨n.toNat, by omega⟩
    rw [Int.toNat_natCast]
    go_enter Tryd.func23, Tryd.ntmps23
    go_wp2_with fail
    go_loopw [0, 6] (fun u i wr => EndRel2 B ls m w u i wr) (fun _ i _ => m - (intOf i).toNat)
    case atStart => exact ⟨0, rfl, Nat.zero_le _, hB, by rw [ends_zero, List.append_nil]; exact h, Below.refl _ _, PartsKept.refl _⟩
    case round =>
      obtain ⟨k, rfl, hk, hBr, hown, hbw, hkp⟩ := hrel
      by_cases hp : k < m
      · have hnw := cells_one wr (.string ⟨#[58, 58, 58]⟩) 9
        have hl : (ls ++ ends k).length = ls.length + k := by simp [ends]
        have hrow2 := hown.alloc (.cells #[.string ⟨#[58, 58, 58]⟩] 9)
        have HS := Lib.hid (strs_ends ls k)
        have HL := Lib.hid (show (ls ++ ends (k + 1)).length = ls.length + k + 1 from by simp [ends]; omega)
        go_wp2_with (at_builtin; refine wpList_append_own _ rfl _ _ 22 rfl B 9 i0 (.string ByteArray.empty) 1 16 Tryd.underlying22 hi hz0 hz1 hz2 rfl (by decide) _ _ _ rfl hrow2 ⟨wr.heap.size, 0, none⟩ 1 1 [.string ⟨#[58, 58, 58]⟩] rfl rfl hnw (by simp [Value.oneCell']) (by unfold maxLen; omega) (by omega) (by simp; omega) ?_)
        intro v' w2 hown' hgrow _
        rw [HS.out, ← HL.out] at hown'
        have b1 : Below wr.heap.size wr (wr.alloc (.cells #[.string ⟨#[58, 58, 58]⟩] 9)) := (Below.refl _ wr).alloc (Nat.le_refl _) _
        have hb2 := (hbw.trans (b1.mono hBr)).trans (below_of_grown hgrow (fun g hg => (hrow2.lt g hg).1) (by simp; omega))
        have hk2 := (hkp.trans (PartsKept.of_below b1)).trans (PartsKept.of_grown hrow2 (by decide) hgrow)
        have hs2 := hgrow.size
        have hs3 := alloc_size wr (.cells #[.string ⟨#[58, 58, 58]⟩] 9)
        have HO := Lib.hid hown'
        have HB := Lib.hid hb2
        have HK := Lib.hid hk2
        clear hown' hgrow hb2 hbw hrow2 hown hl b1 hk2 hkp
        go_wp2
        go_roundw
        case rel => exact ⟨k + 1, by go_num, by omega, by omega, HO.out, HB.out, HK.out⟩
        case measure => simp [intOf]; omega
      · obtain rfl : k = m := by omega
        go_wp2
        go_ret
        exact ⟨_, rfl, hown, hbw, hkp⟩

/-! ### Write -/
theorem write_no (A : Option Addr) (cap : Nat) (X : List (Prt × Value)) (w : World) (hX : PartsAt w A cap X) (hm : X.length ≤ 1000000) (hsm : PartsSmall X) (hr : rightP (X.map Prod.fst) = false) :
    Calls Tryd.prog 14 #[.slice A X.length cap] w fun e w' => e = .returned (.tuple #[.slice none 0 0, .bool false]) ∧ Below w.heap.size w w' := by
  have cr := right_any A cap X w hX hm hsm
  rw [hr] at cr
  go_enter Tryd.func14, Tryd.ntmps14
  go_wp2_with fail
  refine cr.mono ?_
  rintro e w1 ⟨rfl, b1⟩
  go_wp2
  go_ret2
  exact ⟨rfl, b1⟩

theorem bodyF_take (ps : List Prt) (k : Nat) (hk : k < ps.length) : bodyF 0 (ps.take (k + 1)) = ((bodyF 0 (ps.take k) ++ ends (insOf (ps.take k).getLast? - ps[k].depth).toNat) ++ (if ps[k].dv then [divLine ps[k].lab] else [])) ++ ps[k].ls := by
  rw [List.take_succ_eq_append_getElem hk, show (0 : Int) = insOf none from rfl, bodyF_append, lastOr_none]
  simp [bodyF]
theorem insOf_take (ps : List Prt) (k : Nat) (hk : k < ps.length) : insOf (ps.take (k + 1)).getLast? = if ps[k].dv then ps[k].depth + 1 else ps[k].depth := by
  rw [List.take_succ_eq_append_getElem hk, List.getLast?_concat]; rfl
theorem divLine_sum (lab : Txt) : ((⟨#[58, 58, 58, 123]⟩ : ByteArray) ++ ⟨lab.toArray⟩) ++ ⟨#[125]⟩ = ⟨(divLine lab).toArray⟩ := by
  apply ByteArray.ext
  apply Array.ext'
  simp [divLine, divB]

/-- The parts' lists are short; one that is nil has no room. -/
def PartsLent (X : List (Prt × Value)) : Prop := ∀ x ∈ X, x.1.ls.length ≤ 100 ∧ ∀ n c, x.2 = .slice none n c → n = 0 ∧ c = 0
def WrRel (ps : List Prt) (w : World) (v ins o i : Value) (wr : World) : Prop :=
  ∃ (k : Nat) (L : List Txt), i = .int .i64 k ∧ k ≤ ps.length ∧ ins = .int .i64 (insOf (ps.take k).getLast?) ∧ o = .int .i64 (cnt (ps.take k)) ∧ L = bodyF 0 (ps.take k) ∧ L.length ≤ 300 * k ∧ 0 ≤ insOf (ps.take k).getLast? ∧ insOf (ps.take k).getLast? ≤ k ∧
    wr.ownsRow w.heap.size 9 1 v L.length (strs L) ∧ Below w.heap.size w wr

set_option maxHeartbeats 8000000 in
theorem write_yes (A : Option Addr) (cap : Nat) (X : List (Prt × Value)) (w : World) (hX : PartsAt w A cap X) (hm : X.length ≤ 100) (hsm : PartsSmall X) (hln : PartsLent X) (hr : rightP (X.map Prod.fst) = true) :
    Calls Tryd.prog 14 #[.slice A X.length cap] w fun e w' => ∃ v, e = .returned (.tuple #[v, .bool true]) ∧ w'.ownsRow w.heap.size 9 1 v (writeP (X.map Prod.fst)).length (strs (writeP (X.map Prod.fst))) ∧ Below w.heap.size w w' := by
  have hle := hX.le
  have hcm := hX.cap
  unfold maxLen at hcm
  have cr := right_any A cap X w hX (by omega) hsm
  rw [hr] at cr
  have hXl : (X.map Prod.fst).length = X.length := by simp
  generalize hps : X.map Prod.fst = ps at *
  have HPS := Lib.hid hps
  have HSM := Lib.hid hsm
  have HLN := Lib.hid hln
  have HR := Lib.hid hr
  have HWR := Lib.hid (writeP_eq ps)
  clear hps hsm hln hr
  go_enter Tryd.func14, Tryd.ntmps14
  go_wp2_with fail
  refine cr.mono ?_
  rintro e w1 ⟨rfl, b1⟩
  clear cr
  go_wp2_with fail
  go_loopw [4, 5, 6, 14] (fun v ins o i wr => WrRel ps w v ins o i wr) (fun _ _ _ i _ => ps.length - (intOf i).toNat)
  case atStart => exact ⟨0, [], rfl, Nat.zero_le _, rfl, rfl, rfl, Nat.le_refl _, Int.le_refl _, Int.le_refl _, World.ownsRow_nil _ _ _ _, b1⟩
  case round =>
    obtain ⟨k, L, rfl, hk, rfl, rfl, hL, hLl, hi0, hik, hown, hbw⟩ := hrel
    by_cases hp : k < ps.length
    · have hpx : k < X.length := by omega
      have hX2 := hX.below hbw
      obtain ⟨b, off, rfl, hb, y0, y1, y2, y3, y4⟩ := hX2.at hpx
      obtain ⟨A9, c9, e9, hr9⟩ := hX.ls X[k] (List.getElem_mem hpx)
      have hpk : X[k].1 = ps[k] := by
        have h1 : ps[k]? = some X[k].1 := by rw [← HPS.out, List.getElem?_map, List.getElem?_eq_getElem hpx]; rfl
        rw [List.getElem?_eq_getElem hp] at h1
        exact (Option.some.inj h1).symm
      have hs9 := (HSM.out X[k] (List.getElem_mem hpx)).1
      have hl9 := HLN.out X[k] (List.getElem_mem hpx)
      have hRP := (rightF_at ps none 0 HR.out k ps[k] (List.getElem?_eq_getElem hp)).1
      have hdl := depth_le HR.out k ps[k] (List.getElem?_eq_getElem hp)
      have hBT := bodyF_take ps k hp
      have hIT := insOf_take ps k hp
      have hCT := cnt_take ps k hp
      have hct := cnt_le (ps.take k)
      rw [List.length_take] at hct
      rw [← hpk] at hRP hdl hBT hIT hCT
      rw [e9] at y4
      clear hpk hX2
      generalize X[k] = x at *
      obtain ⟨⟨d, dv, lab, opn, ls⟩, xv⟩ := x
      simp only at e9 hr9 hs9 hl9 hRP hdl hBT hIT hCT y0 y1 y2 y3 y4
      subst e9
      have hNl : A9 = none → ls = [] ∧ c9 = 0 := by
        rintro rfl
        have := hl9.2 _ _ rfl
        exact ⟨List.eq_nil_of_length_eq_zero this.1, this.2⟩
      have HNl := Lib.hid hNl
      have HR9 := Lib.hid hr9
      have hl9 := hl9.1
      rw [← hL] at hBT
      have HCT := Lib.hid hCT
      have HIT := Lib.hid hIT
      have HBT := Lib.hid hBT
      have HL := Lib.hid hL
      have HB := Lib.hid hbw
      have hBs := hbw.size
      have hsz : (⟨lab.toArray⟩ : ByteArray).size ≤ 140737488355328 := by rw [str_size]; exact hs9
      clear hNl hr9 hCT hIT hBT hL
      have hgb := heap_alloc_new wr (.cells #[.int .i64 d, .bool dv, .string ⟨lab.toArray⟩, .bool opn, .slice A9 ls.length c9] 32)
      have ce := addEnds_kept w.heap.size _ L (insOf (ps.take k).getLast? - d) (wr.alloc (.cells #[.int .i64 d, .bool dv, .string ⟨lab.toArray⟩, .bool opn, .slice A9 ls.length c9] 32)) (by have := alloc_size wr (.cells #[.int .i64 d, .bool dv, .string ⟨lab.toArray⟩, .bool opn, .slice A9 ls.length c9] 32); omega) (hown.alloc _) (by omega) (by omega)
      have hb0 := (HB.out.alloc hBs (.cells #[.int .i64 d, .bool dv, .string ⟨lab.toArray⟩, .bool opn, .slice A9 ls.length c9] 32))
      have HGb := Lib.hid hgb
      have HBB := Lib.hid hb0
      clear hgb hb0 hbw hown
      unfold rightPart at hRP
      cases dv with
      | true =>
        simp only [if_true, Bool.and_eq_true, List.isEmpty_iff] at hRP
        obtain ⟨⟨hls, hlab⟩, hlf⟩ := hRP
        clear hls hlab hlf
        cases opn with
        | true =>
          go_wp2_with fail
          refine ce.mono ?_
          rintro e w2 ⟨v2, rfl, hown2, b2, k2⟩
          have hg2 := k2 _ _ _ HGb.out
          obtain ⟨z0, z1, z2, z3, z4⟩ := block_cells hg2
          have HG2 := Lib.hid hg2
          have hl1 : (L ++ ends (insOf (ps.take k).getLast? - d).toNat).length = L.length + (insOf (ps.take k).getLast? - d).toNat := by simp [ends]
          generalize hM1 : L ++ ends (insOf (ps.take k).getLast? - d).toNat = M1 at hown2 hl1
          have HM1 := Lib.hid hM1
          have hl1b := Nat.le_of_eq hl1
          clear hl1
          have HO2 := Lib.hid hown2
          have HB2 := Lib.hid (HBB.out.trans b2)
          have hsB := HB2.out.size
          clear hg2 hown2 b2 k2 hM1
          have hrow3 : RowOf (w2.alloc (.cells #[.string (((⟨#[58, 58, 58, 123]⟩ : ByteArray) ++ ⟨lab.toArray⟩) ++ ⟨#[125]⟩)] 9)) (some ⟨w2.heap.size, 0, none⟩) 1 (strs [divLine lab]) := by
            rw [divLine_sum]; exact rowOf_lit w2 9 (strs [divLine lab]) (by rw [strs_length]; show 1 ≤ maxLen; decide)
          have hown3 := HO2.out.alloc (.cells #[.string (((⟨#[58, 58, 58, 123]⟩ : ByteArray) ++ ⟨lab.toArray⟩) ++ ⟨#[125]⟩)] 9)
          go_wp2_with (at_builtin; refine append_strs rfl _ _ rfl w.heap.size v2 _ rfl hown3 (some ⟨w2.heap.size, 0, none⟩) 1 [divLine lab] rfl hrow3 (by simp) (by simp; omega) (by simp; omega) ?_)
          intro v4 w4 hown4 hgr4
          have hs3 := alloc_size w2 (.cells #[.string (((⟨#[58, 58, 58, 123]⟩ : ByteArray) ++ ⟨lab.toArray⟩) ++ ⟨#[125]⟩)] 9)
          have hs4 := hgr4.size
          have b3 : Below w2.heap.size w2 (w2.alloc (.cells #[.string (((⟨#[58, 58, 58, 123]⟩ : ByteArray) ++ ⟨lab.toArray⟩) ++ ⟨#[125]⟩)] 9)) := (Below.refl _ w2).alloc (Nat.le_refl _) _
          have k4 := (PartsKept.of_below b3).trans (PartsKept.of_grown hown3 (by decide) hgr4)
          have b4 := (HB2.out.trans (b3.mono (by omega))).trans (below_of_grown hgr4 (fun g hg => (hown3.lt g hg).1) (by omega))
          have hg4 := k4 _ _ _ HG2.out
          obtain ⟨z0, z1, z2, z3, z4⟩ := block_cells hg4
          have hr4 := HR9.out.below b4
          have HB4 := Lib.hid b4
          have hown4' : w4.ownsRow w.heap.size 9 1 v4 (M1 ++ [divLine lab]).length (strs (M1 ++ [divLine lab])) := by first | exact hown4 | (rw [List.length_append]; exact hown4)
          have hl4 : (M1 ++ [divLine lab]).length = M1.length + 1 := by simp
          generalize hM2 : M1 ++ [divLine lab] = M2 at hown4' hl4
          have HM2 := Lib.hid hM2
          have hl4b := Nat.le_of_eq hl4
          clear hl4
          have HO4 := Lib.hid hown4'
          clear hown3 hrow3 hgr4 b3 k4 b4 hg4 hown4 hown4' hM2
          go_wp2_with (at_builtin; refine append_strs rfl _ _ rfl w.heap.size v4 _ rfl HO4.out A9 c9 ls rfl hr4 HNl.out (by omega) (by omega) ?_)
          intro v5 w5 hown5 hgr5
          have b5 := HB4.out.trans (below_of_grown hgr5 (fun g hg => (HO4.out.lt g hg).1) (by omega))
          have HF := Lib.hid (show w5.ownsRow w.heap.size 9 1 v5 (M2 ++ ls).length (strs (M2 ++ ls)) from by first | exact hown5 | (rw [List.length_append]; exact hown5))
          have HB5 := Lib.hid b5
          clear hown5 b5 hgr5 hr4
          go_wp2
          go_roundw
          case rel =>
            refine ⟨k + 1, M2 ++ ls, by go_num, by omega, ?_, ?_, (by rw [HBT.out, ← HM2.out, ← HM1.out]; simp), ?_, ?_, ?_, HF.out, HB5.out⟩
            · rw [HIT.out]; go_num
            · rw [HCT.out]; go_num
            · rw [List.length_append]; omega
            · rw [HIT.out]; simp; omega
            · rw [HIT.out]; simp; omega
          case measure => simp [intOf]; omega

        | false =>
          go_wp2_with fail
          refine ce.mono ?_
          rintro e w2 ⟨v2, rfl, hown2, b2, k2⟩
          have hg2 := k2 _ _ _ HGb.out
          obtain ⟨z0, z1, z2, z3, z4⟩ := block_cells hg2
          have HG2 := Lib.hid hg2
          have hl1 : (L ++ ends (insOf (ps.take k).getLast? - d).toNat).length = L.length + (insOf (ps.take k).getLast? - d).toNat := by simp [ends]
          generalize hM1 : L ++ ends (insOf (ps.take k).getLast? - d).toNat = M1 at hown2 hl1
          have HM1 := Lib.hid hM1
          have hl1b := Nat.le_of_eq hl1
          clear hl1
          have HO2 := Lib.hid hown2
          have HB2 := Lib.hid (HBB.out.trans b2)
          have hsB := HB2.out.size
          clear hg2 hown2 b2 k2 hM1
          have hrow3 : RowOf (w2.alloc (.cells #[.string (((⟨#[58, 58, 58, 123]⟩ : ByteArray) ++ ⟨lab.toArray⟩) ++ ⟨#[125]⟩)] 9)) (some ⟨w2.heap.size, 0, none⟩) 1 (strs [divLine lab]) := by
            rw [divLine_sum]; exact rowOf_lit w2 9 (strs [divLine lab]) (by rw [strs_length]; show 1 ≤ maxLen; decide)
          have hown3 := HO2.out.alloc (.cells #[.string (((⟨#[58, 58, 58, 123]⟩ : ByteArray) ++ ⟨lab.toArray⟩) ++ ⟨#[125]⟩)] 9)
          go_wp2_with (at_builtin; refine append_strs rfl _ _ rfl w.heap.size v2 _ rfl hown3 (some ⟨w2.heap.size, 0, none⟩) 1 [divLine lab] rfl hrow3 (by simp) (by simp; omega) (by simp; omega) ?_)
          intro v4 w4 hown4 hgr4
          have hs3 := alloc_size w2 (.cells #[.string (((⟨#[58, 58, 58, 123]⟩ : ByteArray) ++ ⟨lab.toArray⟩) ++ ⟨#[125]⟩)] 9)
          have hs4 := hgr4.size
          have b3 : Below w2.heap.size w2 (w2.alloc (.cells #[.string (((⟨#[58, 58, 58, 123]⟩ : ByteArray) ++ ⟨lab.toArray⟩) ++ ⟨#[125]⟩)] 9)) := (Below.refl _ w2).alloc (Nat.le_refl _) _
          have k4 := (PartsKept.of_below b3).trans (PartsKept.of_grown hown3 (by decide) hgr4)
          have b4 := (HB2.out.trans (b3.mono (by omega))).trans (below_of_grown hgr4 (fun g hg => (hown3.lt g hg).1) (by omega))
          have hg4 := k4 _ _ _ HG2.out
          obtain ⟨z0, z1, z2, z3, z4⟩ := block_cells hg4
          have hr4 := HR9.out.below b4
          have HB4 := Lib.hid b4
          have hown4' : w4.ownsRow w.heap.size 9 1 v4 (M1 ++ [divLine lab]).length (strs (M1 ++ [divLine lab])) := by first | exact hown4 | (rw [List.length_append]; exact hown4)
          have hl4 : (M1 ++ [divLine lab]).length = M1.length + 1 := by simp
          generalize hM2 : M1 ++ [divLine lab] = M2 at hown4' hl4
          have HM2 := Lib.hid hM2
          have hl4b := Nat.le_of_eq hl4
          clear hl4
          have HO4 := Lib.hid hown4'
          clear hown3 hrow3 hgr4 b3 k4 b4 hg4 hown4 hown4' hM2
          go_wp2_with (at_builtin; refine append_strs rfl _ _ rfl w.heap.size v4 _ rfl HO4.out A9 c9 ls rfl hr4 HNl.out (by omega) (by omega) ?_)
          intro v5 w5 hown5 hgr5
          have b5 := HB4.out.trans (below_of_grown hgr5 (fun g hg => (HO4.out.lt g hg).1) (by omega))
          have HF := Lib.hid (show w5.ownsRow w.heap.size 9 1 v5 (M2 ++ ls).length (strs (M2 ++ ls)) from by first | exact hown5 | (rw [List.length_append]; exact hown5))
          have HB5 := Lib.hid b5
          clear hown5 b5 hgr5 hr4
          go_wp2
          go_roundw
          case rel =>
            refine ⟨k + 1, M2 ++ ls, by go_num, by omega, ?_, ?_, (by rw [HBT.out, ← HM2.out, ← HM1.out]; simp), ?_, ?_, ?_, HF.out, HB5.out⟩
            · rw [HIT.out]; go_num
            · rw [HCT.out]; go_num
            · rw [List.length_append]; omega
            · rw [HIT.out]; simp; omega
            · rw [HIT.out]; simp; omega
          case measure => simp [intOf]; omega

      | false =>
        simp only [Bool.false_eq_true, if_false, Bool.and_eq_true, Bool.not_eq_true'] at hRP
        obtain ⟨⟨⟨_, _⟩, rfl⟩, _⟩ := hRP
        go_wp2_with fail
        refine ce.mono ?_
        rintro e w2 ⟨v2, rfl, hown2, b2, k2⟩
        have hg2 := k2 _ _ _ HGb.out
        obtain ⟨z0, z1, z2, z3, z4⟩ := block_cells hg2
        have hl1 : (L ++ ends (insOf (ps.take k).getLast? - d).toNat).length = L.length + (insOf (ps.take k).getLast? - d).toNat := by simp [ends]
        generalize hM1 : L ++ ends (insOf (ps.take k).getLast? - d).toNat = M1 at hown2 hl1
        have HM1 := Lib.hid hM1
        have hl1b := Nat.le_of_eq hl1
        clear hl1
        have HO2 := Lib.hid hown2
        have HB2 := Lib.hid (HBB.out.trans b2)
        have hsB := HB2.out.size
        have hr4 := HR9.out.below HB2.out
        clear hg2 hown2 b2 k2 hM1
        go_wp2_with (at_builtin; refine append_strs rfl _ _ rfl w.heap.size v2 _ rfl HO2.out A9 c9 ls rfl hr4 HNl.out (by omega) (by omega) ?_)
        intro v5 w5 hown5 hgr5
        have b5 := HB2.out.trans (below_of_grown hgr5 (fun g hg => (HO2.out.lt g hg).1) (by omega))
        have HF := Lib.hid (show w5.ownsRow w.heap.size 9 1 v5 (M1 ++ ls).length (strs (M1 ++ ls)) from by first | exact hown5 | (rw [List.length_append]; exact hown5))
        have HB5 := Lib.hid b5
        clear hown5 b5 hgr5 hr4
        go_wp2
        go_roundw
        case rel =>
          refine ⟨k + 1, M1 ++ ls, by go_num, by omega, ?_, ?_, (by rw [HBT.out, ← HM1.out]; simp), ?_, ?_, ?_, HF.out, HB5.out⟩
          · rw [HIT.out]; go_num
          · rw [HCT.out]; go_num
          · rw [List.length_append]; omega
          · rw [HIT.out]; simp; omega
          · rw [HIT.out]; simp; omega
        case measure => simp [intOf]; omega
    · obtain rfl : k = ps.length := by omega
      have HL := Lib.hid (show writeP ps = L ++ ends (insOf ps.getLast? - cnt ps).toNat from by rw [HWR.out, hL, List.take_length])
      rw [List.take_length] at hi0 hik ⊢
      have hct := cnt_le ps
      generalize hin : insOf ps.getLast? = ins at hi0 hik HL ⊢
      generalize hcn : cnt ps = o at hct HL ⊢
      clear hin hcn
      have ce := addEnds_kept w.heap.size _ L (ins - o) wr hbw.size hown (by omega) (by omega)
      have HB := Lib.hid hbw
      clear hL hbw hown
      go_wp2_with fail
      refine ce.mono ?_
      rintro e w2 ⟨v2, rfl, hown2, b2, k2⟩
      have HO2 := Lib.hid hown2
      have HB2 := Lib.hid (HB.out.trans b2)
      clear hown2 b2 k2
      go_wp2
      go_ret2
      exact ⟨v2, rfl, by rw [HL.out]; exact HO2.out, HB2.out⟩

end Go.Proofs.YtodnioihadpncaaDoor
