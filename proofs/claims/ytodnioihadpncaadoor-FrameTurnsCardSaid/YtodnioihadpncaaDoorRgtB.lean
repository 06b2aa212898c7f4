/-
  Package frame: rightDepth, Right: which parts may be.
-/
import Derived.Test.YtodnioihadpncaaDoorRgtA
import Derived.Test.YtodnioihadpncaaDoorFrmK
import Derived.Deep.RegionHeld3
namespace Go.Proofs.YtodnioihadpncaaDoor
open Go.RowKit
set_option linter.unusedSimpArgs false
set_option linter.unusedVariables false
set_option maxRecDepth 100000

set_option maxHeartbeats 4000000 in
theorem rightDepth_any (p : Prt) (A0 : Option Addr) (n0 c0 : Nat) (A : Option Addr) (cap : Nat) (X : List (Prt × Value)) (w : World) (hX : PartsAt w A cap X) (hq : ∀ q, X.getLast? = some q → 0 ≤ q.1.depth ∧ q.1.depth ≤ 1000000) :
    Calls Tryd.prog 25 #[.agg #[.int .i64 p.depth, .bool p.dv, .string ⟨p.lab.toArray⟩, .bool p.opn, .slice A0 n0 c0], .slice A X.length cap] w fun e w' => e = .returned (.bool (rightDepth p ((X.map Prod.fst).getLast?))) ∧ Below w.heap.size w w' := by
  have hle := hX.le
  have hcm := hX.cap
  unfold maxLen at hcm
  obtain ⟨d, dv, lab, opn, ls⟩ := p
  simp only
  have b0 : Below w.heap.size w (w.alloc (.cells #[.int .i64 d, .bool dv, .string ⟨lab.toArray⟩, .bool opn, .slice A0 n0 c0] 32)) := (Below.refl _ w).alloc (Nat.le_refl _) _
  have hX1 := hX.alloc (.cells #[.int .i64 d, .bool dv, .string ⟨lab.toArray⟩, .bool opn, .slice A0 n0 c0] 32)
  have hs0 := alloc_size w (.cells #[.int .i64 d, .bool dv, .string ⟨lab.toArray⟩, .bool opn, .slice A0 n0 c0] 32)
  cases hl : X.length with
  | zero =>
    obtain rfl := List.eq_nil_of_length_eq_zero hl
    have hr : rightDepth ⟨d, dv, lab, opn, ls⟩ ((([] : List (Prt × Value)).map Prod.fst).getLast?) = decide (d = 0) := rfl
    rw [hr]
    clear hr hX hX1 hq hl
    go_enter Tryd.func25, Tryd.ntmps25
    go_wp2
    go_ret
    exact ⟨ret_bool (by rw [Bool.eq_iff_iff]; simp), b0⟩
  | succ n =>
    have hn : n < X.length := by omega
    obtain ⟨b, off, rfl, hb, y0, y1, y2, y3, y4⟩ := hX1.at hn
    have hg : X.getLast? = some X[n] := by rw [List.getLast?_eq_getElem?, hl, Nat.add_sub_cancel, List.getElem?_eq_getElem hn]
    have hbd := hq _ hg
    obtain ⟨A9, c9, e9, _⟩ := hX1.ls X[n] (List.getElem_mem hn)
    rw [List.getLast?_map, hg]
    simp only [Option.map_some, rightDepth, most]
    clear hX hX1 hq hg
    generalize X[n] = q at *
    obtain ⟨⟨qd, qdv, qlab, qopn, qls⟩, qv⟩ := q
    simp only at *
    subst e9
    have b1 := b0.alloc (by omega) (.cells #[.int .i64 qd, .bool qdv, .string ⟨qlab.toArray⟩, .bool qopn, .slice A9 qls.length c9] 32)
    generalize qls.length = n9 at *
    have HB := Lib.hid b1
    have hcap : n < cap := by omega
    clear b0 b1 hn hl
    by_cases h0 : 0 ≤ d
    · have f0 : decide (0 ≤ d) = true := decide_eq_true h0
      rw [f0, Bool.true_and]
      cases qdv with
      | true =>
        rw [if_pos rfl]
        go_enter Tryd.func25, Tryd.ntmps25
        go_wp2
        go_ret
        exact ⟨rfl, HB.out⟩
      | false =>
        rw [if_neg (by simp)]
        cases dv with
        | true =>
          rw [if_pos rfl]
          go_enter Tryd.func25, Tryd.ntmps25
          go_wp2
          go_ret
          exact ⟨rfl, HB.out⟩
        | false =>
          rw [if_neg (by simp)]
          go_enter Tryd.func25, Tryd.ntmps25
          go_wp2
          go_ret
          exact ⟨rfl, HB.out⟩
    · have f0 : decide (0 ≤ d) = false := decide_eq_false h0
      rw [f0, Bool.false_and]
      cases qdv with
      | true =>
        go_enter Tryd.func25, Tryd.ntmps25
        go_wp2
        go_ret
        exact ⟨rfl, HB.out⟩
      | false =>
        cases dv with
        | true =>
          go_enter Tryd.func25, Tryd.ntmps25
          go_wp2
          go_ret
          exact ⟨rfl, HB.out⟩
        | false =>
          go_enter Tryd.func25, Tryd.ntmps25
          go_wp2
          go_ret
          exact ⟨rfl, HB.out⟩

/-! ### Right, part by part -/
theorem right_take (ps : List Prt) (k : Nat) (hk : k < ps.length) : rightP (ps.take (k + 1)) =
    (rightP (ps.take k) && (rightPart ps[k] && rightDepth ps[k] (ps.take k).getLast? && !(decide (ps[k].depth < cnt (ps.take k)) || ps[k].opn && decide ((cnt (ps.take k) : Int) < ps[k].depth)))) := by
  rw [List.take_succ_eq_append_getElem hk]
  unfold rightP
  rw [rightF_append, lastOr_none, Nat.zero_add]
  simp only [rightF, Bool.and_true]
theorem right_no (ps : List Prt) (k : Nat) (h : rightP (ps.take k) = false) : rightP ps = false := by
  have e := List.take_append_drop k ps
  rw [← e]
  unfold rightP at *
  rw [rightF_append, h, Bool.false_and]
theorem cnt_take (ps : List Prt) (k : Nat) (hk : k < ps.length) : cnt (ps.take (k + 1)) = cnt (ps.take k) + if ps[k].opn then 1 else 0 := by
  rw [List.take_succ_eq_append_getElem hk, cnt_append, cnt_cons]
  rfl
theorem cnt_le (ps : List Prt) : cnt ps ≤ ps.length := by
  induction ps with
  | nil => simp [cnt]
  | cons p ps ih =>
    rw [cnt_cons, List.length_cons]
    split <;> omega

def RiRel (ps : List Prt) (w : World) (o i : Value) (wr : World) : Prop := ∃ k : Nat, i = .int .i64 k ∧ k ≤ ps.length ∧ o = .int .i64 (cnt (ps.take k)) ∧ rightP (ps.take k) = true ∧ Below w.heap.size w wr
/-- What stays in the region: the copy's cells. -/
abbrev RiS (w1 : World) (B : Nat) (p : Prt) (v : Value) (W : World) : Prop :=
  W.cell? ⟨B, 0, none⟩ = some (.int .i64 p.depth) ∧ W.cell? ⟨B, 1, none⟩ = some (.bool p.dv) ∧ W.cell? ⟨B, 2, none⟩ = some (.string ⟨p.lab.toArray⟩) ∧ W.cell? ⟨B, 3, none⟩ = some (.bool p.opn) ∧ W.cell? ⟨B, 4, none⟩ = some v ∧ Below w1.heap.size w1 W
theorem RiS.below {w1 W W' : World} {B : Nat} {p : Prt} {v : Value} (h : RiS w1 B p v W) (hB : B < w1.heap.size) (hb : Below W.heap.size W W') : RiS w1 B p v W' := by
  obtain ⟨a, b, c, d, e, f⟩ := h
  have hB2 : B < W.heap.size := Nat.lt_of_lt_of_le hB f.size
  exact ⟨(hb.cell (p := ⟨B, 0, none⟩) hB2).trans a, (hb.cell (p := ⟨B, 1, none⟩) hB2).trans b, (hb.cell (p := ⟨B, 2, none⟩) hB2).trans c, (hb.cell (p := ⟨B, 3, none⟩) hB2).trans d, (hb.cell (p := ⟨B, 4, none⟩) hB2).trans e, f.then hb⟩

/-- The parts may be held up to the texts that the calls bear. -/
def PartsSmall (X : List (Prt × Value)) : Prop := ∀ x ∈ X, x.1.lab.length ≤ 140737488355328 ∧ ∀ y ∈ x.1.ls, y.length ≤ 140737488355328

set_option maxHeartbeats 8000000 in
theorem right_any (A : Option Addr) (cap : Nat) (X : List (Prt × Value)) (w : World) (hX : PartsAt w A cap X) (hm : X.length ≤ 1000000) (hsm : PartsSmall X) :
    Calls Tryd.prog 15 #[.slice A X.length cap] w fun e w' => e = .returned (.bool (rightP (X.map Prod.fst))) ∧ Below w.heap.size w w' := by
  have hle := hX.le
  have hcm := hX.cap
  unfold maxLen at hcm
  have hXl : (X.map Prod.fst).length = X.length := by simp
  generalize hps : X.map Prod.fst = ps at *
  have HPS := Lib.hid hps
  have HSM := Lib.hid hsm
  clear hps hsm
  go_enter Tryd.func15, Tryd.ntmps15
  go_wp2_with fail
  go_loopw [3, 8] (fun o i wr => RiRel ps w o i wr) (fun _ i _ => ps.length - (intOf i).toNat)
  case atStart => exact ⟨0, rfl, Nat.zero_le _, rfl, rfl, Below.refl _ _⟩
  case round =>
    obtain ⟨k, rfl, hk, rfl, hrt, hbw⟩ := hrel
    have HR := Lib.hid hrt
    clear hrt
    by_cases hp : k < ps.length
    · have hpx : k < X.length := by omega
      have hX2 := hX.below hbw
      obtain ⟨b, off, rfl, hb, y0, y1, y2, y3, y4⟩ := hX2.at hpx
      obtain ⟨A9, c9, e9, hr9⟩ := hX2.ls X[k] (List.getElem_mem hpx)
      have hpk : X[k].1 = ps[k] := by
        have h1 : ps[k]? = some X[k].1 := by rw [← HPS.out, List.getElem?_map, List.getElem?_eq_getElem hpx]; rfl
        rw [List.getElem?_eq_getElem hp] at h1
        exact (Option.some.inj h1).symm
      have hs9 := HSM.out X[k] (List.getElem_mem hpx)
      have hRT := right_take ps k hp
      have hCT := cnt_take ps k hp
      have hNO := Lib.hid (right_no ps (k + 1))
      have hct := cnt_le (ps.take k)
      rw [List.length_take] at hct
      have hlk : (X.take k).length = k := by rw [List.length_take]; omega
      have hdl : ∀ q, (X.take k).getLast? = some q → 0 ≤ q.1.depth ∧ q.1.depth ≤ 1000000 := by
        intro q hq
        have h0 : (X.take k)[k - 1]? = some q := by rw [List.getLast?_eq_getElem?, hlk] at hq; exact hq
        have h1 : (ps.take k)[k - 1]? = some q.1 := by rw [← HPS.out, ← List.map_take, List.getElem?_map, h0]; rfl
        have := depth_le HR.out (k - 1) q.1 h1
        omega
      have hmt : (X.take k).map Prod.fst = ps.take k := by rw [List.map_take, HPS.out]
      have hs2 := alloc_size wr (.cells #[.int .i64 X[k].1.depth, .bool X[k].1.dv, .string ⟨X[k].1.lab.toArray⟩, .bool X[k].1.opn, .slice A9 X[k].1.ls.length c9] 32)
      have hbx := hbw.alloc (o := .cells #[.int .i64 X[k].1.depth, .bool X[k].1.dv, .string ⟨X[k].1.lab.toArray⟩, .bool X[k].1.opn, .slice A9 X[k].1.ls.length c9] 32) hbw.size
      have hX3 := hX2.alloc (.cells #[.int .i64 X[k].1.depth, .bool X[k].1.dv, .string ⟨X[k].1.lab.toArray⟩, .bool X[k].1.opn, .slice A9 X[k].1.ls.length c9] 32)
      have hr3 := hr9.alloc (.cells #[.int .i64 X[k].1.depth, .bool X[k].1.dv, .string ⟨X[k].1.lab.toArray⟩, .bool X[k].1.opn, .slice A9 X[k].1.ls.length c9] 32)
      have hbc := box_cells wr (X[k].1, .slice A9 X[k].1.ls.length c9) 32
      rw [show (ptC (X[k].1, .slice A9 X[k].1.ls.length c9)).toArray = #[.int .i64 X[k].1.depth, .bool X[k].1.dv, .string ⟨X[k].1.lab.toArray⟩, .bool X[k].1.opn, .slice A9 X[k].1.ls.length c9] from rfl] at hbc
      rw [e9] at y4
      rw [← hpk] at hRT hCT
      clear hpk
      generalize X[k] = x at *
      obtain ⟨p, xv⟩ := x
      simp only at e9 hr9 hs9 hs2 hbx hX3 hr3 hbc y0 y1 y2 y3 y4 hRT hCT
      obtain ⟨d, dv, lab, opn, ls⟩ := p
      simp only at e9 hr9 hs9 hs2 hbx hX3 hr3 hbc y0 y1 y2 y3 y4 hRT hCT
      have hS0 : RiS (wr.alloc (.cells #[.int .i64 d, .bool dv, .string ⟨lab.toArray⟩, .bool opn, .slice A9 ls.length c9] 32)) wr.heap.size ⟨d, dv, lab, opn, ls⟩ (.slice A9 ls.length c9) (wr.alloc (.cells #[.int .i64 d, .bool dv, .string ⟨lab.toArray⟩, .bool opn, .slice A9 ls.length c9] 32)).drew :=
        ⟨hbc.1, hbc.2.1, hbc.2.2.1, hbc.2.2.2.1, hbc.2.2.2.2, (Below.refl _ _).drew⟩
      obtain ⟨hlab9, hz9⟩ := hs9
      generalize hw1 : (wr.alloc (.cells #[.int .i64 d, .bool dv, .string ⟨lab.toArray⟩, .bool opn, .slice A9 ls.length c9] 32)) = w1 at *
      have HW1 := Lib.hid hw1
      have cp : ∀ W, RiS w1 wr.heap.size ⟨d, dv, lab, opn, ls⟩ (.slice A9 ls.length c9) W → Calls Tryd.prog 24 #[.agg #[.int .i64 d, .bool dv, .string ⟨lab.toArray⟩, .bool opn, .slice A9 ls.length c9]] W fun e W' => e = .returned (.bool (rightPart ⟨d, dv, lab, opn, ls⟩)) ∧ RiS w1 wr.heap.size ⟨d, dv, lab, opn, ls⟩ (.slice A9 ls.length c9) W' :=
        fun W h => (rightPart_any ⟨d, dv, lab, opn, ls⟩ A9 c9 W (hr3.below h.2.2.2.2.2) hz9 hlab9).mono (fun e W' hh => ⟨hh.1, h.below (by omega) hh.2⟩)
      have cd : ∀ W, RiS w1 wr.heap.size ⟨d, dv, lab, opn, ls⟩ (.slice A9 ls.length c9) W → Calls Tryd.prog 25 #[.agg #[.int .i64 d, .bool dv, .string ⟨lab.toArray⟩, .bool opn, .slice A9 ls.length c9], .slice (some ⟨b, off, none⟩) k cap] W fun e W' => e = .returned (.bool (rightDepth ⟨d, dv, lab, opn, ls⟩ (ps.take k).getLast?)) ∧ RiS w1 wr.heap.size ⟨d, dv, lab, opn, ls⟩ (.slice A9 ls.length c9) W' := by
        intro W h
        have := rightDepth_any ⟨d, dv, lab, opn, ls⟩ A9 ls.length c9 (some ⟨b, off, none⟩) cap (X.take k) W ((hX3.take k).below h.2.2.2.2.2) hdl
        rw [hlk, hmt] at this
        exact this.mono (fun e W' hh => ⟨hh.1, h.below (by omega) hh.2⟩)
      have HBX := Lib.hid hbx
      subst hw1
      clear hbx hX3 hr3 hX2 hr9 hs2 hdl hlk hmt e9 hlab9 hz9
      rw [HR.out, Bool.true_and] at hRT
      have HBS := Lib.hid (show w.heap.size ≤ (wr.alloc (.cells #[.int .i64 d, .bool dv, .string ⟨lab.toArray⟩, .bool opn, .slice A9 ls.length c9] 32)).heap.size from HBX.out.size)
      have hkc : (k : Int) ≤ cap := by omega
      generalize (ps.take k).getLast? = lst at *
      generalize hq1 : rightPart ⟨d, dv, lab, opn, ls⟩ = rp at *
      generalize hq2 : rightDepth ⟨d, dv, lab, opn, ls⟩ lst = rd at *
      clear hq1 hq2
      generalize hcn : cnt (ps.take k) = o at *
      have HCN := Lib.hid hcn
      clear hcn
      have HRT := Lib.hid hRT
      have HCT := Lib.hid hCT
      clear hRT hCT
      cases rp with
      | false =>
        have HF := Lib.hid (hNO.out (by rw [HRT.out]; rfl))
        clear hNO
        go_wp2_with fail
        refine wp_region_N (fun W => W.cell? ⟨wr.heap.size, 0, none⟩ = some (.int .i64 d) ∧ W.cell? ⟨wr.heap.size, 1, none⟩ = some (.bool dv) ∧ W.cell? ⟨wr.heap.size, 2, none⟩ = some (.string ⟨lab.toArray⟩) ∧ W.cell? ⟨wr.heap.size, 3, none⟩ = some (.bool opn) ∧ W.cell? ⟨wr.heap.size, 4, none⟩ = some (.slice A9 ls.length c9) ∧ Below (wr.alloc (.cells #[.int .i64 d, .bool dv, .string ⟨lab.toArray⟩, .bool opn, .slice A9 ls.length c9] 32)).heap.size (wr.alloc (.cells #[.int .i64 d, .bool dv, .string ⟨lab.toArray⟩, .bool opn, .slice A9 ls.length c9] 32)) W) (fun _ => true) (by kernel_rfl) ?_
        have hS := hS0
        refine wpAnyN_take_at 0 13 (v := ?_) rfl rfl (by kernel_rfl) (by kernel_rfl) (by kernel_rfl) (by kernel_rfl) (by kernel_rfl) (fun _ _ _ h => h) (by rfl) ?_ hS ?_
        rotate_left
        · intro w hSw; (try dsimp only at hSw); obtain ⟨s0, s1, s2, s3, s4, sB⟩ := hSw; go_simp; (try with_reducible rfl)
        simp only [Act.put, List.setIfInBounds_toArray, List.set_cons_zero, List.set_cons_succ]
        refine wpAnyN_one (i := 1) rfl (by kernel_rfl) (fun K hK => ?_)
        go_simp
        refine (cp _ hS).mono ?_
        rintro e w5 ⟨rfl, hS5⟩
        refine hK _ _ (fun _ => hS5) ?_
        clear hK hS
        have hS := hS5
        refine wpAnyN_take_at 2 15 (v := ?_) rfl rfl (by kernel_rfl) (by kernel_rfl) (by kernel_rfl) (by kernel_rfl) (by kernel_rfl) (fun _ _ _ h => h) (by rfl) ?_ hS ?_
        rotate_left
        · intro w hSw; (try dsimp only at hSw); obtain ⟨s0, s1, s2, s3, s4, sB⟩ := hSw; go_simp; (try with_reducible rfl)
        simp only [Act.put, List.setIfInBounds_toArray, List.set_cons_zero, List.set_cons_succ]
        refine wpAnyN_take_at 3 16 (v := ?_) rfl rfl (by kernel_rfl) (by kernel_rfl) (by kernel_rfl) (by kernel_rfl) (by kernel_rfl) (fun _ _ _ h => h) (by rfl) ?_ hS ?_
        rotate_left
        · intro w hSw; (try dsimp only at hSw); obtain ⟨s0, s1, s2, s3, s4, sB⟩ := hSw; go_simp; (try with_reducible rfl)
        simp only [Act.put, List.setIfInBounds_toArray, List.set_cons_zero, List.set_cons_succ]
        refine wpAnyN_take_no 4 17 rfl rfl (by kernel_rfl) (by kernel_rfl) (by kernel_rfl) (by kernel_rfl) (by kernel_rfl) (fun _ _ _ h => h) (by rfl) hS ?_
        simp only [Act.put, List.setIfInBounds_toArray, List.set_cons_zero, List.set_cons_succ]
        refine wpAnyN_take_no 5 18 rfl rfl (by kernel_rfl) (by kernel_rfl) (by kernel_rfl) (by kernel_rfl) (by kernel_rfl) (fun _ _ _ h => h) (by rfl) hS ?_
        simp only [Act.put, List.setIfInBounds_toArray, List.set_cons_zero, List.set_cons_succ]
        refine wpAnyN_take_no 6 19 rfl rfl (by kernel_rfl) (by kernel_rfl) (by kernel_rfl) (by kernel_rfl) (by kernel_rfl) (fun _ _ _ h => h) (by rfl) hS ?_
        simp only [Act.put, List.setIfInBounds_toArray, List.set_cons_zero, List.set_cons_succ]
        refine wpAnyN_take_no 7 20 rfl rfl (by kernel_rfl) (by kernel_rfl) (by kernel_rfl) (by kernel_rfl) (by kernel_rfl) (fun _ _ _ h => h) (by rfl) hS ?_
        simp only [Act.put, List.setIfInBounds_toArray, List.set_cons_zero, List.set_cons_succ]
        refine wpAnyN_take_no 8 21 rfl rfl (by kernel_rfl) (by kernel_rfl) (by kernel_rfl) (by kernel_rfl) (by kernel_rfl) (fun _ _ _ h => h) (by rfl) hS ?_
        simp only [Act.put, List.setIfInBounds_toArray, List.set_cons_zero, List.set_cons_succ]
        refine wpAnyN_take_no 9 22 rfl rfl (by kernel_rfl) (by kernel_rfl) (by kernel_rfl) (by kernel_rfl) (by kernel_rfl) (fun _ _ _ h => h) (by rfl) hS ?_
        simp only [Act.put, List.setIfInBounds_toArray, List.set_cons_zero, List.set_cons_succ]
        refine wpAnyN_take_at 10 23 (v := ?_) rfl rfl (by kernel_rfl) (by kernel_rfl) (by kernel_rfl) (by kernel_rfl) (by kernel_rfl) (fun _ _ _ h => h) (by rfl) ?_ hS ?_
        rotate_left
        · intro w hSw; (try dsimp only at hSw); obtain ⟨s0, s1, s2, s3, s4, sB⟩ := hSw; go_simp; (try with_reducible rfl)
        simp only [Act.put, List.setIfInBounds_toArray, List.set_cons_zero, List.set_cons_succ]
        refine wpAnyN_rest 11 [] rfl (by kernel_rfl) (by kernel_rfl) ?_
        go_wp2
        go_ret
        exact ⟨ret_bool HF.out.symm, HBX.out.trans (hS5.2.2.2.2.2.mono HBS.out)⟩
      | true =>
        cases rd with
        | false =>
          have HF := Lib.hid (hNO.out (by rw [HRT.out]; rfl))
          clear hNO
          go_wp2_with fail
          go_region_held3 (fun W => W.cell? ⟨wr.heap.size, 0, none⟩ = some (.int .i64 d) ∧ W.cell? ⟨wr.heap.size, 1, none⟩ = some (.bool dv) ∧ W.cell? ⟨wr.heap.size, 2, none⟩ = some (.string ⟨lab.toArray⟩) ∧ W.cell? ⟨wr.heap.size, 3, none⟩ = some (.bool opn) ∧ W.cell? ⟨wr.heap.size, 4, none⟩ = some (.slice A9 ls.length c9) ∧ Below (wr.alloc (.cells #[.int .i64 d, .bool dv, .string ⟨lab.toArray⟩, .bool opn, .slice A9 ls.length c9] 32)).heap.size (wr.alloc (.cells #[.int .i64 d, .bool dv, .string ⟨lab.toArray⟩, .bool opn, .slice A9 ls.length c9] 32)) W) (assumption) (first | (go_at_call 24; (with_reducible refine (cp _ (by assumption)).mono ?_); rintro e w5 ⟨rfl, hS5⟩) | (go_at_call 25; (with_reducible refine (cd _ (by assumption)).mono ?_); rintro e w6 ⟨rfl, hS6⟩))
          go_wp2
          go_ret
          exact ⟨ret_bool HF.out.symm, HBX.out.trans (hS6.2.2.2.2.2.mono HBS.out)⟩
        | true =>
          by_cases hlt : d < o
          · have HF := Lib.hid (hNO.out (by rw [HRT.out, decide_eq_true hlt]; rfl))
            clear hNO
            go_wp2_with fail
            go_region_held3 (fun W => W.cell? ⟨wr.heap.size, 0, none⟩ = some (.int .i64 d) ∧ W.cell? ⟨wr.heap.size, 1, none⟩ = some (.bool dv) ∧ W.cell? ⟨wr.heap.size, 2, none⟩ = some (.string ⟨lab.toArray⟩) ∧ W.cell? ⟨wr.heap.size, 3, none⟩ = some (.bool opn) ∧ W.cell? ⟨wr.heap.size, 4, none⟩ = some (.slice A9 ls.length c9) ∧ Below (wr.alloc (.cells #[.int .i64 d, .bool dv, .string ⟨lab.toArray⟩, .bool opn, .slice A9 ls.length c9] 32)).heap.size (wr.alloc (.cells #[.int .i64 d, .bool dv, .string ⟨lab.toArray⟩, .bool opn, .slice A9 ls.length c9] 32)) W) (assumption) (first | (go_at_call 24; (with_reducible refine (cp _ (by assumption)).mono ?_); rintro e w5 ⟨rfl, hS5⟩) | (go_at_call 25; (with_reducible refine (cd _ (by assumption)).mono ?_); rintro e w6 ⟨rfl, hS6⟩))
            obtain ⟨z0, z1, z2, z3, z4, zB⟩ := hS6
            have ZB := Lib.hid zB
            clear zB hS5
            go_wp2
            go_ret
            exact ⟨ret_bool HF.out.symm, HBX.out.trans (ZB.out.mono HBS.out)⟩
          · cases opn with
            | false =>
              have HF := Lib.hid (show rightP (ps.take (k + 1)) = true from by rw [HRT.out, decide_eq_false hlt]; rfl)
              clear hNO
              go_wp2_with fail
              go_region_held3 (fun W => W.cell? ⟨wr.heap.size, 0, none⟩ = some (.int .i64 d) ∧ W.cell? ⟨wr.heap.size, 1, none⟩ = some (.bool dv) ∧ W.cell? ⟨wr.heap.size, 2, none⟩ = some (.string ⟨lab.toArray⟩) ∧ W.cell? ⟨wr.heap.size, 3, none⟩ = some (.bool false) ∧ W.cell? ⟨wr.heap.size, 4, none⟩ = some (.slice A9 ls.length c9) ∧ Below (wr.alloc (.cells #[.int .i64 d, .bool dv, .string ⟨lab.toArray⟩, .bool false, .slice A9 ls.length c9] 32)).heap.size (wr.alloc (.cells #[.int .i64 d, .bool dv, .string ⟨lab.toArray⟩, .bool false, .slice A9 ls.length c9] 32)) W) (assumption) (first | (go_at_call 24; (with_reducible refine (cp _ (by assumption)).mono ?_); rintro e w5 ⟨rfl, hS5⟩) | (go_at_call 25; (with_reducible refine (cd _ (by assumption)).mono ?_); rintro e w6 ⟨rfl, hS6⟩))
              obtain ⟨z0, z1, z2, z3, z4, zB⟩ := hS6
              have ZB := Lib.hid zB
              clear zB hS5
              go_wp2
              go_roundw
              case rel => exact ⟨k + 1, by go_num, by omega, by rw [HCT.out]; rfl, HF.out, HBX.out.trans (ZB.out.mono HBS.out)⟩
              case measure => simp [intOf]; omega
            | true =>
              by_cases hgt : (o : Int) < d
              · have HF := Lib.hid (hNO.out (by rw [HRT.out, decide_eq_false hlt, decide_eq_true hgt]; rfl))
                clear hNO
                go_wp2_with fail
                go_region_held3 (fun W => W.cell? ⟨wr.heap.size, 0, none⟩ = some (.int .i64 d) ∧ W.cell? ⟨wr.heap.size, 1, none⟩ = some (.bool dv) ∧ W.cell? ⟨wr.heap.size, 2, none⟩ = some (.string ⟨lab.toArray⟩) ∧ W.cell? ⟨wr.heap.size, 3, none⟩ = some (.bool true) ∧ W.cell? ⟨wr.heap.size, 4, none⟩ = some (.slice A9 ls.length c9) ∧ Below (wr.alloc (.cells #[.int .i64 d, .bool dv, .string ⟨lab.toArray⟩, .bool true, .slice A9 ls.length c9] 32)).heap.size (wr.alloc (.cells #[.int .i64 d, .bool dv, .string ⟨lab.toArray⟩, .bool true, .slice A9 ls.length c9] 32)) W) (assumption) (first | (go_at_call 24; (with_reducible refine (cp _ (by assumption)).mono ?_); rintro e w5 ⟨rfl, hS5⟩) | (go_at_call 25; (with_reducible refine (cd _ (by assumption)).mono ?_); rintro e w6 ⟨rfl, hS6⟩))
                obtain ⟨z0, z1, z2, z3, z4, zB⟩ := hS6
                have ZB := Lib.hid zB
                clear zB hS5
                go_wp2
                go_ret
                exact ⟨ret_bool HF.out.symm, HBX.out.trans (ZB.out.mono HBS.out)⟩
              · have HF := Lib.hid (show rightP (ps.take (k + 1)) = true from by rw [HRT.out, decide_eq_false hlt, decide_eq_false hgt]; rfl)
                clear hNO
                go_wp2_with fail
                go_region_held3 (fun W => W.cell? ⟨wr.heap.size, 0, none⟩ = some (.int .i64 d) ∧ W.cell? ⟨wr.heap.size, 1, none⟩ = some (.bool dv) ∧ W.cell? ⟨wr.heap.size, 2, none⟩ = some (.string ⟨lab.toArray⟩) ∧ W.cell? ⟨wr.heap.size, 3, none⟩ = some (.bool true) ∧ W.cell? ⟨wr.heap.size, 4, none⟩ = some (.slice A9 ls.length c9) ∧ Below (wr.alloc (.cells #[.int .i64 d, .bool dv, .string ⟨lab.toArray⟩, .bool true, .slice A9 ls.length c9] 32)).heap.size (wr.alloc (.cells #[.int .i64 d, .bool dv, .string ⟨lab.toArray⟩, .bool true, .slice A9 ls.length c9] 32)) W) (assumption) (first | (go_at_call 24; (with_reducible refine (cp _ (by assumption)).mono ?_); rintro e w5 ⟨rfl, hS5⟩) | (go_at_call 25; (with_reducible refine (cd _ (by assumption)).mono ?_); rintro e w6 ⟨rfl, hS6⟩))
                obtain ⟨z0, z1, z2, z3, z4, zB⟩ := hS6
                have ZB := Lib.hid zB
                clear zB hS5
                go_wp2
                go_roundw
                case rel => exact ⟨k + 1, by go_num, by omega, by rw [HCT.out]; go_num, HF.out, HBX.out.trans (ZB.out.mono HBS.out)⟩
                case measure => simp [intOf]; omega
    · obtain rfl : k = ps.length := by omega
      have HF := Lib.hid (show rightP ps = true from by have := HR.out; rwa [List.take_length] at this)
      go_wp2
      go_ret
      exact ⟨ret_bool HF.out.symm, hbw⟩

end Go.Proofs.YtodnioihadpncaaDoor
