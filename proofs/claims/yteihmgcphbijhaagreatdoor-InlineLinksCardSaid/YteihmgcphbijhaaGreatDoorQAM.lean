/- Texts joined: TkF InJ InK InL. -/
import Derived.Test.YteihmgcphbijhaaGreatDoorQAL
import Derived.Test.YteihmgcphbijhaaGreatDoorQAK
import Derived.Test.YteihmgcphbijhaaGreatDoorQAB
import Derived.LoopN
import Derived.Lib.CountLaws
namespace Go.Proofs.YteihmgcphbijhaaGreatDoor
open Go.RowKit
set_option linter.unusedSimpArgs false
set_option linter.unusedVariables false
set_option maxRecDepth 100000
theorem between_le (l : List UInt8) (k : Nat) (hk : k ≤ l.length) : (betweenL l k).2 ≤ l.length ∧ (betweenL l k).1.length ≤ l.length := by
  unfold betweenL
  split
  · simp
  · rename_i h
    simp only [not_or, Bool.not_eq_false] at h
    have := hasL_lt h.2
    simp only [List.length_drop, List.length_take]
    omega
set_option maxHeartbeats 2000000 in
theorem tkPointed_any (s : ByteArray) (h0 : 0 < s.size) (w : World) (hs : s.size ≤ 35184372088832) :
    Calls Tryz.prog 37 #[.string s] w fun e w' => e = .returned (tkR (pointedL s.data.toList)) ∧ Below w.heap.size w w' := by
  have a1 := fun W => tkAddress_any s h0 W hs
  have a2 := fun W => tkMailbox_any s h0 W hs
  have a3 := fun W => tkTag_any s h0 W hs
  have HL := Lib.hid (show pointedL s.data.toList = if 0 < (betweenL s.data.toList (addressL s.data.toList)).2 then (.auto (betweenL s.data.toList (addressL s.data.toList)).1 (betweenL s.data.toList (addressL s.data.toList)).1, (betweenL s.data.toList (addressL s.data.toList)).2)
    else if 0 < (betweenL s.data.toList (mailboxL s.data.toList)).2 then (.auto (tkMailto ++ (betweenL s.data.toList (mailboxL s.data.toList)).1) (betweenL s.data.toList (mailboxL s.data.toList)).1, (betweenL s.data.toList (mailboxL s.data.toList)).2)
    else (.tag (s.data.toList.take (betweenL s.data.toList (tagL s.data.toList)).2), (betweenL s.data.toList (tagL s.data.toList)).2) from rfl)
  generalize addressL s.data.toList = x1 at *
  generalize mailboxL s.data.toList = x2 at *
  generalize tagL s.data.toList = x3 at *
  have b1 := fun (h : x1 ≤ s.size) W => tkBetween_any s x1 h h0 W hs
  have b2 := fun (h : x2 ≤ s.size) W => tkBetween_any s x2 h h0 W hs
  have b3 := fun (h : x3 ≤ s.size) W => tkBetween_any s x3 h h0 W hs
  have l2 := fun (h : x2 ≤ s.size) => between_le s.data.toList x2 (by rw [size_len']; exact h)
  have l3 := fun (h : x3 ≤ s.size) => between_le s.data.toList x3 (by rw [size_len']; exact h)
  rw [size_len'] at l2 l3
  generalize betweenL s.data.toList x1 = y1 at *
  generalize betweenL s.data.toList x2 = y2 at *
  generalize betweenL s.data.toList x3 = y3 at *
  obtain ⟨t1, n1⟩ := y1
  obtain ⟨t2, n2⟩ := y2
  obtain ⟨t3, n3⟩ := y3
  simp only at HL b1 b2 b3 l2 l3
  have A1 := Lib.hid a1
  have A2 := Lib.hid a2
  have A3 := Lib.hid a3
  have B1 := Lib.hid b1
  have B2 := Lib.hid b2
  have B3 := Lib.hid b3
  have L2 := Lib.hid l2
  have L3 := Lib.hid l3
  clear a1 a2 a3 b1 b2 b3 l2 l3
  by_cases p1 : 0 < n1
  · have HR := Lib.hid (show pointedL s.data.toList = (.auto t1 t1, n1) from by rw [HL.out, if_pos p1])
    have f1 : decide (0 < n1) = true := by simp; omega
    clear HL
    go_enter Tryz.func37, Tryz.ntmps37
    go_wp2_with fail
    refine (A1.out _).mono ?_
    rintro e w1 ⟨rfl, hx, bb1⟩
    go_wp2_with fail
    refine (B1.out hx _).mono ?_
    rintro e w2 ⟨rfl, rfl⟩
    clear hx
    go_wp2
    go_ret2
    exact ⟨by rw [HR.out]; rfl, bb1⟩
  · have f1 : decide (0 < n1) = false := by simp; omega
    by_cases p2 : 0 < n2
    · have HR := Lib.hid (show pointedL s.data.toList = (.auto (tkMailto ++ t2) t2, n2) from by rw [HL.out, if_neg p1, if_pos p2])
      have f2 : decide (0 < n2) = true := by simp; omega
      have HT := Lib.hid (show (⟨#[109, 97, 105, 108, 116, 111, 58]⟩ : ByteArray) ++ ⟨t2.toArray⟩ = ⟨(tkMailto ++ t2).toArray⟩ from by
        rw [show (⟨#[109, 97, 105, 108, 116, 111, 58]⟩ : ByteArray) = ⟨tkMailto.toArray⟩ from rfl, str_append])
      clear HL p1 p2
      go_enter Tryz.func37, Tryz.ntmps37
      go_wp2_with fail
      refine (A1.out _).mono ?_
      rintro e w1 ⟨rfl, hx, bb1⟩
      go_wp2_with fail
      refine (B1.out hx _).mono ?_
      rintro e w2 ⟨rfl, rfl⟩
      clear hx
      go_wp2_with fail
      refine (A2.out _).mono ?_
      rintro e w3 ⟨rfl, hx, bb3⟩
      go_wp2_with fail
      refine (B2.out hx _).mono ?_
      rintro e w4 ⟨rfl, rfl⟩
      have hl := (L2.out hx).2
      have hsum := fun W => run_string_add_sum (P := Tryz.prog) W (⟨#[109, 97, 105, 108, 116, 111, 58]⟩ : ByteArray) ⟨t2.toArray⟩ (by rw [str_size]; show 7 + t2.length ≤ _; omega)
      clear hx hl
      go_wp2
      go_ret2
      exact ⟨by rw [HR.out]; simp only [tkR, tkV]; rw [← HT.out]; rfl, bb1.then bb3⟩
    · have f2 : decide (0 < n2) = false := by simp; omega
      have HR := Lib.hid (show pointedL s.data.toList = (.tag (s.data.toList.take n3), n3) from by rw [HL.out, if_neg p1, if_neg p2])
      have HX := Lib.hid (tkExt0 s n3)
      clear HL p1 p2
      go_enter Tryz.func37, Tryz.ntmps37
      go_wp2_with fail
      refine (A1.out _).mono ?_
      rintro e w1 ⟨rfl, hx, bb1⟩
      go_wp2_with fail
      refine (B1.out hx _).mono ?_
      rintro e w2 ⟨rfl, rfl⟩
      clear hx
      go_wp2_with fail
      refine (A2.out _).mono ?_
      rintro e w3 ⟨rfl, hx, bb3⟩
      go_wp2_with fail
      refine (B2.out hx _).mono ?_
      rintro e w4 ⟨rfl, rfl⟩
      clear hx
      go_wp2_with fail
      refine (A3.out _).mono ?_
      rintro e w5 ⟨rfl, hx, bb5⟩
      go_wp2_with fail
      refine (B3.out hx _).mono ?_
      rintro e w6 ⟨rfl, rfl⟩
      have hl := (L3.out hx).1
      have hsl := fun W => slice_hi s (n3 : Int) n3 rfl hl W
      clear hx hl
      go_wp2
      go_ret2
      exact ⟨by rw [HR.out]; simp only [tkR, tkV]; rw [← HX.out]; rfl, (bb1.then bb3).then bb5⟩
def marksCells : Array Value := #[.string ⟨#[33, 91]⟩, .string ⟨#[91]⟩, .string ⟨#[93]⟩]
/-- The variable 'marks' holds the signs of brackets. -/
def MarksIs (w : World) : Prop := ∃ t fr, w.heap[0]? = some (.cells marksCells t fr)
theorem MarksIs.below {w w' : World} (h : MarksIs w) (hb : Below w.heap.size w w') : MarksIs w' := by
  obtain ⟨t, fr, h⟩ := h
  exact ⟨t, fr, (hb.block _ (Array.getElem?_eq_some_iff.1 h).1).trans h⟩
theorem MarksIs.cells {w : World} (h : MarksIs w) : w.cell? ⟨0, 0, none⟩ = some (.string ⟨#[33, 91]⟩) ∧ w.cell? ⟨0, 1, none⟩ = some (.string ⟨#[91]⟩) ∧ w.cell? ⟨0, 2, none⟩ = some (.string ⟨#[93]⟩) := by
  obtain ⟨t, fr, h⟩ := h
  exact ⟨(cell_of_row w _ 0 _ _ fr h).trans rfl, (cell_of_row w _ 1 _ _ fr h).trans rfl, (cell_of_row w _ 2 _ _ fr h).trans rfl⟩
def markV (x : Tk × Nat) : Value := .tuple #[.agg #[.string (match x.1 with | .mark l => ⟨l.toArray⟩ | _ => ⟨#[]⟩)], .int .i64 x.2]
theorem marks_index (w : World) : (Instr.index 144 (.agg #[.string ⟨#[33, 91]⟩, .string ⟨#[91]⟩, .string ⟨#[93]⟩]) (.int .i64 0)).run Tryz.prog w = .ok (.string ⟨#[33, 91]⟩) w ∧
    (Instr.index 144 (.agg #[.string ⟨#[33, 91]⟩, .string ⟨#[91]⟩, .string ⟨#[93]⟩]) (.int .i64 1)).run Tryz.prog w = .ok (.string ⟨#[91]⟩) w ∧
    (Instr.index 144 (.agg #[.string ⟨#[33, 91]⟩, .string ⟨#[91]⟩, .string ⟨#[93]⟩]) (.int .i64 2)).run Tryz.prog w = .ok (.string ⟨#[93]⟩) w := ⟨by kernel_rfl, by kernel_rfl, by kernel_rfl⟩
set_option maxHeartbeats 2000000 in
theorem tkMark_any (s : ByteArray) (w : World) (hm : MarksIs w) :
    Calls Tryz.prog 39 #[.string s] w fun e w' => e = .returned (markV (markTk s.data.toList)) ∧ Below w.heap.size w w' := by
  have HB0 := Lib.hid (show Below w.heap.size w (w.alloc (.cells #[.string ⟨#[]⟩] 65)) from (Below.refl _ w).alloc (Nat.le_refl _) _)
  have hz0 := oneAt_new w (.string ⟨#[]⟩) 65
  have hm1 := (hm.below HB0.out).cells
  obtain ⟨g0, g1, g2⟩ := hm1
  have p1 := fun w => Tryz.strings_HasPrefix s ⟨#[33, 91]⟩ w
  have p2 := fun w => Tryz.strings_HasPrefix s ⟨#[91]⟩ w
  have p3 := fun w => Tryz.strings_HasPrefix s ⟨#[93]⟩ w
  rw [show (⟨#[33, 91]⟩ : ByteArray).data.toList = [33, 91] from rfl] at p1
  rw [show (⟨#[91]⟩ : ByteArray).data.toList = [91] from rfl] at p2
  rw [show (⟨#[93]⟩ : ByteArray).data.toList = [93] from rfl] at p3
  have HL := Lib.hid (show markTk s.data.toList = if Lib.hasPrefix s.data.toList [33, 91] then (.mark [33, 91], 2)
    else if Lib.hasPrefix s.data.toList [91] then (.mark [91], 1) else if Lib.hasPrefix s.data.toList [93] then (.mark [93], 1) else (.mark [], 0) from rfl)
  have HZ0 := Lib.hid hz0
  obtain ⟨k0, k1⟩ := hz0.cells
  clear hz0 hm
  have i0 := fun w => (marks_index w).1
  have i1 := fun w => (marks_index w).2.1
  have i2 := fun w => (marks_index w).2.2
  cases h1 : Lib.hasPrefix s.data.toList [33, 91] with
  | true =>
    rw [h1] at p1
    have HR := Lib.hid (show markTk s.data.toList = (.mark [33, 91], 2) from by rw [HL.out, if_pos h1])
    have P1 := Lib.hid p1
    have HS := Lib.hid (oneAt_new w (.string ⟨#[33, 91]⟩) 65)
    clear HL h1 p1 p2 p3
    go_enter Tryz.func39, Tryz.ntmps39
    go_wp2_with fail
    refine wp_loop_rounds 4 ?_
    rw [rounds_succ]
    go_wp2_with fail
    refine (P1.out _).mono ?_
    rintro e w1 ⟨rfl, rfl⟩
    go_wp2
    (try simp only [Exit.inBlock, Exit.then])
    exact bodyPost_ret (v := markV (.mark [33, 91], 2)) (ret_mark rfl HS.out rfl rfl) rfl ⟨by rw [HR.out], (Below.refl _ w).alloc (Nat.le_refl _) _⟩
  | false =>
    rw [h1] at p1
    have P1 := Lib.hid p1
    cases h2 : Lib.hasPrefix s.data.toList [91] with
    | true =>
      rw [h2] at p2
      have HR := Lib.hid (show markTk s.data.toList = (.mark [91], 1) from by rw [HL.out, h1, h2]; rfl)
      have P2 := Lib.hid p2
      have HS := Lib.hid (oneAt_new w (.string ⟨#[91]⟩) 65)
      clear HL h1 p1 p2 p3 h2
      go_enter Tryz.func39, Tryz.ntmps39
      go_wp2_with fail
      refine wp_loop_rounds 4 ?_
      rw [rounds_succ]
      go_wp2_with fail
      refine (P1.out _).mono ?_
      rintro e w1 ⟨rfl, rfl⟩
      go_wp2_with fail
      rw [rounds_succ]
      go_wp2_with fail
      refine (P2.out _).mono ?_
      rintro e w2 ⟨rfl, rfl⟩
      go_wp2
      (try simp only [Exit.inBlock, Exit.then])
      exact bodyPost_ret (v := markV (.mark [91], 1)) (ret_mark rfl HS.out rfl rfl) rfl ⟨by rw [HR.out], (Below.refl _ w).alloc (Nat.le_refl _) _⟩
    | false =>
      rw [h2] at p2
      have P2 := Lib.hid p2
      cases h3 : Lib.hasPrefix s.data.toList [93] with
      | true =>
        rw [h3] at p3
        have HR := Lib.hid (show markTk s.data.toList = (.mark [93], 1) from by rw [HL.out, h1, h2, h3]; rfl)
        have P3 := Lib.hid p3
        have HS := Lib.hid (oneAt_new w (.string ⟨#[93]⟩) 65)
        clear HL h1 p1 p2 p3 h2 h3
        go_enter Tryz.func39, Tryz.ntmps39
        go_wp2_with fail
        refine wp_loop_rounds 4 ?_
        rw [rounds_succ]
        go_wp2_with fail
        refine (P1.out _).mono ?_
        rintro e w1 ⟨rfl, rfl⟩
        go_wp2_with fail
        rw [rounds_succ]
        go_wp2_with fail
        refine (P2.out _).mono ?_
        rintro e w2 ⟨rfl, rfl⟩
        go_wp2_with fail
        rw [rounds_succ]
        go_wp2_with fail
        refine (P3.out _).mono ?_
        rintro e w2 ⟨rfl, rfl⟩
        go_wp2
        (try simp only [Exit.inBlock, Exit.then])
        exact bodyPost_ret (v := markV (.mark [93], 1)) (ret_mark rfl HS.out rfl rfl) rfl ⟨by rw [HR.out], (Below.refl _ w).alloc (Nat.le_refl _) _⟩
      | false =>
        rw [h3] at p3
        have HR := Lib.hid (show markTk s.data.toList = (.mark [], 0) from by rw [HL.out, h1, h2, h3]; rfl)
        have P3 := Lib.hid p3
        have HS := Lib.hid (oneAt_new w (.string ⟨#[]⟩) 65)
        clear HL h1 p1 p2 p3 h2 h3
        go_enter Tryz.func39, Tryz.ntmps39
        go_wp2_with fail
        refine wp_loop_rounds 4 ?_
        rw [rounds_succ]
        go_wp2_with fail
        refine (P1.out _).mono ?_
        rintro e w1 ⟨rfl, rfl⟩
        go_wp2_with fail
        rw [rounds_succ]
        go_wp2_with fail
        refine (P2.out _).mono ?_
        rintro e w2 ⟨rfl, rfl⟩
        go_wp2_with fail
        rw [rounds_succ]
        go_wp2_with fail
        refine (P3.out _).mono ?_
        rintro e w2 ⟨rfl, rfl⟩
        go_wp2_with fail
        rw [rounds_succ]
        go_wp2
        (try simp only [Exit.inBlock, Exit.then])
        exact bodyPost_ret (v := markV (.mark [], 0)) (ret_mark rfl HS.out rfl rfl) rfl ⟨by rw [HR.out], (Below.refl _ w).alloc (Nat.le_refl _) _⟩
theorem tkHas_int (s : ByteArray) (i : Int) (k : Nat) (e : i = k) (b : UInt8) (w : World) (hs : s.size ≤ 35184372088832) (hk : k ≤ 70368744177664) :
    Calls Tryz.prog 64 #[.string s, .int .i64 i, .int .u8 b.toNat] w fun e w' => e = .returned (.bool (hasL s.data.toList k b)) ∧ w = w' := by
  subst e
  exact tkHas_any s k b w hs hk
theorem shownL_flat (l : List UInt8) : shownL l = if hasL (tkFlat l) 0 32 && hasL (tkFlat l) ((tkFlat l).length - 1) 32 && decide (rowL (tkFlat l) < (tkFlat l).length) then ((tkFlat l).take ((tkFlat l).length - 1)).drop 1 else tkFlat l := rfl
set_option maxHeartbeats 2000000 in
theorem tkShown_any (s : ByteArray) (w : World) (hml : MaxL w) (hs : s.size ≤ 4000000000) :
    Calls Tryz.prog 70 #[.string s] w fun e w' => e = .returned (.string ⟨(shownL s.data.toList).toArray⟩) ∧ Below w.heap.size w w' := by
  obtain ⟨m, hm⟩ := hml
  have hcnt : Lib.countB s ⟨#[10]⟩ ≤ s.size + 1 := by
    have := Lib.count_le s.data.toList [10]
    rw [size_len'] at this
    exact this
  have c1 := Tryz.strings_ReplaceAll s ⟨#[10]⟩ ⟨#[32]⟩ m w (by omega) hm (by decide) (by
    show s.size + Lib.countB s ⟨#[10]⟩ * 1 ≤ _; omega)
  rw [show (⟨#[10]⟩ : ByteArray).data.toList = [10] from rfl, show (⟨#[32]⟩ : ByteArray).data.toList = [32] from rfl, replaceAll_flat] at c1
  have hL := shownL_flat s.data.toList
  have hfl := tkFlat_length s.data.toList
  rw [size_len'] at hfl
  obtain ⟨M, hM⟩ : ∃ M : ByteArray, M = ⟨(tkFlat s.data.toList).toArray⟩ := ⟨_, rfl⟩
  have hM2 : tkFlat s.data.toList = M.data.toList := by rw [hM]
  rw [← hM] at c1
  rw [hM2] at hL hfl
  have hMs : M.size ≤ 4000000000 := by rw [← size_len', hfl]; exact hs
  have C1 := Lib.hid c1
  have HV := Lib.hid hL
  have hlen := size_len' M
  clear c1 hcnt hM hM2 hL hfl hm
  have d1 := fun W => tkHas_any M 0 32 W (by omega) (by omega)
  cases h1 : hasL M.data.toList 0 32 with
  | false =>
    rw [h1] at d1
    have HR := Lib.hid (show shownL s.data.toList = M.data.toList from by rw [HV.out, h1]; rfl)
    have D1 := Lib.hid d1
    clear HV d1 h1 hlen
    go_enter Tryz.func70, Tryz.ntmps70
    go_wp2_with fail
    refine C1.out.mono ?_
    rintro e w1 ⟨rfl, b1⟩
    go_wp2_with fail
    refine (D1.out _).mono ?_
    rintro e w2 ⟨rfl, rfl⟩
    go_wp2
    go_ret
    exact ⟨by rw [HR.out]; rfl, b1⟩
  | true =>
    rw [h1] at d1
    have h0 := hasL_lt h1
    rw [hlen] at h0
    have hi : IntKind.i64.wrap ((M.size : Int) - 1) = (M.size : Int) - 1 := IntWalk.i64_in _ (by omega)
    have d2 := fun W => tkHas_int M ((M.size : Int) - 1) (M.size - 1) (by omega) 32 W (by omega) (by omega)
    have D1 := Lib.hid d1
    cases h2 : hasL M.data.toList (M.size - 1) 32 with
    | false =>
      rw [h2] at d2
      have HR := Lib.hid (show shownL s.data.toList = M.data.toList from by rw [HV.out, h1, hlen, h2]; rfl)
      have D2 := Lib.hid d2
      clear HV d1 d2 h1 h2 hlen hi
      go_enter Tryz.func70, Tryz.ntmps70
      go_wp2_with fail
      refine C1.out.mono ?_
      rintro e w1 ⟨rfl, b1⟩
      go_wp2_with fail
      refine (D1.out _).mono ?_
      rintro e w2 ⟨rfl, rfl⟩
      go_wp2_with fail
      refine (D2.out _).mono ?_
      rintro e w3 ⟨rfl, rfl⟩
      go_wp2
      go_ret
      exact ⟨by rw [HR.out]; rfl, b1⟩
    | true =>
      rw [h2] at d2
      have D2 := Lib.hid d2
      have d3 := fun W => tkRow_any M h0 W (by omega)
      have hv := HV.out
      rw [h1, hlen, h2, Bool.and_self, Bool.true_and] at hv
      have hrl := rowL_le M.data.toList (by intro e; rw [e] at hlen; simp at hlen; omega)
      have hr1 := rowL_pos M.data.toList
      rw [hlen] at hrl
      generalize rowL M.data.toList = r at *
      have D3 := Lib.hid d3
      clear HV d1 d2 h1 h2 hlen hi d3
      by_cases hr : r < M.size
      · rw [decide_eq_true hr, if_pos rfl] at hv
        have HR := Lib.hid hv
        have HX := Lib.hid (show M.extract 1 (M.size - 1) = ⟨((M.data.toList.take (M.size - 1)).drop 1).toArray⟩ from by rw [ext_bytes, List.drop_take])
        have h2 : 2 ≤ M.size := by omega
        have hsl := fun W => slice_lohi M 1 ((M.size : Int) - 1) 1 (M.size - 1) rfl (by omega) (by omega) (by omega) W
        clear hv
        go_enter Tryz.func70, Tryz.ntmps70
        go_wp2_with fail
        refine C1.out.mono ?_
        rintro e w1 ⟨rfl, b1⟩
        go_wp2_with fail
        refine (D1.out _).mono ?_
        rintro e w2 ⟨rfl, rfl⟩
        go_wp2_with fail
        refine (D2.out _).mono ?_
        rintro e w3 ⟨rfl, rfl⟩
        go_wp2_with fail
        refine (D3.out _).mono ?_
        rintro e w4 ⟨rfl, b4⟩
        go_wp2
        go_ret
        exact ⟨by rw [HR.out, ← HX.out]; rfl, b1.then b4⟩
      · rw [decide_eq_false hr, if_neg (by decide)] at hv
        have HR := Lib.hid hv
        clear hv
        go_enter Tryz.func70, Tryz.ntmps70
        go_wp2_with fail
        refine C1.out.mono ?_
        rintro e w1 ⟨rfl, b1⟩
        go_wp2_with fail
        refine (D1.out _).mono ?_
        rintro e w2 ⟨rfl, rfl⟩
        go_wp2_with fail
        refine (D2.out _).mono ?_
        rintro e w3 ⟨rfl, rfl⟩
        go_wp2_with fail
        refine (D3.out _).mono ?_
        rintro e w4 ⟨rfl, b4⟩
        go_wp2
        go_ret
        exact ⟨by rw [HR.out]; rfl, b1.then b4⟩
theorem codeGo_no {l : List UInt8} {n f k : Nat} (h : Lib.index (l.drop k) (l.take n) < 0) : codeGo l n (f + 1) k = (.word (l.take n), n) := by
  rw [codeGo, if_pos h]
theorem codeGo_at {l : List UInt8} {n f k x : Nat} (h : Lib.index (l.drop k) (l.take n) = x) : codeGo l n (f + 1) k =
    if (k + x + rowL (l.drop (k + x))) - (k + x) = n then (.code (shownL ((l.take (k + x)).drop n)), k + x + rowL (l.drop (k + x))) else codeGo l n f (k + x + rowL (l.drop (k + x))) := by
  rw [codeGo, if_neg (by rw [h]; omega), h]
  simp only [Int.toNat_natCast]
def CodeRel (s : ByteArray) (n : Nat) (w : World) (v : Value) (wr : World) : Prop :=
  ∃ j f : Nat, v = .int .i64 j ∧ n ≤ j ∧ j ≤ s.size ∧ s.size < f + j ∧ codeGo s.data.toList n f j = codeL s.data.toList ∧ Below w.heap.size w wr
set_option maxHeartbeats 4000000 in
theorem tkCode_any (s : ByteArray) (h0 : 0 < s.size) (w : World) (hml : MaxL w) (hs : s.size ≤ 4000000000) :
    Calls Tryz.prog 36 #[.string s] w fun e w' => e = .returned (tkR (codeL s.data.toList)) ∧ Below w.heap.size w w' := by
  have c1 := tkRow_any s h0 w (by omega)
  have hle := rowL_le s.data.toList (by intro e; have := size_len' s; rw [e] at this; simp at this; omega)
  have hge := rowL_pos s.data.toList
  rw [size_len'] at hle
  have hL : codeGo s.data.toList (rowL s.data.toList) (s.size + 1) (rowL s.data.toList) = codeL s.data.toList := by
    unfold codeL
    rw [size_len']
  generalize rowL s.data.toList = n at *
  have hsh := fun W => slice_hi s (n : Int) n rfl hle W
  have C1 := Lib.hid c1
  have HM := Lib.hid hml
  have H0 := Lib.hid hL
  clear c1 hml hL
  go_enter Tryz.func36, Tryz.ntmps36
  go_wp2_with fail
  refine C1.out.mono ?_
  rintro e w1 ⟨rfl, b1⟩
  have HB1 := Lib.hid b1
  clear b1
  go_wp2_with fail
  go_loopw [6] (fun v wr => CodeRel s n w v wr) (fun v _ => s.size - (intOf v).toNat)
  case atStart => exact ⟨n, s.size + 1, rfl, Nat.le_refl _, hle, by omega, H0.out, HB1.out⟩
  case round =>
    obtain ⟨j, f, rfl, hnj, hjs, hf, hg, hbw⟩ := hrel
    obtain ⟨f, rfl⟩ : ∃ f', f = f' + 1 := ⟨f - 1, by omega⟩
    obtain ⟨m, hm⟩ := HM.out.below hbw
    have hsl := fun W => slice_lo s (j : Int) j rfl hjs W
    have ci := Tryz.strings_Index (s.extract j s.size) (s.extract 0 n) m wr (by rw [ByteArray.size_extract]; omega) hm
    rw [drop_ext, tkExt0] at ci
    rw [show (⟨(s.data.toList.take n).toArray⟩ : ByteArray).data.toList = s.data.toList.take n from rfl] at ci
    have HX := Lib.hid (tkExt0 s n)
    rw [← HX.out] at ci
    have hroom := Lib.index_room (s.data.toList.drop j) (s.data.toList.take n)
    rw [List.length_drop, List.length_take, size_len', Nat.min_eq_left hle] at hroom
    have HB := Lib.hid hbw
    clear hbw hm
    by_cases hneg : Lib.index (s.data.toList.drop j) (s.data.toList.take n) < 0
    · rw [codeGo_no hneg] at hg
      have HR := Lib.hid hg.symm
      have hd : decide (Lib.index (s.data.toList.drop j) (s.data.toList.take n) < 0) = true := by simpa using hneg
      clear hg hroom
      generalize Lib.index (s.data.toList.drop j) (s.data.toList.take n) = x at *
      have CI := Lib.hid ci
      clear ci
      go_wp2_with fail
      refine CI.out.mono ?_
      rintro e w2 ⟨rfl, rfl⟩
      go_wp2
      go_ret2
      exact ⟨by rw [HR.out]; simp only [tkR, tkV]; rw [← HX.out]; rfl, HB.out⟩
    · obtain ⟨x, hx⟩ : ∃ x : Nat, Lib.index (s.data.toList.drop j) (s.data.toList.take n) = x := ⟨(Lib.index (s.data.toList.drop j) (s.data.toList.take n)).toNat, by omega⟩
      rw [codeGo_at hx] at hg
      have hroom2 := hroom (by omega)
      rw [hx] at hroom2 ci
      clear hroom hneg hx
      have hxs : j + x < s.size := by omega
      have hd : decide ((x : Int) < 0) = false := by simp
      have hsl2 := fun W => slice_lo s ((j : Int) + (x : Int)) (j + x) (by simp) (by omega) W
      have hT : (s.extract (j + x) s.size).size = s.size - (j + x) := by rw [ByteArray.size_extract]; omega
      have cr := fun W => tkRow_any (s.extract (j + x) s.size) (by omega) W (by omega)
      rw [drop_ext] at cr
      have hrl := rowL_le (s.data.toList.drop (j + x)) (by intro e; have := congrArg List.length e; rw [List.length_drop, size_len'] at this; simp at this; omega)
      rw [List.length_drop, size_len'] at hrl
      have hrp := rowL_pos (s.data.toList.drop (j + x))
      generalize rowL (s.data.toList.drop (j + x)) = r at *
      have CI := Lib.hid ci
      have CR := Lib.hid cr
      clear ci cr hT
      by_cases hn : r = n
      · subst hn
        rw [if_pos (by omega)] at hg
        have HR := Lib.hid hg.symm
        have hf1 : (((j : Int) + (x : Int) + (r : Int) - ((j : Int) + (x : Int))) == (r : Int)) = true := by simp; omega
        have hsm := fun W => slice_lohi s (r : Int) ((j : Int) + (x : Int)) r (j + x) rfl (by simp) (by omega) (by omega) W
        have hz : (s.extract r (j + x)).size ≤ 4000000000 := by rw [ByteArray.size_extract]; omega
        have hXm := Lib.hid (show (s.extract r (j + x)).data.toList = (s.data.toList.take (j + x)).drop r from by rw [ext_bytes, List.drop_take])
        have CS := Lib.hid (fun W h => tkShown_any (s.extract r (j + x)) W h hz)
        clear hg hz
        go_wp2_with fail
        refine CI.out.mono ?_
        rintro e w2 ⟨rfl, rfl⟩
        go_wp2_with fail
        refine (CR.out _).mono ?_
        rintro e w3 ⟨rfl, b3⟩
        have HB3 := Lib.hid (HB.out.then b3)
        clear b3
        go_wp2_with fail
        refine (CS.out _ (HM.out.below HB3.out)).mono ?_
        rintro e w4 ⟨rfl, b4⟩
        go_wp2
        go_ret2
        exact ⟨by rw [HR.out, List.drop_take]; rfl, HB3.out.then b4⟩
      · rw [if_neg (by omega)] at hg
        have HG := Lib.hid hg
        have hf1 : (((j : Int) + (x : Int) + (r : Int) - ((j : Int) + (x : Int))) == (n : Int)) = false := by simp; omega
        clear hg
        go_wp2_with fail
        refine CI.out.mono ?_
        rintro e w2 ⟨rfl, rfl⟩
        go_wp2_with fail
        refine (CR.out _).mono ?_
        rintro e w3 ⟨rfl, b3⟩
        have HB3 := Lib.hid (HB.out.then b3)
        clear b3
        go_wp2
        go_roundw
        case rel => exact ⟨j + x + r, f, by go_num, by omega, by omega, by omega, HG.out, HB3.out⟩
        case measure => simp [intOf]; omega
end Go.Proofs.YteihmgcphbijhaaGreatDoor
namespace Go.Proofs.YteihmgcphbijhaaGreatDoor
open Go.RowKit
set_option linter.unusedSimpArgs false
set_option linter.unusedVariables false
set_option maxRecDepth 100000
/-- What the walks ask: both tables, and the library's variable. -/
def TkW (w : World) : Prop := NamedIs w ∧ MarksIs w ∧ MaxL w
theorem TkW.below {w w' : World} (h : TkW w) (hb : Below w.heap.size w w') : TkW w' := ⟨h.1.below hb, h.2.1.below hb, h.2.2.below hb⟩
theorem markTk_mark (l : List UInt8) : ∃ t, (markTk l).1 = .mark t := by
  unfold markTk
  split
  · exact ⟨_, rfl⟩
  · split
    · exact ⟨_, rfl⟩
    · split
      · exact ⟨_, rfl⟩
      · exact ⟨_, rfl⟩
theorem lineTk_brk (l : List UInt8) : ∃ t, (lineTk l).1 = .brk t := by
  unfold lineTk
  simp only
  split
  · exact ⟨_, rfl⟩
  · exact ⟨_, rfl⟩
theorem atomL_atom (l : List UInt8) : ∃ t, (atomL l).1 = .atom t := by
  unfold atomL
  simp only
  split
  · exact ⟨_, rfl⟩
  · exact ⟨_, rfl⟩
theorem first_at (l : List UInt8) (c : UInt8) (h : l.headD 1 = c) : firstTk l = if c = 0 then atomL l
  else if c = 92 then escapedL l
  else if c = 38 then namedTk l
  else if c = 96 then codeL l
  else if c = 60 then pointedL l
  else if c = 42 ∨ c = 95 then (.run c (rowL l), rowL l)
  else if c = 33 ∨ c = 91 ∨ c = 93 then markTk l
  else if c = 32 ∨ c = 10 then lineTk l
  else (.no, 0) := by subst h; rfl
set_option maxHeartbeats 4000000 in
theorem tkFirst_any (s : ByteArray) (h0 : 0 < s.size) (w : World) (hw : TkW w) (hs : s.size ≤ 4000000000) :
    Calls Tryz.prog 18 #[.string s] w fun e w' => e = .returned (tkR (firstTk s.data.toList)) ∧ Below w.heap.size w w' := by
  have HF := Lib.hid (first_at s.data.toList s[0] (tkGet0 s h0))
  by_cases e0 : s[0] = 0
  · have hc := tkAtom_any s h0 w (by omega)
    obtain ⟨t, ht⟩ := atomL_atom s.data.toList
    have HR := Lib.hid (show firstTk s.data.toList = (.atom t, (atomL s.data.toList).2) from by rw [HF.out, e0]; exact Prod.ext ht rfl)
    unfold atomV at hc
    rw [ht] at hc
    generalize (atomL s.data.toList).2 = n at *
    have f0 : ((s[0].toNat : Int) == 0) = true := by rw [e0]; decide
    have C := Lib.hid hc
    clear hc HF hw ht e0
    go_enter Tryz.func18, Tryz.ntmps18
    go_wp2_with fail
    refine C.out.mono ?_
    rintro e w1 ⟨rfl, b1⟩
    go_wp2
    go_ret2
    exact ⟨by rw [HR.out]; rfl, b1⟩
  · by_cases e92 : s[0] = 92
    · have hc := escaped_tk s h0 w (by omega)
      have HR := Lib.hid (show firstTk s.data.toList = escapedL s.data.toList from by rw [HF.out, e92]; rfl)
      generalize escapedL s.data.toList = n at *
      obtain ⟨t, n⟩ := n
      unfold tkR at hc
      simp only at hc
      have HV := Lib.hid (show tkR (t, n) = .tuple #[tkV t, .int .i64 n] from rfl)
      generalize tkV t = v at *
      have f0 : ((s[0].toNat : Int) == 0) = false := by rw [e92]; decide
      have f92 : ((s[0].toNat : Int) == 92) = true := by rw [e92]; decide
      have C := Lib.hid hc
      clear hc HF hw e92 e0
      go_enter Tryz.func18, Tryz.ntmps18
      go_wp2_with fail
      refine C.out.mono ?_
      rintro e w1 ⟨rfl, b1⟩
      go_wp2
      go_ret2
      exact ⟨by rw [HR.out, HV.out]; rfl, b1⟩
    · by_cases e38 : s[0] = 38
      · have hc := named_tk s w hw.1 (by omega)
        have HR := Lib.hid (show firstTk s.data.toList = (.word (atL s.data.toList).1.data.toList, (atL s.data.toList).2) from by rw [HF.out, e38]; rfl)
        generalize atL s.data.toList = n at *
        obtain ⟨t, n⟩ := n
        simp only at hc HR
        have f0 : ((s[0].toNat : Int) == 0) = false := by rw [e38]; decide
        have f92 : ((s[0].toNat : Int) == 92) = false := by rw [e38]; decide
        have f38 : ((s[0].toNat : Int) == 38) = true := by rw [e38]; decide
        have C := Lib.hid hc
        clear hc HF hw e38 e0 e92
        go_enter Tryz.func18, Tryz.ntmps18
        go_wp2_with fail
        refine C.out.mono ?_
        rintro e w1 ⟨rfl, b1⟩
        go_wp2
        go_ret2
        exact ⟨by rw [HR.out]; rfl, b1⟩
      · by_cases e96 : s[0] = 96
        · have hc := tkCode_any s h0 w hw.2.2 hs
          have HR := Lib.hid (show firstTk s.data.toList = codeL s.data.toList from by rw [HF.out, e96]; rfl)
          generalize codeL s.data.toList = n at *
          obtain ⟨t, n⟩ := n
          unfold tkR at hc
          simp only at hc
          have HV := Lib.hid (show tkR (t, n) = .tuple #[tkV t, .int .i64 n] from rfl)
          generalize tkV t = v at *
          have f0 : ((s[0].toNat : Int) == 0) = false := by rw [e96]; decide
          have f92 : ((s[0].toNat : Int) == 92) = false := by rw [e96]; decide
          have f38 : ((s[0].toNat : Int) == 38) = false := by rw [e96]; decide
          have f96 : ((s[0].toNat : Int) == 96) = true := by rw [e96]; decide
          have C := Lib.hid hc
          clear hc HF hw e96 e0 e92 e38
          go_enter Tryz.func18, Tryz.ntmps18
          go_wp2_with fail
          refine C.out.mono ?_
          rintro e w1 ⟨rfl, b1⟩
          go_wp2
          go_ret2
          exact ⟨by rw [HR.out, HV.out]; rfl, b1⟩
        · by_cases e60 : s[0] = 60
          · have hc := tkPointed_any s h0 w (by omega)
            have HR := Lib.hid (show firstTk s.data.toList = pointedL s.data.toList from by rw [HF.out, e60]; rfl)
            generalize pointedL s.data.toList = n at *
            obtain ⟨t, n⟩ := n
            unfold tkR at hc
            simp only at hc
            have HV := Lib.hid (show tkR (t, n) = .tuple #[tkV t, .int .i64 n] from rfl)
            generalize tkV t = v at *
            have f0 : ((s[0].toNat : Int) == 0) = false := by rw [e60]; decide
            have f92 : ((s[0].toNat : Int) == 92) = false := by rw [e60]; decide
            have f38 : ((s[0].toNat : Int) == 38) = false := by rw [e60]; decide
            have f96 : ((s[0].toNat : Int) == 96) = false := by rw [e60]; decide
            have f60 : ((s[0].toNat : Int) == 60) = true := by rw [e60]; decide
            have C := Lib.hid hc
            clear hc HF hw e60 e0 e92 e38 e96
            go_enter Tryz.func18, Tryz.ntmps18
            go_wp2_with fail
            refine C.out.mono ?_
            rintro e w1 ⟨rfl, b1⟩
            go_wp2
            go_ret2
            exact ⟨by rw [HR.out, HV.out]; rfl, b1⟩
          · by_cases e42 : s[0] = 42
            · have hc := tkRow_any s h0 w (by omega)
              have HR := Lib.hid (show firstTk s.data.toList = (.run s[0] (rowL s.data.toList), rowL s.data.toList) from by rw [HF.out, e42]; rfl)
              generalize rowL s.data.toList = n at *
              have f0 : ((s[0].toNat : Int) == 0) = false := by rw [e42]; decide
              have f92 : ((s[0].toNat : Int) == 92) = false := by rw [e42]; decide
              have f38 : ((s[0].toNat : Int) == 38) = false := by rw [e42]; decide
              have f96 : ((s[0].toNat : Int) == 96) = false := by rw [e42]; decide
              have f60 : ((s[0].toNat : Int) == 60) = false := by rw [e42]; decide
              have f42 : ((s[0].toNat : Int) == 42) = true := by rw [e42]; decide
              have C := Lib.hid hc
              clear hc HF hw e42 e0 e92 e38 e96 e60
              go_enter Tryz.func18, Tryz.ntmps18
              go_wp2_with fail
              refine C.out.mono ?_
              rintro e w1 ⟨rfl, b1⟩
              go_wp2
              go_ret2
              exact ⟨by rw [HR.out]; rfl, b1⟩
            · by_cases e95 : s[0] = 95
              · have hc := tkRow_any s h0 w (by omega)
                have HR := Lib.hid (show firstTk s.data.toList = (.run s[0] (rowL s.data.toList), rowL s.data.toList) from by rw [HF.out, e95]; rfl)
                generalize rowL s.data.toList = n at *
                have f0 : ((s[0].toNat : Int) == 0) = false := by rw [e95]; decide
                have f92 : ((s[0].toNat : Int) == 92) = false := by rw [e95]; decide
                have f38 : ((s[0].toNat : Int) == 38) = false := by rw [e95]; decide
                have f96 : ((s[0].toNat : Int) == 96) = false := by rw [e95]; decide
                have f60 : ((s[0].toNat : Int) == 60) = false := by rw [e95]; decide
                have f42 : ((s[0].toNat : Int) == 42) = false := by rw [e95]; decide
                have f95 : ((s[0].toNat : Int) == 95) = true := by rw [e95]; decide
                have C := Lib.hid hc
                clear hc HF hw e95 e0 e92 e38 e96 e60 e42
                go_enter Tryz.func18, Tryz.ntmps18
                go_wp2_with fail
                refine C.out.mono ?_
                rintro e w1 ⟨rfl, b1⟩
                go_wp2
                go_ret2
                exact ⟨by rw [HR.out]; rfl, b1⟩
              · by_cases e33 : s[0] = 33
                · have hc := tkMark_any s w hw.2.1
                  obtain ⟨t, ht⟩ := markTk_mark s.data.toList
                  have HR := Lib.hid (show firstTk s.data.toList = (.mark t, (markTk s.data.toList).2) from by rw [HF.out, e33]; exact Prod.ext ht rfl)
                  unfold markV at hc
                  rw [ht] at hc
                  simp only at hc
                  generalize (markTk s.data.toList).2 = n at *
                  have f0 : ((s[0].toNat : Int) == 0) = false := by rw [e33]; decide
                  have f92 : ((s[0].toNat : Int) == 92) = false := by rw [e33]; decide
                  have f38 : ((s[0].toNat : Int) == 38) = false := by rw [e33]; decide
                  have f96 : ((s[0].toNat : Int) == 96) = false := by rw [e33]; decide
                  have f60 : ((s[0].toNat : Int) == 60) = false := by rw [e33]; decide
                  have f42 : ((s[0].toNat : Int) == 42) = false := by rw [e33]; decide
                  have f95 : ((s[0].toNat : Int) == 95) = false := by rw [e33]; decide
                  have f33 : ((s[0].toNat : Int) == 33) = true := by rw [e33]; decide
                  have C := Lib.hid hc
                  clear hc HF hw ht e33 e0 e92 e38 e96 e60 e42 e95
                  go_enter Tryz.func18, Tryz.ntmps18
                  go_wp2_with fail
                  refine C.out.mono ?_
                  rintro e w1 ⟨rfl, b1⟩
                  go_wp2
                  go_ret2
                  exact ⟨by rw [HR.out]; rfl, b1⟩
                · by_cases e91 : s[0] = 91
                  · have hc := tkMark_any s w hw.2.1
                    obtain ⟨t, ht⟩ := markTk_mark s.data.toList
                    have HR := Lib.hid (show firstTk s.data.toList = (.mark t, (markTk s.data.toList).2) from by rw [HF.out, e91]; exact Prod.ext ht rfl)
                    unfold markV at hc
                    rw [ht] at hc
                    simp only at hc
                    generalize (markTk s.data.toList).2 = n at *
                    have f0 : ((s[0].toNat : Int) == 0) = false := by rw [e91]; decide
                    have f92 : ((s[0].toNat : Int) == 92) = false := by rw [e91]; decide
                    have f38 : ((s[0].toNat : Int) == 38) = false := by rw [e91]; decide
                    have f96 : ((s[0].toNat : Int) == 96) = false := by rw [e91]; decide
                    have f60 : ((s[0].toNat : Int) == 60) = false := by rw [e91]; decide
                    have f42 : ((s[0].toNat : Int) == 42) = false := by rw [e91]; decide
                    have f95 : ((s[0].toNat : Int) == 95) = false := by rw [e91]; decide
                    have f33 : ((s[0].toNat : Int) == 33) = false := by rw [e91]; decide
                    have f91 : ((s[0].toNat : Int) == 91) = true := by rw [e91]; decide
                    have C := Lib.hid hc
                    clear hc HF hw ht e91 e0 e92 e38 e96 e60 e42 e95 e33
                    go_enter Tryz.func18, Tryz.ntmps18
                    go_wp2_with fail
                    refine C.out.mono ?_
                    rintro e w1 ⟨rfl, b1⟩
                    go_wp2
                    go_ret2
                    exact ⟨by rw [HR.out]; rfl, b1⟩
                  · by_cases e93 : s[0] = 93
                    · have hc := tkMark_any s w hw.2.1
                      obtain ⟨t, ht⟩ := markTk_mark s.data.toList
                      have HR := Lib.hid (show firstTk s.data.toList = (.mark t, (markTk s.data.toList).2) from by rw [HF.out, e93]; exact Prod.ext ht rfl)
                      unfold markV at hc
                      rw [ht] at hc
                      simp only at hc
                      generalize (markTk s.data.toList).2 = n at *
                      have f0 : ((s[0].toNat : Int) == 0) = false := by rw [e93]; decide
                      have f92 : ((s[0].toNat : Int) == 92) = false := by rw [e93]; decide
                      have f38 : ((s[0].toNat : Int) == 38) = false := by rw [e93]; decide
                      have f96 : ((s[0].toNat : Int) == 96) = false := by rw [e93]; decide
                      have f60 : ((s[0].toNat : Int) == 60) = false := by rw [e93]; decide
                      have f42 : ((s[0].toNat : Int) == 42) = false := by rw [e93]; decide
                      have f95 : ((s[0].toNat : Int) == 95) = false := by rw [e93]; decide
                      have f33 : ((s[0].toNat : Int) == 33) = false := by rw [e93]; decide
                      have f91 : ((s[0].toNat : Int) == 91) = false := by rw [e93]; decide
                      have f93 : ((s[0].toNat : Int) == 93) = true := by rw [e93]; decide
                      have C := Lib.hid hc
                      clear hc HF hw ht e93 e0 e92 e38 e96 e60 e42 e95 e33 e91
                      go_enter Tryz.func18, Tryz.ntmps18
                      go_wp2_with fail
                      refine C.out.mono ?_
                      rintro e w1 ⟨rfl, b1⟩
                      go_wp2
                      go_ret2
                      exact ⟨by rw [HR.out]; rfl, b1⟩
                    · by_cases e32 : s[0] = 32
                      · have hc := tkLineEnd_any s w (by omega)
                        obtain ⟨t, ht⟩ := lineTk_brk s.data.toList
                        have HR := Lib.hid (show firstTk s.data.toList = (.brk t, (lineTk s.data.toList).2) from by rw [HF.out, e32]; exact Prod.ext ht rfl)
                        unfold brkV at hc
                        rw [ht, show (Tk.brk t == Tk.brk true) = t from by cases t <;> rfl] at hc
                        generalize (lineTk s.data.toList).2 = n at *
                        have f0 : ((s[0].toNat : Int) == 0) = false := by rw [e32]; decide
                        have f92 : ((s[0].toNat : Int) == 92) = false := by rw [e32]; decide
                        have f38 : ((s[0].toNat : Int) == 38) = false := by rw [e32]; decide
                        have f96 : ((s[0].toNat : Int) == 96) = false := by rw [e32]; decide
                        have f60 : ((s[0].toNat : Int) == 60) = false := by rw [e32]; decide
                        have f42 : ((s[0].toNat : Int) == 42) = false := by rw [e32]; decide
                        have f95 : ((s[0].toNat : Int) == 95) = false := by rw [e32]; decide
                        have f33 : ((s[0].toNat : Int) == 33) = false := by rw [e32]; decide
                        have f91 : ((s[0].toNat : Int) == 91) = false := by rw [e32]; decide
                        have f93 : ((s[0].toNat : Int) == 93) = false := by rw [e32]; decide
                        have f32 : ((s[0].toNat : Int) == 32) = true := by rw [e32]; decide
                        have C := Lib.hid hc
                        clear hc HF hw ht e32 e0 e92 e38 e96 e60 e42 e95 e33 e91 e93
                        go_enter Tryz.func18, Tryz.ntmps18
                        go_wp2_with fail
                        refine C.out.mono ?_
                        rintro e w1 ⟨rfl, b1⟩
                        go_wp2
                        go_ret2
                        exact ⟨by rw [HR.out]; rfl, b1⟩
                      · by_cases e10 : s[0] = 10
                        · have hc := tkLineEnd_any s w (by omega)
                          obtain ⟨t, ht⟩ := lineTk_brk s.data.toList
                          have HR := Lib.hid (show firstTk s.data.toList = (.brk t, (lineTk s.data.toList).2) from by rw [HF.out, e10]; exact Prod.ext ht rfl)
                          unfold brkV at hc
                          rw [ht, show (Tk.brk t == Tk.brk true) = t from by cases t <;> rfl] at hc
                          generalize (lineTk s.data.toList).2 = n at *
                          have f0 : ((s[0].toNat : Int) == 0) = false := by rw [e10]; decide
                          have f92 : ((s[0].toNat : Int) == 92) = false := by rw [e10]; decide
                          have f38 : ((s[0].toNat : Int) == 38) = false := by rw [e10]; decide
                          have f96 : ((s[0].toNat : Int) == 96) = false := by rw [e10]; decide
                          have f60 : ((s[0].toNat : Int) == 60) = false := by rw [e10]; decide
                          have f42 : ((s[0].toNat : Int) == 42) = false := by rw [e10]; decide
                          have f95 : ((s[0].toNat : Int) == 95) = false := by rw [e10]; decide
                          have f33 : ((s[0].toNat : Int) == 33) = false := by rw [e10]; decide
                          have f91 : ((s[0].toNat : Int) == 91) = false := by rw [e10]; decide
                          have f93 : ((s[0].toNat : Int) == 93) = false := by rw [e10]; decide
                          have f32 : ((s[0].toNat : Int) == 32) = false := by rw [e10]; decide
                          have f10 : ((s[0].toNat : Int) == 10) = true := by rw [e10]; decide
                          have C := Lib.hid hc
                          clear hc HF hw ht e10 e0 e92 e38 e96 e60 e42 e95 e33 e91 e93 e32
                          go_enter Tryz.func18, Tryz.ntmps18
                          go_wp2_with fail
                          refine C.out.mono ?_
                          rintro e w1 ⟨rfl, b1⟩
                          go_wp2
                          go_ret2
                          exact ⟨by rw [HR.out]; rfl, b1⟩
                        · have HR := Lib.hid (show firstTk s.data.toList = (.no, 0) from by rw [HF.out]; simp [e0, e92, e38, e96, e60, e42, e95, e33, e91, e93, e32, e10])
                          have f0 : ((s[0].toNat : Int) == 0) = false := by
                            have := eq_byte s[0] 0
                            rw [show ((0 : UInt8).toNat : Int) = 0 from rfl] at this
                            rw [this]; simpa using e0
                          have f92 : ((s[0].toNat : Int) == 92) = false := by
                            have := eq_byte s[0] 92
                            rw [show ((92 : UInt8).toNat : Int) = 92 from rfl] at this
                            rw [this]; simpa using e92
                          have f38 : ((s[0].toNat : Int) == 38) = false := by
                            have := eq_byte s[0] 38
                            rw [show ((38 : UInt8).toNat : Int) = 38 from rfl] at this
                            rw [this]; simpa using e38
                          have f96 : ((s[0].toNat : Int) == 96) = false := by
                            have := eq_byte s[0] 96
                            rw [show ((96 : UInt8).toNat : Int) = 96 from rfl] at this
                            rw [this]; simpa using e96
                          have f60 : ((s[0].toNat : Int) == 60) = false := by
                            have := eq_byte s[0] 60
                            rw [show ((60 : UInt8).toNat : Int) = 60 from rfl] at this
                            rw [this]; simpa using e60
                          have f42 : ((s[0].toNat : Int) == 42) = false := by
                            have := eq_byte s[0] 42
                            rw [show ((42 : UInt8).toNat : Int) = 42 from rfl] at this
                            rw [this]; simpa using e42
                          have f95 : ((s[0].toNat : Int) == 95) = false := by
                            have := eq_byte s[0] 95
                            rw [show ((95 : UInt8).toNat : Int) = 95 from rfl] at this
                            rw [this]; simpa using e95
                          have f33 : ((s[0].toNat : Int) == 33) = false := by
                            have := eq_byte s[0] 33
                            rw [show ((33 : UInt8).toNat : Int) = 33 from rfl] at this
                            rw [this]; simpa using e33
                          have f91 : ((s[0].toNat : Int) == 91) = false := by
                            have := eq_byte s[0] 91
                            rw [show ((91 : UInt8).toNat : Int) = 91 from rfl] at this
                            rw [this]; simpa using e91
                          have f93 : ((s[0].toNat : Int) == 93) = false := by
                            have := eq_byte s[0] 93
                            rw [show ((93 : UInt8).toNat : Int) = 93 from rfl] at this
                            rw [this]; simpa using e93
                          have f32 : ((s[0].toNat : Int) == 32) = false := by
                            have := eq_byte s[0] 32
                            rw [show ((32 : UInt8).toNat : Int) = 32 from rfl] at this
                            rw [this]; simpa using e32
                          have f10 : ((s[0].toNat : Int) == 10) = false := by
                            have := eq_byte s[0] 10
                            rw [show ((10 : UInt8).toNat : Int) = 10 from rfl] at this
                            rw [this]; simpa using e10
                          clear HF hw e0 e92 e38 e96 e60 e42 e95 e33 e91 e93 e32 e10
                          go_enter Tryz.func18, Tryz.ntmps18
                          go_wp2
                          go_ret2
                          exact ⟨by rw [HR.out]; rfl, Below.refl _ _⟩
end Go.Proofs.YteihmgcphbijhaaGreatDoor
namespace Go.Proofs.YteihmgcphbijhaaGreatDoor
open Go.RowKit
set_option linter.unusedSimpArgs false
set_option linter.unusedVariables false
set_option maxRecDepth 100000
set_option maxHeartbeats 2000000 in
theorem tkNext_any (s : ByteArray) (i : Nat) (hi : i < s.size) (w : World) (hw : TkW w) (hs : s.size ≤ 4000000000) :
    Calls Tryz.prog 13 #[.string s, .int .i64 i] w fun e w' => e = .returned (.tuple #[tkV (nextL (s.data.toList.drop i)).1, .int .i64 ((i : Int) + (nextL (s.data.toList.drop i)).2)]) ∧ Below w.heap.size w w' := by
  have hsl := fun W => slice_lo s (i : Int) i rfl (by omega) W
  have hT : (s.extract i s.size).size = s.size - i := by rw [ByteArray.size_extract]; omega
  have c1 := fun W h => tkFirst_any (s.extract i s.size) (by omega) W h (by omega)
  have c2 := fun W => tkWordAt_any (s.extract i s.size) (by omega) W (by omega)
  have hne : s.data.toList.drop i ≠ [] := by intro e; have := congrArg List.length e; rw [List.length_drop, size_len'] at this; simp at this; omega
  have hl1 := first_len _ hne
  have hl2 := word_len _ hne
  rw [List.length_drop, size_len'] at hl1 hl2
  rw [drop_ext] at c1 c2
  have HN := Lib.hid (show nextL (s.data.toList.drop i) = if (firstTk (s.data.toList.drop i)).2 = 0 then (.word ((s.data.toList.drop i).take (wordTk (s.data.toList.drop i)).2), (wordTk (s.data.toList.drop i)).2) else firstTk (s.data.toList.drop i) from rfl)
  generalize nextL (s.data.toList.drop i) = r at *
  generalize firstTk (s.data.toList.drop i) = x at *
  generalize (wordTk (s.data.toList.drop i)).2 = z at *
  obtain ⟨t, n⟩ := x
  unfold tkR at c1
  simp only at c1 hl1
  have HW := Lib.hid hw
  have C1 := Lib.hid c1
  have C2 := Lib.hid c2
  clear c1 c2 hw hT hne
  by_cases hn : n = 0
  · subst hn
    have hr := HN.out
    rw [if_pos rfl] at hr
    subst hr
    have HV := Lib.hid (show tkV (.word ((s.data.toList.drop i).take z)) = .iface 60 (.string ⟨((s.data.toList.drop i).take z).toArray⟩) from rfl)
    generalize tkV t = v at *
    clear HN
    go_enter Tryz.func13, Tryz.ntmps13
    go_wp2_with fail
    refine (C1.out _ HW.out).mono ?_
    rintro e w1 ⟨rfl, b1⟩
    go_wp2_with fail
    refine (C2.out _).mono ?_
    rintro e w2 ⟨rfl, b2⟩
    go_wp2
    go_ret2
    exact ⟨by rw [HV.out]; rfl, b1.then b2⟩
  · have hr := HN.out
    rw [if_neg hn] at hr
    subst hr
    have f0 : ((n : Int) == 0) = false := by simpa using hn
    simp only
    generalize tkV t = v at *
    clear HN hn
    go_enter Tryz.func13, Tryz.ntmps13
    go_wp2_with fail
    refine (C1.out _ HW.out).mono ?_
    rintro e w1 ⟨rfl, b1⟩
    go_wp2
    go_ret2
    exact ⟨rfl, b1⟩
end Go.Proofs.YteihmgcphbijhaaGreatDoor
namespace Go.Proofs.YteihmgcphbijhaaGreatDoor
open Go.RowKit
set_option linter.unusedSimpArgs false
set_option linter.unusedVariables false
set_option maxRecDepth 100000
theorem codeGo_ne (l : List UInt8) (n : Nat) : ∀ f k, (codeGo l n f k).1 ≠ .no
  | 0, k => by rw [codeGo]; exact fun e => by cases e
  | f + 1, k => by
    rw [codeGo]
    split
    · exact fun e => by cases e
    · simp only
      split
      · exact fun e => by cases e
      · exact codeGo_ne l n f _
theorem first_ne (l : List UInt8) (h : (firstTk l).2 ≠ 0) : (firstTk l).1 ≠ .no := by
  revert h
  unfold firstTk
  simp only
  split
  · intro _; obtain ⟨t, ht⟩ := atomL_atom l; rw [ht]; exact fun e => by cases e
  · split
    · unfold escapedL
      split
      · intro _ e; cases e
      · split
        · split
          · intro _ e; cases e
          · intro h; exact absurd rfl h
        · intro h; exact absurd rfl h
    · split
      · intro _ e; cases e
      · split
        · intro _; exact codeGo_ne _ _ _ _
        · split
          · intro _
            unfold pointedL
            simp only
            split
            · exact fun e => by cases e
            · split
              · exact fun e => by cases e
              · exact fun e => by cases e
          · split
            · intro _ e; cases e
            · split
              · intro _; obtain ⟨t, ht⟩ := markTk_mark l; rw [ht]; exact fun e => by cases e
              · split
                · intro _; obtain ⟨t, ht⟩ := lineTk_brk l; rw [ht]; exact fun e => by cases e
                · intro h; exact absurd rfl h
theorem next_ne (l : List UInt8) : (nextL l).1 ≠ .no := by
  unfold nextL
  split
  · exact fun e => by cases e
  · rename_i h; exact first_ne l h
end Go.Proofs.YteihmgcphbijhaaGreatDoor

namespace Go.Proofs.YteihmgcphbijhaaGreatDoor
open Go.RowKit Go.Maps
set_option linter.unusedSimpArgs false
set_option linter.unusedVariables false
set_option maxRecDepth 100000
theorem trim_pre (x : List UInt8) (c : UInt8) (h : Lib.hasPrefix x [c] = true) : Lib.trimPrefix x [c] = x.drop 1 := by unfold Lib.trimPrefix; rw [if_pos h]; rfl
theorem pre_two (x : List UInt8) (h : Lib.hasPrefix x [94] = true) : Lib.hasPrefix x [35] = false := by
  match x, h with
  | c :: x, h =>
    have : 94 = c := by simpa [Lib.hasPrefix] using h
    subst this
    rfl
theorem foldL_nil : foldL [] = [] := by decide +kernel
theorem asked_split (D : List Dfn) (img : Bool) (x behind : List UInt8) : askedL D img x behind =
    if !img && (askR D x).2 then some ((askR D x).1, 0) else if (ldR D x behind).2.2 then some (linkN img (ldR D x behind).1.url (ldR D x behind).1.ttl, (ldR D x behind).2.1) else none := by
  have hl : (if (insideL behind).2.2.2 = true then some (linkN img (insideL behind).1 (insideL behind).2.1, (insideL behind).2.2.1)
      else match pairL behind with
        | some (y, n) => if (findL D y false).2 = true then foundN img (findL D y false) n else if foldL y = [] then foundN img (findL D x false) n else none
        | none => foundN img (findL D x false) 0) = if (ldR D x behind).2.2 then some (linkN img (ldR D x behind).1.url (ldR D x behind).1.ttl, (ldR D x behind).2.1) else none := by
    unfold ldR
    by_cases hi : (insideL behind).2.2.2 = true
    · rw [if_pos hi, if_pos hi]
      simp
    · rw [if_neg hi, if_neg hi]
      unfold brL
      cases hp : pairL behind with
      | none =>
        simp only
        rw [if_pos foldL_nil]
        unfold foundN
        rfl
      | some z =>
        obtain ⟨y, n⟩ := z
        simp only
        by_cases hf : foldL y = []
        · rw [if_pos hf, if_pos hf, if_neg (fun e => findL_fold e hf)]
          unfold foundN
          rfl
        · rw [if_neg hf, if_neg hf]
          unfold foundN
          cases (findL D y false).2 <;> simp
  have key : ∀ T1 T2 : Option (Iln × Nat), T1 = T2 → (if (!img && Lib.hasPrefix x [94] && (findL D (x.drop 1) true).2) = true then some ((⟨10, 0, (findL D (x.drop 1) true).1.nm, [], []⟩ : Iln), 0)
      else if (!img && Lib.hasPrefix x [35] && anchorL (x.drop 1)) = true then some (⟨11, 0, x.drop 1, [], []⟩, 0) else T1) = if (!img && (askR D x).2) = true then some ((askR D x).1, 0) else T2 := by
    intro T1 T2 e
    subst e
    unfold askR
    cases h1 : Lib.hasPrefix x [94] with
    | true =>
      rw [pre_two x h1]
      cases img <;> cases h3 : (findL D (x.drop 1) true).2 <;> rfl
    | false =>
      cases h2 : Lib.hasPrefix x [35] with
      | true =>
        rw [trim_pre x 35 h2]
        cases img <;> cases h3 : anchorL (x.drop 1) <;> simp [h3]
      | false => cases img <;> rfl
  exact key _ _ hl
theorem askR_kd (D : List Dfn) (x : List UInt8) : (askR D x).1.kd ≠ 6 ∧ (askR D x).1.kd ≠ 5 := by
  unfold askR
  split
  · exact ⟨by show (10 : Int) ≠ 6; decide, by show (10 : Int) ≠ 5; decide⟩
  · exact ⟨by show (11 : Int) ≠ 6; decide, by show (11 : Int) ≠ 5; decide⟩
theorem ints_keep {B Bh : Nat} {w w' : World} {v : Value} {zs : List Int} (h : w.ownsInts Bh 3 .i64 v zs) (k : KI B w w') : w'.ownsInts Bh 3 .i64 v zs := by
  refine ⟨⟨h.1.1, ?_⟩, h.2⟩
  rcases h.1.2 with hn | ⟨g, cap, cur, e, hB, hg, rest⟩
  · exact Or.inl hn
  · exact Or.inr ⟨g, cap, cur, e, hB, k.rest g cur _ _ (by unfold Nd3; decide) hg, rest⟩
structure Ctx (w0 w : World) (tbv hv : Value) (D : List Dfn) (al : List Nat) (s : ByteArray) : Prop where
  tk : TkW w0
  tb : TbAt w0 tbv D
  below : Below w0.heap.size w0 w
  hop : ∃ Bh, w.ownsInts Bh 3 .i64 hv (natI al)
  ok : ∀ p ∈ al, Hop s.data.toList p
  asc : al.Pairwise (· < ·)
  len : al.length ≤ 1000001
  Dl : D.length ≤ 1000
  sl : s.size ≤ 1000
theorem Ctx.keep {w0 w w' : World} {tbv hv : Value} {D : List Dfn} {al : List Nat} {s : ByteArray} (h : Ctx w0 w tbv hv D al s) (k : KI w0.heap.size w w') : Ctx w0 w' tbv hv D al s :=
  ⟨h.tk, h.tb, h.below.trans k.below, by obtain ⟨Bh, ho⟩ := h.hop; exact ⟨Bh, ints_keep ho k⟩, h.ok, h.asc, h.len, h.Dl, h.sl⟩
theorem zok_of {E : List Ent} {Z : List (Itm × Value)} {O : List Opn} {nsh C i : Nat} (h : Rep E Z O nsh) (k : PotSt C i E) (hi : i ≤ 1000) (hC : C * i ≤ 1000000) : ZOk Z := by
  have hl := h.len
  have hr : Z.map Prod.fst = (E.map entI).reverse := by rw [h.its, List.map_reverse]
  refine ⟨by rw [hl]; have := k.len; omega, ?_, ?_, ?_⟩
  · intro x hx
    have hm : x.1 ∈ E.map entI := by
      have : x.1 ∈ Z.map Prod.fst := List.mem_map.2 ⟨x, hx, rfl⟩
      rw [hr] at this
      exact List.mem_reverse.1 this
    have := k.sg x.1 hm
    exact ⟨this.1, by omega⟩
  · rw [hr]; exact allI_rev k.wd
  · rw [hr, potI_reverse]; have := k.pot; omega
end Go.Proofs.YteihmgcphbijhaaGreatDoor

namespace Go.Proofs.YteihmgcphbijhaaGreatDoor
open Go.RowKit Go.Maps
set_option linter.unusedSimpArgs false
set_option linter.unusedVariables false
set_option maxRecDepth 100000
theorem closeI_none {D : List Dfn} {S : List UInt8} {f t : Nat} {l : List Ent} (h : lastMk l = none) : closeI D S f t l = (.it (ndI [wordsI 0 [93]]) :: l, 0) := by
  unfold closeI; rw [h]
theorem closeI_fail {D : List Dfn} {S : List UInt8} {f t : Nat} {l : List Ent} {m : List Itm} {img sh : Bool} {pos : Nat} {l' : List Ent} (h : lastMk l = some (m, (img, pos, sh), l'))
    (ha : sh = false → askedL D img ((S.take f).drop pos) (S.drop t) = none) : closeI D S f t l = (.it (ndI [wordsI 0 [93]]) :: m.map Ent.it ++ .it (ndI [wordsI 0 (markOf img)]) :: l', 0) := by
  unfold closeI; rw [h]
  have e : (if sh = true then none else askedL D img ((S.take f).drop pos) (S.drop t)) = none := by
    cases sh with
    | true => rfl
    | false => rw [if_neg (by simp)]; exact ha rfl
  simp only [e]
theorem closeI_some {D : List Dfn} {S : List UInt8} {f t : Nat} {l : List Ent} {m : List Itm} {img : Bool} {pos : Nat} {l' : List Ent} {x : Iln} {n : Nat} (h : lastMk l = some (m, (img, pos, false), l'))
    (ha : askedL D img ((S.take f).drop pos) (S.drop t) = some (x, n)) : closeI D S f t l = if x.kd = 6 then (.it (ndI [{ x with txt := textI (groupI m.reverse) }]) :: l', n)
      else if x.kd = 5 then (.it (ndI (x :: deepI (groupI m.reverse))) :: l'.map shutE, n) else (.it (ndI [x]) :: l', n) := by
  unfold closeI; rw [h]
  have e : (if (false : Bool) = true then none else askedL D img ((S.take f).drop pos) (S.drop t)) = some (x, n) := by rw [if_neg (by simp)]; exact ha
  simp only [e]
section
variable {w0 w : World} {pb : Nat} {s : ByteArray} {atv tbv hv iv ov : Value} {nsh : Nat} {Z : List (Itm × Value)} {O : List Opn} {D : List Dfn} {al : List Nat} {E : List Ent} {C frm tow : Nat}
/-- What stands at a step's end. -/
def Done (w0 w : World) (pb : Nat) (s : ByteArray) (atv tbv hv : Value) (E : List Ent) (w' : World) : Prop :=
  (∃ iv' ov' nsh' Z' O', RawSt w' w0.heap.size pb s atv tbv hv iv' ov' nsh' Z' O' ∧ Rep E Z' O' nsh') ∧ KI w0.heap.size w w'
/-- The sign itself, as words. -/
theorem shut_words {W : World} (h : RawSt W w0.heap.size pb s atv tbv hv iv ov nsh Z O) (hr : Rep E Z O nsh) (hZ : Z.length ≤ 1000) :
    Calls Tryz.prog 44 #[.string ⟨#[93]⟩] W fun e w1 => ∃ v, e = .returned v ∧ (RawSt w1 w0.heap.size pb s atv tbv hv iv ov nsh Z O) ∧ KI w0.heap.size W w1 ∧
      Calls Tryz.prog 24 #[.pointer (some ⟨pb, 0, none⟩), v] w1 fun e w' => e = .returned (.tuple #[]) ∧ Done w0 w1 pb s atv tbv hv (.it (ndI [wordsI 0 [93]]) :: E) w' := by
  refine (inWords_any ⟨#[93]⟩ W).mono ?_
  rintro e w1 ⟨⟨v, rfl, hv⟩, b1⟩
  have h1 := h.below b1
  refine ⟨v, rfl, h1, KI.of b1 h.baseLe, ?_⟩
  refine (inAdd_any h1 v _ hv (by omega)).mono ?_
  rintro e w2 ⟨rfl, ⟨iv', h2⟩, k2⟩
  exact ⟨rfl, ⟨iv', ov, nsh, _, O, h2, hr.it _ _⟩, k2⟩
set_option maxHeartbeats 4000000 in
theorem close_none (h : RawSt w w0.heap.size pb s atv tbv hv iv ov nsh Z O) (hr : Rep E Z O nsh) (hZ : Z.length ≤ 1000) (hn : lastMk E = none) :
    Calls Tryz.prog 43 #[.pointer (some ⟨pb, 0, none⟩), .int .i64 frm, .int .i64 tow] w fun e w' =>
      e = .returned (.int .i64 ((tow : Int) + (closeI D s.data.toList frm tow E).2)) ∧ Done w0 w pb s atv tbv hv (closeI D s.data.toList frm tow E).1 w' := by
  obtain rfl := hr.none hn
  rw [closeI_none hn]
  have cp := pop_none h
  have cw := fun W hb => shut_words (W := W) (h.below hb) hr hZ
  have HBL := Lib.hid h.baseLe
  clear h hr hn
  go_enter Tryz.func43, Tryz.ntmps43
  go_wp2_with fail
  refine cp.mono ?_
  rintro e w1 ⟨rfl, b1⟩
  have b2 := b1.alloc b1.size (.cells #[.string ⟨#[]⟩, .int .i64 0, .int .i64 0] 103)
  have cw1 := cw _ b2
  have HB2 := Lib.hid b2
  clear cp cw b1 b2
  go_wp2_with fail
  refine cw1.mono ?_
  rintro e w3 ⟨v3, rfl, h3, k3, ca⟩
  have HK3 := Lib.hid k3
  clear cw1 h3 k3
  go_wp2_with fail
  refine ca.mono ?_
  rintro e w4 ⟨rfl, hd, k4⟩
  have HD := Lib.hid hd
  have HK4 := Lib.hid k4
  clear ca hd k4
  go_wp2
  go_ret
  exact ⟨by simp, HD.out, (KI.of HB2.out HBL.out).trans (HK3.out.trans HK4.out)⟩
set_option maxHeartbeats 8000000 in
theorem close_shut {m : List Itm} {img : Bool} {pos : Nat} {l' : List Ent} (h : RawSt w w0.heap.size pb s atv tbv hv iv ov nsh Z O) (hr : Rep E Z O nsh) (hZ : Z.length ≤ 1000) (hO : O.length ≤ 1000) (hm : lastMk E = some (m, (img, pos, true), l')) :
    Calls Tryz.prog 43 #[.pointer (some ⟨pb, 0, none⟩), .int .i64 frm, .int .i64 tow] w fun e w' =>
      e = .returned (.int .i64 ((tow : Int) + (closeI D s.data.toList frm tow E).2)) ∧ Done w0 w pb s atv tbv hv (closeI D s.data.toList frm tow E).1 w' := by
  obtain ⟨rfl, hsh, _⟩ := hr.last hm
  rw [closeI_fail hm (fun e => by cases e)]
  have cp := pop_some h (by simp at hO; omega) (by have := hr.le; omega)
  dsimp only at cp
  rw [show (!(!img && decide ((opnL 0 l'.reverse).length < nsh))) = false from by rw [← hsh]; rfl] at cp
  have hf := hr.fail hm
  have HBL := Lib.hid h.baseLe
  unfold opV at cp
  dsimp only at cp
  generalize (opnL 0 l'.reverse) = O' at *
  generalize (markOf img).toArray = mk at *
  clear h hr hsh hm
  go_enter Tryz.func43, Tryz.ntmps43
  go_wp2_with fail
  refine cp.mono ?_
  rintro e w1 ⟨rfl, ⟨ov', h1⟩, k1⟩
  have b2 := (Below.refl w1.heap.size w1).alloc (Nat.le_refl _) (.cells #[.string ⟨mk⟩, .int .i64 l'.length, .int .i64 pos] 103)
  have cw1 := shut_words (w0 := w0) (h1.below b2) hf hZ
  have HK2 := Lib.hid (k1.thenB b2 h1.baseLe)
  clear cp k1 b2 h1
  go_wp2_with fail
  refine cw1.mono ?_
  rintro e w3 ⟨v3, rfl, h3, k3, ca⟩
  have HK3 := Lib.hid k3
  clear cw1 h3 k3
  go_wp2_with fail
  refine ca.mono ?_
  rintro e w4 ⟨rfl, hd, k4⟩
  have HD := Lib.hid hd
  have HK4 := Lib.hid k4
  clear ca hd k4
  go_wp2
  go_ret
  exact ⟨by simp, HD.out, HK2.out.trans (HK3.out.trans HK4.out)⟩
set_option maxHeartbeats 8000000 in
theorem close_open {m : List Itm} {img : Bool} {pos : Nat} {l' : List Ent} (h : RawSt w w0.heap.size pb s atv tbv hv iv ov nsh Z O) (hc : Ctx w0 w tbv hv D al s) (hr : Rep E Z O nsh) (hz : ZOk Z) (hO : O.length ≤ 1000) (hm : lastMk E = some (m, (img, pos, false), l')) (hpf : pos ≤ frm) (hfs : frm ≤ s.size) (hts : tow ≤ s.size) :
    Calls Tryz.prog 43 #[.pointer (some ⟨pb, 0, none⟩), .int .i64 frm, .int .i64 tow] w fun e w' =>
      e = .returned (.int .i64 ((tow : Int) + (closeI D s.data.toList frm tow E).2)) ∧ Done w0 w pb s atv tbv hv (closeI D s.data.toList frm tow E).1 w' := by
  obtain ⟨rfl, hsh, hll, hrest⟩ := hr.last hm
  have cp := pop_some h (by simp at hO; omega) (by have := hr.le; omega)
  dsimp only at cp
  rw [show (!(!img && decide ((opnL 0 l'.reverse).length < nsh))) = true from by rw [← hsh]; rfl] at cp
  have hx : (s.extract pos frm).data.toList = (s.data.toList.take frm).drop pos := by
    rw [ext_bytes]
    simp [List.drop_take]
  have hxs : (s.extract pos frm).size ≤ 1000 := by have := hc.sl; simp; omega
  have hS := asked_split D img ((s.data.toList.take frm).drop pos) (s.data.toList.drop tow)
  have hsl := fun W => slice_lohi s (pos : Int) (frm : Int) pos frm rfl rfl hpf hfs W
  have ca := fun (W : World) (nsh' : Nat) (ov' : Value) (hW : RawSt W w0.heap.size pb s atv tbv hv iv ov' nsh' Z (opnL 0 l'.reverse)) (hb : Below w0.heap.size w0 W) => asked_any hW (hc.tb.below hb) (s.extract pos frm) hxs hc.Dl
  rw [hx] at ca
  have cl := fun (W : World) (nsh' : Nat) (ov' : Value) (hW : RawSt W w0.heap.size pb s atv tbv hv iv ov' nsh' Z (opnL 0 l'.reverse)) (k : KI w0.heap.size w W) => leads_any hW (hc.tb.below ((hc.keep k).below)) ((hc.tk.below (hc.keep k).below).1) (s.extract pos frm) hxs hc.Dl hc.sl tow hts ((hc.keep k).hop.choose_spec) hc.ok hc.asc hc.len
  rw [hx] at cl
  have HBL := Lib.hid h.baseLe
  have HB0 := Lib.hid hc.below
  have HRF := Lib.hid (hr.fail hm)
  have HRS := Lib.hid (hr.swap hm)
  have HRL := Lib.hid (hr.link hm)
  have HF := Lib.hid (@closeI_fail D s.data.toList frm tow E m img false pos l' hm)
  have HSM := Lib.hid (fun (x : Iln) (n : Nat) => @closeI_some D s.data.toList frm tow E m img pos l' x n hm)
  have HM := Lib.hid hm
  have HS := Lib.hid hS
  have HIL := Lib.hid hll
  have HDR := Lib.hid hrest.2.1
  have HOL : (opnL 0 l'.reverse).length ≤ 1000 := by simp at hO; omega
  have HKD := Lib.hid (askR_kd D ((s.data.toList.take frm).drop pos))
  unfold opV at cp
  dsimp only at cp
  generalize closeI D s.data.toList frm tow E = RR at *
  generalize (opnL 0 l'.reverse) = O' at *
  generalize askR D ((s.data.toList.take frm).drop pos) = AR at *
  generalize ldR D ((s.data.toList.take frm).drop pos) (s.data.toList.drop tow) = LR at *
  obtain ⟨ax, aok⟩ := AR
  obtain ⟨ld, ln, lok⟩ := LR
  dsimp only at ca cl
  clear h hr hsh hm hS hll hrest hc hx hO
  go_enter Tryz.func43, Tryz.ntmps43
  go_wp2_with fail
  refine cp.mono ?_
  rintro e w1 ⟨rfl, ⟨ov', h1⟩, k1⟩
  have b2 := (Below.refl w1.heap.size w1).alloc (Nat.le_refl _) (.cells #[.string ⟨(markOf img).toArray⟩, .int .i64 l'.length, .int .i64 pos] 103)
  have h2 := h1.below b2
  have k2 := k1.thenB b2 h1.baseLe
  have cb : OpAt (w1.alloc (.cells #[.string ⟨(markOf img).toArray⟩, .int .i64 l'.length, .int .i64 pos] 103)) w1.heap.size (.string ⟨(markOf img).toArray⟩) (.int .i64 l'.length) (.int .i64 pos) := heap_alloc_new _ _
  obtain ⟨z0, z1, z2, zf⟩ := cb.cells
  obtain ⟨c0, c1, c2, c3, c4, c5, c6, cf, hlt⟩ := h2.bcells
  have H2 := Lib.hid h2
  have HK2 := Lib.hid k2
  have CB := Lib.hid cb
  clear cp k1 b2 h1 h2 k2 cb c1 c2 c3 c4 c5 c6 cf
  go_wp2_with fail
  go_quiet (fail)
  go_wp2_with fail
  have b3 := below_drewN' (Below.refl (w1.alloc (.cells #[.string ⟨(markOf img).toArray⟩, .int .i64 l'.length, .int .i64 pos] 103)).heap.size (w1.alloc (.cells #[.string ⟨(markOf img).toArray⟩, .int .i64 l'.length, .int .i64 pos] 103))) nq
  have H3 := Lib.hid (H2.out.below b3)
  have HK3 := Lib.hid (HK2.out.thenB b3 H2.out.baseLe)
  have hgb : w1.heap.size < ((w1.alloc (.cells #[.string ⟨(markOf img).toArray⟩, .int .i64 l'.length, .int .i64 pos] 103)).drewN nq).heap.size := by simp
  have CB3 := Lib.hid (show OpAt _ w1.heap.size (.string ⟨(markOf img).toArray⟩) (.int .i64 l'.length) (.int .i64 pos) from (b3.block w1.heap.size (by simp)).trans CB.out)
  have ca1 := ca _ _ _ H3.out (HB0.out.trans HK3.out.below)
  clear b3 H2 HK2 CB z0 z1 z2 zf c0 hlt ca
  generalize (w1.alloc (.cells #[.string ⟨(markOf img).toArray⟩, .int .i64 l'.length, .int .i64 pos] 103)).drewN nq = w3 at *
  generalize w1.heap.size = gb at *
  refine ca1.mono ?_
  rintro e w4 ⟨rfl, b4⟩
  have H4 := Lib.hid (H3.out.below b4)
  have HK4 := Lib.hid (HK3.out.thenB b4 H3.out.baseLe)
  have cb4 : OpAt w4 gb (.string ⟨(markOf img).toArray⟩) (.int .i64 l'.length) (.int .i64 pos) := (b4.block gb hgb).trans CB3.out
  have hgb4 : gb < w4.heap.size := Nat.lt_of_lt_of_le hgb b4.size
  have HGB := Lib.hid hgb4
  have b5 := (Below.refl w4.heap.size w4).alloc (Nat.le_refl _) (.cells #[.int .i64 ax.kd, .int .i64 ax.dp, .string ⟨ax.txt.toArray⟩, .string ⟨ax.url.toArray⟩, .string ⟨ax.ttl.toArray⟩] 28)
  have H5 := Lib.hid (H4.out.below b5)
  have HK5 := Lib.hid (HK4.out.thenB b5 H4.out.baseLe)
  have cb5 : OpAt (w4.alloc (.cells #[.int .i64 ax.kd, .int .i64 ax.dp, .string ⟨ax.txt.toArray⟩, .string ⟨ax.url.toArray⟩, .string ⟨ax.ttl.toArray⟩] 28)) gb (.string ⟨(markOf img).toArray⟩) (.int .i64 l'.length) (.int .i64 pos) := (b5.block gb hgb4).trans cb4
  have HX5 := Lib.hid (heap_alloc_new w4 (.cells #[.int .i64 ax.kd, .int .i64 ax.dp, .string ⟨ax.txt.toArray⟩, .string ⟨ax.url.toArray⟩, .string ⟨ax.ttl.toArray⟩] 28))
  obtain ⟨x0, x1, x2, x3, x4⟩ := box5 w4 (.int .i64 ax.kd) (.int .i64 ax.dp) (.string ⟨ax.txt.toArray⟩) (.string ⟨ax.url.toArray⟩) (.string ⟨ax.ttl.toArray⟩) 28
  obtain ⟨z0, z1, z2, zf⟩ := cb5.cells
  have CB5 := Lib.hid cb5
  have hgb5 : gb < (w4.alloc (.cells #[.int .i64 ax.kd, .int .i64 ax.dp, .string ⟨ax.txt.toArray⟩, .string ⟨ax.url.toArray⟩, .string ⟨ax.ttl.toArray⟩] 28)).heap.size := by simp; omega
  have HGB := Lib.hid hgb5
  clear H3 HK3 CB3 ca1 b4 hgb hgb4 hgb5 cb4 b5 cb5 zf
  unfold ilV
  cases aok with
  | true =>
    cases img with
    | false =>
      have hRR := HSM.out ax 0 (HS.out.trans (if_pos rfl))
      rw [if_neg HKD.out.1, if_neg HKD.out.2] at hRR
      have HRR := Lib.hid hRR
      clear hRR
      go_wp2_with fail
      have b6 := (Below.refl (w4.alloc (.cells #[.int .i64 ax.kd, .int .i64 ax.dp, .string ⟨ax.txt.toArray⟩, .string ⟨ax.url.toArray⟩, .string ⟨ax.ttl.toArray⟩] 28)).heap.size (w4.alloc (.cells #[.int .i64 ax.kd, .int .i64 ax.dp, .string ⟨ax.txt.toArray⟩, .string ⟨ax.url.toArray⟩, .string ⟨ax.ttl.toArray⟩] 28))).alloc (Nat.le_refl _) (.cells #[.int .i64 ax.kd, .int .i64 ax.dp, .string ⟨ax.txt.toArray⟩, .string ⟨ax.url.toArray⟩, .string ⟨ax.ttl.toArray⟩] 28)
      have cr := replace_any (H5.out.below b6) ⟨false, l'.length, pos⟩ (Nat.le_of_lt HIL.out) (.slice (some ⟨w4.heap.size + 1, 0, none⟩) 1 1) [ax] (NdAt.box (x := ax) (heap_alloc2_new _ _ _)) (by have := hz.len; omega)
      have HK6 := Lib.hid (HK5.out.thenB b6 H5.out.baseLe)
      clear b6
      refine cr.mono ?_
      rintro e w7 ⟨rfl, ⟨iv7, h7⟩, k7⟩
      have HD := Lib.hid (show Done w0 w pb s atv tbv hv RR.1 w7 from ⟨⟨iv7, ov', _, _, O', h7, by rw [HRR.out]; exact HRS.out _ _⟩, HK6.out.trans k7⟩)
      clear cr h7 k7 HK6
      go_wp2
      go_ret
      exact ⟨by rw [HRR.out]; simp, HD.out⟩
    | true =>
      have cl1 := cl _ _ _ H5.out HK5.out
      unfold dfV at cl1
      go_wp2_with fail
      clear x0 x1 x2 x3 x4 z0 z1 z2
      refine cl1.mono ?_
      rintro e w6 ⟨rfl, b6⟩
      have b7 := b6.alloc b6.size (.cells #[.string ⟨ld.nm.toArray⟩, .string ⟨ld.url.toArray⟩, .string ⟨ld.ttl.toArray⟩, .string ⟨ld.txt.toArray⟩, .bool ld.nt] 153)
      have H7 := Lib.hid (H5.out.below b7)
      have HK7 := Lib.hid (HK5.out.thenB b7 H5.out.baseLe)
      have cb7 : OpAt (w6.alloc (.cells #[.string ⟨ld.nm.toArray⟩, .string ⟨ld.url.toArray⟩, .string ⟨ld.ttl.toArray⟩, .string ⟨ld.txt.toArray⟩, .bool ld.nt] 153)) gb (.string ⟨(markOf true).toArray⟩) (.int .i64 l'.length) (.int .i64 pos) := (b7.block gb HGB.out).trans CB5.out
      obtain ⟨z0, z1, z2, zf⟩ := cb7.cells
      obtain ⟨y0, y1, y2, y3, y4⟩ := box5 w6 (.string ⟨ld.nm.toArray⟩) (.string ⟨ld.url.toArray⟩) (.string ⟨ld.ttl.toArray⟩) (.string ⟨ld.txt.toArray⟩) (.bool ld.nt) 153
      clear zf cb7 b6 b7 cl1 cl
      cases lok with
      | true =>
        have hRR := HSM.out (linkN true ld.url ld.ttl) ln (HS.out.trans ((if_neg (by simp)).trans (if_pos rfl)))
        rw [if_pos (show (linkN true ld.url ld.ttl).kd = 6 from rfl)] at hRR
        have HRR := Lib.hid hRR
        clear hRR
        have cr := lead_any H7.out hz ⟨true, l'.length, pos⟩ HIL.out ld HOL
        go_wp2_with fail
        refine cr.mono ?_
        rintro e w8 ⟨rfl, ⟨iv8, v8, nd, hnd, h8⟩, k8⟩
        have hd : Done w0 w pb s atv tbv hv RR.1 w8 := by
          refine ⟨⟨iv8, ov', _, _, O', h8, ?_⟩, HK7.out.trans k8⟩
          rw [HDR.out] at hnd
          rw [HRR.out, hnd]
          exact HRS.out _ _
        have HD := Lib.hid hd
        clear cr h8 k8 hd hnd
        go_wp2
        go_ret
        exact ⟨by rw [HRR.out]; first | rfl | simp, HD.out⟩
      | false =>
        have hRR := HF.out (fun _ => HS.out.trans ((if_neg (by simp)).trans (if_neg (by simp))))
        have HRR := Lib.hid hRR
        clear hRR
        have cw1 := shut_words (w0 := w0) H7.out HRF.out hz.len
        go_wp2_with fail
        refine cw1.mono ?_
        rintro e w8 ⟨v8, rfl, h8, k8, ca⟩
        have HK8 := Lib.hid k8
        clear cw1 h8 k8
        go_wp2_with fail
        refine ca.mono ?_
        rintro e w9 ⟨rfl, hd, k9⟩
        have HD := Lib.hid hd
        have HK9 := Lib.hid k9
        clear ca hd k9
        go_wp2
        go_ret
        exact ⟨by rw [HRR.out]; simp, by rw [HRR.out]; exact HD.out, HK7.out.trans (HK8.out.trans HK9.out)⟩
  | false =>
    cases img with
    | false =>
      have cl1 := cl _ _ _ H5.out HK5.out
      unfold dfV at cl1
      go_wp2_with fail
      clear x0 x1 x2 x3 x4 z0 z1 z2
      refine cl1.mono ?_
      rintro e w6 ⟨rfl, b6⟩
      have b7 := b6.alloc b6.size (.cells #[.string ⟨ld.nm.toArray⟩, .string ⟨ld.url.toArray⟩, .string ⟨ld.ttl.toArray⟩, .string ⟨ld.txt.toArray⟩, .bool ld.nt] 153)
      have H7 := Lib.hid (H5.out.below b7)
      have HK7 := Lib.hid (HK5.out.thenB b7 H5.out.baseLe)
      have cb7 : OpAt (w6.alloc (.cells #[.string ⟨ld.nm.toArray⟩, .string ⟨ld.url.toArray⟩, .string ⟨ld.ttl.toArray⟩, .string ⟨ld.txt.toArray⟩, .bool ld.nt] 153)) gb (.string ⟨(markOf false).toArray⟩) (.int .i64 l'.length) (.int .i64 pos) := (b7.block gb HGB.out).trans CB5.out
      obtain ⟨z0, z1, z2, zf⟩ := cb7.cells
      obtain ⟨y0, y1, y2, y3, y4⟩ := box5 w6 (.string ⟨ld.nm.toArray⟩) (.string ⟨ld.url.toArray⟩) (.string ⟨ld.ttl.toArray⟩) (.string ⟨ld.txt.toArray⟩) (.bool ld.nt) 153
      clear zf cb7 b6 b7 cl1 cl
      cases lok with
      | true =>
        have hRR := HSM.out (linkN false ld.url ld.ttl) ln (HS.out.trans ((if_neg (by simp)).trans (if_pos rfl)))
        rw [if_neg (show ¬ (linkN false ld.url ld.ttl).kd = 6 by show ¬ (5 : Int) = 6; decide), if_pos (show (linkN false ld.url ld.ttl).kd = 5 from rfl)] at hRR
        have HRR := Lib.hid hRR
        clear hRR
        have cr := lead_any H7.out hz ⟨false, l'.length, pos⟩ HIL.out ld HOL
        go_wp2_with fail
        refine cr.mono ?_
        rintro e w8 ⟨rfl, ⟨iv8, v8, nd, hnd, h8⟩, k8⟩
        have hd : Done w0 w pb s atv tbv hv RR.1 w8 := by
          refine ⟨⟨iv8, ov', _, _, O', h8, ?_⟩, HK7.out.trans k8⟩
          rw [HDR.out] at hnd
          rw [HRR.out, hnd]
          exact HRL.out _ _
        have HD := Lib.hid hd
        clear cr h8 k8 hd hnd
        go_wp2
        go_ret
        exact ⟨by rw [HRR.out]; first | rfl | simp, HD.out⟩
      | false =>
        have hRR := HF.out (fun _ => HS.out.trans ((if_neg (by simp)).trans (if_neg (by simp))))
        have HRR := Lib.hid hRR
        clear hRR
        have cw1 := shut_words (w0 := w0) H7.out HRF.out hz.len
        go_wp2_with fail
        refine cw1.mono ?_
        rintro e w8 ⟨v8, rfl, h8, k8, ca⟩
        have HK8 := Lib.hid k8
        clear cw1 h8 k8
        go_wp2_with fail
        refine ca.mono ?_
        rintro e w9 ⟨rfl, hd, k9⟩
        have HD := Lib.hid hd
        have HK9 := Lib.hid k9
        clear ca hd k9
        go_wp2
        go_ret
        exact ⟨by rw [HRR.out]; simp, by rw [HRR.out]; exact HD.out, HK7.out.trans (HK8.out.trans HK9.out)⟩
    | true =>
      have cl1 := cl _ _ _ H5.out HK5.out
      unfold dfV at cl1
      go_wp2_with fail
      clear x0 x1 x2 x3 x4 z0 z1 z2
      refine cl1.mono ?_
      rintro e w6 ⟨rfl, b6⟩
      have b7 := b6.alloc b6.size (.cells #[.string ⟨ld.nm.toArray⟩, .string ⟨ld.url.toArray⟩, .string ⟨ld.ttl.toArray⟩, .string ⟨ld.txt.toArray⟩, .bool ld.nt] 153)
      have H7 := Lib.hid (H5.out.below b7)
      have HK7 := Lib.hid (HK5.out.thenB b7 H5.out.baseLe)
      have cb7 : OpAt (w6.alloc (.cells #[.string ⟨ld.nm.toArray⟩, .string ⟨ld.url.toArray⟩, .string ⟨ld.ttl.toArray⟩, .string ⟨ld.txt.toArray⟩, .bool ld.nt] 153)) gb (.string ⟨(markOf true).toArray⟩) (.int .i64 l'.length) (.int .i64 pos) := (b7.block gb HGB.out).trans CB5.out
      obtain ⟨z0, z1, z2, zf⟩ := cb7.cells
      obtain ⟨y0, y1, y2, y3, y4⟩ := box5 w6 (.string ⟨ld.nm.toArray⟩) (.string ⟨ld.url.toArray⟩) (.string ⟨ld.ttl.toArray⟩) (.string ⟨ld.txt.toArray⟩) (.bool ld.nt) 153
      clear zf cb7 b6 b7 cl1 cl
      cases lok with
      | true =>
        have hRR := HSM.out (linkN true ld.url ld.ttl) ln (HS.out.trans ((if_neg (by simp)).trans (if_pos rfl)))
        rw [if_pos (show (linkN true ld.url ld.ttl).kd = 6 from rfl)] at hRR
        have HRR := Lib.hid hRR
        clear hRR
        have cr := lead_any H7.out hz ⟨true, l'.length, pos⟩ HIL.out ld HOL
        go_wp2_with fail
        refine cr.mono ?_
        rintro e w8 ⟨rfl, ⟨iv8, v8, nd, hnd, h8⟩, k8⟩
        have hd : Done w0 w pb s atv tbv hv RR.1 w8 := by
          refine ⟨⟨iv8, ov', _, _, O', h8, ?_⟩, HK7.out.trans k8⟩
          rw [HDR.out] at hnd
          rw [HRR.out, hnd]
          exact HRS.out _ _
        have HD := Lib.hid hd
        clear cr h8 k8 hd hnd
        go_wp2
        go_ret
        exact ⟨by rw [HRR.out]; first | rfl | simp, HD.out⟩
      | false =>
        have hRR := HF.out (fun _ => HS.out.trans ((if_neg (by simp)).trans (if_neg (by simp))))
        have HRR := Lib.hid hRR
        clear hRR
        have cw1 := shut_words (w0 := w0) H7.out HRF.out hz.len
        go_wp2_with fail
        refine cw1.mono ?_
        rintro e w8 ⟨v8, rfl, h8, k8, ca⟩
        have HK8 := Lib.hid k8
        clear cw1 h8 k8
        go_wp2_with fail
        refine ca.mono ?_
        rintro e w9 ⟨rfl, hd, k9⟩
        have HD := Lib.hid hd
        have HK9 := Lib.hid k9
        clear ca hd k9
        go_wp2
        go_ret
        exact ⟨by rw [HRR.out]; simp, by rw [HRR.out]; exact HD.out, HK7.out.trans (HK8.out.trans HK9.out)⟩
end
end Go.Proofs.YteihmgcphbijhaaGreatDoor

namespace Go.Proofs.YteihmgcphbijhaaGreatDoor
open Go.RowKit Go.Maps
set_option linter.unusedSimpArgs false
set_option linter.unusedVariables false
set_option maxRecDepth 100000
theorem opnL_le (l : List Ent) : ∀ k, (opnL k l).length ≤ l.length := by
  induction l with
  | nil => intro k; simp [opnL]
  | cons e l ih =>
    intro k
    have := ih (k + 1)
    cases e with
    | it x => simp only [opnL, List.length_cons]; omega
    | mk img pos sh => simp only [opnL, List.length_cons]; omega
section
variable {w0 w : World} {pb : Nat} {s : ByteArray} {atv tbv hv iv ov : Value} {nsh : Nat} {Z : List (Itm × Value)} {O : List Opn} {D : List Dfn} {al : List Nat} {E : List Ent} {C frm tow : Nat}
theorem Rep.opLe (hr : Rep E Z O nsh) : O.length ≤ E.length := by
  rw [hr.ops]
  have := opnL_le E.reverse 0
  simpa using this
theorem inClose_any (h : RawSt w w0.heap.size pb s atv tbv hv iv ov nsh Z O) (hc : Ctx w0 w tbv hv D al s) (hr : Rep E Z O nsh) (k : PotSt C frm E) (hC : C * frm ≤ 1000000) (hfs : frm ≤ s.size) (hts : tow ≤ s.size) :
    Calls Tryz.prog 43 #[.pointer (some ⟨pb, 0, none⟩), .int .i64 frm, .int .i64 tow] w fun e w' =>
      e = .returned (.int .i64 ((tow : Int) + (closeI D s.data.toList frm tow E).2)) ∧ Done w0 w pb s atv tbv hv (closeI D s.data.toList frm tow E).1 w' := by
  have hf : frm ≤ 1000 := Nat.le_trans hfs hc.sl
  have hz := zok_of hr k hf hC
  have hO : O.length ≤ 1000 := by have := hr.opLe; have := k.len; omega
  cases hm : lastMk E with
  | none => exact close_none h hr hz.len hm
  | some q =>
    obtain ⟨m, ⟨img, pos, sh⟩, l'⟩ := q
    cases sh with
    | true => exact close_shut h hr hz.len hO hm
    | false =>
      have em := lastMk_pot hm
      have hp : pos ≤ frm := k.pos img pos false (by rw [em]; simp)
      exact close_open h hc hr hz hO hm hp hfs hts
theorem infoOpn : (Tryz.prog.info? 103).map (fun i => (i.zero, i.size, i.bytes)) = some (some (.agg #[.string ByteArray.empty, .int .i64 0, .int .i64 0]), 3, 32) := by kernel_rfl
theorem opn_lit {w : World} {g : Nat} {x : Opn} (hg : w.heap[g]? = some (.cells (opC x).toArray 103 (0, 0))) : EltsAt w opC 3 (some ⟨g, 0, none⟩) 1 [x] := elts_block (t := 103) (X := [x]) opC_length (by rw [hg]; simp [flt]) (by show (1 : Nat) ≤ maxLen; decide)
theorem wp_append_opns {w : World} {o : Oper} {a : Act} {K : Act → World → Prop} {Q : Exit → Act → World → Prop} (s x : Operand)
    (ho : o.op = .call { callee := .builtin .append, args := #[s, x], argTypes := #[46, 46] }) (base : Nat) (v : Value) (X : List Opn) (hs : a.eval s = v)
    (hown : w.ownsRow base 103 3 v X.length (flt opC X)) (ad : Addr) (c : Nat) (more : List Opn) (hx : a.eval x = .slice (some ad) more.length c) (hrow : EltsAt w opC 3 (some ad) c more)
    (h63 : X.length + more.length ≤ 1000000) (hbase : base ≤ w.heap.size)
    (h : ∀ v' w', w'.ownsRow base 103 3 v' (X ++ more).length (flt opC (X ++ more)) → w.grownBy w' v.ownBlock → K (a.put o.dst v') w') : o.wp Tryz.prog a w K Q := by
  obtain ⟨i0, hi, hz0, hz1, hz2⟩ := info_parts infoOpn
  refine wp_append_own w s x 46 ho base 103 i0 (.agg #[.string ByteArray.empty, .int .i64 0, .int .i64 0]) 3 32 Tryz.underlying46 hi hz0 hz1 hz2 rfl (by decide) v X.length (flt opC X) hs hown ad more.length c (flt opC more) hx (flt_length opC_length more) (hrow.flat opC_length (by decide)) (fun u hu => by obtain ⟨y, _, hu⟩ := List.mem_flatMap.1 hu; exact opC_one y u hu) (by unfold maxLen; omega) (by omega) hbase ?_
  intro v' w' h2 h3 _
  exact h v' w' (by rw [List.length_append, flt_append]; exact h2) h3
set_option maxHeartbeats 4000000 in
theorem mark_open (img : Bool) (h : RawSt w w0.heap.size pb s atv tbv hv iv ov nsh Z O) (hr : Rep E Z O nsh) (hZ : Z.length ≤ 1000) (hO : O.length ≤ 1000) :
    Calls Tryz.prog 20 #[.pointer (some ⟨pb, 0, none⟩), .string ⟨(markOf img).toArray⟩, .int .i64 frm, .int .i64 tow] w fun e w' =>
      e = .returned (.int .i64 tow) ∧ Done w0 w pb s atv tbv hv (.mk img tow false :: E) w' := by
  obtain ⟨c0, c1, c2, c3, c4, c5, c6, cf, hlt⟩ := h.bcells
  have cf5 := cf 5
  have hbl := h.baseLe
  obtain ⟨Ai, ci, rfl, _⟩ := own_form h.row
  obtain ⟨Ao, co, rfl, _⟩ := own_form h.ops
  have HD := Lib.hid (h.drew 1)
  have HKD := Lib.hid (KI.of (B := w0.heap.size) (below_drewN' (Below.refl _ w) 1) h.baseLe)
  have hbl1 := (h.drew 1).baseLe
  have hlt1 := (h.drew 1).bcells.2.2.2.2.2.2.2.2
  rw [show w.drewN 1 = w.drew from rfl] at HD HKD hbl1 hlt1
  have HR := Lib.hid hr
  clear h hr cf hlt hbl
  cases img
  · rw [show (markOf false).toArray = #[91] from rfl]
    have cw := fun W => inWords_any ⟨#[91]⟩ W
    go_enter Tryz.func20, Tryz.ntmps20
    go_wp2_with fail
    refine wp_region_N (fun W => W.cell? ⟨pb, 4, none⟩ = some (.slice Ai Z.length ci) ∧ W.cell? ⟨pb, 5, none⟩ = some (.slice Ao O.length co)) (fun n => decide (n < 15)) (by kernel_rfl) ?_
    clear c0 c1 c2 c3 c4 c5 c6
    generalize w.drew = w1 at *
    have HS := Lib.hid (And.intro HD.out.bcells.2.2.2.2.1 HD.out.bcells.2.2.2.2.2.1)
    refine wpAnyN_take_at 0 15 (v := ?_) rfl rfl (by kernel_rfl) (by kernel_rfl) (by kernel_rfl) (by kernel_rfl) (by kernel_rfl) (fun _ _ _ h => h) (by rfl) ?_ HS.out ?_
    rotate_left
    · intro W hSw; (try dsimp only at hSw); obtain ⟨q0, q1⟩ := hSw; go_simp; (try with_reducible rfl)
    simp only [Act.put, List.setIfInBounds_toArray, List.set_cons_zero, List.set_cons_succ]
    refine wpAnyN_take_at 1 16 (v := ?_) rfl rfl (by kernel_rfl) (by kernel_rfl) (by kernel_rfl) (by kernel_rfl) (by kernel_rfl) (fun _ _ _ h => h) (by rfl) ?_ HS.out ?_
    rotate_left
    · intro W hSw; (try dsimp only at hSw); obtain ⟨q0, q1⟩ := hSw; go_simp; (try with_reducible rfl)
    simp only [Act.put, List.setIfInBounds_toArray, List.set_cons_zero, List.set_cons_succ]
    refine wpAnyN_take_at 2 17 (v := ?_) rfl rfl (by kernel_rfl) (by kernel_rfl) (by kernel_rfl) (by kernel_rfl) (by kernel_rfl) (fun _ _ _ h => h) (by rfl) ?_ HS.out ?_
    rotate_left
    · intro W hSw; (try dsimp only at hSw); obtain ⟨q0, q1⟩ := hSw; go_simp; (try with_reducible rfl)
    simp only [Act.put, List.setIfInBounds_toArray, List.set_cons_zero, List.set_cons_succ]
    refine wpAnyN_take_at 3 18 (v := ?_) rfl rfl (by kernel_rfl) (by kernel_rfl) (by kernel_rfl) (by kernel_rfl) (by kernel_rfl) (fun _ _ _ h => h) (by rfl) ?_ HS.out ?_
    rotate_left
    · intro W hSw; (try dsimp only at hSw); obtain ⟨q0, q1⟩ := hSw; go_simp; (try with_reducible rfl)
    simp only [Act.put, List.setIfInBounds_toArray, List.set_cons_zero, List.set_cons_succ]
    refine wpAnyN_take_at 4 19 (v := ?_) rfl rfl (by kernel_rfl) (by kernel_rfl) (by kernel_rfl) (by kernel_rfl) (by kernel_rfl) (fun _ _ _ h => h) (by rfl) ?_ HS.out ?_
    rotate_left
    · intro W hSw; (try dsimp only at hSw); obtain ⟨q0, q1⟩ := hSw; go_simp; (try with_reducible rfl)
    simp only [Act.put, List.setIfInBounds_toArray, List.set_cons_zero, List.set_cons_succ]
    refine wpAnyN_take_at 5 20 (v := ?_) rfl rfl (by kernel_rfl) (by kernel_rfl) (by kernel_rfl) (by kernel_rfl) (by kernel_rfl) (fun _ _ _ h => h) (by rfl) ?_ HS.out ?_
    rotate_left
    · intro W hSw; (try dsimp only at hSw); obtain ⟨q0, q1⟩ := hSw; go_simp; (try with_reducible rfl)
    simp only [Act.put, List.setIfInBounds_toArray, List.set_cons_zero, List.set_cons_succ]
    refine wpAnyN_take_at 6 21 (v := ?_) rfl rfl (by kernel_rfl) (by kernel_rfl) (by kernel_rfl) (by kernel_rfl) (by kernel_rfl) (fun _ _ _ h => h) (by rfl) ?_ HS.out ?_
    rotate_left
    · intro W hSw; (try dsimp only at hSw); obtain ⟨q0, q1⟩ := hSw; go_simp; (try with_reducible rfl)
    simp only [Act.put, List.setIfInBounds_toArray, List.set_cons_zero, List.set_cons_succ]
    refine wpAnyN_take_at 7 22 (v := ?_) rfl rfl (by kernel_rfl) (by kernel_rfl) (by kernel_rfl) (by kernel_rfl) (by kernel_rfl) (fun _ _ _ h => h) (by rfl) ?_ HS.out ?_
    rotate_left
    · intro W hSw; (try dsimp only at hSw); obtain ⟨q0, q1⟩ := hSw; go_simp; (try with_reducible rfl)
    simp only [Act.put, List.setIfInBounds_toArray, List.set_cons_zero, List.set_cons_succ]
    refine wpAnyN_take_at 8 23 (v := ?_) rfl rfl (by kernel_rfl) (by kernel_rfl) (by kernel_rfl) (by kernel_rfl) (by kernel_rfl) (fun _ _ _ h => h) (by rfl) ?_ HS.out ?_
    rotate_left
    · intro W hSw; (try dsimp only at hSw); obtain ⟨q0, q1⟩ := hSw; go_simp; (try with_reducible rfl)
    simp only [Act.put, List.setIfInBounds_toArray, List.set_cons_zero, List.set_cons_succ]
    refine wpAnyN_take_at 9 24 (v := ?_) rfl rfl (by kernel_rfl) (by kernel_rfl) (by kernel_rfl) (by kernel_rfl) (by kernel_rfl) (fun _ _ _ h => h) (by rfl) ?_ HS.out ?_
    rotate_left
    · intro W hSw; (try dsimp only at hSw); obtain ⟨q0, q1⟩ := hSw; go_simp; (try with_reducible rfl)
    simp only [Act.put, List.setIfInBounds_toArray, List.set_cons_zero, List.set_cons_succ]
    refine wpAnyN_take_at 10 25 (v := ?_) rfl rfl (by kernel_rfl) (by kernel_rfl) (by kernel_rfl) (by kernel_rfl) (by kernel_rfl) (fun _ _ _ h => h) (by rfl) ?_ HS.out ?_
    rotate_left
    · intro W hSw; (try dsimp only at hSw); obtain ⟨q0, q1⟩ := hSw; go_simp; (try with_reducible rfl)
    simp only [Act.put, List.setIfInBounds_toArray, List.set_cons_zero, List.set_cons_succ]
    refine wpAnyN_take_at 11 26 (v := ?_) rfl rfl (by kernel_rfl) (by kernel_rfl) (by kernel_rfl) (by kernel_rfl) (by kernel_rfl) (fun _ _ _ h => h) (by rfl) ?_ HS.out ?_
    rotate_left
    · intro W hSw; (try dsimp only at hSw); obtain ⟨q0, q1⟩ := hSw; go_simp; (try with_reducible rfl)
    simp only [Act.put, List.setIfInBounds_toArray, List.set_cons_zero, List.set_cons_succ]
    refine wpAnyN_take_at 12 27 (v := ?_) rfl rfl (by kernel_rfl) (by kernel_rfl) (by kernel_rfl) (by kernel_rfl) (by kernel_rfl) (fun _ _ _ h => h) (by rfl) ?_ HS.out ?_
    rotate_left
    · intro W hSw; (try dsimp only at hSw); obtain ⟨q0, q1⟩ := hSw; go_simp; (try with_reducible rfl)
    simp only [Act.put, List.setIfInBounds_toArray, List.set_cons_zero, List.set_cons_succ]
    have hr2 := Lib.hid (HD.out.ops.alloc (.cells #[.string ⟨#[91]⟩, .int .i64 Z.length, .int .i64 tow] 103))
    refine wpAnyN_one (i := 13) rfl (by kernel_rfl) (fun K hK => ?_)
    go_simp
    have bA := (Below.refl w1.heap.size w1).alloc (Nat.le_refl _) (.cells #[.string ⟨#[91]⟩, .int .i64 Z.length, .int .i64 tow] 103)
    refine hK _ _ (fun _ => ⟨(HD.out.below bA).bcells.2.2.2.2.1, (HD.out.below bA).bcells.2.2.2.2.2.1⟩) ?_
    clear hK bA
    (try simp only [Act.put, List.setIfInBounds_toArray, List.set_cons_zero, List.set_cons_succ])
    refine wpAnyN_one (i := 14) rfl (by kernel_rfl) (fun K hK => ?_)
    rw [if_pos (by rfl)]
    refine wp_append_opns _ _ rfl w0.heap.size _ O (by rfl) hr2.out ⟨w1.heap.size, 0, none⟩ 1 [⟨false, Z.length, tow⟩] (by rfl) (opn_lit (x := ⟨false, Z.length, tow⟩) (heap_alloc_new _ _)) (by simp; omega) (by simp; omega) ?_
    intro v6 w6 ho6 hg6
    rw [List.length_append, List.length_singleton] at ho6
    obtain ⟨A6, c6', rfl, _⟩ := own_form ho6
    have hg := (World.grownBy_alloc w1 (.cells #[.string ⟨#[91]⟩, .int .i64 Z.length, .int .i64 tow] 103) (Value.slice Ao O.length co).ownBlock).trans hg6
    have hfin := HD.out.setOps (O' := O ++ [⟨false, Z.length, tow⟩]) hg (by rw [List.length_append, List.length_singleton]; exact ho6)
    have hb6 := (hg.block pb hlt1 (fun e => own_ne HD.out.ops HD.out.blk (by decide) e.symm)).trans HD.out.blk
    have d4 : w6.cell? ⟨pb, 4, none⟩ = some (.slice Ai Z.length ci) := (cell_of_row w6 pb 4 _ _ (0, 0) hb6).trans rfl
    have d5 : w6.cell? ⟨pb, 5, none⟩ = some (.slice Ao O.length co) := (cell_of_row w6 pb 5 _ _ (0, 0) hb6).trans rfl
    have df : w6.frozen? ⟨pb, 5, none⟩ = false := by simp [World.frozen?, hb6]
    have HF := Lib.hid hfin
    refine hK _ _ (fun _ => ⟨d4, d5⟩) ?_
    clear hK hfin ho6 hg6 hg hb6
    (try simp only [Act.put, List.setIfInBounds_toArray, List.set_cons_zero, List.set_cons_succ])
    refine wpAnyN_rest 15 [_, _, _] rfl (by kernel_rfl) (by rfl) ?_
    go_wp2_with fail
    have h7 := HF.out.1
    have k7 := HF.out.2
    refine (cw _).mono ?_
    rintro e w8 ⟨⟨v8, rfl, hv8⟩, b8⟩
    have h8 := h7.below b8
    have k8 := k7.thenB b8 h7.baseLe
    have ca := inAdd_any h8 v8 _ hv8 (by omega)
    have HK8 := Lib.hid k8
    clear h7 k7 b8 h8 k8 cw hv8
    go_wp2_with fail
    refine ca.mono ?_
    rintro e w9 ⟨rfl, ⟨iv9, h9⟩, k9⟩
    have HDone := Lib.hid (show Done w0 w pb s atv tbv hv (.mk false tow false :: E) w9 from ⟨⟨iv9, _, _, _, _, h9, HR.out.mk' false tow v8⟩, HKD.out.trans (HK8.out.trans k9)⟩)
    clear ca h9 k9
    go_wp2
    go_ret
    exact ⟨rfl, HDone.out⟩
  · rw [show (markOf true).toArray = #[33, 91] from rfl]
    have cw := fun W => inWords_any ⟨#[33, 91]⟩ W
    go_enter Tryz.func20, Tryz.ntmps20
    go_wp2_with fail
    refine wp_region_N (fun W => W.cell? ⟨pb, 4, none⟩ = some (.slice Ai Z.length ci) ∧ W.cell? ⟨pb, 5, none⟩ = some (.slice Ao O.length co)) (fun n => decide (n < 15)) (by kernel_rfl) ?_
    clear c0 c1 c2 c3 c4 c5 c6
    generalize w.drew = w1 at *
    have HS := Lib.hid (And.intro HD.out.bcells.2.2.2.2.1 HD.out.bcells.2.2.2.2.2.1)
    refine wpAnyN_take_at 0 15 (v := ?_) rfl rfl (by kernel_rfl) (by kernel_rfl) (by kernel_rfl) (by kernel_rfl) (by kernel_rfl) (fun _ _ _ h => h) (by rfl) ?_ HS.out ?_
    rotate_left
    · intro W hSw; (try dsimp only at hSw); obtain ⟨q0, q1⟩ := hSw; go_simp; (try with_reducible rfl)
    simp only [Act.put, List.setIfInBounds_toArray, List.set_cons_zero, List.set_cons_succ]
    refine wpAnyN_take_at 1 16 (v := ?_) rfl rfl (by kernel_rfl) (by kernel_rfl) (by kernel_rfl) (by kernel_rfl) (by kernel_rfl) (fun _ _ _ h => h) (by rfl) ?_ HS.out ?_
    rotate_left
    · intro W hSw; (try dsimp only at hSw); obtain ⟨q0, q1⟩ := hSw; go_simp; (try with_reducible rfl)
    simp only [Act.put, List.setIfInBounds_toArray, List.set_cons_zero, List.set_cons_succ]
    refine wpAnyN_take_at 2 17 (v := ?_) rfl rfl (by kernel_rfl) (by kernel_rfl) (by kernel_rfl) (by kernel_rfl) (by kernel_rfl) (fun _ _ _ h => h) (by rfl) ?_ HS.out ?_
    rotate_left
    · intro W hSw; (try dsimp only at hSw); obtain ⟨q0, q1⟩ := hSw; go_simp; (try with_reducible rfl)
    simp only [Act.put, List.setIfInBounds_toArray, List.set_cons_zero, List.set_cons_succ]
    refine wpAnyN_take_at 3 18 (v := ?_) rfl rfl (by kernel_rfl) (by kernel_rfl) (by kernel_rfl) (by kernel_rfl) (by kernel_rfl) (fun _ _ _ h => h) (by rfl) ?_ HS.out ?_
    rotate_left
    · intro W hSw; (try dsimp only at hSw); obtain ⟨q0, q1⟩ := hSw; go_simp; (try with_reducible rfl)
    simp only [Act.put, List.setIfInBounds_toArray, List.set_cons_zero, List.set_cons_succ]
    refine wpAnyN_take_at 4 19 (v := ?_) rfl rfl (by kernel_rfl) (by kernel_rfl) (by kernel_rfl) (by kernel_rfl) (by kernel_rfl) (fun _ _ _ h => h) (by rfl) ?_ HS.out ?_
    rotate_left
    · intro W hSw; (try dsimp only at hSw); obtain ⟨q0, q1⟩ := hSw; go_simp; (try with_reducible rfl)
    simp only [Act.put, List.setIfInBounds_toArray, List.set_cons_zero, List.set_cons_succ]
    refine wpAnyN_take_at 5 20 (v := ?_) rfl rfl (by kernel_rfl) (by kernel_rfl) (by kernel_rfl) (by kernel_rfl) (by kernel_rfl) (fun _ _ _ h => h) (by rfl) ?_ HS.out ?_
    rotate_left
    · intro W hSw; (try dsimp only at hSw); obtain ⟨q0, q1⟩ := hSw; go_simp; (try with_reducible rfl)
    simp only [Act.put, List.setIfInBounds_toArray, List.set_cons_zero, List.set_cons_succ]
    refine wpAnyN_take_at 6 21 (v := ?_) rfl rfl (by kernel_rfl) (by kernel_rfl) (by kernel_rfl) (by kernel_rfl) (by kernel_rfl) (fun _ _ _ h => h) (by rfl) ?_ HS.out ?_
    rotate_left
    · intro W hSw; (try dsimp only at hSw); obtain ⟨q0, q1⟩ := hSw; go_simp; (try with_reducible rfl)
    simp only [Act.put, List.setIfInBounds_toArray, List.set_cons_zero, List.set_cons_succ]
    refine wpAnyN_take_at 7 22 (v := ?_) rfl rfl (by kernel_rfl) (by kernel_rfl) (by kernel_rfl) (by kernel_rfl) (by kernel_rfl) (fun _ _ _ h => h) (by rfl) ?_ HS.out ?_
    rotate_left
    · intro W hSw; (try dsimp only at hSw); obtain ⟨q0, q1⟩ := hSw; go_simp; (try with_reducible rfl)
    simp only [Act.put, List.setIfInBounds_toArray, List.set_cons_zero, List.set_cons_succ]
    refine wpAnyN_take_at 8 23 (v := ?_) rfl rfl (by kernel_rfl) (by kernel_rfl) (by kernel_rfl) (by kernel_rfl) (by kernel_rfl) (fun _ _ _ h => h) (by rfl) ?_ HS.out ?_
    rotate_left
    · intro W hSw; (try dsimp only at hSw); obtain ⟨q0, q1⟩ := hSw; go_simp; (try with_reducible rfl)
    simp only [Act.put, List.setIfInBounds_toArray, List.set_cons_zero, List.set_cons_succ]
    refine wpAnyN_take_at 9 24 (v := ?_) rfl rfl (by kernel_rfl) (by kernel_rfl) (by kernel_rfl) (by kernel_rfl) (by kernel_rfl) (fun _ _ _ h => h) (by rfl) ?_ HS.out ?_
    rotate_left
    · intro W hSw; (try dsimp only at hSw); obtain ⟨q0, q1⟩ := hSw; go_simp; (try with_reducible rfl)
    simp only [Act.put, List.setIfInBounds_toArray, List.set_cons_zero, List.set_cons_succ]
    refine wpAnyN_take_at 10 25 (v := ?_) rfl rfl (by kernel_rfl) (by kernel_rfl) (by kernel_rfl) (by kernel_rfl) (by kernel_rfl) (fun _ _ _ h => h) (by rfl) ?_ HS.out ?_
    rotate_left
    · intro W hSw; (try dsimp only at hSw); obtain ⟨q0, q1⟩ := hSw; go_simp; (try with_reducible rfl)
    simp only [Act.put, List.setIfInBounds_toArray, List.set_cons_zero, List.set_cons_succ]
    refine wpAnyN_take_at 11 26 (v := ?_) rfl rfl (by kernel_rfl) (by kernel_rfl) (by kernel_rfl) (by kernel_rfl) (by kernel_rfl) (fun _ _ _ h => h) (by rfl) ?_ HS.out ?_
    rotate_left
    · intro W hSw; (try dsimp only at hSw); obtain ⟨q0, q1⟩ := hSw; go_simp; (try with_reducible rfl)
    simp only [Act.put, List.setIfInBounds_toArray, List.set_cons_zero, List.set_cons_succ]
    refine wpAnyN_take_at 12 27 (v := ?_) rfl rfl (by kernel_rfl) (by kernel_rfl) (by kernel_rfl) (by kernel_rfl) (by kernel_rfl) (fun _ _ _ h => h) (by rfl) ?_ HS.out ?_
    rotate_left
    · intro W hSw; (try dsimp only at hSw); obtain ⟨q0, q1⟩ := hSw; go_simp; (try with_reducible rfl)
    simp only [Act.put, List.setIfInBounds_toArray, List.set_cons_zero, List.set_cons_succ]
    have hr2 := Lib.hid (HD.out.ops.alloc (.cells #[.string ⟨#[33, 91]⟩, .int .i64 Z.length, .int .i64 tow] 103))
    refine wpAnyN_one (i := 13) rfl (by kernel_rfl) (fun K hK => ?_)
    go_simp
    have bA := (Below.refl w1.heap.size w1).alloc (Nat.le_refl _) (.cells #[.string ⟨#[33, 91]⟩, .int .i64 Z.length, .int .i64 tow] 103)
    refine hK _ _ (fun _ => ⟨(HD.out.below bA).bcells.2.2.2.2.1, (HD.out.below bA).bcells.2.2.2.2.2.1⟩) ?_
    clear hK bA
    (try simp only [Act.put, List.setIfInBounds_toArray, List.set_cons_zero, List.set_cons_succ])
    refine wpAnyN_one (i := 14) rfl (by kernel_rfl) (fun K hK => ?_)
    rw [if_pos (by rfl)]
    refine wp_append_opns _ _ rfl w0.heap.size _ O (by rfl) hr2.out ⟨w1.heap.size, 0, none⟩ 1 [⟨true, Z.length, tow⟩] (by rfl) (opn_lit (x := ⟨true, Z.length, tow⟩) (heap_alloc_new _ _)) (by simp; omega) (by simp; omega) ?_
    intro v6 w6 ho6 hg6
    rw [List.length_append, List.length_singleton] at ho6
    obtain ⟨A6, c6', rfl, _⟩ := own_form ho6
    have hg := (World.grownBy_alloc w1 (.cells #[.string ⟨#[33, 91]⟩, .int .i64 Z.length, .int .i64 tow] 103) (Value.slice Ao O.length co).ownBlock).trans hg6
    have hfin := HD.out.setOps (O' := O ++ [⟨true, Z.length, tow⟩]) hg (by rw [List.length_append, List.length_singleton]; exact ho6)
    have hb6 := (hg.block pb hlt1 (fun e => own_ne HD.out.ops HD.out.blk (by decide) e.symm)).trans HD.out.blk
    have d4 : w6.cell? ⟨pb, 4, none⟩ = some (.slice Ai Z.length ci) := (cell_of_row w6 pb 4 _ _ (0, 0) hb6).trans rfl
    have d5 : w6.cell? ⟨pb, 5, none⟩ = some (.slice Ao O.length co) := (cell_of_row w6 pb 5 _ _ (0, 0) hb6).trans rfl
    have df : w6.frozen? ⟨pb, 5, none⟩ = false := by simp [World.frozen?, hb6]
    have HF := Lib.hid hfin
    refine hK _ _ (fun _ => ⟨d4, d5⟩) ?_
    clear hK hfin ho6 hg6 hg hb6
    (try simp only [Act.put, List.setIfInBounds_toArray, List.set_cons_zero, List.set_cons_succ])
    refine wpAnyN_rest 15 [_, _, _] rfl (by kernel_rfl) (by rfl) ?_
    go_wp2_with fail
    have h7 := HF.out.1
    have k7 := HF.out.2
    refine (cw _).mono ?_
    rintro e w8 ⟨⟨v8, rfl, hv8⟩, b8⟩
    have h8 := h7.below b8
    have k8 := k7.thenB b8 h7.baseLe
    have ca := inAdd_any h8 v8 _ hv8 (by omega)
    have HK8 := Lib.hid k8
    clear h7 k7 b8 h8 k8 cw hv8
    go_wp2_with fail
    refine ca.mono ?_
    rintro e w9 ⟨rfl, ⟨iv9, h9⟩, k9⟩
    have HDone := Lib.hid (show Done w0 w pb s atv tbv hv (.mk true tow false :: E) w9 from ⟨⟨iv9, _, _, _, _, h9, HR.out.mk' true tow v8⟩, HKD.out.trans (HK8.out.trans k9)⟩)
    clear ca h9 k9
    go_wp2
    go_ret
    exact ⟨rfl, HDone.out⟩
end
end Go.Proofs.YteihmgcphbijhaaGreatDoor
