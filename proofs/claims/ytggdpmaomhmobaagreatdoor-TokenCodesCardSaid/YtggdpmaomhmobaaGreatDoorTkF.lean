/-
  Package token: pointed, mark, shown, code.
-/
import Derived.Test.YtggdpmaomhmobaaGreatDoorTkE
import Derived.Test.YtggdpmaomhmobaaGreatDoorMaxL
import Derived.LoopN
import Derived.Lib.CountLaws
namespace Go.Proofs.YtggdpmaomhmobaaGreatDoor
open Go.RowKit
set_option linter.unusedSimpArgs false
set_option linter.unusedVariables false
set_option maxRecDepth 100000

theorem between_le (l : List UInt8) (k : Nat) (hk : k ≤ l.length) : (betweenL l k).2 ≤ l.length ∧ (betweenL l k).1.length ≤ l.length := by
  unfold betweenL
  split
  · simp
  · rename_i h
    simp only [not_or, Bool.not_eq_false] at h
    have := hasL_lt h.2
    simp only [List.length_drop, List.length_take]
    omega

set_option maxHeartbeats 2000000 in
theorem pointed_any (s : ByteArray) (h0 : 0 < s.size) (w : World) (hs : s.size ≤ 35184372088832) :
    Calls Tryz.prog 28 #[.string s] w fun e w' => e = .returned (tkR (pointedL s.data.toList)) ∧ Below w.heap.size w w' := by
  have a1 := fun W => address_any s h0 W hs
  have a2 := fun W => mailbox_any s h0 W hs
  have a3 := fun W => tag_any s h0 W hs
  have HL := Lib.hid (show pointedL s.data.toList = if 0 < (betweenL s.data.toList (addressL s.data.toList)).2 then (.auto (betweenL s.data.toList (addressL s.data.toList)).1 (betweenL s.data.toList (addressL s.data.toList)).1, (betweenL s.data.toList (addressL s.data.toList)).2)
    else if 0 < (betweenL s.data.toList (mailboxL s.data.toList)).2 then (.auto (tkMailto ++ (betweenL s.data.toList (mailboxL s.data.toList)).1) (betweenL s.data.toList (mailboxL s.data.toList)).1, (betweenL s.data.toList (mailboxL s.data.toList)).2)
    else (.tag (s.data.toList.take (betweenL s.data.toList (tagL s.data.toList)).2), (betweenL s.data.toList (tagL s.data.toList)).2) from rfl)
  generalize addressL s.data.toList = x1 at *
  generalize mailboxL s.data.toList = x2 at *
  generalize tagL s.data.toList = x3 at *
  have b1 := fun (h : x1 ≤ s.size) W => between_any s x1 h h0 W hs
  have b2 := fun (h : x2 ≤ s.size) W => between_any s x2 h h0 W hs
  have b3 := fun (h : x3 ≤ s.size) W => between_any s x3 h h0 W hs
  have l2 := fun (h : x2 ≤ s.size) => between_le s.data.toList x2 (by rw [size_len']; exact h)
  have l3 := fun (h : x3 ≤ s.size) => between_le s.data.toList x3 (by rw [size_len']; exact h)
  rw [size_len'] at l2 l3
  generalize betweenL s.data.toList x1 = y1 at *
  generalize betweenL s.data.toList x2 = y2 at *
  generalize betweenL s.data.toList x3 = y3 at *
  obtain ⟨t1, n1⟩ := y1
  obtain ⟨t2, n2⟩ := y2
  obtain ⟨t3, n3⟩ := y3
  simp only at HL b1 b2 b3 l2 l3
  have A1 := Lib.hid a1
  have A2 := Lib.hid a2
  have A3 := Lib.hid a3
  have B1 := Lib.hid b1
  have B2 := Lib.hid b2
  have B3 := Lib.hid b3
  have L2 := Lib.hid l2
  have L3 := Lib.hid l3
  clear a1 a2 a3 b1 b2 b3 l2 l3
  by_cases p1 : 0 < n1
  · have HR := Lib.hid (show pointedL s.data.toList = (.auto t1 t1, n1) from by rw [HL.out, if_pos p1])
    have f1 : decide (0 < n1) = true := by simp; omega
    clear HL
    go_enter Tryz.func28, Tryz.ntmps28
    go_wp2_with fail
    refine (A1.out _).mono ?_
    rintro e w1 ⟨rfl, hx, bb1⟩
    go_wp2_with fail
    refine (B1.out hx _).mono ?_
    rintro e w2 ⟨rfl, rfl⟩
    clear hx
    go_wp2
    go_ret2
    exact ⟨by rw [HR.out]; rfl, bb1⟩
  · have f1 : decide (0 < n1) = false := by simp; omega
    by_cases p2 : 0 < n2
    · have HR := Lib.hid (show pointedL s.data.toList = (.auto (tkMailto ++ t2) t2, n2) from by rw [HL.out, if_neg p1, if_pos p2])
      have f2 : decide (0 < n2) = true := by simp; omega
      have HT := Lib.hid (show (⟨#[109, 97, 105, 108, 116, 111, 58]⟩ : ByteArray) ++ ⟨t2.toArray⟩ = ⟨(tkMailto ++ t2).toArray⟩ from by
        rw [show (⟨#[109, 97, 105, 108, 116, 111, 58]⟩ : ByteArray) = ⟨tkMailto.toArray⟩ from rfl, str_append])
      clear HL p1 p2
      go_enter Tryz.func28, Tryz.ntmps28
      go_wp2_with fail
      refine (A1.out _).mono ?_
      rintro e w1 ⟨rfl, hx, bb1⟩
      go_wp2_with fail
      refine (B1.out hx _).mono ?_
      rintro e w2 ⟨rfl, rfl⟩
      clear hx
      go_wp2_with fail
      refine (A2.out _).mono ?_
      rintro e w3 ⟨rfl, hx, bb3⟩
      go_wp2_with fail
      refine (B2.out hx _).mono ?_
      rintro e w4 ⟨rfl, rfl⟩
      have hl := (L2.out hx).2
      have hsum := fun W => run_string_add_sum (P := Tryz.prog) W (⟨#[109, 97, 105, 108, 116, 111, 58]⟩ : ByteArray) ⟨t2.toArray⟩ (by rw [str_size]; show 7 + t2.length ≤ _; omega)
      clear hx hl
      go_wp2
      go_ret2
      exact ⟨by rw [HR.out]; simp only [tkR, tkV]; rw [← HT.out]; rfl, bb1.then bb3⟩
    · have f2 : decide (0 < n2) = false := by simp; omega
      have HR := Lib.hid (show pointedL s.data.toList = (.tag (s.data.toList.take n3), n3) from by rw [HL.out, if_neg p1, if_neg p2])
      have HX := Lib.hid (ext0 s n3)
      clear HL p1 p2
      go_enter Tryz.func28, Tryz.ntmps28
      go_wp2_with fail
      refine (A1.out _).mono ?_
      rintro e w1 ⟨rfl, hx, bb1⟩
      go_wp2_with fail
      refine (B1.out hx _).mono ?_
      rintro e w2 ⟨rfl, rfl⟩
      clear hx
      go_wp2_with fail
      refine (A2.out _).mono ?_
      rintro e w3 ⟨rfl, hx, bb3⟩
      go_wp2_with fail
      refine (B2.out hx _).mono ?_
      rintro e w4 ⟨rfl, rfl⟩
      clear hx
      go_wp2_with fail
      refine (A3.out _).mono ?_
      rintro e w5 ⟨rfl, hx, bb5⟩
      go_wp2_with fail
      refine (B3.out hx _).mono ?_
      rintro e w6 ⟨rfl, rfl⟩
      have hl := (L3.out hx).1
      have hsl := fun W => slice_hi s (n3 : Int) n3 rfl hl W
      clear hx hl
      go_wp2
      go_ret2
      exact ⟨by rw [HR.out]; simp only [tkR, tkV]; rw [← HX.out]; rfl, (bb1.then bb3).then bb5⟩

def marksCells : Array Value := #[.string ⟨#[33, 91]⟩, .string ⟨#[91]⟩, .string ⟨#[93]⟩]
/-- The variable 'marks' holds the signs of brackets. -/
def MarksIs (w : World) : Prop := ∃ t fr, w.heap[1]? = some (.cells marksCells t fr)
theorem MarksIs.below {w w' : World} (h : MarksIs w) (hb : Below w.heap.size w w') : MarksIs w' := by
  obtain ⟨t, fr, h⟩ := h
  exact ⟨t, fr, (hb.block _ (Array.getElem?_eq_some_iff.1 h).1).trans h⟩
theorem MarksIs.cells {w : World} (h : MarksIs w) : w.cell? ⟨1, 0, none⟩ = some (.string ⟨#[33, 91]⟩) ∧ w.cell? ⟨1, 1, none⟩ = some (.string ⟨#[91]⟩) ∧ w.cell? ⟨1, 2, none⟩ = some (.string ⟨#[93]⟩) := by
  obtain ⟨t, fr, h⟩ := h
  exact ⟨(cell_of_row w _ 0 _ _ fr h).trans rfl, (cell_of_row w _ 1 _ _ fr h).trans rfl, (cell_of_row w _ 2 _ _ fr h).trans rfl⟩
def markV (x : Tk × Nat) : Value := .tuple #[.agg #[.string (match x.1 with | .mark l => ⟨l.toArray⟩ | _ => ⟨#[]⟩)], .int .i64 x.2]

theorem marks_index (w : World) : (Instr.index 80 (.agg #[.string ⟨#[33, 91]⟩, .string ⟨#[91]⟩, .string ⟨#[93]⟩]) (.int .i64 0)).run Tryz.prog w = .ok (.string ⟨#[33, 91]⟩) w ∧
    (Instr.index 80 (.agg #[.string ⟨#[33, 91]⟩, .string ⟨#[91]⟩, .string ⟨#[93]⟩]) (.int .i64 1)).run Tryz.prog w = .ok (.string ⟨#[91]⟩) w ∧
    (Instr.index 80 (.agg #[.string ⟨#[33, 91]⟩, .string ⟨#[91]⟩, .string ⟨#[93]⟩]) (.int .i64 2)).run Tryz.prog w = .ok (.string ⟨#[93]⟩) w := ⟨by kernel_rfl, by kernel_rfl, by kernel_rfl⟩

set_option maxHeartbeats 2000000 in
theorem mark_tk (s : ByteArray) (w : World) (hm : MarksIs w) :
    Calls Tryz.prog 30 #[.string s] w fun e w' => e = .returned (markV (markTk s.data.toList)) ∧ Below w.heap.size w w' := by
  have HB0 := Lib.hid (show Below w.heap.size w (w.alloc (.cells #[.string ⟨#[]⟩] 50)) from (Below.refl _ w).alloc (Nat.le_refl _) _)
  have hz0 := oneAt_new w (.string ⟨#[]⟩) 50
  have hm1 := (hm.below HB0.out).cells
  obtain ⟨g0, g1, g2⟩ := hm1
  have p1 := fun w => Tryz.strings_HasPrefix s ⟨#[33, 91]⟩ w
  have p2 := fun w => Tryz.strings_HasPrefix s ⟨#[91]⟩ w
  have p3 := fun w => Tryz.strings_HasPrefix s ⟨#[93]⟩ w
  rw [show (⟨#[33, 91]⟩ : ByteArray).data.toList = [33, 91] from rfl] at p1
  rw [show (⟨#[91]⟩ : ByteArray).data.toList = [91] from rfl] at p2
  rw [show (⟨#[93]⟩ : ByteArray).data.toList = [93] from rfl] at p3
  have HL := Lib.hid (show markTk s.data.toList = if Lib.hasPrefix s.data.toList [33, 91] then (.mark [33, 91], 2)
    else if Lib.hasPrefix s.data.toList [91] then (.mark [91], 1) else if Lib.hasPrefix s.data.toList [93] then (.mark [93], 1) else (.mark [], 0) from rfl)
  have HZ0 := Lib.hid hz0
  obtain ⟨k0, k1⟩ := hz0.cells
  clear hz0 hm
  have i0 := fun w => (marks_index w).1
  have i1 := fun w => (marks_index w).2.1
  have i2 := fun w => (marks_index w).2.2
  cases h1 : Lib.hasPrefix s.data.toList [33, 91] with
  | true =>
    rw [h1] at p1
    have HR := Lib.hid (show markTk s.data.toList = (.mark [33, 91], 2) from by rw [HL.out, if_pos h1])
    have P1 := Lib.hid p1
    have HS := Lib.hid (oneAt_new w (.string ⟨#[33, 91]⟩) 50)
    clear HL h1 p1 p2 p3
    go_enter Tryz.func30, Tryz.ntmps30
    go_wp2_with fail
    refine wp_loop_rounds 4 ?_
    rw [rounds_succ]
    go_wp2_with fail
    refine (P1.out _).mono ?_
    rintro e w1 ⟨rfl, rfl⟩
    go_wp2
    (try simp only [Exit.inBlock, Exit.then])
    exact bodyPost_ret (v := markV (.mark [33, 91], 2)) (ret_mark rfl HS.out rfl rfl) rfl ⟨by rw [HR.out], (Below.refl _ w).alloc (Nat.le_refl _) _⟩
  | false =>
    rw [h1] at p1
    have P1 := Lib.hid p1
    cases h2 : Lib.hasPrefix s.data.toList [91] with
    | true =>
      rw [h2] at p2
      have HR := Lib.hid (show markTk s.data.toList = (.mark [91], 1) from by rw [HL.out, h1, h2]; rfl)
      have P2 := Lib.hid p2
      have HS := Lib.hid (oneAt_new w (.string ⟨#[91]⟩) 50)
      clear HL h1 p1 p2 p3 h2
      go_enter Tryz.func30, Tryz.ntmps30
      go_wp2_with fail
      refine wp_loop_rounds 4 ?_
      rw [rounds_succ]
      go_wp2_with fail
      refine (P1.out _).mono ?_
      rintro e w1 ⟨rfl, rfl⟩
      go_wp2_with fail
      rw [rounds_succ]
      go_wp2_with fail
      refine (P2.out _).mono ?_
      rintro e w2 ⟨rfl, rfl⟩
      go_wp2
      (try simp only [Exit.inBlock, Exit.then])
      exact bodyPost_ret (v := markV (.mark [91], 1)) (ret_mark rfl HS.out rfl rfl) rfl ⟨by rw [HR.out], (Below.refl _ w).alloc (Nat.le_refl _) _⟩
    | false =>
      rw [h2] at p2
      have P2 := Lib.hid p2
      cases h3 : Lib.hasPrefix s.data.toList [93] with
      | true =>
        rw [h3] at p3
        have HR := Lib.hid (show markTk s.data.toList = (.mark [93], 1) from by rw [HL.out, h1, h2, h3]; rfl)
        have P3 := Lib.hid p3
        have HS := Lib.hid (oneAt_new w (.string ⟨#[93]⟩) 50)
        clear HL h1 p1 p2 p3 h2 h3
        go_enter Tryz.func30, Tryz.ntmps30
        go_wp2_with fail
        refine wp_loop_rounds 4 ?_
        rw [rounds_succ]
        go_wp2_with fail
        refine (P1.out _).mono ?_
        rintro e w1 ⟨rfl, rfl⟩
        go_wp2_with fail
        rw [rounds_succ]
        go_wp2_with fail
        refine (P2.out _).mono ?_
        rintro e w2 ⟨rfl, rfl⟩
        go_wp2_with fail
        rw [rounds_succ]
        go_wp2_with fail
        refine (P3.out _).mono ?_
        rintro e w2 ⟨rfl, rfl⟩
        go_wp2
        (try simp only [Exit.inBlock, Exit.then])
        exact bodyPost_ret (v := markV (.mark [93], 1)) (ret_mark rfl HS.out rfl rfl) rfl ⟨by rw [HR.out], (Below.refl _ w).alloc (Nat.le_refl _) _⟩
      | false =>
        rw [h3] at p3
        have HR := Lib.hid (show markTk s.data.toList = (.mark [], 0) from by rw [HL.out, h1, h2, h3]; rfl)
        have P3 := Lib.hid p3
        have HS := Lib.hid (oneAt_new w (.string ⟨#[]⟩) 50)
        clear HL h1 p1 p2 p3 h2 h3
        go_enter Tryz.func30, Tryz.ntmps30
        go_wp2_with fail
        refine wp_loop_rounds 4 ?_
        rw [rounds_succ]
        go_wp2_with fail
        refine (P1.out _).mono ?_
        rintro e w1 ⟨rfl, rfl⟩
        go_wp2_with fail
        rw [rounds_succ]
        go_wp2_with fail
        refine (P2.out _).mono ?_
        rintro e w2 ⟨rfl, rfl⟩
        go_wp2_with fail
        rw [rounds_succ]
        go_wp2_with fail
        refine (P3.out _).mono ?_
        rintro e w2 ⟨rfl, rfl⟩
        go_wp2_with fail
        rw [rounds_succ]
        go_wp2
        (try simp only [Exit.inBlock, Exit.then])
        exact bodyPost_ret (v := markV (.mark [], 0)) (ret_mark rfl HS.out rfl rfl) rfl ⟨by rw [HR.out], (Below.refl _ w).alloc (Nat.le_refl _) _⟩

theorem has_int (s : ByteArray) (i : Int) (k : Nat) (e : i = k) (b : UInt8) (w : World) (hs : s.size ≤ 35184372088832) (hk : k ≤ 70368744177664) :
    Calls Tryz.prog 35 #[.string s, .int .i64 i, .int .u8 b.toNat] w fun e w' => e = .returned (.bool (hasL s.data.toList k b)) ∧ w = w' := by
  subst e
  exact has_any s k b w hs hk
theorem shownL_flat (l : List UInt8) : shownL l = if hasL (tkFlat l) 0 32 && hasL (tkFlat l) ((tkFlat l).length - 1) 32 && decide (rowL (tkFlat l) < (tkFlat l).length) then ((tkFlat l).take ((tkFlat l).length - 1)).drop 1 else tkFlat l := rfl

set_option maxHeartbeats 2000000 in
theorem shown_any (s : ByteArray) (w : World) (hml : MaxL w) (hs : s.size ≤ 4000000000) :
    Calls Tryz.prog 40 #[.string s] w fun e w' => e = .returned (.string ⟨(shownL s.data.toList).toArray⟩) ∧ Below w.heap.size w w' := by
  obtain ⟨m, hm⟩ := hml
  have hcnt : Lib.countB s ⟨#[10]⟩ ≤ s.size + 1 := by
    have := Lib.count_le s.data.toList [10]
    rw [size_len'] at this
    exact this
  have c1 := Tryz.strings_ReplaceAll s ⟨#[10]⟩ ⟨#[32]⟩ m w (by omega) hm (by decide) (by
    show s.size + Lib.countB s ⟨#[10]⟩ * 1 ≤ _; omega)
  rw [show (⟨#[10]⟩ : ByteArray).data.toList = [10] from rfl, show (⟨#[32]⟩ : ByteArray).data.toList = [32] from rfl, replaceAll_flat] at c1
  have hL := shownL_flat s.data.toList
  have hfl := tkFlat_length s.data.toList
  rw [size_len'] at hfl
  obtain ⟨M, hM⟩ : ∃ M : ByteArray, M = ⟨(tkFlat s.data.toList).toArray⟩ := ⟨_, rfl⟩
  have hM2 : tkFlat s.data.toList = M.data.toList := by rw [hM]
  rw [← hM] at c1
  rw [hM2] at hL hfl
  have hMs : M.size ≤ 4000000000 := by rw [← size_len', hfl]; exact hs
  have C1 := Lib.hid c1
  have HV := Lib.hid hL
  have hlen := size_len' M
  clear c1 hcnt hM hM2 hL hfl hm
  have d1 := fun W => has_any M 0 32 W (by omega) (by omega)
  cases h1 : hasL M.data.toList 0 32 with
  | false =>
    rw [h1] at d1
    have HR := Lib.hid (show shownL s.data.toList = M.data.toList from by rw [HV.out, h1]; rfl)
    have D1 := Lib.hid d1
    clear HV d1 h1 hlen
    go_enter Tryz.func40, Tryz.ntmps40
    go_wp2_with fail
    refine C1.out.mono ?_
    rintro e w1 ⟨rfl, b1⟩
    go_wp2_with fail
    refine (D1.out _).mono ?_
    rintro e w2 ⟨rfl, rfl⟩
    go_wp2
    go_ret
    exact ⟨by rw [HR.out]; rfl, b1⟩
  | true =>
    rw [h1] at d1
    have h0 := hasL_lt h1
    rw [hlen] at h0
    have hi : IntKind.i64.wrap ((M.size : Int) - 1) = (M.size : Int) - 1 := IntWalk.i64_in _ (by omega)
    have d2 := fun W => has_int M ((M.size : Int) - 1) (M.size - 1) (by omega) 32 W (by omega) (by omega)
    have D1 := Lib.hid d1
    cases h2 : hasL M.data.toList (M.size - 1) 32 with
    | false =>
      rw [h2] at d2
      have HR := Lib.hid (show shownL s.data.toList = M.data.toList from by rw [HV.out, h1, hlen, h2]; rfl)
      have D2 := Lib.hid d2
      clear HV d1 d2 h1 h2 hlen hi
      go_enter Tryz.func40, Tryz.ntmps40
      go_wp2_with fail
      refine C1.out.mono ?_
      rintro e w1 ⟨rfl, b1⟩
      go_wp2_with fail
      refine (D1.out _).mono ?_
      rintro e w2 ⟨rfl, rfl⟩
      go_wp2_with fail
      refine (D2.out _).mono ?_
      rintro e w3 ⟨rfl, rfl⟩
      go_wp2
      go_ret
      exact ⟨by rw [HR.out]; rfl, b1⟩
    | true =>
      rw [h2] at d2
      have D2 := Lib.hid d2
      have d3 := fun W => row_any M h0 W (by omega)
      have hv := HV.out
      rw [h1, hlen, h2, Bool.and_self, Bool.true_and] at hv
      have hrl := rowL_le M.data.toList (by intro e; rw [e] at hlen; simp at hlen; omega)
      have hr1 := rowL_pos M.data.toList
      rw [hlen] at hrl
      generalize rowL M.data.toList = r at *
      have D3 := Lib.hid d3
      clear HV d1 d2 h1 h2 hlen hi d3
      by_cases hr : r < M.size
      · rw [decide_eq_true hr, if_pos rfl] at hv
        have HR := Lib.hid hv
        have HX := Lib.hid (show M.extract 1 (M.size - 1) = ⟨((M.data.toList.take (M.size - 1)).drop 1).toArray⟩ from by rw [ext_bytes, List.drop_take])
        have h2 : 2 ≤ M.size := by omega
        have hsl := fun W => slice_lohi M 1 ((M.size : Int) - 1) 1 (M.size - 1) rfl (by omega) (by omega) (by omega) W
        clear hv
        go_enter Tryz.func40, Tryz.ntmps40
        go_wp2_with fail
        refine C1.out.mono ?_
        rintro e w1 ⟨rfl, b1⟩
        go_wp2_with fail
        refine (D1.out _).mono ?_
        rintro e w2 ⟨rfl, rfl⟩
        go_wp2_with fail
        refine (D2.out _).mono ?_
        rintro e w3 ⟨rfl, rfl⟩
        go_wp2_with fail
        refine (D3.out _).mono ?_
        rintro e w4 ⟨rfl, b4⟩
        go_wp2
        go_ret
        exact ⟨by rw [HR.out, ← HX.out]; rfl, b1.then b4⟩
      · rw [decide_eq_false hr, if_neg (by decide)] at hv
        have HR := Lib.hid hv
        clear hv
        go_enter Tryz.func40, Tryz.ntmps40
        go_wp2_with fail
        refine C1.out.mono ?_
        rintro e w1 ⟨rfl, b1⟩
        go_wp2_with fail
        refine (D1.out _).mono ?_
        rintro e w2 ⟨rfl, rfl⟩
        go_wp2_with fail
        refine (D2.out _).mono ?_
        rintro e w3 ⟨rfl, rfl⟩
        go_wp2_with fail
        refine (D3.out _).mono ?_
        rintro e w4 ⟨rfl, b4⟩
        go_wp2
        go_ret
        exact ⟨by rw [HR.out]; rfl, b1.then b4⟩

theorem codeGo_no {l : List UInt8} {n f k : Nat} (h : Lib.index (l.drop k) (l.take n) < 0) : codeGo l n (f + 1) k = (.word (l.take n), n) := by
  rw [codeGo, if_pos h]
theorem codeGo_at {l : List UInt8} {n f k x : Nat} (h : Lib.index (l.drop k) (l.take n) = x) : codeGo l n (f + 1) k =
    if (k + x + rowL (l.drop (k + x))) - (k + x) = n then (.code (shownL ((l.take (k + x)).drop n)), k + x + rowL (l.drop (k + x))) else codeGo l n f (k + x + rowL (l.drop (k + x))) := by
  rw [codeGo, if_neg (by rw [h]; omega), h]
  simp only [Int.toNat_natCast]
def CodeRel (s : ByteArray) (n : Nat) (w : World) (v : Value) (wr : World) : Prop :=
  ∃ j f : Nat, v = .int .i64 j ∧ n ≤ j ∧ j ≤ s.size ∧ s.size < f + j ∧ codeGo s.data.toList n f j = codeL s.data.toList ∧ Below w.heap.size w wr

set_option maxHeartbeats 4000000 in
theorem code_any (s : ByteArray) (h0 : 0 < s.size) (w : World) (hml : MaxL w) (hs : s.size ≤ 4000000000) :
    Calls Tryz.prog 27 #[.string s] w fun e w' => e = .returned (tkR (codeL s.data.toList)) ∧ Below w.heap.size w w' := by
  have c1 := row_any s h0 w (by omega)
  have hle := rowL_le s.data.toList (by intro e; have := size_len' s; rw [e] at this; simp at this; omega)
  have hge := rowL_pos s.data.toList
  rw [size_len'] at hle
  have hL : codeGo s.data.toList (rowL s.data.toList) (s.size + 1) (rowL s.data.toList) = codeL s.data.toList := by
    unfold codeL
    rw [size_len']
  generalize rowL s.data.toList = n at *
  have hsh := fun W => slice_hi s (n : Int) n rfl hle W
  have C1 := Lib.hid c1
  have HM := Lib.hid hml
  have H0 := Lib.hid hL
  clear c1 hml hL
  go_enter Tryz.func27, Tryz.ntmps27
  go_wp2_with fail
  refine C1.out.mono ?_
  rintro e w1 ⟨rfl, b1⟩
  have HB1 := Lib.hid b1
  clear b1
  go_wp2_with fail
  go_loopw [6] (fun v wr => CodeRel s n w v wr) (fun v _ => s.size - (intOf v).toNat)
  case atStart => exact ⟨n, s.size + 1, rfl, Nat.le_refl _, hle, by omega, H0.out, HB1.out⟩
  case round =>
    obtain ⟨j, f, rfl, hnj, hjs, hf, hg, hbw⟩ := hrel
    obtain ⟨f, rfl⟩ : ∃ f', f = f' + 1 := ⟨f - 1, by omega⟩
    obtain ⟨m, hm⟩ := HM.out.below hbw
    have hsl := fun W => slice_lo s (j : Int) j rfl hjs W
    have ci := Tryz.strings_Index (s.extract j s.size) (s.extract 0 n) m wr (by rw [ByteArray.size_extract]; omega) hm
    rw [drop_ext, ext0] at ci
    rw [show (⟨(s.data.toList.take n).toArray⟩ : ByteArray).data.toList = s.data.toList.take n from rfl] at ci
    have HX := Lib.hid (ext0 s n)
    rw [← HX.out] at ci
    have hroom := Lib.index_room (s.data.toList.drop j) (s.data.toList.take n)
    rw [List.length_drop, List.length_take, size_len', Nat.min_eq_left hle] at hroom
    have HB := Lib.hid hbw
    clear hbw hm
    by_cases hneg : Lib.index (s.data.toList.drop j) (s.data.toList.take n) < 0
    · rw [codeGo_no hneg] at hg
      have HR := Lib.hid hg.symm
      have hd : decide (Lib.index (s.data.toList.drop j) (s.data.toList.take n) < 0) = true := by simpa using hneg
      clear hg hroom
      generalize Lib.index (s.data.toList.drop j) (s.data.toList.take n) = x at *
      have CI := Lib.hid ci
      clear ci
      go_wp2_with fail
      refine CI.out.mono ?_
      rintro e w2 ⟨rfl, rfl⟩
      go_wp2
      go_ret2
      exact ⟨by rw [HR.out]; simp only [tkR, tkV]; rw [← HX.out]; rfl, HB.out⟩
    · obtain ⟨x, hx⟩ : ∃ x : Nat, Lib.index (s.data.toList.drop j) (s.data.toList.take n) = x := ⟨(Lib.index (s.data.toList.drop j) (s.data.toList.take n)).toNat, by omega⟩
      rw [codeGo_at hx] at hg
      have hroom2 := hroom (by omega)
      rw [hx] at hroom2 ci
      clear hroom hneg hx
      have hxs : j + x < s.size := by omega
      have hd : decide ((x : Int) < 0) = false := by simp
      have hsl2 := fun W => slice_lo s ((j : Int) + (x : Int)) (j + x) (by simp) (by omega) W
      have hT : (s.extract (j + x) s.size).size = s.size - (j + x) := by rw [ByteArray.size_extract]; omega
      have cr := fun W => row_any (s.extract (j + x) s.size) (by omega) W (by omega)
      rw [drop_ext] at cr
      have hrl := rowL_le (s.data.toList.drop (j + x)) (by intro e; have := congrArg List.length e; rw [List.length_drop, size_len'] at this; simp at this; omega)
      rw [List.length_drop, size_len'] at hrl
      have hrp := rowL_pos (s.data.toList.drop (j + x))
      generalize rowL (s.data.toList.drop (j + x)) = r at *
      have CI := Lib.hid ci
      have CR := Lib.hid cr
      clear ci cr hT
      by_cases hn : r = n
      · subst hn
        rw [if_pos (by omega)] at hg
        have HR := Lib.hid hg.symm
        have hf1 : (((j : Int) + (x : Int) + (r : Int) - ((j : Int) + (x : Int))) == (r : Int)) = true := by simp; omega
        have hsm := fun W => slice_lohi s (r : Int) ((j : Int) + (x : Int)) r (j + x) rfl (by simp) (by omega) (by omega) W
        have hz : (s.extract r (j + x)).size ≤ 4000000000 := by rw [ByteArray.size_extract]; omega
        have hXm := Lib.hid (show (s.extract r (j + x)).data.toList = (s.data.toList.take (j + x)).drop r from by rw [ext_bytes, List.drop_take])
        have CS := Lib.hid (fun W h => shown_any (s.extract r (j + x)) W h hz)
        clear hg hz
        go_wp2_with fail
        refine CI.out.mono ?_
        rintro e w2 ⟨rfl, rfl⟩
        go_wp2_with fail
        refine (CR.out _).mono ?_
        rintro e w3 ⟨rfl, b3⟩
        have HB3 := Lib.hid (HB.out.then b3)
        clear b3
        go_wp2_with fail
        refine (CS.out _ (HM.out.below HB3.out)).mono ?_
        rintro e w4 ⟨rfl, b4⟩
        go_wp2
        go_ret2
        exact ⟨by rw [HR.out, List.drop_take]; rfl, HB3.out.then b4⟩
      · rw [if_neg (by omega)] at hg
        have HG := Lib.hid hg
        have hf1 : (((j : Int) + (x : Int) + (r : Int) - ((j : Int) + (x : Int))) == (n : Int)) = false := by simp; omega
        clear hg
        go_wp2_with fail
        refine CI.out.mono ?_
        rintro e w2 ⟨rfl, rfl⟩
        go_wp2_with fail
        refine (CR.out _).mono ?_
        rintro e w3 ⟨rfl, b3⟩
        have HB3 := Lib.hid (HB.out.then b3)
        clear b3
        go_wp2
        go_roundw
        case rel => exact ⟨j + x + r, f, by go_num, by omega, by omega, by omega, HG.out, HB3.out⟩
        case measure => simp [intOf]; omega

end Go.Proofs.YtggdpmaomhmobaaGreatDoor
