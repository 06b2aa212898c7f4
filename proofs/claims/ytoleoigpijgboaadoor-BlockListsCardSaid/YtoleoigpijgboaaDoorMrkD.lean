/-
  Package mark: Item: what it answers, in plain words.
-/
import Derived.Test.YtoleoigpijgboaaDoorMrkC
import Derived.Test.YtoleoigpijgboaaDoorReg
namespace Go.Proofs.YtoleoigpijgboaaDoor
open Go.RowKit
set_option linter.unusedSimpArgs false
set_option linter.unusedVariables false

def mkItemV : Option (UInt8 × Int × Nat × List UInt8) → Value
  | some (c, n, k, t) => .tuple #[.int .u8 c.toNat, .int .i64 n, .int .i64 k, .string ⟨t.toArray⟩, .bool true]
  | none => .tuple #[.int .u8 0, .int .i64 0, .int .i64 0, .string ⟨#[]⟩, .bool false]

set_option maxHeartbeats 8000000 in
theorem mkItem_any (s : ByteArray) (w : World) (hs : s.size ≤ 35184372088832) :
    Calls Tryd.prog 52 #[.string s] w fun e w' => e = .returned (mkItemV (mkItem s.data.toList)) ∧ Below w.heap.size w w' := by
  have c1 := begin_any s w hs
  have hle := mkBegin_le s.data.toList
  have hl : s.data.toList.length = s.size := by simp
  rw [hl] at hle
  have hm1 := mCols_le s.data.toList 0
  have hm2 := mSize_le s.data.toList
  rw [hl] at hm2
  have c4 := fun w1 => mkRule_any s w1 hs
  have c5 := fun w1 => indent_any s w1 hs
  generalize hV : mkItemV (mkItem s.data.toList) = V
  unfold mkItem at hV
  dsimp only at hV
  obtain ⟨X, hX1, hX⟩ := text_of (mkBegin s.data.toList)
  rw [hX1] at c1
  rw [← hX] at hle hV
  have hXs : X.data.toList.length = X.size := by simp
  rw [hXs] at hle
  clear hX1 hX hl
  have c2 := fun w1 => itemSign_any X w1 (by omega)
  have hz := itemF_size X.data.toList 0 0
  rw [Nat.zero_add, hXs] at hz
  change (itemSg X.data.toList).2.2 ≤ _ at hz
  generalize itemSg X.data.toList = sg at *
  obtain ⟨c, num, z⟩ := sg
  dsimp only at hz hV
  unfold sgV at c2
  dsimp only at c2
  generalize mCols s.data.toList 0 = m at *
  generalize mkRule s.data.toList = ru at *
  have hm : m ≤ 140737488355328 := by omega
  clear hm1 hm2
  by_cases h0 : z = 0
  · have HV := Lib.hid (show V = mkItemV none from by rw [← hV, if_pos (Or.inl h0)])
    subst h0
    have c3 := fun w1 => row_any X 32 (by decide) w1 (by omega)
    clear hV
    go_enter Tryd.func52, Tryd.ntmps52
    go_wp2_with fail
    refine c1.mono ?_
    rintro e w1 ⟨rfl, b1⟩
    go_wp2_with fail
    refine (c2 w1).mono ?_
    rintro e w2 ⟨rfl, b2⟩
    go_wp2_with fail
    refine (c3 w2).mono ?_
    rintro e w3 ⟨rfl, b3⟩
    go_wp2
    (try simp only [Exit.inBlock, Exit.then])
    refine bodyPost_ret (results_tmp5 rfl _ _ _) rfl ?_
    exact ⟨by rw [HV.out]; rfl, (b1.then b2).then b3⟩
  · have f0 : ((z : Int) == 0) = false := by simp; omega
    by_cases h1 : z = X.size
    · subst h1
      have hdr : X.data.toList.drop X.size = [] := List.drop_eq_nil_of_le (by omega)
      rw [hdr] at hV
      have c3 : ∀ w1, Calls Tryd.prog 70 #[.string ByteArray.empty, .int .u8 32] w1 fun e w' => e = .returned (.int .i64 0) ∧ Below w1.heap.size w1 w' := fun w1 => row_any ByteArray.empty 32 (by decide) w1 (by decide)
      cases ru with
      | true =>
        have HV := Lib.hid (show V = mkItemV none from by rw [← hV, if_pos (Or.inr (Or.inr rfl))])
        have hmin : min (1 : Int) 0 = 0 := by decide
        have hsl : ∀ W, (Instr.slice 9 (.string ByteArray.empty) (some (.int .i64 0)) none none).run Tryd.prog W = .ok (.string ByteArray.empty) W := fun W => run_slice_string_l (P := Tryd.prog) W 9 ByteArray.empty Tryd.underlying9 .i64 0 (by omega) (by decide)
        have hw1 : IntKind.i64.wrap ((m : Int) + (X.size : Int)) = (m : Int) + (X.size : Int) := IntWalk.i64_in _ (by omega)
        have hw2 : IntKind.i64.wrap ((m : Int) + (X.size : Int) + 1) = (m : Int) + (X.size : Int) + 1 := IntWalk.i64_in _ (by omega)
        clear hV hdr h0 hXs
        go_enter Tryd.func52, Tryd.ntmps52
        go_wp2_with fail
        refine c1.mono ?_
        rintro e w1 ⟨rfl, b1⟩
        go_wp2_with fail
        refine (c2 w1).mono ?_
        rintro e w2 ⟨rfl, b2⟩
        go_wp2_with fail
        refine (c3 w2).mono ?_
        rintro e w3 ⟨rfl, b3⟩
        go_wp2_with fail
        refine (c4 w3).mono ?_
        rintro e w4 ⟨rfl, b4⟩
        go_wp2
        (try simp only [Exit.inBlock, Exit.then])
        refine bodyPost_ret (results_tmp5 rfl _ _ _) rfl ?_
        exact ⟨by rw [HV.out]; rfl, ((b1.then b2).then b3).then b4⟩
      | false =>
        have HV := Lib.hid (show V = mkItemV (some (c, num, m + X.size + 1, [])) from by rw [← hV, if_neg (fun h => by rcases h with h | h | h; exact h0 h; exact h.2 rfl; exact absurd h (by decide))]; rfl)
        have hmin : min (1 : Int) 0 = 0 := by decide
        have hsl : ∀ W, (Instr.slice 9 (.string ByteArray.empty) (some (.int .i64 0)) none none).run Tryd.prog W = .ok (.string ByteArray.empty) W := fun W => run_slice_string_l (P := Tryd.prog) W 9 ByteArray.empty Tryd.underlying9 .i64 0 (by omega) (by decide)
        have hw1 : IntKind.i64.wrap ((m : Int) + (X.size : Int)) = (m : Int) + (X.size : Int) := IntWalk.i64_in _ (by omega)
        have hw2 : IntKind.i64.wrap ((m : Int) + (X.size : Int) + 1) = (m : Int) + (X.size : Int) + 1 := IntWalk.i64_in _ (by omega)
        clear hV hdr h0 hXs
        go_enter Tryd.func52, Tryd.ntmps52
        go_wp2_with fail
        refine c1.mono ?_
        rintro e w1 ⟨rfl, b1⟩
        go_wp2_with fail
        refine (c2 w1).mono ?_
        rintro e w2 ⟨rfl, b2⟩
        go_wp2_with fail
        refine (c3 w2).mono ?_
        rintro e w3 ⟨rfl, b3⟩
        go_wp2_with fail
        refine (c4 w3).mono ?_
        rintro e w4 ⟨rfl, b4⟩
        have HB4 := Lib.hid (((b1.then b2).then b3).then b4)
        have hS := (Below.refl w4.heap.size w4).drew
        have HC1 := Lib.hid (fun W (hW : Below w4.heap.size w4 W) => (c5 W).mono fun e w' (h : e = _ ∧ Below W.heap.size W w') => (⟨h.1, hW.then h.2⟩ : e = _ ∧ Below w4.heap.size w4 w'))
        clear c5 b1 b2 b3 b4
        go_wp2_with fail
        go_region_held3 (fun W => Below w4.heap.size w4 W) (assumption) (first | (go_at_call 45; (with_reducible refine (HC1.out _ (by assumption)).mono ?_); rintro e w5 ⟨rfl, hS5⟩))
        all_goals go_wp2
        all_goals (try simp only [Exit.inBlock, Exit.then])
        all_goals refine bodyPost_ret (results_tmp5 rfl _ _ _) rfl ?_
        all_goals exact ⟨by rw [HV.out]; rfl, HB4.out.then hS5⟩
    · have hlt : z < X.size := by omega
      obtain ⟨R, hR, hRl⟩ : ∃ R : ByteArray, X.extract z X.size = R ∧ R.data.toList = X.data.toList.drop z := ⟨_, rfl, ext_list X z⟩
      have hRz : R.size = X.size - z := by rw [← hR, ByteArray.size_extract]; omega
      have hR1 : 1 ≤ R.size := by omega
      have hRne : R.toList.isEmpty = false := toList_empty (by omega)
      rw [← hRl] at hV
      have hRs : R.data.toList.length = R.size := by simp
      have hrn : R.data.toList ≠ [] := fun e => by rw [e] at hRs; simp at hRs; omega
      have c3 := fun w1 => row_any R 32 (by decide) w1 (by omega)
      have hg := mkRow_le 32 R.data.toList
      rw [hRs] at hg
      unfold mkGap at hV
      rw [hRs] at hV
      have hX3 := Lib.extract_from R
      generalize mkRow 32 R.data.toList = g at *
      have HX3 := Lib.hid hX3
      clear hX3
      by_cases h2 : g = 0
      · have HV := Lib.hid (show V = mkItemV none from by rw [← hV, if_pos (Or.inr (Or.inl ⟨h2, hrn⟩))])
        have f1 : ((g : Int) == 0) = true := by simp; omega
        clear hV h1 h0 h2 hRz hRl hrn hRs
        go_enter Tryd.func52, Tryd.ntmps52
        go_wp2_with fail
        refine c1.mono ?_
        rintro e w1 ⟨rfl, b1⟩
        go_wp2_with fail
        refine (c2 w1).mono ?_
        rintro e w2 ⟨rfl, b2⟩
        go_wp2_with fail
        refine (c3 w2).mono ?_
        rintro e w3 ⟨rfl, b3⟩
        go_wp2
        (try simp only [Exit.inBlock, Exit.then])
        refine bodyPost_ret (results_tmp5 rfl _ _ _) rfl ?_
        exact ⟨by rw [HV.out]; rfl, (b1.then b2).then b3⟩
      · have f1 : ((g : Int) == 0) = false := by simp; omega
        cases ru with
        | true =>
          have HV := Lib.hid (show V = mkItemV none from by rw [← hV, if_pos (Or.inr (Or.inr rfl))])
          clear hV h1 h0 h2 hRz hRl hrn hRs
          go_enter Tryd.func52, Tryd.ntmps52
          go_wp2_with fail
          refine c1.mono ?_
          rintro e w1 ⟨rfl, b1⟩
          go_wp2_with fail
          refine (c2 w1).mono ?_
          rintro e w2 ⟨rfl, b2⟩
          go_wp2_with fail
          refine (c3 w2).mono ?_
          rintro e w3 ⟨rfl, b3⟩
          go_wp2_with fail
          refine (c4 w3).mono ?_
          rintro e w4 ⟨rfl, b4⟩
          go_wp2
          (try simp only [Exit.inBlock, Exit.then])
          refine bodyPost_ret (results_tmp5 rfl _ _ _) rfl ?_
          exact ⟨by rw [HV.out]; rfl, ((b1.then b2).then b3).then b4⟩
        | false =>
          rw [if_neg (fun h => by rcases h with h | h | h; exact h0 h; exact h2 h.1; exact absurd h (by decide))] at hV
          by_cases h4 : 4 < g
          · rw [if_pos (Or.inl h4), show min 1 R.size = 1 from by omega] at hV
            have f2 : decide ((4 : Int) < (g : Int)) = true := by simp; omega
            have HV := Lib.hid hV
            have f3 : min (1 : Int) (R.size : Int) = 1 := by omega
            have hw1 : IntKind.i64.wrap ((m : Int) + (z : Int)) = (m : Int) + (z : Int) := IntWalk.i64_in _ (by omega)
            have hw2 : IntKind.i64.wrap ((m : Int) + (z : Int) + 1) = (m : Int) + (z : Int) + 1 := IntWalk.i64_in _ (by omega)
            have hsl : ∀ W, (Instr.slice 9 (.string R) (some (.int .i64 1)) none none).run Tryd.prog W = .ok (.string (R.extract 1 R.size)) W := fun W => run_slice_string_l (P := Tryd.prog) W 9 R Tryd.underlying9 .i64 1 (by omega) (by omega)
            clear hV h1 h0 h2 hRz hRl hrn hRs h4
            go_enter Tryd.func52, Tryd.ntmps52
            go_wp2_with fail
            refine c1.mono ?_
            rintro e w1 ⟨rfl, b1⟩
            go_wp2_with fail
            refine (c2 w1).mono ?_
            rintro e w2 ⟨rfl, b2⟩
            go_wp2_with fail
            refine (c3 w2).mono ?_
            rintro e w3 ⟨rfl, b3⟩
            go_wp2_with fail
            refine (c4 w3).mono ?_
            rintro e w4 ⟨rfl, b4⟩
            have HB4 := Lib.hid (((b1.then b2).then b3).then b4)
            have hS := (Below.refl w4.heap.size w4).drew
            have HC1 := Lib.hid (fun W (hW : Below w4.heap.size w4 W) => (c5 W).mono fun e w' (h : e = _ ∧ Below W.heap.size W w') => (⟨h.1, hW.then h.2⟩ : e = _ ∧ Below w4.heap.size w4 w'))
            clear c5 b1 b2 b3 b4
            go_wp2_with fail
            go_region_held3 (fun W => Below w4.heap.size w4 W) (assumption) (first | (go_at_call 45; (with_reducible refine (HC1.out _ (by assumption)).mono ?_); rintro e w5 ⟨rfl, hS5⟩))
            all_goals go_wp2
            all_goals (try simp only [Exit.inBlock, Exit.then])
            all_goals refine bodyPost_ret (results_tmp5 rfl _ _ _) rfl ?_
            all_goals exact ⟨by rw [← HV.out, HX3.out]; rfl, HB4.out.then hS5⟩
          · have f2 : decide ((4 : Int) < (g : Int)) = false := by simp; omega
            by_cases h5 : g = R.size
            · rw [if_pos (Or.inr h5), show min 1 R.size = 1 from by omega] at hV
              have f4 : ((g : Int) == (R.size : Int)) = true := by simp; omega
              have HV := Lib.hid hV
              have f3 : min (1 : Int) (R.size : Int) = 1 := by omega
              have hw1 : IntKind.i64.wrap ((m : Int) + (z : Int)) = (m : Int) + (z : Int) := IntWalk.i64_in _ (by omega)
              have hw2 : IntKind.i64.wrap ((m : Int) + (z : Int) + 1) = (m : Int) + (z : Int) + 1 := IntWalk.i64_in _ (by omega)
              have hsl : ∀ W, (Instr.slice 9 (.string R) (some (.int .i64 1)) none none).run Tryd.prog W = .ok (.string (R.extract 1 R.size)) W := fun W => run_slice_string_l (P := Tryd.prog) W 9 R Tryd.underlying9 .i64 1 (by omega) (by omega)
              clear hV h1 h0 h2 hRz hRl hrn hRs h4 h5
              go_enter Tryd.func52, Tryd.ntmps52
              go_wp2_with fail
              refine c1.mono ?_
              rintro e w1 ⟨rfl, b1⟩
              go_wp2_with fail
              refine (c2 w1).mono ?_
              rintro e w2 ⟨rfl, b2⟩
              go_wp2_with fail
              refine (c3 w2).mono ?_
              rintro e w3 ⟨rfl, b3⟩
              go_wp2_with fail
              refine (c4 w3).mono ?_
              rintro e w4 ⟨rfl, b4⟩
              have HB4 := Lib.hid (((b1.then b2).then b3).then b4)
              have hS := (Below.refl w4.heap.size w4).drew
              have HC1 := Lib.hid (fun W (hW : Below w4.heap.size w4 W) => (c5 W).mono fun e w' (h : e = _ ∧ Below W.heap.size W w') => (⟨h.1, hW.then h.2⟩ : e = _ ∧ Below w4.heap.size w4 w'))
              clear c5 b1 b2 b3 b4
              go_wp2_with fail
              go_region_held3 (fun W => Below w4.heap.size w4 W) (assumption) (first | (go_at_call 45; (with_reducible refine (HC1.out _ (by assumption)).mono ?_); rintro e w5 ⟨rfl, hS5⟩))
              all_goals go_wp2
              all_goals (try simp only [Exit.inBlock, Exit.then])
              all_goals refine bodyPost_ret (results_tmp5 rfl _ _ _) rfl ?_
              all_goals exact ⟨by rw [← HV.out, HX3.out]; rfl, HB4.out.then hS5⟩
            · rw [if_neg (fun h => by rcases h with h | h; exact h4 h; exact h5 h), show min g R.size = g from by omega] at hV
              have f4 : ((g : Int) == (R.size : Int)) = false := by simp; omega
              have HV := Lib.hid hV
              have f3 : min (g : Int) (R.size : Int) = (g : Int) := by omega
              have hw1 : IntKind.i64.wrap ((m : Int) + (z : Int)) = (m : Int) + (z : Int) := IntWalk.i64_in _ (by omega)
              have hw2 : IntKind.i64.wrap ((m : Int) + (z : Int) + (g : Int)) = (m : Int) + (z : Int) + (g : Int) := IntWalk.i64_in _ (by omega)
              have hsl : ∀ W, (Instr.slice 9 (.string R) (some (.int .i64 (g : Int))) none none).run Tryd.prog W = .ok (.string (R.extract g R.size)) W := fun W => run_slice_string_l (P := Tryd.prog) W 9 R Tryd.underlying9 .i64 (g : Int) (by omega) (by omega)
              clear hV h1 h0 h2 hRz hRl hrn hRs h4 h5
              go_enter Tryd.func52, Tryd.ntmps52
              go_wp2_with fail
              refine c1.mono ?_
              rintro e w1 ⟨rfl, b1⟩
              go_wp2_with fail
              refine (c2 w1).mono ?_
              rintro e w2 ⟨rfl, b2⟩
              go_wp2_with fail
              refine (c3 w2).mono ?_
              rintro e w3 ⟨rfl, b3⟩
              go_wp2_with fail
              refine (c4 w3).mono ?_
              rintro e w4 ⟨rfl, b4⟩
              have HB4 := Lib.hid (((b1.then b2).then b3).then b4)
              have hS := (Below.refl w4.heap.size w4).drew
              have HC1 := Lib.hid (fun W (hW : Below w4.heap.size w4 W) => (c5 W).mono fun e w' (h : e = _ ∧ Below W.heap.size W w') => (⟨h.1, hW.then h.2⟩ : e = _ ∧ Below w4.heap.size w4 w'))
              clear c5 b1 b2 b3 b4
              go_wp2_with fail
              go_region_held3 (fun W => Below w4.heap.size w4 W) (assumption) (first | (go_at_call 45; (with_reducible refine (HC1.out _ (by assumption)).mono ?_); rintro e w5 ⟨rfl, hS5⟩))
              all_goals go_wp2
              all_goals (try simp only [Exit.inBlock, Exit.then])
              all_goals refine bodyPost_ret (results_tmp5 rfl _ _ _) rfl ?_
              all_goals exact ⟨by rw [← HV.out, HX3.out]; rfl, HB4.out.then hS5⟩

end Go.Proofs.YtoleoigpijgboaaDoor
