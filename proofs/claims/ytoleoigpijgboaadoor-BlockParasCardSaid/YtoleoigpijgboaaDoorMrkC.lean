/-
  Package mark: Closes, Fence, Quote, Under, Html: what each answers, in plain words.
-/
import Derived.Test.YtoleoigpijgboaaDoorMrkB
namespace Go.Proofs.YtoleoigpijgboaaDoor
open Go.RowKit
set_option linter.unusedSimpArgs false
set_option linter.unusedVariables false

theorem results_tmp4 {fn : Func} {t u v x : Tmp} (h : fn.results = #[.tmp t, .tmp u, .tmp v, .tmp x]) (tmps : Array Value) (P : Program) (w : World) :
    (results fn tmps).run P w = .ok (.tuple #[tmps.getD t undef, tmps.getD u undef, tmps.getD v undef, tmps.getD x undef]) w := by
  simp [results, h]
theorem results_tmp5 {fn : Func} {t u v x y : Tmp} (h : fn.results = #[.tmp t, .tmp u, .tmp v, .tmp x, .tmp y]) (tmps : Array Value) (P : Program) (w : World) :
    (results fn tmps).run P w = .ok (.tuple #[tmps.getD t undef, tmps.getD u undef, tmps.getD v undef, tmps.getD x undef, tmps.getD y undef]) w := by
  simp [results, h]

set_option maxHeartbeats 4000000 in
theorem mkCloses_any (s : ByteArray) (c : UInt8) (hc : c.toNat < 128) (n : Int) (w : World) (hs : s.size ≤ 35184372088832) :
    Calls Tryd.prog 74 #[.string s, .int .u8 c.toNat, .int .i64 n] w fun e w' => e = .returned (.bool (mkCloses s.data.toList c n)) ∧ Below w.heap.size w w' := by
  have c1 := begin_any s w hs
  have hle := mkBegin_le s.data.toList
  have hl : s.data.toList.length = s.size := by simp
  rw [hl] at hle
  unfold mkCloses
  obtain ⟨X, hX1, hX⟩ := text_of (mkBegin s.data.toList)
  rw [hX1] at c1
  rw [← hX] at hle ⊢
  have hXs : X.data.toList.length = X.size := by simp
  rw [hXs] at hle
  have c2 := fun w1 => row_any X c hc w1 (by omega)
  have hr := mkRow_le c X.data.toList
  rw [hXs] at hr
  generalize mkRow c X.data.toList = k at *
  have c3 := fun w1 => blank_any (X.extract k X.size) w1 (by rw [ByteArray.size_extract]; omega)
  rw [ext_list] at c3
  generalize (X.data.toList.drop k).all isGap = b at *
  generalize hm : max n 1 = m at *
  clear hX1 hX hl hXs
  by_cases h : m ≤ (k : Int)
  · have f1 : decide (m ≤ (k : Int)) = true := by simpa using h
    rw [f1]
    clear h
    go_enter Tryd.func74, Tryd.ntmps74
    go_wp2_with fail
    refine c1.mono ?_
    rintro e w1 ⟨rfl, b1⟩
    go_wp2_with fail
    refine (c2 w1).mono ?_
    rintro e w2 ⟨rfl, b2⟩
    go_wp2_with fail
    refine (c3 w2).mono ?_
    rintro e w3 ⟨rfl, b3⟩
    go_wp2
    go_ret
    exact ⟨by rw [Bool.true_and]; rfl, (b1.then b2).then b3⟩
  · have f1 : decide (m ≤ (k : Int)) = false := by simpa using h
    rw [f1]
    clear h
    go_enter Tryd.func74, Tryd.ntmps74
    go_wp2_with fail
    refine c1.mono ?_
    rintro e w1 ⟨rfl, b1⟩
    go_wp2_with fail
    refine (c2 w1).mono ?_
    rintro e w2 ⟨rfl, b2⟩
    go_wp2
    go_ret
    exact ⟨by rw [Bool.false_and]; rfl, b1.then b2⟩

def mkFenceV : Option (UInt8 × Nat × List UInt8) → Value
  | some (c, n, t) => .tuple #[.int .u8 c.toNat, .int .i64 n, .string ⟨t.toArray⟩, .bool true]
  | none => .tuple #[.int .u8 0, .int .i64 0, .string ⟨#[]⟩, .bool false]

set_option maxHeartbeats 8000000 in
theorem mkFence_any (s : ByteArray) (w : World) (hs : s.size ≤ 35184372088832) :
    Calls Tryd.prog 47 #[.string s] w fun e w' => e = .returned (mkFenceV (mkFence s.data.toList)) ∧ Below w.heap.size w w' := by
  have c1 := begin_any s w hs
  have hle := mkBegin_le s.data.toList
  have hl : s.data.toList.length = s.size := by simp
  rw [hl] at hle
  generalize hV : mkFenceV (mkFence s.data.toList) = V
  unfold mkFence at hV
  dsimp only at hV
  obtain ⟨X, hX1, hX⟩ := text_of (mkBegin s.data.toList)
  rw [hX1] at c1
  rw [← hX] at hle hV
  have hXs : X.data.toList.length = X.size := by simp
  rw [hXs] at hle
  clear hX1 hX hl
  have c2 := fun w1 => Tryd.strings_HasPrefix X ⟨#[126]⟩ w1
  rw [show (⟨#[126]⟩ : ByteArray).data.toList = [126] from rfl] at c2
  generalize Lib.hasPrefix X.data.toList [126] = p at *
  cases p with
  | true =>
    simp only [if_true] at hV
    have c3 := fun w1 => row_any X 126 (by decide) w1 (by omega)
    have hr := mkRow_le 126 X.data.toList
    rw [hXs] at hr
    generalize mkRow 126 X.data.toList = n at *
    have c4 := fun w1 => trim_any (X.extract n X.size) w1 (by rw [ByteArray.size_extract]; omega)
    rw [ext_list] at c4
    generalize trimG (X.data.toList.drop n) = Y at *
    by_cases h : n < 3
    · have HV := Lib.hid (show V = mkFenceV none from by rw [← hV, if_pos (Or.inl h)])
      have f1 : decide ((n : Int) < 3) = true := by simp; omega
      clear hV h hXs
      go_enter Tryd.func47, Tryd.ntmps47
      go_wp2_with fail
      refine c1.mono ?_
      rintro e w1 ⟨rfl, b1⟩
      go_wp2_with fail
      refine (c2 w1).mono ?_
      rintro e w1 ⟨rfl, rfl⟩
      go_wp2_with fail
      refine (c3 w1).mono ?_
      rintro e w3 ⟨rfl, b3⟩
      go_wp2_with fail
      refine (c4 w3).mono ?_
      rintro e w4 ⟨rfl, b4⟩
      go_wp2
      (try simp only [Exit.inBlock, Exit.then])
      refine bodyPost_ret (results_tmp4 rfl _ _ _) rfl ?_
      exact ⟨by rw [HV.out]; rfl, (b1.then b3).then b4⟩
    · have HV := Lib.hid (show V = mkFenceV (some (126, n, Y)) from by rw [← hV, if_neg (fun h2 => by rcases h2 with h2 | h2; exact h h2; exact absurd h2.1 (by decide))])
      have f1 : decide ((n : Int) < 3) = false := by simp; omega
      clear hV h hXs
      go_enter Tryd.func47, Tryd.ntmps47
      go_wp2_with fail
      refine c1.mono ?_
      rintro e w1 ⟨rfl, b1⟩
      go_wp2_with fail
      refine (c2 w1).mono ?_
      rintro e w1 ⟨rfl, rfl⟩
      go_wp2_with fail
      refine (c3 w1).mono ?_
      rintro e w3 ⟨rfl, b3⟩
      go_wp2_with fail
      refine (c4 w3).mono ?_
      rintro e w4 ⟨rfl, b4⟩
      go_wp2
      (try simp only [Exit.inBlock, Exit.then])
      refine bodyPost_ret (results_tmp4 rfl _ _ _) rfl ?_
      exact ⟨by rw [HV.out]; rfl, (b1.then b3).then b4⟩
  | false =>
    simp only [Bool.false_eq_true, if_false] at hV
    have c3 := fun w1 => row_any X 96 (by decide) w1 (by omega)
    have hr := mkRow_le 96 X.data.toList
    rw [hXs] at hr
    generalize mkRow 96 X.data.toList = n at *
    have c4 := fun w1 => trim_any (X.extract n X.size) w1 (by rw [ByteArray.size_extract]; omega)
    rw [ext_list] at c4
    generalize trimG (X.data.toList.drop n) = Y at *
    have c5 := fun w1 => Tryd.strings_Contains_one ⟨Y.toArray⟩ 96 w1
    rw [show (⟨Y.toArray⟩ : ByteArray).data.toList = Y from rfl] at c5
    by_cases h : n < 3
    · have HV := Lib.hid (show V = mkFenceV none from by rw [← hV, if_pos (Or.inl h)])
      have f1 : decide ((n : Int) < 3) = true := by simp; omega
      clear hV h hXs
      go_enter Tryd.func47, Tryd.ntmps47
      go_wp2_with fail
      refine c1.mono ?_
      rintro e w1 ⟨rfl, b1⟩
      go_wp2_with fail
      refine (c2 w1).mono ?_
      rintro e w1 ⟨rfl, rfl⟩
      go_wp2_with fail
      refine (c3 w1).mono ?_
      rintro e w3 ⟨rfl, b3⟩
      go_wp2_with fail
      refine (c4 w3).mono ?_
      rintro e w4 ⟨rfl, b4⟩
      go_wp2
      (try simp only [Exit.inBlock, Exit.then])
      refine bodyPost_ret (results_tmp4 rfl _ _ _) rfl ?_
      exact ⟨by rw [HV.out]; rfl, (b1.then b3).then b4⟩
    · have f1 : decide ((n : Int) < 3) = false := by simp; omega
      by_cases h2 : 0 ≤ Lib.indexByte Y 96
      · have HV := Lib.hid (show V = mkFenceV none from by rw [← hV, if_pos (Or.inr ⟨by trivial, h2⟩)])
        rw [decide_eq_true h2] at c5
        clear hV h hXs h2
        go_enter Tryd.func47, Tryd.ntmps47
        go_wp2_with fail
        refine c1.mono ?_
        rintro e w1 ⟨rfl, b1⟩
        go_wp2_with fail
        refine (c2 w1).mono ?_
        rintro e w1 ⟨rfl, rfl⟩
        go_wp2_with fail
        refine (c3 w1).mono ?_
        rintro e w3 ⟨rfl, b3⟩
        go_wp2_with fail
        refine (c4 w3).mono ?_
        rintro e w4 ⟨rfl, b4⟩
        go_wp2_with fail
        refine (c5 w4).mono ?_
        rintro e w5 ⟨rfl, rfl⟩
        go_wp2
        (try simp only [Exit.inBlock, Exit.then])
        refine bodyPost_ret (results_tmp4 rfl _ _ _) rfl ?_
        exact ⟨by rw [HV.out]; rfl, (b1.then b3).then b4⟩
      · have HV := Lib.hid (show V = mkFenceV (some (96, n, Y)) from by rw [← hV, if_neg (fun h3 => by rcases h3 with h3 | h3; exact h h3; exact h2 h3.2)])
        rw [decide_eq_false h2] at c5
        clear hV h hXs h2
        go_enter Tryd.func47, Tryd.ntmps47
        go_wp2_with fail
        refine c1.mono ?_
        rintro e w1 ⟨rfl, b1⟩
        go_wp2_with fail
        refine (c2 w1).mono ?_
        rintro e w1 ⟨rfl, rfl⟩
        go_wp2_with fail
        refine (c3 w1).mono ?_
        rintro e w3 ⟨rfl, b3⟩
        go_wp2_with fail
        refine (c4 w3).mono ?_
        rintro e w4 ⟨rfl, b4⟩
        go_wp2_with fail
        refine (c5 w4).mono ?_
        rintro e w5 ⟨rfl, rfl⟩
        go_wp2
        (try simp only [Exit.inBlock, Exit.then])
        refine bodyPost_ret (results_tmp4 rfl _ _ _) rfl ?_
        exact ⟨by rw [HV.out]; rfl, (b1.then b3).then b4⟩

def mkQuoteV : Option (List UInt8) → Value
  | some t => .tuple #[.string ⟨t.toArray⟩, .bool true]
  | none => .tuple #[.string ⟨#[]⟩, .bool false]

set_option maxHeartbeats 4000000 in
theorem mkQuote_any (s : ByteArray) (w : World) (hs : s.size ≤ 35184372088832) :
    Calls Tryd.prog 51 #[.string s] w fun e w' => e = .returned (mkQuoteV (mkQuote s.data.toList)) ∧ Below w.heap.size w w' := by
  have c1 := begin_any s w hs
  generalize hV : mkQuoteV (mkQuote s.data.toList) = V
  unfold mkQuote at hV
  obtain ⟨X, hX1, hX⟩ := text_of (mkBegin s.data.toList)
  rw [hX1] at c1
  rw [← hX] at hV
  clear hX1 hX
  have c2 := fun w1 => Tryd.strings_CutPrefix X ⟨#[62]⟩ w1
  rw [show (⟨#[62]⟩ : ByteArray).data.toList = [62] from rfl] at c2
  generalize Lib.hasPrefix X.data.toList [62] = p at *
  generalize Lib.trimPrefix X.data.toList [62] = Y at *
  have c3 := fun w1 => Tryd.strings_TrimPrefix ⟨Y.toArray⟩ ⟨#[32]⟩ w1
  rw [show (⟨#[32]⟩ : ByteArray).data.toList = [32] from rfl, show (⟨Y.toArray⟩ : ByteArray).data.toList = Y from rfl] at c3
  cases p with
  | true =>
    have HV := Lib.hid (show V = mkQuoteV (some (Lib.trimPrefix Y [32])) from by rw [← hV]; rfl)
    clear hV
    go_enter Tryd.func51, Tryd.ntmps51
    go_wp2_with fail
    refine c1.mono ?_
    rintro e w1 ⟨rfl, b1⟩
    go_wp2_with fail
    refine (c2 w1).mono ?_
    rintro e w1 ⟨rfl, rfl⟩
    go_wp2_with fail
    refine (c3 w1).mono ?_
    rintro e w1 ⟨rfl, rfl⟩
    go_wp2
    go_ret2
    exact ⟨by rw [HV.out]; rfl, b1⟩
  | false =>
    have HV := Lib.hid (show V = mkQuoteV none from by rw [← hV]; rfl)
    clear hV
    go_enter Tryd.func51, Tryd.ntmps51
    go_wp2_with fail
    refine c1.mono ?_
    rintro e w1 ⟨rfl, b1⟩
    go_wp2_with fail
    refine (c2 w1).mono ?_
    rintro e w1 ⟨rfl, rfl⟩
    go_wp2
    go_ret2
    exact ⟨by rw [HV.out]; rfl, b1⟩

set_option maxHeartbeats 4000000 in
theorem mkUnder_any (s : ByteArray) (w : World) (hs : s.size ≤ 35184372088832) :
    Calls Tryd.prog 62 #[.string s] w fun e w' => e = .returned (.int .i64 (mkUnder s.data.toList)) ∧ Below w.heap.size w w' := by
  have c1 := fun w1 => mkCloses_any s 61 (by decide) 1 w1 hs
  have c2 := fun w1 => mkCloses_any s 45 (by decide) 1 w1 hs
  unfold mkUnder
  cases h1 : mkCloses s.data.toList 61 1 with
  | true =>
    rw [h1] at c1
    clear h1
    go_enter Tryd.func62, Tryd.ntmps62
    go_wp2_with fail
    refine (c1 w).mono ?_
    rintro e w1 ⟨rfl, b1⟩
    go_wp2
    go_ret
    exact ⟨rfl, b1⟩
  | false =>
    rw [h1] at c1
    cases h2 : mkCloses s.data.toList 45 1 with
    | true =>
      rw [h2] at c2
      clear h1 h2
      go_enter Tryd.func62, Tryd.ntmps62
      go_wp2_with fail
      refine (c1 w).mono ?_
      rintro e w1 ⟨rfl, b1⟩
      go_wp2_with fail
      refine (c2 w1).mono ?_
      rintro e w2 ⟨rfl, b2⟩
      go_wp2
      go_ret
      exact ⟨rfl, b1.then b2⟩
    | false =>
      rw [h2] at c2
      clear h1 h2
      go_enter Tryd.func62, Tryd.ntmps62
      go_wp2_with fail
      refine (c1 w).mono ?_
      rintro e w1 ⟨rfl, b1⟩
      go_wp2_with fail
      refine (c2 w1).mono ?_
      rintro e w2 ⟨rfl, b2⟩
      go_wp2
      go_ret
      exact ⟨rfl, b1.then b2⟩

end Go.Proofs.YtoleoigpijgboaaDoor
