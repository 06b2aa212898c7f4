/-
  The document's own answers for chapter 3: digit, Names, At: what each answers, in plain words.
  The document's own Entity: the way through the names.
  The document's own Entity: no name: a number, or nothing.
  The document's own Entity: no name: a number, or nothing.
  The document's own Entity, at every text.
-/
import Derived.Test.YtioolcnoiaoflaaGreatDoorEntT
import Derived.Test.YtioolcnoiaoflaaGreatDoorEntRp
namespace Go.Proofs.YtioolcnoiaoflaaGreatDoor
open Go.RowKit
set_option linter.unusedSimpArgs false
set_option linter.unusedVariables false

def bse (hex : Bool) : Int := if hex then 16 else 10
def rdig (hex : Bool) (c : Int) : Int := if digOk (bse hex) c then digV (bse hex) c else -1
theorem rdigit_any (c : Int) (hex : Bool) (w : World) (h0 : 0 ≤ c) (h1 : c ≤ 255) :
    Calls Tryz.prog 123 #[.int .u8 c, .bool hex] w fun e w' => e = .returned (.int .i64 (rdig hex c)) ∧ w = w' := by
  by_cases d1 : 48 ≤ c ∧ c ≤ 57
  · have HV := Lib.hid (show rdig hex c = c - 48 from by cases hex <;> simp [rdig, bse, digV, digOk, (inR_iff _ _ _).2 d1])
    obtain ⟨d1, d2⟩ := d1
    go_enter Tryz.func123, Tryz.ntmps123
    go_wp2
    go_ret
    exact ⟨ret_int HV.out.symm, rfl⟩
  · have n1 := (inR_f _ _ _).2 d1
    cases hex with
    | false =>
      have HV := Lib.hid (show rdig false c = -1 from by simp [rdig, bse, digV, digOk, n1])
      clear n1
      go_enter Tryz.func123, Tryz.ntmps123
      go_wp2
      all_goals first | omega | (go_ret; exact ⟨ret_int HV.out.symm, rfl⟩)
    | true =>
      by_cases d2 : 97 ≤ c ∧ c ≤ 102
      · have HV := Lib.hid (show rdig true c = c - 97 + 10 from by simp [rdig, bse, digV, digOk, n1, (inR_iff _ _ _).2 d2]; omega)
        obtain ⟨d3, d4⟩ := d2
        clear n1 d1
        go_enter Tryz.func123, Tryz.ntmps123
        go_wp2
        go_ret
        exact ⟨ret_int HV.out.symm, rfl⟩
      · have n2 := (inR_f _ _ _).2 d2
        by_cases d3 : 65 ≤ c ∧ c ≤ 70
        · have HV := Lib.hid (show rdig true c = c - 65 + 10 from by simp [rdig, bse, digV, digOk, n1, n2, (inR_iff _ _ _).2 d3]; omega)
          obtain ⟨d4, d5⟩ := d3
          clear n1 n2 d1 d2
          go_enter Tryz.func123, Tryz.ntmps123
          go_wp2
          go_ret
          exact ⟨ret_int HV.out.symm, rfl⟩
        · have HV := Lib.hid (show rdig true c = -1 from by simp [rdig, bse, digV, digOk, n1, n2, (inR_f _ _ _).2 d3])
          clear n1 n2
          go_enter Tryz.func123, Tryz.ntmps123
          go_wp2
          all_goals first | omega | (go_ret; exact ⟨ret_int HV.out.symm, rfl⟩)

def runeVals : List Value := runesL.map (Value.int .i32)
theorem rnames_any (w : World) :
    Calls Tryz.prog 122 #[] w fun e w' => ∃ A B ca cb, e = .returned (.tuple #[.slice A 23 ca, .slice B 23 cb]) ∧ RowOf w' A ca (strs namesL) ∧ RowOf w' B cb runeVals ∧ Below w.heap.size w w' := by
  have h1 := rowOf_lit w 9 (strs namesL) (by decide)
  have h2 := rowOf_lit (w.alloc (.cells (strs namesL).toArray 9)) 21 runeVals (by decide)
  rw [alloc_size] at h2
  have H1 := Lib.hid (h1.alloc (.cells runeVals.toArray 21))
  have H2 := Lib.hid h2
  have HB := Lib.hid (show Below w.heap.size w ((w.alloc (.cells (strs namesL).toArray 9)).alloc (.cells runeVals.toArray 21)) from ((Below.refl _ w).alloc (Nat.le_refl _) _).alloc (by rw [alloc_size]; omega) _)
  clear h1 h2
  go_enter Tryz.func122, Tryz.ntmps122
  go_wp2
  go_ret2
  exact ⟨_, _, _, _, rfl, H1.out, H2.out, HB.out⟩

theorem nm_cell (k : Nat) (h : k < 23) : (strs namesL)[k]'(by rw [strs_length, namesL_length]; exact h) = .string (nmB k) := by
  have hl := namedL_length
  simp [strs, namesL, nmB, hl, h]
def AtRel (l : List UInt8) (i : Value) : Prop :=
  ∃ k : Nat, i = .int .i64 k ∧ k ≤ 23 ∧ idxI l = (match (namesL.drop k).findIdx? (· == l) with | some j => ((k + j : Nat) : Int) | none => -1)
theorem nm_drop (k : Nat) (h : k < 23) : namesL.drop k = (nmB k).data.toList :: namesL.drop (k + 1) := by
  have hl := namesL_length
  have hl2 := namedL_length
  rw [List.drop_eq_getElem_cons (by omega)]
  simp [namesL, nmB, hl2, h]

end Go.Proofs.YtioolcnoiaoflaaGreatDoor

namespace Go.Proofs.YtioolcnoiaoflaaGreatDoor
open Go.RowKit
set_option linter.unusedSimpArgs false
set_option linter.unusedVariables false

def EntRel (m : Nat) (w1 : World) (i : Value) (wr : World) : Prop := ∃ k q : Nat, i = .int .i64 k ∧ k ≤ m ∧ wr = w1.drewN q
theorem hit_cmp (s N : ByteArray) : (decide (N.size + 2 ≤ s.size) && ((s.extract 0 (N.size + 2)).toList == (((⟨#[38]⟩ : ByteArray) ++ N) ++ (⟨#[59]⟩ : ByteArray)).toList)) = Lib.hasPrefix s.data.toList (38 :: (N.data.toList ++ [59])) := by
  have h := Lib.hasPrefix_raw s (((⟨#[38]⟩ : ByteArray) ++ N) ++ (⟨#[59]⟩ : ByteArray))
  have hz : (((⟨#[38]⟩ : ByteArray) ++ N) ++ (⟨#[59]⟩ : ByteArray)).size = N.size + 2 := by
    rw [ByteArray.size_append, ByteArray.size_append]; show 1 + _ + 1 = _; omega
  rw [hz, show (((⟨#[38]⟩ : ByteArray) ++ N) ++ (⟨#[59]⟩ : ByteArray)).data.toList = 38 :: (N.data.toList ++ [59]) from by simp] at h
  exact h
theorem slice_to (s : ByteArray) (n : Nat) (h : n + 2 ≤ s.size) (w : World) :
    (Instr.slice 9 (.string s) none (some (.int .i64 ((n : Int) + 2))) none).run Tryz.prog w = .ok (.string (s.extract 0 (n + 2))) w := by
  rw [run_slice_string_h w 9 s Tryz.underlying9 .i64 ((n : Int) + 2) (by omega) (by omega)]
  rw [show ((n : Int) + 2).toNat = n + 2 from by omega]
theorem rune_cell {w : World} {B : Option Addr} {cb : Nat} (h : RowOf w B cb runeVals) (k : Nat) (hk : k < 23) : ∃ b off, B = some ⟨b, off, none⟩ ∧ b < w.heap.size ∧ w.cell? ⟨b, off + k, none⟩ = some (.int .i32 (runesL.getD k 0)) := by
  have hl : runeVals.length = 23 := by decide
  obtain ⟨b, off, e, hb, hc⟩ := h.at (by intro e; rw [e] at hl; cases hl)
  refine ⟨b, off, e, hb, ?_⟩
  rw [hc k (by omega)]
  have hr : k < runesL.length := by rw [show runesL.length = 23 from by decide]; exact hk
  rw [List.getD_eq_getElem?_getD, List.getElem?_eq_getElem hr]
  simp [runeVals]

set_option maxHeartbeats 4000000 in
set_option maxRecDepth 100000 in
theorem rentity_hit (s : ByteArray) (w : World) (hs : s.size ≤ 1000) (k0 : Nat) (hk0 : k0 < 23) (hmiss : ∀ j, j < k0 → hitB s.data.toList j = false) (hhit : hitB s.data.toList k0 = true) :
    Calls Tryz.prog 109 #[.string s] w fun e w' => e = .returned (.tuple #[.string (txB k0), .int .i64 (((nmB k0).size : Int) + 2)]) ∧ Below w.heap.size w w' := by
  have HM := Lib.hid hmiss
  have HH := Lib.hid hhit
  clear hmiss hhit
  go_enter Tryz.func109, Tryz.ntmps109
  go_wp2_with fail
  refine (rnames_any w).mono ?_
  rintro e w1 ⟨A, B, ca, cb, rfl, hrA, hrB, b1⟩
  have hc1 := hrA.1
  have hc2 := hrA.2.1
  rw [strs_length, namesL_length] at hc1
  unfold maxLen at hc2
  have hd1 := hrB.1
  have hd2 := hrB.2.1
  rw [show runeVals.length = 23 from by decide] at hd1
  unfold maxLen at hd2
  have HA := Lib.hid hrA
  have HB := Lib.hid hrB
  clear hrA hrB
  go_wp2_with fail
  go_loopw [6] (fun i wr => EntRel k0 w1 i wr) (fun i _ => 23 - (intOf i).toNat)
  case atStart => exact ⟨0, 0, rfl, Nat.zero_le _, rfl⟩
  case round =>
    obtain ⟨k, q, rfl, hk, rfl⟩ := hrel
    obtain ⟨b, off, rfl, hb, hcell⟩ := names_cell HA.out k (by omega)
    have hN := (nm_size k (by omega)).1
    have hcmp := hit_cmp s (nmB k)
    have hx : (38 :: ((nmB k).data.toList ++ [59])) = (38 :: ((nmB k).data.toList ++ [59])) := rfl
    change _ = hitB s.data.toList k at hcmp
    have hk23 : k < 23 := by omega
    by_cases hkk : k < k0
    · rw [HM.out k hkk] at hcmp
      by_cases hg : (nmB k).size + 2 ≤ s.size
      · rw [decide_eq_true hg, Bool.true_and] at hcmp
        have hsl := slice_to s (nmB k).size hg
        have hcat1 := fun W => run_string_add_sum (P := Tryz.prog) W ⟨#[38]⟩ (nmB k) (by show 1 + _ ≤ _; omega)
        have hcat2 := fun W => run_string_add_sum (P := Tryz.prog) W ((⟨#[38]⟩ : ByteArray) ++ nmB k) ⟨#[59]⟩ (by rw [ByteArray.size_append]; show 1 + _ + 1 ≤ _; omega)
        have hwr : IntKind.i64.wrap (((nmB k).size : Int) + 2) = ((nmB k).size : Int) + 2 := IntWalk.i64_in _ (by omega)
        have hgd : decide (((nmB k).size : Int) + 2 ≤ s.size) = true := by simp; omega
        clear hx
        generalize nmB k = N at *
        go_wp2_with fail
        go_quiet (fail)
        go_wp2
        exact ⟨⟨k + 1, _, by go_num, by omega, rfl⟩, by simp [intOf]; omega⟩
      · have hgd : decide (((nmB k).size : Int) + 2 ≤ s.size) = false := by simp; omega
        have hwr : IntKind.i64.wrap (((nmB k).size : Int) + 2) = ((nmB k).size : Int) + 2 := IntWalk.i64_in _ (by omega)
        clear hx hcmp
        generalize nmB k = N at *
        go_wp2_with fail
        go_quiet (fail)
        go_wp2
        exact ⟨⟨k + 1, _, by go_num, by omega, rfl⟩, by simp [intOf]; omega⟩
    · obtain rfl : k = k0 := by omega
      rw [HH.out] at hcmp
      obtain ⟨b2, off2, rfl, hb2, hcell2⟩ := rune_cell HB.out k hk23
      have hrt := rune_text k hk23
      have hg : (nmB k).size + 2 ≤ s.size := by
        by_cases hg : (nmB k).size + 2 ≤ s.size
        · exact hg
        · rw [decide_eq_false hg, Bool.false_and] at hcmp; cases hcmp
      rw [decide_eq_true hg, Bool.true_and] at hcmp
      have hsl := slice_to s (nmB k).size hg
      have hcat1 := fun W => run_string_add_sum (P := Tryz.prog) W ⟨#[38]⟩ (nmB k) (by show 1 + _ ≤ _; omega)
      have hcat2 := fun W => run_string_add_sum (P := Tryz.prog) W ((⟨#[38]⟩ : ByteArray) ++ nmB k) ⟨#[59]⟩ (by rw [ByteArray.size_append]; show 1 + _ + 1 ≤ _; omega)
      have hwr : IntKind.i64.wrap (((nmB k).size : Int) + 2) = ((nmB k).size : Int) + 2 := IntWalk.i64_in _ (by omega)
      have hgd : decide (((nmB k).size : Int) + 2 ≤ s.size) = true := by simp; omega
      have HT := Lib.hid hrt
      clear hx hrt hkk
      generalize hNN : nmB k = N at *
      have HNN := Lib.hid hNN
      clear hNN
      generalize runesL.getD k 0 = R at *
      go_wp2_with fail
      go_quiet (fail)
      go_wp2
      go_ret2
      exact ⟨ret_strint HT.out (by rw [HNN.out]), below_drewN' b1 _⟩

end Go.Proofs.YtioolcnoiaoflaaGreatDoor

namespace Go.Proofs.YtioolcnoiaoflaaGreatDoor
open Go.RowKit
set_option linter.unusedSimpArgs false
set_option linter.unusedVariables false

theorem pre_cmp (s : ByteArray) (h : 4 ≤ s.size) : ((s.extract 0 2).toList == [38, 35]) = Lib.hasPrefix s.data.toList [38, 35] := by
  have h1 := Lib.hasPrefix_raw s ⟨#[38, 35]⟩
  have e : (⟨#[38, 35]⟩ : ByteArray).size = 2 := rfl
  rw [e, decide_eq_true (by omega : 2 ≤ s.size), Bool.true_and] at h1
  rw [show (⟨#[38, 35]⟩ : ByteArray).toList = [38, 35] from by rw [ByteArray.toList_eq]] at h1
  exact h1
theorem third (s : ByteArray) (x : UInt8) (r : List UInt8) (h : s.data.toList = 38 :: 35 :: x :: r) (h2 : 2 < s.size) : s[2] = x := by
  have : s[2] = s.data.toList[2]'(by simpa using h2) := rfl
  rw [this]
  simp [h]
def RNumRel (base : Int) (most st : Nat) (s : ByteArray) (i v n : Value) : Prop :=
  ∃ (j k : Nat) (u : Int), i = .int .i64 j ∧ v = .int .i64 u ∧ n = .int .i64 k ∧ j ≤ st + k ∧ st + k ≤ j ∧ j ≤ s.size ∧ k ≤ most ∧ 0 ≤ u ∧ u < base ^ k ∧ numGo base most (s.data.toList.drop j) k u = numGo base most (s.data.toList.drop st) 0 0

set_option maxHeartbeats 4000000 in
set_option maxRecDepth 100000 in
theorem rentity_none (s : ByteArray) (w : World) (hs : s.size ≤ 1000) (hmiss : ∀ j, j < 23 → hitB s.data.toList j = false) (hno : s.size < 4 ∨ Lib.hasPrefix s.data.toList [38, 35] = false) :
    Calls Tryz.prog 109 #[.string s] w fun e w' => e = .returned (.tuple #[.string ByteArray.empty, .int .i64 0]) ∧ Below w.heap.size w w' := by
  have HM := Lib.hid hmiss
  clear hmiss
  go_enter Tryz.func109, Tryz.ntmps109
  go_wp2_with fail
  refine (rnames_any w).mono ?_
  rintro e w1 ⟨A, B, ca, cb, rfl, hrA, hrB, b1⟩
  have hc1 := hrA.1
  have hc2 := hrA.2.1
  rw [strs_length, namesL_length] at hc1
  unfold maxLen at hc2
  have HA := Lib.hid hrA
  clear hrA hrB
  go_wp2_with fail
  go_loopw [6] (fun i wr => EntRel 23 w1 i wr) (fun i _ => 23 - (intOf i).toNat)
  case atStart => exact ⟨0, 0, rfl, Nat.zero_le _, rfl⟩
  case round =>
    obtain ⟨k, q, rfl, hk, rfl⟩ := hrel
    by_cases hkk : k < 23
    · obtain ⟨b, off, rfl, hb, hcell⟩ := names_cell HA.out k (by omega)
      have hN := (nm_size k (by omega)).1
      have hcmp := hit_cmp s (nmB k)
      change _ = hitB s.data.toList k at hcmp
      rw [HM.out k hkk] at hcmp
      by_cases hg : (nmB k).size + 2 ≤ s.size
      · rw [decide_eq_true hg, Bool.true_and] at hcmp
        have hsl := slice_to s (nmB k).size hg
        have hcat1 := fun W => run_string_add_sum (P := Tryz.prog) W ⟨#[38]⟩ (nmB k) (by show 1 + _ ≤ _; omega)
        have hcat2 := fun W => run_string_add_sum (P := Tryz.prog) W ((⟨#[38]⟩ : ByteArray) ++ nmB k) ⟨#[59]⟩ (by rw [ByteArray.size_append]; show 1 + _ + 1 ≤ _; omega)
        have hwr : IntKind.i64.wrap (((nmB k).size : Int) + 2) = ((nmB k).size : Int) + 2 := IntWalk.i64_in _ (by omega)
        have hgd : decide (((nmB k).size : Int) + 2 ≤ s.size) = true := by simp; omega
        generalize nmB k = N at *
        go_wp2_with fail
        go_quiet (fail)
        go_wp2
        exact ⟨⟨k + 1, _, by go_num, by omega, rfl⟩, by simp [intOf]; omega⟩
      · have hgd : decide (((nmB k).size : Int) + 2 ≤ s.size) = false := by simp; omega
        have hwr : IntKind.i64.wrap (((nmB k).size : Int) + 2) = ((nmB k).size : Int) + 2 := IntWalk.i64_in _ (by omega)
        clear hcmp
        generalize nmB k = N at *
        go_wp2_with fail
        go_quiet (fail)
        go_wp2
        exact ⟨⟨k + 1, _, by go_num, by omega, rfl⟩, by simp [intOf]; omega⟩
    · obtain rfl : k = 23 := by omega
      clear hkk
      by_cases h4 : s.size < 4
      · clear hno
        go_wp2
        go_ret2
        exact ⟨rfl, below_drewN' b1 _⟩
      · have hp := pre_cmp s (by omega)
        rw [show Lib.hasPrefix s.data.toList [38, 35] = false from by rcases hno with h | h; exact absurd h h4; exact h] at hp
        have hsz : (2 : Int) ≤ s.size := by omega
        clear hno
        go_wp2
        go_ret2
        exact ⟨rfl, below_drewN' b1 _⟩

set_option maxHeartbeats 16000000 in
set_option maxRecDepth 100000 in
theorem rentity_dec (s : ByteArray) (w : World) (hs : s.size ≤ 1000) (hmiss : ∀ j, j < 23 → hitB s.data.toList j = false) (h4 : 4 ≤ s.size) (x : UInt8) (r : List UInt8) (hl : s.data.toList = 38 :: 35 :: x :: r) (hx : ¬ (x = 120 ∨ x = 88)) :
    Calls Tryz.prog 109 #[.string s] w fun e w' => e = .returned (.tuple #[.string (numAt 10 2 7 s.data.toList).1, .int .i64 (numAt 10 2 7 s.data.toList).2]) ∧ Below w.heap.size w w' := by
  have hpre := pre_cmp s h4
  rw [show Lib.hasPrefix s.data.toList [38, 35] = true from by rw [hl]; simp [Lib.hasPrefix, List.isPrefixOf]] at hpre
  have hlt2 : 2 < s.size := by omega
  have hth := third s x r hl hlt2
  have f1 : ((s[2].toNat : Int) == 120) = false := by rw [hth]; simp only [beq_eq_false_iff_ne]; intro e; exact hx (.inl (UInt8.toNat_inj.1 (by simp; omega)))
  have f2 : ((s[2].toNat : Int) == 88) = false := by rw [hth]; simp only [beq_eq_false_iff_ne]; intro e; exact hx (.inr (UInt8.toNat_inj.1 (by simp; omega)))
  have HL := Lib.hid hl
  clear hl hth
  have HM := Lib.hid hmiss
  clear hmiss
  go_enter Tryz.func109, Tryz.ntmps109
  go_wp2_with fail
  refine (rnames_any w).mono ?_
  rintro e w1 ⟨A, B, ca, cb, rfl, hrA, hrB, b1⟩
  have hc1 := hrA.1
  have hc2 := hrA.2.1
  rw [strs_length, namesL_length] at hc1
  unfold maxLen at hc2
  have HA := Lib.hid hrA
  clear hrA hrB
  go_wp2_with fail
  go_loopw [6] (fun i wr => EntRel 23 w1 i wr) (fun i _ => 23 - (intOf i).toNat)
  case atStart => exact ⟨0, 0, rfl, Nat.zero_le _, rfl⟩
  case round =>
    obtain ⟨k, q, rfl, hk, rfl⟩ := hrel
    by_cases hkk : k < 23
    · obtain ⟨b, off, rfl, hb, hcell⟩ := names_cell HA.out k (by omega)
      have hN := (nm_size k (by omega)).1
      have hcmp := hit_cmp s (nmB k)
      change _ = hitB s.data.toList k at hcmp
      rw [HM.out k hkk] at hcmp
      by_cases hg : (nmB k).size + 2 ≤ s.size
      · rw [decide_eq_true hg, Bool.true_and] at hcmp
        have hsl := slice_to s (nmB k).size hg
        have hcat1 := fun W => run_string_add_sum (P := Tryz.prog) W ⟨#[38]⟩ (nmB k) (by show 1 + _ ≤ _; omega)
        have hcat2 := fun W => run_string_add_sum (P := Tryz.prog) W ((⟨#[38]⟩ : ByteArray) ++ nmB k) ⟨#[59]⟩ (by rw [ByteArray.size_append]; show 1 + _ + 1 ≤ _; omega)
        have hwr : IntKind.i64.wrap (((nmB k).size : Int) + 2) = ((nmB k).size : Int) + 2 := IntWalk.i64_in _ (by omega)
        have hgd : decide (((nmB k).size : Int) + 2 ≤ s.size) = true := by simp; omega
        generalize nmB k = N at *
        go_wp2_with fail
        go_quiet (fail)
        go_wp2
        exact ⟨⟨k + 1, _, by go_num, by omega, rfl⟩, by simp [intOf]; omega⟩
      · have hgd : decide (((nmB k).size : Int) + 2 ≤ s.size) = false := by simp; omega
        have hwr : IntKind.i64.wrap (((nmB k).size : Int) + 2) = ((nmB k).size : Int) + 2 := IntWalk.i64_in _ (by omega)
        clear hcmp
        generalize nmB k = N at *
        go_wp2_with fail
        go_quiet (fail)
        go_wp2
        exact ⟨⟨k + 1, _, by go_num, by omega, rfl⟩, by simp [intOf]; omega⟩
    · obtain rfl : k = 23 := by omega
      clear hkk
      clear hk
      have hlen := size_len s
      have HLN := Lib.hid hlen
      clear hlen
      go_wp2_with fail
      clear hpre f1 f2
      go_loop [9, 12, 13] (fun i v n => RNumRel 10 7 2 s i v n) (fun i _ _ => s.size - (intOf i).toNat)
      case atStart => exact ⟨2, 0, 0, rfl, rfl, rfl, by omega, by omega, by omega, Nat.zero_le _, Int.le_refl _, by decide, rfl⟩
      case round =>
        obtain ⟨j, k, u, rfl, rfl, rfl, hj1, hj2, hj3, hkm, hu0, hu1, hgo⟩ := hrel
        by_cases hp : j < s.size
        · rw [get_list s j hp] at hgo
          have HG := Lib.hid hgo
          clear hgo
          have hc255 : s[j].toNat ≤ 255 := by have := s[j].toNat_lt; omega
          have hdg := fun w => rdigit_any (s[j].toNat : Int) false w (by omega) (by omega)
          unfold rdig bse at hdg
          simp only [Bool.false_eq_true, if_false] at hdg
          cases hok : digOk 10 (s[j].toNat : Int) with
          | true =>
            rw [hok] at hdg
            simp only [if_true] at hdg
            have hbd := digV_bd 10 s[j].toNat hok (by omega)
            by_cases hkk : k < 7
            · have HR := Lib.hid (show numGo 10 7 (s.data.toList.drop (j + 1)) (k + 1) (u * 10 + digV 10 s[j].toNat) = numGo 10 7 (s.data.toList.drop 2) 0 0 from by rw [← numGo_more hok (by omega), ← HG.out])
              have HP := Lib.hid (step_lt 10 u (digV 10 s[j].toNat) k (by omega) hu1 hbd.2)
              have hu2 : u < 1000000 := Int.lt_of_lt_of_le hu1 (pow_le 10 (by omega) (show k ≤ 7 - 1 from by omega))
              have HD := Lib.hid hdg
              obtain ⟨hb0, hb1⟩ := hbd
              clear hu1 hok hdg
              generalize digV 10 (s[j].toNat : Int) = d at *
              go_wp2_with (go_at_call 123; refine (HD.out _).mono ?_; rintro e w' ⟨rfl, rfl⟩)
              go_round
              case rel => exact ⟨j + 1, k + 1, u * 10 + d, by go_num, rfl, by go_num, by omega, by omega, by omega, by omega, by omega, HP.out, HR.out⟩
              case measure => simp [intOf]; omega
            · have hk0 : ((k : Int) == 0) = false := by simp; omega
              have h59 : s[j].toNat ≠ 59 := by
                intro e
                rw [e] at hok
                revert hok
                decide
              have f59 : ((s[j].toNat : Int) == 59) = false := by simp; omega
              have f59b : ((s[j].toNat : Int) != 59) = true := by simp; omega
              have HR := Lib.hid (numAt_none (T := ⟨(s.data.toList.drop 2).toArray⟩) rfl (HG.out.symm.trans (numGo_none (by omega) (Or.inr (by omega)))))
              have HV := Lib.hid hu1
              have HD := Lib.hid hdg
              obtain ⟨hb0, hb1⟩ := hbd
              clear hu1 hok hdg h59
              generalize digV 10 (s[j].toNat : Int) = d at *
              go_wp2_with (go_at_call 123; refine (HD.out _).mono ?_; rintro e w' ⟨rfl, rfl⟩)
              go_ret2
              exact ⟨by rw [HR.out]; rfl, below_drewN' b1 _⟩
          | false =>
            rw [hok] at hdg
            simp only [Bool.false_eq_true, if_false] at hdg
            by_cases h59 : s[j].toNat = 59
            · have f59 : ((s[j].toNat : Int) == 59) = true := by simp; omega
              have f59b : ((s[j].toNat : Int) != 59) = false := by simp; omega
              by_cases hkk : 0 < k
              · have hk0 : ((k : Int) == 0) = false := by simp; omega
                have HR := Lib.hid (numAt_some (T := ⟨(s.data.toList.drop 2).toArray⟩) rfl (HG.out.symm.trans (numGo_end h59 hkk)))
                have hu2 : u < 10000000 := Int.lt_of_lt_of_le hu1 (pow_le 10 (by omega) hkm)
                have hw := chr_want u hu0
                generalize hX : chrB u = X at *
                have HX := Lib.hid hX
                have HD := Lib.hid hdg
                clear hu1 hok hdg h59 hX
                rcases hw with ⟨g1, g2, g3, rfl⟩ | ⟨g1, g2, g3, g4, rfl⟩ | ⟨g1, rfl⟩ | ⟨g1, g2, g3, g4, rfl⟩ | ⟨g1, g2, rfl⟩
                all_goals
                  have fu : (u == 0) = true ∨ (u == 0) = false := by cases (u == 0) <;> simp
                  rcases fu with fu | fu
                  all_goals first
                    | (exfalso; simp at fu; omega)
                    | (go_wp2_with (go_at_call 123; refine (HD.out _).mono ?_; rintro e w' ⟨rfl, rfl⟩)
                       go_ret2
                       exact ⟨ret_strint (by rw [HR.out] <;> rfl) (by rw [HR.out]; simp; omega), below_drewN' b1 _⟩)
              · obtain rfl : k = 0 := by omega
                have HR := Lib.hid (numAt_none (T := ⟨(s.data.toList.drop 2).toArray⟩) rfl (HG.out.symm.trans (numGo_none (by omega) (Or.inl hok))))
                have HV := Lib.hid hu1
                have HD := Lib.hid hdg
                clear hu1 hok hdg h59 hkk
                go_wp2_with (go_at_call 123; refine (HD.out _).mono ?_; rintro e w' ⟨rfl, rfl⟩)
                go_ret2
                exact ⟨by rw [HR.out]; rfl, below_drewN' b1 _⟩
            · have f59 : ((s[j].toNat : Int) == 59) = false := by simp; omega
              have f59b : ((s[j].toNat : Int) != 59) = true := by simp; omega
              have HR := Lib.hid (numAt_none (T := ⟨(s.data.toList.drop 2).toArray⟩) rfl (HG.out.symm.trans (numGo_none (by omega) (Or.inl hok))))
              have HV := Lib.hid hu1
              have HD := Lib.hid hdg
              clear hu1 hok hdg h59
              by_cases hkk : 0 < k
              · have hk0 : ((k : Int) == 0) = false := by simp; omega
                go_wp2_with (go_at_call 123; refine (HD.out _).mono ?_; rintro e w' ⟨rfl, rfl⟩)
                go_ret2
                exact ⟨by rw [HR.out]; rfl, below_drewN' b1 _⟩
              · obtain rfl : k = 0 := by omega
                go_wp2_with (go_at_call 123; refine (HD.out _).mono ?_; rintro e w' ⟨rfl, rfl⟩)
                go_ret2
                exact ⟨by rw [HR.out]; rfl, below_drewN' b1 _⟩
        · have e : s.data.toList.drop j = [] := List.drop_eq_nil_of_le (by rw [HLN.out]; omega)
          rw [e] at hgo
          have HR := Lib.hid (numAt_none (T := ⟨(s.data.toList.drop 2).toArray⟩) rfl (hgo.symm.trans rfl))
          have HV := Lib.hid hu1
          clear e hgo hu1
          by_cases hkk : 0 < k
          · have hk0 : ((k : Int) == 0) = false := by simp; omega
            go_wp2
            go_ret2
            exact ⟨by rw [HR.out]; rfl, below_drewN' b1 _⟩
          · obtain rfl : k = 0 := by omega
            go_wp2
            go_ret2
            exact ⟨by rw [HR.out]; rfl, below_drewN' b1 _⟩

end Go.Proofs.YtioolcnoiaoflaaGreatDoor

namespace Go.Proofs.YtioolcnoiaoflaaGreatDoor
open Go.RowKit
set_option linter.unusedSimpArgs false
set_option linter.unusedVariables false


set_option maxHeartbeats 16000000 in
set_option maxRecDepth 100000 in
theorem rentity_hex (s : ByteArray) (w : World) (hs : s.size ≤ 1000) (hmiss : ∀ j, j < 23 → hitB s.data.toList j = false) (h4 : 4 ≤ s.size) (x : UInt8) (r : List UInt8) (hl : s.data.toList = 38 :: 35 :: x :: r) (hx : x = 120) :
    Calls Tryz.prog 109 #[.string s] w fun e w' => e = .returned (.tuple #[.string (numAt 16 3 6 s.data.toList).1, .int .i64 (numAt 16 3 6 s.data.toList).2]) ∧ Below w.heap.size w w' := by
  have hpre := pre_cmp s h4
  rw [show Lib.hasPrefix s.data.toList [38, 35] = true from by rw [hl]; simp [Lib.hasPrefix, List.isPrefixOf]] at hpre
  have hlt2 : 2 < s.size := by omega
  have hth := third s x r hl hlt2
  have f1 : ((s[2].toNat : Int) == 120) = true := by rw [hth, hx]; rfl
  have HL := Lib.hid hl
  clear hl hth
  have HM := Lib.hid hmiss
  clear hmiss
  go_enter Tryz.func109, Tryz.ntmps109
  go_wp2_with fail
  refine (rnames_any w).mono ?_
  rintro e w1 ⟨A, B, ca, cb, rfl, hrA, hrB, b1⟩
  have hc1 := hrA.1
  have hc2 := hrA.2.1
  rw [strs_length, namesL_length] at hc1
  unfold maxLen at hc2
  have HA := Lib.hid hrA
  clear hrA hrB
  go_wp2_with fail
  go_loopw [6] (fun i wr => EntRel 23 w1 i wr) (fun i _ => 23 - (intOf i).toNat)
  case atStart => exact ⟨0, 0, rfl, Nat.zero_le _, rfl⟩
  case round =>
    obtain ⟨k, q, rfl, hk, rfl⟩ := hrel
    by_cases hkk : k < 23
    · obtain ⟨b, off, rfl, hb, hcell⟩ := names_cell HA.out k (by omega)
      have hN := (nm_size k (by omega)).1
      have hcmp := hit_cmp s (nmB k)
      change _ = hitB s.data.toList k at hcmp
      rw [HM.out k hkk] at hcmp
      by_cases hg : (nmB k).size + 2 ≤ s.size
      · rw [decide_eq_true hg, Bool.true_and] at hcmp
        have hsl := slice_to s (nmB k).size hg
        have hcat1 := fun W => run_string_add_sum (P := Tryz.prog) W ⟨#[38]⟩ (nmB k) (by show 1 + _ ≤ _; omega)
        have hcat2 := fun W => run_string_add_sum (P := Tryz.prog) W ((⟨#[38]⟩ : ByteArray) ++ nmB k) ⟨#[59]⟩ (by rw [ByteArray.size_append]; show 1 + _ + 1 ≤ _; omega)
        have hwr : IntKind.i64.wrap (((nmB k).size : Int) + 2) = ((nmB k).size : Int) + 2 := IntWalk.i64_in _ (by omega)
        have hgd : decide (((nmB k).size : Int) + 2 ≤ s.size) = true := by simp; omega
        generalize nmB k = N at *
        go_wp2_with fail
        go_quiet (fail)
        go_wp2
        exact ⟨⟨k + 1, _, by go_num, by omega, rfl⟩, by simp [intOf]; omega⟩
      · have hgd : decide (((nmB k).size : Int) + 2 ≤ s.size) = false := by simp; omega
        have hwr : IntKind.i64.wrap (((nmB k).size : Int) + 2) = ((nmB k).size : Int) + 2 := IntWalk.i64_in _ (by omega)
        clear hcmp
        generalize nmB k = N at *
        go_wp2_with fail
        go_quiet (fail)
        go_wp2
        exact ⟨⟨k + 1, _, by go_num, by omega, rfl⟩, by simp [intOf]; omega⟩
    · obtain rfl : k = 23 := by omega
      clear hkk
      clear hk
      have hlen := size_len s
      have HLN := Lib.hid hlen
      clear hlen
      go_wp2_with fail
      clear hpre f1
      go_loop [9, 12, 13] (fun i v n => RNumRel 16 6 3 s i v n) (fun i _ _ => s.size - (intOf i).toNat)
      case atStart => exact ⟨3, 0, 0, rfl, rfl, rfl, by omega, by omega, by omega, Nat.zero_le _, Int.le_refl _, by decide, rfl⟩
      case round =>
        obtain ⟨j, k, u, rfl, rfl, rfl, hj1, hj2, hj3, hkm, hu0, hu1, hgo⟩ := hrel
        by_cases hp : j < s.size
        · rw [get_list s j hp] at hgo
          have HG := Lib.hid hgo
          clear hgo
          have hc255 : s[j].toNat ≤ 255 := by have := s[j].toNat_lt; omega
          have hdg := fun w => rdigit_any (s[j].toNat : Int) true w (by omega) (by omega)
          unfold rdig bse at hdg
          simp only [if_true] at hdg
          cases hok : digOk 16 (s[j].toNat : Int) with
          | true =>
            rw [hok] at hdg
            simp only [if_true] at hdg
            have hbd := digV_bd 16 s[j].toNat hok (by omega)
            by_cases hkk : k < 6
            · have HR := Lib.hid (show numGo 16 6 (s.data.toList.drop (j + 1)) (k + 1) (u * 16 + digV 16 s[j].toNat) = numGo 16 6 (s.data.toList.drop 3) 0 0 from by rw [← numGo_more hok (by omega), ← HG.out])
              have HP := Lib.hid (step_lt 16 u (digV 16 s[j].toNat) k (by omega) hu1 hbd.2)
              have hu2 : u < 1048576 := Int.lt_of_lt_of_le hu1 (pow_le 16 (by omega) (show k ≤ 6 - 1 from by omega))
              have HD := Lib.hid hdg
              obtain ⟨hb0, hb1⟩ := hbd
              clear hu1 hok hdg
              generalize digV 16 (s[j].toNat : Int) = d at *
              go_wp2_with (go_at_call 123; refine (HD.out _).mono ?_; rintro e w' ⟨rfl, rfl⟩)
              go_round
              case rel => exact ⟨j + 1, k + 1, u * 16 + d, by go_num, rfl, by go_num, by omega, by omega, by omega, by omega, by omega, HP.out, HR.out⟩
              case measure => simp [intOf]; omega
            · have hk0 : ((k : Int) == 0) = false := by simp; omega
              have h59 : s[j].toNat ≠ 59 := by
                intro e
                rw [e] at hok
                revert hok
                decide
              have f59 : ((s[j].toNat : Int) == 59) = false := by simp; omega
              have f59b : ((s[j].toNat : Int) != 59) = true := by simp; omega
              have HR := Lib.hid (numAt_none (T := ⟨(s.data.toList.drop 3).toArray⟩) rfl (HG.out.symm.trans (numGo_none (by omega) (Or.inr (by omega)))))
              have HV := Lib.hid hu1
              have HD := Lib.hid hdg
              obtain ⟨hb0, hb1⟩ := hbd
              clear hu1 hok hdg h59
              generalize digV 16 (s[j].toNat : Int) = d at *
              go_wp2_with (go_at_call 123; refine (HD.out _).mono ?_; rintro e w' ⟨rfl, rfl⟩)
              go_ret2
              exact ⟨by rw [HR.out]; rfl, below_drewN' b1 _⟩
          | false =>
            rw [hok] at hdg
            simp only [Bool.false_eq_true, if_false] at hdg
            by_cases h59 : s[j].toNat = 59
            · have f59 : ((s[j].toNat : Int) == 59) = true := by simp; omega
              have f59b : ((s[j].toNat : Int) != 59) = false := by simp; omega
              by_cases hkk : 0 < k
              · have hk0 : ((k : Int) == 0) = false := by simp; omega
                have HR := Lib.hid (numAt_some (T := ⟨(s.data.toList.drop 3).toArray⟩) rfl (HG.out.symm.trans (numGo_end h59 hkk)))
                have hu2 : u < 16777216 := Int.lt_of_lt_of_le hu1 (pow_le 16 (by omega) hkm)
                have hw := chr_want u hu0
                generalize hX : chrB u = X at *
                have HX := Lib.hid hX
                have HD := Lib.hid hdg
                clear hu1 hok hdg h59 hX
                rcases hw with ⟨g1, g2, g3, rfl⟩ | ⟨g1, g2, g3, g4, rfl⟩ | ⟨g1, rfl⟩ | ⟨g1, g2, g3, g4, rfl⟩ | ⟨g1, g2, rfl⟩
                all_goals
                  have fu : (u == 0) = true ∨ (u == 0) = false := by cases (u == 0) <;> simp
                  rcases fu with fu | fu
                  all_goals first
                    | (exfalso; simp at fu; omega)
                    | (go_wp2_with (go_at_call 123; refine (HD.out _).mono ?_; rintro e w' ⟨rfl, rfl⟩)
                       go_ret2
                       exact ⟨ret_strint (by rw [HR.out] <;> rfl) (by rw [HR.out]; simp; omega), below_drewN' b1 _⟩)
              · obtain rfl : k = 0 := by omega
                have HR := Lib.hid (numAt_none (T := ⟨(s.data.toList.drop 3).toArray⟩) rfl (HG.out.symm.trans (numGo_none (by omega) (Or.inl hok))))
                have HV := Lib.hid hu1
                have HD := Lib.hid hdg
                clear hu1 hok hdg h59 hkk
                go_wp2_with (go_at_call 123; refine (HD.out _).mono ?_; rintro e w' ⟨rfl, rfl⟩)
                go_ret2
                exact ⟨by rw [HR.out]; rfl, below_drewN' b1 _⟩
            · have f59 : ((s[j].toNat : Int) == 59) = false := by simp; omega
              have f59b : ((s[j].toNat : Int) != 59) = true := by simp; omega
              have HR := Lib.hid (numAt_none (T := ⟨(s.data.toList.drop 3).toArray⟩) rfl (HG.out.symm.trans (numGo_none (by omega) (Or.inl hok))))
              have HV := Lib.hid hu1
              have HD := Lib.hid hdg
              clear hu1 hok hdg h59
              by_cases hkk : 0 < k
              · have hk0 : ((k : Int) == 0) = false := by simp; omega
                go_wp2_with (go_at_call 123; refine (HD.out _).mono ?_; rintro e w' ⟨rfl, rfl⟩)
                go_ret2
                exact ⟨by rw [HR.out]; rfl, below_drewN' b1 _⟩
              · obtain rfl : k = 0 := by omega
                go_wp2_with (go_at_call 123; refine (HD.out _).mono ?_; rintro e w' ⟨rfl, rfl⟩)
                go_ret2
                exact ⟨by rw [HR.out]; rfl, below_drewN' b1 _⟩
        · have e : s.data.toList.drop j = [] := List.drop_eq_nil_of_le (by rw [HLN.out]; omega)
          rw [e] at hgo
          have HR := Lib.hid (numAt_none (T := ⟨(s.data.toList.drop 3).toArray⟩) rfl (hgo.symm.trans rfl))
          have HV := Lib.hid hu1
          clear e hgo hu1
          by_cases hkk : 0 < k
          · have hk0 : ((k : Int) == 0) = false := by simp; omega
            go_wp2
            go_ret2
            exact ⟨by rw [HR.out]; rfl, below_drewN' b1 _⟩
          · obtain rfl : k = 0 := by omega
            go_wp2
            go_ret2
            exact ⟨by rw [HR.out]; rfl, below_drewN' b1 _⟩

set_option maxHeartbeats 16000000 in
set_option maxRecDepth 100000 in
theorem rentity_heX (s : ByteArray) (w : World) (hs : s.size ≤ 1000) (hmiss : ∀ j, j < 23 → hitB s.data.toList j = false) (h4 : 4 ≤ s.size) (x : UInt8) (r : List UInt8) (hl : s.data.toList = 38 :: 35 :: x :: r) (hx : x = 88) :
    Calls Tryz.prog 109 #[.string s] w fun e w' => e = .returned (.tuple #[.string (numAt 16 3 6 s.data.toList).1, .int .i64 (numAt 16 3 6 s.data.toList).2]) ∧ Below w.heap.size w w' := by
  have hpre := pre_cmp s h4
  rw [show Lib.hasPrefix s.data.toList [38, 35] = true from by rw [hl]; simp [Lib.hasPrefix, List.isPrefixOf]] at hpre
  have hlt2 : 2 < s.size := by omega
  have hth := third s x r hl hlt2
  have f1 : ((s[2].toNat : Int) == 120) = false := by rw [hth, hx]; rfl
  have f2 : ((s[2].toNat : Int) == 88) = true := by rw [hth, hx]; rfl
  have HL := Lib.hid hl
  clear hl hth
  have HM := Lib.hid hmiss
  clear hmiss
  go_enter Tryz.func109, Tryz.ntmps109
  go_wp2_with fail
  refine (rnames_any w).mono ?_
  rintro e w1 ⟨A, B, ca, cb, rfl, hrA, hrB, b1⟩
  have hc1 := hrA.1
  have hc2 := hrA.2.1
  rw [strs_length, namesL_length] at hc1
  unfold maxLen at hc2
  have HA := Lib.hid hrA
  clear hrA hrB
  go_wp2_with fail
  go_loopw [6] (fun i wr => EntRel 23 w1 i wr) (fun i _ => 23 - (intOf i).toNat)
  case atStart => exact ⟨0, 0, rfl, Nat.zero_le _, rfl⟩
  case round =>
    obtain ⟨k, q, rfl, hk, rfl⟩ := hrel
    by_cases hkk : k < 23
    · obtain ⟨b, off, rfl, hb, hcell⟩ := names_cell HA.out k (by omega)
      have hN := (nm_size k (by omega)).1
      have hcmp := hit_cmp s (nmB k)
      change _ = hitB s.data.toList k at hcmp
      rw [HM.out k hkk] at hcmp
      by_cases hg : (nmB k).size + 2 ≤ s.size
      · rw [decide_eq_true hg, Bool.true_and] at hcmp
        have hsl := slice_to s (nmB k).size hg
        have hcat1 := fun W => run_string_add_sum (P := Tryz.prog) W ⟨#[38]⟩ (nmB k) (by show 1 + _ ≤ _; omega)
        have hcat2 := fun W => run_string_add_sum (P := Tryz.prog) W ((⟨#[38]⟩ : ByteArray) ++ nmB k) ⟨#[59]⟩ (by rw [ByteArray.size_append]; show 1 + _ + 1 ≤ _; omega)
        have hwr : IntKind.i64.wrap (((nmB k).size : Int) + 2) = ((nmB k).size : Int) + 2 := IntWalk.i64_in _ (by omega)
        have hgd : decide (((nmB k).size : Int) + 2 ≤ s.size) = true := by simp; omega
        generalize nmB k = N at *
        go_wp2_with fail
        go_quiet (fail)
        go_wp2
        exact ⟨⟨k + 1, _, by go_num, by omega, rfl⟩, by simp [intOf]; omega⟩
      · have hgd : decide (((nmB k).size : Int) + 2 ≤ s.size) = false := by simp; omega
        have hwr : IntKind.i64.wrap (((nmB k).size : Int) + 2) = ((nmB k).size : Int) + 2 := IntWalk.i64_in _ (by omega)
        clear hcmp
        generalize nmB k = N at *
        go_wp2_with fail
        go_quiet (fail)
        go_wp2
        exact ⟨⟨k + 1, _, by go_num, by omega, rfl⟩, by simp [intOf]; omega⟩
    · obtain rfl : k = 23 := by omega
      clear hkk
      clear hk
      have hlen := size_len s
      have HLN := Lib.hid hlen
      clear hlen
      go_wp2_with fail
      clear hpre f1 f2
      go_loop [9, 12, 13] (fun i v n => RNumRel 16 6 3 s i v n) (fun i _ _ => s.size - (intOf i).toNat)
      case atStart => exact ⟨3, 0, 0, rfl, rfl, rfl, by omega, by omega, by omega, Nat.zero_le _, Int.le_refl _, by decide, rfl⟩
      case round =>
        obtain ⟨j, k, u, rfl, rfl, rfl, hj1, hj2, hj3, hkm, hu0, hu1, hgo⟩ := hrel
        by_cases hp : j < s.size
        · rw [get_list s j hp] at hgo
          have HG := Lib.hid hgo
          clear hgo
          have hc255 : s[j].toNat ≤ 255 := by have := s[j].toNat_lt; omega
          have hdg := fun w => rdigit_any (s[j].toNat : Int) true w (by omega) (by omega)
          unfold rdig bse at hdg
          simp only [if_true] at hdg
          cases hok : digOk 16 (s[j].toNat : Int) with
          | true =>
            rw [hok] at hdg
            simp only [if_true] at hdg
            have hbd := digV_bd 16 s[j].toNat hok (by omega)
            by_cases hkk : k < 6
            · have HR := Lib.hid (show numGo 16 6 (s.data.toList.drop (j + 1)) (k + 1) (u * 16 + digV 16 s[j].toNat) = numGo 16 6 (s.data.toList.drop 3) 0 0 from by rw [← numGo_more hok (by omega), ← HG.out])
              have HP := Lib.hid (step_lt 16 u (digV 16 s[j].toNat) k (by omega) hu1 hbd.2)
              have hu2 : u < 1048576 := Int.lt_of_lt_of_le hu1 (pow_le 16 (by omega) (show k ≤ 6 - 1 from by omega))
              have HD := Lib.hid hdg
              obtain ⟨hb0, hb1⟩ := hbd
              clear hu1 hok hdg
              generalize digV 16 (s[j].toNat : Int) = d at *
              go_wp2_with (go_at_call 123; refine (HD.out _).mono ?_; rintro e w' ⟨rfl, rfl⟩)
              go_round
              case rel => exact ⟨j + 1, k + 1, u * 16 + d, by go_num, rfl, by go_num, by omega, by omega, by omega, by omega, by omega, HP.out, HR.out⟩
              case measure => simp [intOf]; omega
            · have hk0 : ((k : Int) == 0) = false := by simp; omega
              have h59 : s[j].toNat ≠ 59 := by
                intro e
                rw [e] at hok
                revert hok
                decide
              have f59 : ((s[j].toNat : Int) == 59) = false := by simp; omega
              have f59b : ((s[j].toNat : Int) != 59) = true := by simp; omega
              have HR := Lib.hid (numAt_none (T := ⟨(s.data.toList.drop 3).toArray⟩) rfl (HG.out.symm.trans (numGo_none (by omega) (Or.inr (by omega)))))
              have HV := Lib.hid hu1
              have HD := Lib.hid hdg
              obtain ⟨hb0, hb1⟩ := hbd
              clear hu1 hok hdg h59
              generalize digV 16 (s[j].toNat : Int) = d at *
              go_wp2_with (go_at_call 123; refine (HD.out _).mono ?_; rintro e w' ⟨rfl, rfl⟩)
              go_ret2
              exact ⟨by rw [HR.out]; rfl, below_drewN' b1 _⟩
          | false =>
            rw [hok] at hdg
            simp only [Bool.false_eq_true, if_false] at hdg
            by_cases h59 : s[j].toNat = 59
            · have f59 : ((s[j].toNat : Int) == 59) = true := by simp; omega
              have f59b : ((s[j].toNat : Int) != 59) = false := by simp; omega
              by_cases hkk : 0 < k
              · have hk0 : ((k : Int) == 0) = false := by simp; omega
                have HR := Lib.hid (numAt_some (T := ⟨(s.data.toList.drop 3).toArray⟩) rfl (HG.out.symm.trans (numGo_end h59 hkk)))
                have hu2 : u < 16777216 := Int.lt_of_lt_of_le hu1 (pow_le 16 (by omega) hkm)
                have hw := chr_want u hu0
                generalize hX : chrB u = X at *
                have HX := Lib.hid hX
                have HD := Lib.hid hdg
                clear hu1 hok hdg h59 hX
                rcases hw with ⟨g1, g2, g3, rfl⟩ | ⟨g1, g2, g3, g4, rfl⟩ | ⟨g1, rfl⟩ | ⟨g1, g2, g3, g4, rfl⟩ | ⟨g1, g2, rfl⟩
                all_goals
                  have fu : (u == 0) = true ∨ (u == 0) = false := by cases (u == 0) <;> simp
                  rcases fu with fu | fu
                  all_goals first
                    | (exfalso; simp at fu; omega)
                    | (go_wp2_with (go_at_call 123; refine (HD.out _).mono ?_; rintro e w' ⟨rfl, rfl⟩)
                       go_ret2
                       exact ⟨ret_strint (by rw [HR.out] <;> rfl) (by rw [HR.out]; simp; omega), below_drewN' b1 _⟩)
              · obtain rfl : k = 0 := by omega
                have HR := Lib.hid (numAt_none (T := ⟨(s.data.toList.drop 3).toArray⟩) rfl (HG.out.symm.trans (numGo_none (by omega) (Or.inl hok))))
                have HV := Lib.hid hu1
                have HD := Lib.hid hdg
                clear hu1 hok hdg h59 hkk
                go_wp2_with (go_at_call 123; refine (HD.out _).mono ?_; rintro e w' ⟨rfl, rfl⟩)
                go_ret2
                exact ⟨by rw [HR.out]; rfl, below_drewN' b1 _⟩
            · have f59 : ((s[j].toNat : Int) == 59) = false := by simp; omega
              have f59b : ((s[j].toNat : Int) != 59) = true := by simp; omega
              have HR := Lib.hid (numAt_none (T := ⟨(s.data.toList.drop 3).toArray⟩) rfl (HG.out.symm.trans (numGo_none (by omega) (Or.inl hok))))
              have HV := Lib.hid hu1
              have HD := Lib.hid hdg
              clear hu1 hok hdg h59
              by_cases hkk : 0 < k
              · have hk0 : ((k : Int) == 0) = false := by simp; omega
                go_wp2_with (go_at_call 123; refine (HD.out _).mono ?_; rintro e w' ⟨rfl, rfl⟩)
                go_ret2
                exact ⟨by rw [HR.out]; rfl, below_drewN' b1 _⟩
              · obtain rfl : k = 0 := by omega
                go_wp2_with (go_at_call 123; refine (HD.out _).mono ?_; rintro e w' ⟨rfl, rfl⟩)
                go_ret2
                exact ⟨by rw [HR.out]; rfl, below_drewN' b1 _⟩
        · have e : s.data.toList.drop j = [] := List.drop_eq_nil_of_le (by rw [HLN.out]; omega)
          rw [e] at hgo
          have HR := Lib.hid (numAt_none (T := ⟨(s.data.toList.drop 3).toArray⟩) rfl (hgo.symm.trans rfl))
          have HV := Lib.hid hu1
          clear e hgo hu1
          by_cases hkk : 0 < k
          · have hk0 : ((k : Int) == 0) = false := by simp; omega
            go_wp2
            go_ret2
            exact ⟨by rw [HR.out]; rfl, below_drewN' b1 _⟩
          · obtain rfl : k = 0 := by omega
            go_wp2
            go_ret2
            exact ⟨by rw [HR.out]; rfl, below_drewN' b1 _⟩

end Go.Proofs.YtioolcnoiaoflaaGreatDoor

namespace Go.Proofs.YtioolcnoiaoflaaGreatDoor
open Go.RowKit
set_option linter.unusedSimpArgs false
set_option linter.unusedVariables false

theorem first_of (p : Nat → Bool) : ∀ n : Nat, (∃ k, k < n ∧ p k = true) → ∃ k, k < n ∧ p k = true ∧ ∀ j, j < k → p j = false
  | 0, ⟨k, h, _⟩ => by omega
  | n + 1, h => by
    by_cases hn : ∃ k, k < n ∧ p k = true
    · obtain ⟨k, h1, h2, h3⟩ := first_of p n hn
      exact ⟨k, by omega, h2, h3⟩
    · obtain ⟨k, h1, h2⟩ := h
      refine ⟨k, h1, h2, fun j hj => ?_⟩
      cases hp : p j with
      | false => rfl
      | true => exact absurd ⟨j, by omega, hp⟩ hn
theorem rentity_any (s : ByteArray) (w : World) (hs : s.size ≤ 1000) :
    Calls Tryz.prog 109 #[.string s] w fun e w' => e = .returned (atRet s.data.toList) ∧ Below w.heap.size w w' := by
  by_cases hh : ∃ k, k < 23 ∧ hitB s.data.toList k = true
  · obtain ⟨k, h1, h2, h3⟩ := first_of _ 23 hh
    rw [hit_at _ k h1 h2]
    exact rentity_hit s w hs k h1 h3 h2
  · have hm : ∀ j, j < 23 → hitB s.data.toList j = false := fun j hj => by
      cases hp : hitB s.data.toList j with
      | false => rfl
      | true => exact absurd ⟨j, hj, hp⟩ hh
    by_cases hno : s.size < 4 ∨ Lib.hasPrefix s.data.toList [38, 35] = false
    · rw [at_none _ hm (by rw [size_len]; exact hno)]
      exact rentity_none s w hs hm hno
    · have h4 : 4 ≤ s.size := by rcases Nat.lt_or_ge s.size 4 with h | h; exact absurd (.inl h) hno; exact h
      have hp : Lib.hasPrefix s.data.toList [38, 35] = true := by
        cases hp : Lib.hasPrefix s.data.toList [38, 35] with
        | true => rfl
        | false => exact absurd (.inr hp) hno
      obtain ⟨r, hr⟩ := pre2 _ hp
      obtain ⟨x, r, rfl⟩ : ∃ x r', r = x :: r' := by
        cases r with
        | nil => have := size_len s; rw [hr] at this; simp at this; omega
        | cons x r => exact ⟨x, r, rfl⟩
      unfold atRet
      by_cases hx : x = 120 ∨ x = 88
      · rw [show atL s.data.toList = numAt 16 3 6 s.data.toList from by rw [hr]; exact at_hexN x r hx]
        rcases hx with hx | hx
        · exact rentity_hex s w hs hm h4 x r hr hx
        · exact rentity_heX s w hs hm h4 x r hr hx
      · rw [show atL s.data.toList = numAt 10 2 7 s.data.toList from by rw [hr]; exact at_decN x r hx]
        exact rentity_dec s w hs hm h4 x r hr hx

end Go.Proofs.YtioolcnoiaoflaaGreatDoor
