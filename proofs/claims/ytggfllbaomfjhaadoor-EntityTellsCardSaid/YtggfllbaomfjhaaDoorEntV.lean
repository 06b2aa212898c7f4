/-
  The document's own Entity: the way through the names.
-/
import Derived.Test.YtggfllbaomfjhaaDoorEntU
namespace Go.Proofs.YtggfllbaomfjhaaDoor
open Go.RowKit
set_option linter.unusedSimpArgs false
set_option linter.unusedVariables false

def EntRel (m : Nat) (w1 : World) (i : Value) (wr : World) : Prop := ∃ k q : Nat, i = .int .i64 k ∧ k ≤ m ∧ wr = w1.drewN q
theorem hit_cmp (s N : ByteArray) : (decide (N.size + 2 ≤ s.size) && ((s.extract 0 (N.size + 2)).toList == (((⟨#[38]⟩ : ByteArray) ++ N) ++ (⟨#[59]⟩ : ByteArray)).toList)) = Lib.hasPrefix s.data.toList (38 :: (N.data.toList ++ [59])) := by
  have h := Lib.hasPrefix_raw s (((⟨#[38]⟩ : ByteArray) ++ N) ++ (⟨#[59]⟩ : ByteArray))
  have hz : (((⟨#[38]⟩ : ByteArray) ++ N) ++ (⟨#[59]⟩ : ByteArray)).size = N.size + 2 := by
    rw [ByteArray.size_append, ByteArray.size_append]; show 1 + _ + 1 = _; omega
  rw [hz, show (((⟨#[38]⟩ : ByteArray) ++ N) ++ (⟨#[59]⟩ : ByteArray)).data.toList = 38 :: (N.data.toList ++ [59]) from by simp] at h
  exact h
theorem slice_to (s : ByteArray) (n : Nat) (h : n + 2 ≤ s.size) (w : World) :
    (Instr.slice 9 (.string s) none (some (.int .i64 ((n : Int) + 2))) none).run Tryd.prog w = .ok (.string (s.extract 0 (n + 2))) w := by
  rw [run_slice_string_h w 9 s Tryd.underlying9 .i64 ((n : Int) + 2) (by omega) (by omega)]
  rw [show ((n : Int) + 2).toNat = n + 2 from by omega]
theorem rune_cell {w : World} {B : Option Addr} {cb : Nat} (h : RowOf w B cb runeVals) (k : Nat) (hk : k < 23) : ∃ b off, B = some ⟨b, off, none⟩ ∧ b < w.heap.size ∧ w.cell? ⟨b, off + k, none⟩ = some (.int .i32 (runesL.getD k 0)) := by
  have hl : runeVals.length = 23 := by decide
  obtain ⟨b, off, e, hb, hc⟩ := h.at (by intro e; rw [e] at hl; cases hl)
  refine ⟨b, off, e, hb, ?_⟩
  rw [hc k (by omega)]
  have hr : k < runesL.length := by rw [show runesL.length = 23 from by decide]; exact hk
  rw [List.getD_eq_getElem?_getD, List.getElem?_eq_getElem hr]
  simp [runeVals]

set_option maxHeartbeats 4000000 in
set_option maxRecDepth 100000 in
theorem rentity_hit (s : ByteArray) (w : World) (hs : s.size ≤ 100) (k0 : Nat) (hk0 : k0 < 23) (hmiss : ∀ j, j < k0 → hitB s.data.toList j = false) (hhit : hitB s.data.toList k0 = true) :
    Calls Tryd.prog 10 #[.string s] w fun e w' => e = .returned (.tuple #[.string (txB k0), .int .i64 (((nmB k0).size : Int) + 2)]) ∧ Below w.heap.size w w' := by
  have HM := Lib.hid hmiss
  have HH := Lib.hid hhit
  clear hmiss hhit
  go_enter Tryd.func10, Tryd.ntmps10
  go_wp2_with fail
  refine (rnames_any w).mono ?_
  rintro e w1 ⟨A, B, ca, cb, rfl, hrA, hrB, b1⟩
  have hc1 := hrA.1
  have hc2 := hrA.2.1
  rw [strs_length, namesL_length] at hc1
  unfold maxLen at hc2
  have hd1 := hrB.1
  have hd2 := hrB.2.1
  rw [show runeVals.length = 23 from by decide] at hd1
  unfold maxLen at hd2
  have HA := Lib.hid hrA
  have HB := Lib.hid hrB
  clear hrA hrB
  go_wp2_with fail
  go_loopw [6] (fun i wr => EntRel k0 w1 i wr) (fun i _ => 23 - (intOf i).toNat)
  case atStart => exact ⟨0, 0, rfl, Nat.zero_le _, rfl⟩
  case round =>
    obtain ⟨k, q, rfl, hk, rfl⟩ := hrel
    obtain ⟨b, off, rfl, hb, hcell⟩ := names_cell HA.out k (by omega)
    have hN := (nm_size k (by omega)).1
    have hcmp := hit_cmp s (nmB k)
    have hx : (38 :: ((nmB k).data.toList ++ [59])) = (38 :: ((nmB k).data.toList ++ [59])) := rfl
    change _ = hitB s.data.toList k at hcmp
    have hk23 : k < 23 := by omega
    by_cases hkk : k < k0
    · rw [HM.out k hkk] at hcmp
      by_cases hg : (nmB k).size + 2 ≤ s.size
      · rw [decide_eq_true hg, Bool.true_and] at hcmp
        have hsl := slice_to s (nmB k).size hg
        have hcat1 := fun W => run_string_add_sum (P := Tryd.prog) W ⟨#[38]⟩ (nmB k) (by show 1 + _ ≤ _; omega)
        have hcat2 := fun W => run_string_add_sum (P := Tryd.prog) W ((⟨#[38]⟩ : ByteArray) ++ nmB k) ⟨#[59]⟩ (by rw [ByteArray.size_append]; show 1 + _ + 1 ≤ _; omega)
        have hwr : IntKind.i64.wrap (((nmB k).size : Int) + 2) = ((nmB k).size : Int) + 2 := IntWalk.i64_in _ (by omega)
        have hgd : decide (((nmB k).size : Int) + 2 ≤ s.size) = true := by simp; omega
        clear hx
        generalize nmB k = N at *
        go_wp2_with fail
        go_quiet (fail)
        go_wp2
        exact ⟨⟨k + 1, _, by go_num, by omega, rfl⟩, by simp [intOf]; omega⟩
      · have hgd : decide (((nmB k).size : Int) + 2 ≤ s.size) = false := by simp; omega
        have hwr : IntKind.i64.wrap (((nmB k).size : Int) + 2) = ((nmB k).size : Int) + 2 := IntWalk.i64_in _ (by omega)
        clear hx hcmp
        generalize nmB k = N at *
        go_wp2_with fail
        go_quiet (fail)
        go_wp2
        exact ⟨⟨k + 1, _, by go_num, by omega, rfl⟩, by simp [intOf]; omega⟩
    · obtain rfl : k = k0 := by omega
      rw [HH.out] at hcmp
      obtain ⟨b2, off2, rfl, hb2, hcell2⟩ := rune_cell HB.out k hk23
      have hrt := rune_text k hk23
      have hg : (nmB k).size + 2 ≤ s.size := by
        by_cases hg : (nmB k).size + 2 ≤ s.size
        · exact hg
        · rw [decide_eq_false hg, Bool.false_and] at hcmp; cases hcmp
      rw [decide_eq_true hg, Bool.true_and] at hcmp
      have hsl := slice_to s (nmB k).size hg
      have hcat1 := fun W => run_string_add_sum (P := Tryd.prog) W ⟨#[38]⟩ (nmB k) (by show 1 + _ ≤ _; omega)
      have hcat2 := fun W => run_string_add_sum (P := Tryd.prog) W ((⟨#[38]⟩ : ByteArray) ++ nmB k) ⟨#[59]⟩ (by rw [ByteArray.size_append]; show 1 + _ + 1 ≤ _; omega)
      have hwr : IntKind.i64.wrap (((nmB k).size : Int) + 2) = ((nmB k).size : Int) + 2 := IntWalk.i64_in _ (by omega)
      have hgd : decide (((nmB k).size : Int) + 2 ≤ s.size) = true := by simp; omega
      have HT := Lib.hid hrt
      clear hx hrt hkk
      generalize hNN : nmB k = N at *
      have HNN := Lib.hid hNN
      clear hNN
      generalize runesL.getD k 0 = R at *
      go_wp2_with fail
      go_quiet (fail)
      go_wp2
      go_ret2
      exact ⟨ret_strint HT.out (by rw [HNN.out]), below_drewN' b1 _⟩

end Go.Proofs.YtggfllbaomfjhaaDoor
