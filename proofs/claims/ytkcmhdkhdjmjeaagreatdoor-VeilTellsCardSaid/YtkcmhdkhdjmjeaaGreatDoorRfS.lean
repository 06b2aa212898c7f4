/-
  The document's own frames (bowdlerref1): Spans: a list of its own, that holds the pieces of the line.
  The document's own frames (bowdlerref1): Unspan: what it answers.
-/
import Derived.Test.YtkcmhdkhdjmjeaaGreatDoorRfB
import Derived.Deep.CutRange
namespace Go.Proofs.YtkcmhdkhdjmjeaaGreatDoor
open Go.RowKit
set_option linter.unusedSimpArgs false
set_option linter.unusedVariables false
set_option maxRecDepth 100000

theorem infoPiece1 : (Tryz.prog.info? 90).map (fun i => (i.zero, i.size, i.bytes)) = some (some (.agg #[.bool false, .string ByteArray.empty, .string ByteArray.empty]), 3, 40) := by kernel_rfl
def RSpRel (s : ByteArray) (w : World) (v t i : Value) (wr : World) : Prop :=
  ∃ (k : Nat) (P : List Pc) (T : ByteArray), t = .string T ∧ i = .int .i64 k ∧ k ≤ s.size ∧ T.size ≤ k ∧ P.length ≤ k ∧ wr.ownsRow w.heap.size 90 3 v P.length (pcsC P) ∧ Below w.heap.size w wr ∧ P ++ spansG T.data.toList (s.data.toList.drop k) = spansL s.data.toList
theorem spanAt_le {l lab txt : Txt} (h : spanAtL l = some (lab, txt)) : lab.length + txt.length + 5 ≤ l.length := by
  obtain ⟨rest, e⟩ := spanAt_some h
  rw [e, List.length_append, spanTxt_len]; omega
theorem snoc_list (T s : ByteArray) (k : Nat) (h : k < s.size) : (T ++ s.extract k (k + 1)).data.toList = T.data.toList ++ [s[k]] := by
  rw [ByteArray.data_append, Array.toList_append, ext_bytes, get_list s k h, show k + 1 - k = 1 from by omega]
  rfl

set_option maxHeartbeats 8000000 in
theorem rspans_any (s : ByteArray) (w : World) (hs : s.size ≤ 100000) :
    Calls Tryz.prog 45 #[.string s] w fun e w' => ∃ v, e = .returned v ∧ w'.ownsRow w.heap.size 90 3 v (spansL s.data.toList).length (pcsC (spansL s.data.toList)) ∧ Below w.heap.size w w' := by
  obtain ⟨i0, hi, hz0, hz1, hz2⟩ := info_parts infoPiece1
  go_enter Tryz.func45, Tryz.ntmps45
  go_wp2_with fail
  go_loopw [3, 4, 5] (fun v t i wr => RSpRel s w v t i wr) (fun _ _ i _ => s.size - (intOf i).toNat)
  case atStart => exact ⟨0, [], ⟨#[]⟩, rfl, rfl, Nat.zero_le _, Nat.zero_le _, Nat.zero_le _, World.ownsRow_nil _ _ _ _, Below.refl _ _, rfl⟩
  case round =>
    obtain ⟨k, P, T, rfl, rfl, hk, hTk, hPk, hown, hbw, hG⟩ := hrel
    by_cases hks : k < s.size
    · have hge := get_list s k hks
      have hext : (s.extract k s.size).data.toList = s.data.toList.drop k := ext_tail s k
      have cs := rspan_any (s.extract k s.size) wr (by rw [ByteArray.size_extract]; omega)
      rw [hext, hge] at cs
      rw [hge] at hG
      cases hx : spanAtL (s[k] :: s.data.toList.drop (k + 1)) with
      | none =>
        rw [hx] at cs
        unfold rspanV at cs
        dsimp only at cs
        rw [spansG_none hx, ← snoc_list T s k hks] at hG
        have hTz : (T ++ s.extract k (k + 1)).size = T.size + 1 := by rw [ByteArray.size_append, ByteArray.size_extract]; omega
        have HG := Lib.hid hG
        have HTz := Lib.hid hTz
        have hcat := fun W => run_string_add_sum (P := Tryz.prog) W T (s.extract k (k + 1)) (by rw [ByteArray.size_extract]; omega)
        have hsl : ∀ W, (Instr.slice 9 (.string s) (some (.int .i64 (k : Int))) (some (.int .i64 ((k : Int) + 1))) none).run Tryz.prog W = .ok (.string (s.extract k (k + 1))) W := fun W => by
          have := run_slice_string (P := Tryz.prog) W 9 s .i64 .i64 (k : Int) ((k + 1 : Nat) : Int) Tryz.underlying9 (by omega) (by omega) (by omega)
          exact this
        clear hG hge hx hTz hext
        go_wp2_with fail
        refine cs.mono ?_
        rintro e w1 ⟨rfl, m, hw1⟩
        have ho1 : w1.ownsRow w.heap.size 90 3 u3 P.length (pcsC P) := by rw [hw1]; exact ownsRow_below hown (below_drewN' (Below.refl _ wr) m)
        have hb1 : Below w.heap.size w w1 := by rw [hw1]; exact below_drewN' hbw m
        clear hown hbw hw1 cs
        go_wp2_with fail
        go_roundw
        case rel => exact ⟨k + 1, P, _, rfl, by go_num, by omega, by rw [HTz.out]; omega, by omega, ho1, hb1, HG.out⟩
        case measure => simp [intOf]; omega
      | some q =>
        obtain ⟨lab, txt⟩ := q
        rw [hx] at cs
        unfold rspanV at cs
        dsimp only at cs
        rw [spansG_some hx, ← hge, List.drop_drop] at hG
        have hle := spanAt_le hx
        rw [← hge, List.length_drop, ← Lib.size_eq] at hle
        obtain ⟨d, hd⟩ : ∃ d, lab.length + txt.length + 5 = d + 1 := ⟨lab.length + txt.length + 4, by omega⟩
        rw [hd] at cs hG hle
        obtain ⟨Q, hQ⟩ : ∃ Q, P ++ addT [] T.data.toList = Q := ⟨_, rfl⟩
        rw [← List.append_assoc, hQ] at hG
        have hQl : Q.length ≤ P.length + 1 := by rw [← hQ]; unfold addT; split <;> simp
        have HG := Lib.hid hG
        have HQ := Lib.hid hQ
        have hn0 : (((d + 1 : Nat) : Int) == 0) = false := by simp; omega
        clear hG hge hx hext hQ
        go_wp2_with fail
        refine cs.mono ?_
        rintro e w1 ⟨rfl, m, hw1⟩
        have ho1 : w1.ownsRow w.heap.size 90 3 u3 P.length (pcsC P) := by rw [hw1]; exact ownsRow_below hown (below_drewN' (Below.refl _ wr) m)
        have hb1 : Below w.heap.size w w1 := by rw [hw1]; exact below_drewN' hbw m
        clear hown hbw hw1 cs
        go_upto_if 33 with fail
        go_cut [3, 4] from 33 to 38 (fun v t wx => t = .string ⟨#[]⟩ ∧ wx.ownsRow w.heap.size 90 3 v Q.length (pcsC Q) ∧ Below w.heap.size w wx)
        case first =>
          by_cases h0 : T.size = 0
          · have hT := text_nil h0
            have he := empty_yes h0
            have hTe : T = ⟨#[]⟩ := by rw [← mk_of hT]
            have hQP : Q = P := by rw [← HQ.out, hT]; simp [addT]
            have HQP := Lib.hid hQP
            have HTE := Lib.hid hTe
            clear hT hTe hQP h0
            simp only [he, Bool.not_true]
            go_wp2
            go_meet
            exact ⟨by rw [HTE.out], by rw [HQP.out]; exact ho1, hb1⟩
          · have he := toList_empty (show 0 < T.size from by omega)
            have hne : T.data.toList ≠ [] := fun e => h0 (by rw [Lib.size_eq, e]; rfl)
            have hQP : Q = P ++ [⟨false, [], T.data.toList⟩] := by rw [← HQ.out]; unfold addT; rw [if_neg hne]; rfl
            have hmk : pcC ⟨false, [], T.data.toList⟩ = [.bool false, .string ⟨#[]⟩, .string T] := by
              unfold pcC; rw [show (⟨T.data.toList.toArray⟩ : ByteArray) = T from Lib.mk_data T]
            have HP := Lib.hid (show pcsC P ++ [.bool false, .string ⟨#[]⟩, .string T] = pcsC Q from by rw [hQP, pcsC_append, pcsC_one, hmk])
            have HQL := Lib.hid (show Q.length = P.length + 1 from by rw [hQP]; simp)
            clear hne hQP h0
            simp only [he, Bool.not_false]
            have h2 := ho1.alloc (.cells #[.bool false, .string ⟨#[]⟩, .string T] 90)
            have hn := piece_cells w1 ⟨false, [], T.data.toList⟩ 90
            rw [hmk] at hn
            have hone : ∀ u ∈ ([.bool false, .string ⟨#[]⟩, .string T] : List Value), u.oneCell' = true := by rw [← hmk]; exact pcC_one _
            have hs1 := alloc_size w1 (.cells #[.bool false, .string ⟨#[]⟩, .string T] 90)
            have HBB := Lib.hid (hb1.alloc (by have := hb1.size; omega) (.cells #[.bool false, .string ⟨#[]⟩, .string T] 90))
            have hBs := hb1.size
            clear hmk ho1 hb1
            go_wp2_with (at_builtin; refine wpList_append_own _ rfl _ _ 88 rfl w.heap.size 90 i0 (.agg #[.bool false, .string ByteArray.empty, .string ByteArray.empty]) 3 40 Tryz.underlying88 hi hz0 hz1 hz2 rfl (by decide) _ _ _ rfl h2 ⟨w1.heap.size, 0, none⟩ 1 1 [.bool false, .string ⟨#[]⟩, .string T] rfl rfl hn hone (by unfold maxLen; omega) (by omega) (by simp; omega) ?_)
            intro v7 w7 hown' hgrow _
            rw [HP.out] at hown'
            have HB7 := Lib.hid (HBB.out.trans (below_of_grown (B := w.heap.size) hgrow (fun g hg => (h2.lt g hg).1) (by omega)))
            have HO7 := Lib.hid hown'
            clear hown' hgrow h2 hn hone
            go_wp2
            go_meet
            exact ⟨rfl, by rw [HQL.out]; exact HO7.out, HB7.out⟩
        case rest =>
        obtain ⟨rfl, ho2, hb2⟩ := hcut
        have HP := Lib.hid (show pcsC Q ++ [.bool true, .string ⟨lab.toArray⟩, .string ⟨txt.toArray⟩] = pcsC (Q ++ [⟨true, lab, txt⟩]) from by rw [pcsC_append, pcsC_one]; rfl)
        have HQL := Lib.hid (show (Q ++ [(⟨true, lab, txt⟩ : Pc)]).length = Q.length + 1 from by simp)
        have hmk : pcC ⟨true, lab, txt⟩ = [.bool true, .string ⟨lab.toArray⟩, .string ⟨txt.toArray⟩] := rfl
        clear ho1 hb1
        have h2 := ho2.alloc (.cells #[.bool true, .string ⟨lab.toArray⟩, .string ⟨txt.toArray⟩] 90)
        have hn := piece_cells wc ⟨true, lab, txt⟩ 90
        rw [hmk] at hn
        have hone : ∀ u ∈ ([.bool true, .string ⟨lab.toArray⟩, .string ⟨txt.toArray⟩] : List Value), u.oneCell' = true := by rw [← hmk]; exact pcC_one _
        have hs1 := alloc_size wc (.cells #[.bool true, .string ⟨lab.toArray⟩, .string ⟨txt.toArray⟩] 90)
        have HBB := Lib.hid (hb2.alloc (by have := hb2.size; omega) (.cells #[.bool true, .string ⟨lab.toArray⟩, .string ⟨txt.toArray⟩] 90))
        have hBs := hb2.size
        clear hmk ho2 hb2
        go_wp2_with (at_builtin; refine wpList_append_own _ rfl _ _ 88 rfl w.heap.size 90 i0 (.agg #[.bool false, .string ByteArray.empty, .string ByteArray.empty]) 3 40 Tryz.underlying88 hi hz0 hz1 hz2 rfl (by decide) _ _ _ rfl h2 ⟨wc.heap.size, 0, none⟩ 1 1 [.bool true, .string ⟨lab.toArray⟩, .string ⟨txt.toArray⟩] rfl rfl hn hone (by unfold maxLen; omega) (by omega) (by simp; omega) ?_)
        intro v7 w7 hown' hgrow _
        rw [HP.out] at hown'
        have HB7 := Lib.hid (HBB.out.trans (below_of_grown (B := w.heap.size) hgrow (fun g hg => (h2.lt g hg).1) (by omega)))
        have HO7 := Lib.hid hown'
        clear hown' hgrow h2 hn hone
        go_wp2
        go_roundw
        case rel => exact ⟨k + (d + 1), Q ++ [⟨true, lab, txt⟩], ⟨#[]⟩, rfl, by go_num, by omega, Nat.zero_le _, by rw [HQL.out]; omega, by rw [HQL.out]; exact HO7.out, HB7.out, by rw [← HG.out, List.append_assoc]; rfl⟩
        case measure => simp [intOf]; omega
    · obtain rfl : k = s.size := by omega
      rw [List.drop_eq_nil_of_le (by rw [← Lib.size_eq]; omega), spansG_nil] at hG
      by_cases h0 : T.size = 0
      · have hT := text_nil h0
        have he := empty_yes h0
        rw [hT, show addT [] ([] : Txt) = [] from rfl, List.append_nil] at hG
        have HG := Lib.hid hG
        clear hT hG h0
        go_wp2
        go_ret
        exact ⟨_, rfl, by rw [← HG.out]; exact hown, hbw⟩
      · have he := toList_empty (show 0 < T.size from by omega)
        have hne : T.data.toList ≠ [] := fun e => h0 (by rw [Lib.size_eq, e]; rfl)
        rw [show addT [] T.data.toList = [⟨false, [], T.data.toList⟩] from by unfold addT; rw [if_neg hne]; rfl] at hG
        have hmk : pcC ⟨false, [], T.data.toList⟩ = [.bool false, .string ⟨#[]⟩, .string T] := by
          unfold pcC; rw [show (⟨T.data.toList.toArray⟩ : ByteArray) = T from Lib.mk_data T]
        have HP := Lib.hid (show pcsC P ++ [.bool false, .string ⟨#[]⟩, .string T] = pcsC (spansL s.data.toList) from by rw [← hG, pcsC_append, pcsC_one, hmk])
        have HQL := Lib.hid (show (spansL s.data.toList).length = P.length + 1 from by rw [← hG]; simp)
        clear hne hG h0
        have h2 := hown.alloc (.cells #[.bool false, .string ⟨#[]⟩, .string T] 90)
        have hn := piece_cells wr ⟨false, [], T.data.toList⟩ 90
        rw [hmk] at hn
        have hone : ∀ u ∈ ([.bool false, .string ⟨#[]⟩, .string T] : List Value), u.oneCell' = true := by rw [← hmk]; exact pcC_one _
        have hs1 := alloc_size wr (.cells #[.bool false, .string ⟨#[]⟩, .string T] 90)
        have HBB := Lib.hid (hbw.alloc (by have := hbw.size; omega) (.cells #[.bool false, .string ⟨#[]⟩, .string T] 90))
        have hBs := hbw.size
        clear hmk hown hbw
        go_wp2_with (at_builtin; refine wpList_append_own _ rfl _ _ 88 rfl w.heap.size 90 i0 (.agg #[.bool false, .string ByteArray.empty, .string ByteArray.empty]) 3 40 Tryz.underlying88 hi hz0 hz1 hz2 rfl (by decide) _ _ _ rfl h2 ⟨wr.heap.size, 0, none⟩ 1 1 [.bool false, .string ⟨#[]⟩, .string T] rfl rfl hn hone (by unfold maxLen; omega) (by omega) (by simp; omega) ?_)
        intro v7 w7 hown' hgrow _
        rw [HP.out] at hown'
        have HB7 := Lib.hid (HBB.out.trans (below_of_grown (B := w.heap.size) hgrow (fun g hg => (h2.lt g hg).1) (by omega)))
        have HO7 := Lib.hid hown'
        clear hown' hgrow h2 hn hone
        go_wp2
        go_ret
        exact ⟨_, rfl, by rw [HQL.out]; exact HO7.out, HB7.out⟩

end Go.Proofs.YtkcmhdkhdjmjeaaGreatDoor

namespace Go.Proofs.YtkcmhdkhdjmjeaaGreatDoor
open Go.RowKit
set_option linter.unusedSimpArgs false
set_option linter.unusedVariables false
set_option maxRecDepth 100000

def RUnRel (P : List Pc) (w : World) (t i : Value) (wr : World) : Prop :=
  ∃ (k : Nat) (T : ByteArray), t = .string T ∧ i = .int .i64 k ∧ k ≤ P.length ∧ T.data.toList = unspanL (P.take k) ∧ Below w.heap.size w wr

set_option maxHeartbeats 8000000 in
theorem runspan_any (A : Option Addr) (cap : Nat) (P : List Pc) (w : World) (hP : PcAt w A cap P) (hn : (unspanL P).length ≤ 1000000000) :
    Calls Tryz.prog 46 #[.slice A P.length cap] w fun e w' => e = .returned (.string ⟨(unspanL P).toArray⟩) ∧ Below w.heap.size w w' := by
  have hc1 := hP.le
  have hc2 := hP.cap
  unfold maxLen at hc2
  have HP := Lib.hid hP
  clear hP
  go_enter Tryz.func46, Tryz.ntmps46
  go_wp2_with fail
  go_loopw [3, 4] (fun t i wr => RUnRel P w t i wr) (fun _ i _ => P.length - (intOf i).toNat)
  case atStart => exact ⟨0, ⟨#[]⟩, rfl, rfl, Nat.zero_le _, rfl, Below.refl _ _⟩
  case round =>
    obtain ⟨k, T, rfl, rfl, hk, hT, hbw⟩ := hrel
    have HB := Lib.hid hbw
    by_cases hkp : k < P.length
    · obtain ⟨b, off, rfl, hlt, q0, q1, q2⟩ := (HP.out.below hbw).at hkp
      clear hbw
      have hle := unspan_le P (k + 1)
      rw [unspan_take P k hkp, ← hT, List.length_append, ← Lib.size_eq] at hle
      have hnx := unspan_take P k hkp
      rw [← hT] at hnx
      generalize hp : P[k] = p at *
      obtain ⟨sp, lab, txt⟩ := p
      dsimp only at q0 q1 q2
      obtain ⟨LB, hLB⟩ : ∃ LB : ByteArray, LB = ⟨lab.toArray⟩ := ⟨_, rfl⟩
      obtain ⟨TB, hTB⟩ : ∃ TB : ByteArray, TB = ⟨txt.toArray⟩ := ⟨_, rfl⟩
      rw [← hLB] at q1
      rw [← hTB] at q2
      have hlz : LB.size = lab.length := by rw [hLB]; exact str_size lab
      have htz : TB.size = txt.length := by rw [hTB]; exact str_size txt
      cases sp with
      | false =>
        have hsum : T.size + TB.size ≤ 1000000000 := by
          have e : pcTxt ⟨false, lab, txt⟩ = txt := rfl
          rw [e] at hle; omega
        have HN := Lib.hid (show (T ++ TB).data.toList = unspanL (P.take (k + 1)) from by
          rw [hnx, ByteArray.data_append, Array.toList_append, hTB]; rfl)
        have hcat := fun W => run_string_add_sum (P := Tryz.prog) W T TB (by omega)
        clear hle hnx hT hLB hTB hp hsum
        go_wp2
        go_roundw
        case rel => exact ⟨k + 1, _, rfl, by go_num, by omega, HN.out, HB.out⟩
        case measure => simp [intOf]; omega
      | true =>
        have e0 : pcTxt ⟨true, lab, txt⟩ = spanTxt lab txt := rfl
        rw [e0, spanTxt_len] at hle
        have hc1' := fun W => run_string_add_sum (P := Tryz.prog) W T ⟨#[123, 124]⟩ (by show _ + 2 ≤ _; omega)
        have z1 : (T ++ (⟨#[123, 124]⟩ : ByteArray)).size = T.size + 2 := by rw [ByteArray.size_append]; rfl
        generalize hX1 : T ++ (⟨#[123, 124]⟩ : ByteArray) = X1 at *
        have hc2' := fun W => run_string_add_sum (P := Tryz.prog) W X1 LB (by omega)
        have z2 : (X1 ++ LB).size = X1.size + LB.size := ByteArray.size_append ..
        generalize hX2 : X1 ++ LB = X2 at *
        have hc3' := fun W => run_string_add_sum (P := Tryz.prog) W X2 ⟨#[58]⟩ (by show _ + 1 ≤ _; omega)
        have z3 : (X2 ++ (⟨#[58]⟩ : ByteArray)).size = X2.size + 1 := by rw [ByteArray.size_append]; rfl
        generalize hX3 : X2 ++ (⟨#[58]⟩ : ByteArray) = X3 at *
        have hc4' := fun W => run_string_add_sum (P := Tryz.prog) W X3 TB (by omega)
        have z4 : (X3 ++ TB).size = X3.size + TB.size := ByteArray.size_append ..
        generalize hX4 : X3 ++ TB = X4 at *
        have hc5' := fun W => run_string_add_sum (P := Tryz.prog) W X4 ⟨#[124, 125]⟩ (by show _ + 2 ≤ _; omega)
        generalize hX5 : X4 ++ (⟨#[124, 125]⟩ : ByteArray) = X5 at *
        have HN := Lib.hid (show X5.data.toList = unspanL (P.take (k + 1)) from by
          rw [hnx, e0, ← hX5, ← hX4, ← hX3, ← hX2, ← hX1, hLB, hTB]
          simp [ByteArray.data_append, spanTxt, spB, spE])
        clear hle hnx hT hLB hTB hp hX1 hX2 hX3 hX4 hX5 z1 z2 z3 z4 e0
        go_wp2
        go_quiet (fail)
        go_wp2
        go_roundw
        case rel => exact ⟨k + 1, _, rfl, by go_num, by omega, HN.out, below_drewN' HB.out _⟩
        case measure => simp [intOf]; omega
    · obtain rfl : k = P.length := by omega
      rw [List.take_length] at hT
      have HF := Lib.hid (show (⟨(unspanL P).toArray⟩ : ByteArray) = T from mk_of hT)
      clear hT
      go_wp2
      go_ret
      exact ⟨ret_string HF.out.symm, HB.out⟩

end Go.Proofs.YtkcmhdkhdjmjeaaGreatDoor
