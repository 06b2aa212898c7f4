/-
  The document's own frames (bowdlerref1): span, Spans, Unspan: what each answers, in plain words.
-/
import Derived.Test.YtkcmhdkhdjmjeaaGreatDoorRfA
import Derived.Test.YtkcmhdkhdjmjeaaGreatDoorSpnC
namespace Go.Proofs.YtkcmhdkhdjmjeaaGreatDoor
open Go.RowKit
set_option linter.unusedSimpArgs false
set_option linter.unusedVariables false
set_option maxRecDepth 100000

def rspanV : Option (Txt × Txt) → Value
  | some (lab, txt) => .tuple #[.string ⟨lab.toArray⟩, .string ⟨txt.toArray⟩, .int .i64 ((lab.length + txt.length + 5 : Nat) : Int)]
  | none => .tuple #[.string ⟨#[]⟩, .string ⟨#[]⟩, .int .i64 0]
def RColRel (s : ByteArray) (w : World) (c : Value) (wr : World) : Prop := ∃ k : Nat, c = .int .i64 k ∧ 2 ≤ k ∧ k ≤ s.size ∧ (∀ j (h : j < s.size), 2 ≤ j → j < k → s[j] ≠ 58) ∧ wr = w
def REndRel (s : ByteArray) (k : Nat) (w : World) (z : Value) (wr : World) : Prop := ∃ e : Nat, z = .int .i64 e ∧ k + 1 ≤ e ∧ e ≤ s.size ∧ (∀ i, i < e - (k + 1) → endAt (s.data.toList.drop (k + 1)) i = false) ∧ wr = w
theorem byte_ne {b c : UInt8} (h : b ≠ c) : ((b.toNat : Int) == (c.toNat : Int)) = false := by
  simp only [beq_eq_false_iff_ne, ne_eq]
  intro e
  exact h (UInt8.toNat_inj.1 (by omega))
theorem get_at (s : ByteArray) (k : Nat) (h : k < s.size) : s.data.toList[k]? = some s[k] := by
  have hl : s.data.toList.length = s.size := by simp
  rw [List.getElem?_eq_getElem (by omega)]; rfl
theorem span_parts (s : ByteArray) (k : Nat) (h2 : 2 ≤ k) (hk : k < s.size) (hp : s.data.toList.take 2 = spB) (h58 : s[k] = 58) :
    s.data.toList = spB ++ ((s.extract 2 k).data.toList ++ 58 :: s.data.toList.drop (k + 1)) := by
  have e1 := List.take_append_drop 2 s.data.toList
  have e2 := List.take_append_drop (k - 2) (s.data.toList.drop 2)
  have e3 := get_list s k hk
  rw [h58] at e3
  rw [List.drop_drop, show 2 + (k - 2) = k from by omega, e3] at e2
  rw [Lib.extract_data, e2, ← hp, e1]
theorem span_mid (s : ByteArray) (k : Nat) (h2 : 2 ≤ k) (hk : k ≤ s.size) (h : ∀ j (h : j < s.size), 2 ≤ j → j < k → s[j] ≠ 58) : ∀ b ∈ (s.extract 2 k).data.toList, b ≠ 58 := by
  intro b hb
  rw [Lib.extract_data] at hb
  obtain ⟨i, hi, rfl⟩ := List.mem_iff_getElem.1 hb
  have hl : s.data.toList.length = s.size := by simp
  rw [List.length_take, List.length_drop, hl] at hi
  rw [List.getElem_take, List.getElem_drop]
  exact h (2 + i) (by omega) (by omega) (by omega)

set_option maxHeartbeats 16000000 in
theorem rspan_any (s : ByteArray) (w : World) (hs : s.size ≤ 140737488355328) :
    Calls Tryz.prog 86 #[.string s] w fun e w' => e = .returned (rspanV (spanAtL s.data.toList)) ∧ ∃ n, w' = w.drewN n := by
  have hl : s.data.toList.length = s.size := by simp
  generalize hV : rspanV (spanAtL s.data.toList) = V
  have h4 : (s.extract 0 2).toList = s.data.toList.take 2 := by rw [ByteArray.toList_eq, Lib.extract_data]; rfl
  by_cases h2 : s.size < 2
  · have HV := Lib.hid (show V = rspanV none from by
      rw [← hV, span_no]
      cases hp : spB.isPrefixOf s.data.toList with
      | false => rfl
      | true =>
        have := prefix_of hp
        have h3 := congrArg List.length this
        rw [List.length_append, hl] at h3
        have h5 : spB.length = 2 := rfl
        omega)
    have f6 : decide ((s.size : Int) < 2) = true := by simp; omega
    clear hV h2 hl h4
    go_enter Tryz.func86, Tryz.ntmps86
    go_wp2
    go_ret3
    exact ⟨by rw [HV.out]; rfl, 0, rfl⟩
  · have f6 : decide ((s.size : Int) < 2) = false := by simp; omega
    by_cases hp : s.data.toList.take 2 = spB
    · have p4 : ((s.extract 0 2).toList == [123, 124]) = true := by rw [h4, hp]; rfl
      have p4b : ((s.extract 0 2).toList != [123, 124]) = false := by rw [h4, hp]; rfl
      have HP := Lib.hid hp
      have HL := Lib.hid hl
      have HV0 := Lib.hid hV
      clear hV h4 hp hl
      go_enter Tryz.func86, Tryz.ntmps86
      have hsl : ∀ (a b : Nat) (W : World), a ≤ b → b ≤ s.size → (Instr.slice 9 (.string s) (some (.int .i64 (a : Int))) (some (.int .i64 (b : Int))) none).run Tryz.prog W = .ok (.string (s.extract a b)) W := fun a b W h1 h2 => by
        have := run_slice_string (P := Tryz.prog) W 9 s .i64 .i64 (a : Int) (b : Int) Tryz.underlying9 (by omega) (by omega) (by omega)
        exact this
      have HSL := Lib.hid hsl
      clear hsl
      go_wp2_with fail
      go_loopw [5] (fun c wr => RColRel s w c wr) (fun c _ => s.size - (intOf c).toNat)
      case atStart => exact ⟨2, rfl, Nat.le_refl _, by omega, fun j _ h1 h2 => absurd h2 (by omega), rfl⟩
      case round =>
        obtain ⟨k, rfl, hk2, hk, hno, hwe⟩ := hrel
        have hwe := hwe.symm
        subst hwe
        by_cases hks : k < s.size
        · by_cases h58 : s[k] = 58
          · have f58 : ((s[k].toNat : Int) == 58) = true := by simp [h58]
            have f58b : ((s[k].toNat : Int) != 58) = false := by simp [h58]
            have hx := span_mid s k hk2 hk hno
            have hparts := span_parts s k hk2 hks HP.out h58
            have cl := rlabel_any (s.extract 2 k) w (by rw [ByteArray.size_extract]; omega)
            have hsl2 : ∀ W, (Instr.slice 9 (.string s) (some (.int .i64 2)) (some (.int .i64 (k : Int))) none).run Tryz.prog W = .ok (.string (s.extract 2 k)) W := fun W => HSL.out 2 k W hk2 hk
            have hV := HV0.out
            rw [hparts] at hV
            have HLx := Lib.hid (show (s.extract 2 k).data.toList.length = k - 2 from by rw [Lib.extract_data, List.length_take, List.length_drop, HL.out]; omega)
            cases hlb : isLab (s.extract 2 k).data.toList with
            | false =>
              rw [span_noLab hx hlb] at hV
              rw [hlb] at cl
              have HV := Lib.hid hV
              clear hno hx hparts hV h58 hlb
              go_wp2_with fail
              refine cl.mono ?_
              rintro e w1 ⟨rfl, hw1⟩
              have hw1 := hw1.symm
              subst hw1
              go_wp2
              go_ret3
              exact ⟨by rw [← HV.out]; rfl, 0, rfl⟩
            | true =>
              rw [span_cut hx hlb] at hV
              rw [hlb] at cl
              have HV := Lib.hid hV
              clear hno hx hparts hV h58 hlb
              have hk1 : (k : Int) + 1 ≤ (s.size : Int) := by omega
              have hdk : decide (s.size ≤ k) = false := by simp; omega
              go_wp2_with fail
              refine cl.mono ?_
              rintro e w1 ⟨rfl, hw1⟩
              have hw1 := hw1.symm
              subst hw1
              clear cl hsl2
              go_wp2_with fail
              go_loopw [6] (fun z wr => REndRel s k w z wr) (fun z _ => s.size - (intOf z).toNat)
              case atStart => exact ⟨k + 1, by go_num, Nat.le_refl _, by omega, fun i hi => absurd hi (by omega), rfl⟩
              case round =>
                obtain ⟨e, rfl, he1, he2, hne, hwe⟩ := hrel
                have hwe := hwe.symm
                subst hwe
                by_cases hes : e + 1 < s.size
                · have hes0 : e < s.size := by omega
                  have g1 : (s.data.toList.drop (k + 1))[e - (k + 1)]? = some s[e] := by rw [List.getElem?_drop, show k + 1 + (e - (k + 1)) = e from by omega]; exact get_at s e hes0
                  have g2 : (s.data.toList.drop (k + 1))[e - (k + 1) + 1]? = some s[e + 1] := by rw [List.getElem?_drop, show k + 1 + (e - (k + 1) + 1) = e + 1 from by omega]; exact get_at s (e + 1) hes
                  have hstep : endAt (s.data.toList.drop (k + 1)) (e - (k + 1)) = false → ∀ i, i < e + 1 - (k + 1) → endAt (s.data.toList.drop (k + 1)) i = false := by
                    intro h i hi
                    by_cases hie : i = e - (k + 1)
                    · rw [hie]; exact h
                    · exact hne i (by omega)
                  have hi1 : ((e : Int) + 1) < (s.size : Int) := by omega
                  by_cases h124 : s[e] = 124
                  · have f1 : ((s[e].toNat : Int) == 124) = true := by simp [h124]
                    by_cases h125 : s[e + 1] = 125
                    · have f2 : ((s[e + 1].toNat : Int) == 125) = true := by simp [h125]
                      have hat : endAt (s.data.toList.drop (k + 1)) (e - (k + 1)) = true := by unfold endAt; rw [g1, g2, h124, h125]; rfl
                      have hcut := cutE_at hne hat
                      have hsl3 : ∀ W, (Instr.slice 9 (.string s) (some (.int .i64 2)) (some (.int .i64 (k : Int))) none).run Tryz.prog W = .ok (.string (s.extract 2 k)) W := fun W => HSL.out 2 k W hk2 hk
                      have hsl4 := fun W => HSL.out (k + 1) e W he1 he2
                      have hsl5 : ∀ W, (Instr.slice 9 (.string s) (some (.int .i64 ((k : Int) + 1))) (some (.int .i64 (e : Int))) none).run Tryz.prog W = .ok (.string (s.extract (k + 1) e)) W := hsl4
                      have HF := Lib.hid (show V = .tuple #[.string (s.extract 2 k), .string (s.extract (k + 1) e), .int .i64 ((e : Int) + 2)] from by
                        rw [← HV.out, hcut]
                        show rspanV (some ((s.extract 2 k).data.toList, (s.data.toList.drop (k + 1)).take (e - (k + 1)))) = _
                        unfold rspanV
                        dsimp only
                        rw [Lib.mk_data, HLx.out, ← Lib.extract_data, Lib.mk_data]
                        have : (s.extract (k + 1) e).data.toList.length = e - (k + 1) := by rw [Lib.extract_data, List.length_take, List.length_drop, HL.out]; omega
                        rw [this, show ((k - 2 + (e - (k + 1)) + 5 : Nat) : Int) = (e : Int) + 2 from by omega])
                      clear hne hstep g1 g2 hat hcut h124 h125 hsl4
                      go_wp2
                      go_quiet (fail)
                      go_wp2
                      go_ret3
                      exact ⟨by rw [HF.out]; rfl, _, rfl⟩
                    · have f2 := byte_ne (c := 125) h125
                      have f2 : ((s[e + 1].toNat : Int) == 125) = false := f2
                      have HN := Lib.hid (hstep (by unfold endAt; rw [g1, g2]; simp [h125]))
                      clear hne hstep g1 g2 h124 h125
                      go_wp2
                      exact ⟨⟨e + 1, by go_num, by omega, by omega, HN.out, rfl⟩, by simp [intOf]; omega⟩
                  · have f1 : ((s[e].toNat : Int) == 124) = false := byte_ne (c := 124) h124
                    have HN := Lib.hid (hstep (by unfold endAt; rw [g1]; simp [h124]))
                    clear hne hstep g1 g2 h124
                    go_wp2
                    exact ⟨⟨e + 1, by go_num, by omega, by omega, HN.out, rfl⟩, by simp [intOf]; omega⟩
                · have hi1 : ¬ ((e : Int) + 1) < (s.size : Int) := by omega
                  have HF := Lib.hid (show V = rspanV none from by
                    rw [← HV.out, cutE_never (fun i hi => hne i (by rw [List.length_drop, HL.out] at hi; omega))]
                    rfl)
                  clear hne
                  go_wp2
                  go_ret3
                  exact ⟨by rw [HF.out]; rfl, 0, rfl⟩
          · have f58 : ((s[k].toNat : Int) == 58) = false := byte_ne (c := 58) h58
            have f58b : ((s[k].toNat : Int) != 58) = true := by unfold bne; rw [f58]; rfl
            have HN := Lib.hid (show ∀ j (h : j < s.size), 2 ≤ j → j < k + 1 → s[j] ≠ 58 from by
              intro j hj h1 h2
              by_cases e : j = k
              · subst e; exact h58
              · exact hno j hj h1 (by omega))
            clear hno h58
            go_wp2
            exact ⟨⟨k + 1, by go_num, by omega, by omega, HN.out, rfl⟩, by simp [intOf]; omega⟩
        · obtain rfl : k = s.size := by omega
          have HF := Lib.hid (show V = rspanV none from by
            rw [← HV0.out]
            have e1 := List.take_append_drop 2 s.data.toList
            rw [HP.out] at e1
            have hx := span_mid s s.size hk2 (Nat.le_refl _) hno
            have e2 : (s.extract 2 s.size).data.toList = s.data.toList.drop 2 := by rw [Lib.extract_from]
            rw [e2] at hx
            rw [← e1, span_noColon hx])
          clear hno
          go_wp2
          go_ret3
          exact ⟨by rw [HF.out]; rfl, 0, rfl⟩
    · have p4 : ((s.extract 0 2).toList == [123, 124]) = false := by rw [h4, beq_eq_false_iff_ne]; exact hp
      have p4b : ((s.extract 0 2).toList != [123, 124]) = true := by unfold bne; rw [p4]; rfl
      have HV := Lib.hid (show V = rspanV none from by
        rw [← hV, span_no]
        cases hq : spB.isPrefixOf s.data.toList with
        | false => rfl
        | true =>
          exfalso
          apply hp
          rw [prefix_of hq]
          rfl)
      have hz2 : (2 : Int) ≤ (s.size : Int) := by omega
      clear hV h2 hl h4 hp
      go_enter Tryz.func86, Tryz.ntmps86
      go_wp2
      go_ret3
      exact ⟨by rw [HV.out]; rfl, 0, rfl⟩

end Go.Proofs.YtkcmhdkhdjmjeaaGreatDoor
