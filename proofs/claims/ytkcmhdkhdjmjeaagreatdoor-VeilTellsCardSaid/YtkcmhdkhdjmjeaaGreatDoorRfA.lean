/-
  The document's own frames (bowdlerref1): rest, Label, DivOpens: what each answers, in plain words.
-/
import Derived.Test.YtkcmhdkhdjmjeaaGreatDoorRvP
import Derived.Test.YtkcmhdkhdjmjeaaGreatDoorRefL
namespace Go.Proofs.YtkcmhdkhdjmjeaaGreatDoor
open Go.RowKit
set_option linter.unusedSimpArgs false
set_option linter.unusedVariables false
set_option maxRecDepth 100000

theorem last_split (T : ByteArray) (m : Nat) (h : m < T.size) (hm : T.size ≤ m + 1) : T.data.toList = (T.extract 0 m).data.toList ++ [T[m]] := by
  have hl : T.data.toList.length = T.size := by simp
  rw [Lib.extract_upto]
  have e := List.take_append_drop m T.data.toList
  rw [get_list T m h, List.drop_eq_nil_of_le (by omega)] at e
  exact e.symm
theorem text_nil {T : ByteArray} (h : T.size = 0) : T.data.toList = [] := List.eq_nil_of_length_eq_zero (by rw [← Lib.size_eq]; exact h)
theorem empty_yes {T : ByteArray} (h : T.size = 0) : T.toList.isEmpty = true := by rw [ByteArray.toList_eq, text_nil h]; rfl
theorem mk_of {T : ByteArray} {l : List UInt8} (h : T.data.toList = l) : (⟨l.toArray⟩ : ByteArray) = T := by rw [← h]

def RestRel (s : ByteArray) (w : World) (z : Value) (wr : World) : Prop := ∃ T : ByteArray, z = .string T ∧ T.size ≤ s.size ∧ trimR T.data.toList = trimR s.data.toList ∧ wr = w

set_option maxHeartbeats 4000000 in
theorem rrest_any (s : ByteArray) (w : World) (hs : s.size ≤ 140737488355328) :
    Calls Tryz.prog 84 #[.string s] w fun e w' => e = .returned (.string ⟨(trimR s.data.toList).toArray⟩) ∧ w' = w := by
  go_enter Tryz.func84, Tryz.ntmps84
  go_wp2_with fail
  go_loopw [0] (fun z wr => RestRel s w z wr) (fun z _ => Lib.strSize z)
  case atStart => exact ⟨s, rfl, Nat.le_refl _, rfl, rfl⟩
  case round =>
    obtain ⟨T, rfl, hz, htr, hwe⟩ := hrel
    have hwe := hwe.symm
    subst hwe
    by_cases h0 : T.size = 0
    · have hT := text_nil h0
      have he := empty_yes h0
      have HF := Lib.hid (show (⟨(trimR s.data.toList).toArray⟩ : ByteArray) = T from by rw [← htr, hT]; exact mk_of hT)
      clear hT htr h0
      go_wp2
      go_ret
      exact ⟨ret_string HF.out.symm, rfl⟩
    · obtain ⟨m, hm⟩ : ∃ m, T.size = m + 1 := ⟨T.size - 1, by omega⟩
      have hml : m < T.size := by omega
      have hls := last_split T m hml (by omega)
      have he := toList_empty (show 0 < T.size from by omega)
      have hix : wrap64 ((T.size : Int) - 1) = (m : Int) := by unfold wrap64; omega
      have hix2 : IntKind.i64.wrap ((T.size : Int) - 1) = (m : Int) := by rw [IntWalk.i64_in _ (by omega)]; omega
      by_cases hb : T[m] = 32
      · have f1 : ((T[m].toNat : Int) == 32) = true := by simp [hb]
        rw [hb] at hls
        have HT := Lib.hid (show trimR (T.extract 0 m).data.toList = trimR s.data.toList from by
          rw [← htr]
          conv => rhs; rw [hls]
          exact (trimR_blank _).symm)
        have HZ := Lib.hid (show (T.extract 0 m).size = m from by rw [ByteArray.size_extract]; omega)
        have HM := Lib.hid hm
        clear hls htr hb hm h0
        go_wp2
        exact ⟨⟨_, rfl, by rw [HZ.out]; omega, HT.out, rfl⟩, by rw [Lib.strSize_string, Lib.strSize_string, HZ.out]; omega⟩
      · have f1 : ((T[m].toNat : Int) == 32) = false := by
          simp only [beq_eq_false_iff_ne, ne_eq]
          intro e
          exact hb (UInt8.toNat_inj.1 (by show T[m].toNat = 32; omega))
        have HF := Lib.hid (show (⟨(trimR s.data.toList).toArray⟩ : ByteArray) = T from by
          rw [← htr, hls, trimR_snoc _ _ hb, ← hls])
        clear hls htr hb hm h0
        go_wp2
        go_ret
        exact ⟨ret_string HF.out.symm, rfl⟩

def RLabRel (s : ByteArray) (w : World) (i : Value) (wr : World) : Prop := ∃ k : Nat, i = .int .i64 k ∧ k ≤ s.size ∧ s.data.toList.all labSign = (s.data.toList.drop k).all labSign ∧ wr = w

set_option maxHeartbeats 8000000 in
theorem rlabel_any (s : ByteArray) (w : World) (hs : s.size ≤ 140737488355328) :
    Calls Tryz.prog 85 #[.string s] w fun e w' => e = .returned (.bool (isLab s.data.toList)) ∧ w' = w := by
  have hl : s.data.toList.length = s.size := by simp
  have HLen := Lib.hid hl
  clear hl
  go_enter Tryz.func85, Tryz.ntmps85
  go_wp2_with fail
  go_loopw [3] (fun i wr => RLabRel s w i wr) (fun i _ => s.size - (intOf i).toNat)
  case atStart => exact ⟨0, rfl, Nat.zero_le _, by simp, rfl⟩
  case round =>
    obtain ⟨k, rfl, hk, hall, hwe⟩ := hrel
    have hwe := hwe.symm
    subst hwe
    by_cases hp : k < s.size
    · rw [get_list s k hp, List.all_cons] at hall
      have cg := gap_any s[k] w
      have hq : ∀ b : UInt8, ((s[k].toNat : Int) == (b.toNat : Int)) = (s[k] == b) := by
        intro b
        rw [Bool.eq_iff_iff, beq_iff_eq, beq_iff_eq]
        exact ⟨fun e => UInt8.toNat_inj.1 (by omega), fun e => by rw [e]⟩
      have q1 : ((s[k].toNat : Int) == 123) = (s[k] == 123) := hq 123
      have q2 : ((s[k].toNat : Int) == 125) = (s[k] == 125) := hq 125
      have q3 : ((s[k].toNat : Int) == 124) = (s[k] == 124) := hq 124
      have q4 : ((s[k].toNat : Int) == 58) = (s[k] == 58) := hq 58
      have hls : labSign s[k] = !(s[k] == 123 || s[k] == 125 || s[k] == 124 || s[k] == 58 || isGap s[k]) := by
        unfold labSign isGap
        simp only [Bool.or_assoc]
      rw [hls] at hall
      clear hls hq
      cases h1 : s[k] == 123 with
      | true =>
        rw [h1] at q1 hall
        have HF := Lib.hid (show isLab s.data.toList = false from by unfold isLab; rw [hall]; rfl)
        clear hall cg h1 q2 q3 q4
        go_wp2
        go_ret
        exact ⟨ret_bool (by rw [HF.out]), rfl⟩
      | false =>
      rw [h1] at q1 hall
      cases h2 : s[k] == 125 with
      | true =>
        rw [h2] at q2 hall
        have HF := Lib.hid (show isLab s.data.toList = false from by unfold isLab; rw [hall]; rfl)
        clear hall cg h1 h2 q3 q4
        go_wp2
        go_ret
        exact ⟨ret_bool (by rw [HF.out]), rfl⟩
      | false =>
      rw [h2] at q2 hall
      cases h3 : s[k] == 124 with
      | true =>
        rw [h3] at q3 hall
        have HF := Lib.hid (show isLab s.data.toList = false from by unfold isLab; rw [hall]; rfl)
        clear hall cg h1 h2 h3 q4
        go_wp2
        go_ret
        exact ⟨ret_bool (by rw [HF.out]), rfl⟩
      | false =>
      rw [h3] at q3 hall
      cases h4 : s[k] == 58 with
      | true =>
        rw [h4] at q4 hall
        have HF := Lib.hid (show isLab s.data.toList = false from by unfold isLab; rw [hall]; rfl)
        clear hall cg h1 h2 h3 h4
        go_wp2
        go_ret
        exact ⟨ret_bool (by rw [HF.out]), rfl⟩
      | false =>
      rw [h4] at q4 hall
      cases hg : isGap s[k] with
      | true =>
        rw [hg] at hall cg
        have HF := Lib.hid (show isLab s.data.toList = false from by unfold isLab; rw [hall]; rfl)
        have HC := Lib.hid cg
        clear hall cg h1 h2 h3 h4 hg
        go_wp2_with (go_at_call 108; refine HC.out.mono ?_; rintro e w' ⟨rfl, rfl⟩)
        go_ret
        exact ⟨ret_bool (by rw [HF.out]), rfl⟩
      | false =>
        rw [hg] at hall cg
        have HA := Lib.hid (show s.data.toList.all labSign = (s.data.toList.drop (k + 1)).all labSign from by rw [hall]; rfl)
        have HC := Lib.hid cg
        clear hall cg h1 h2 h3 h4 hg
        go_wp2_with (go_at_call 108; refine HC.out.mono ?_; rintro e w' ⟨rfl, rfl⟩)
        exact ⟨⟨k + 1, by go_num, by omega, HA.out, rfl⟩, by simp [intOf]; omega⟩
    · have HF := Lib.hid (show isLab s.data.toList = labOk s.size from by
        unfold isLab
        rw [hall, List.drop_eq_nil_of_le (by rw [HLen.out]; omega), HLen.out]; rfl)
      clear hall
      go_wp2
      all_goals go_ret
      all_goals exact ⟨ret_bool (by rw [HF.out]; unfold labOk; rw [Bool.eq_iff_iff]; simp; omega), rfl⟩

def optV2 : Option Txt → Value
  | some l => .tuple #[.string ⟨l.toArray⟩, .bool true]
  | none => .tuple #[.string ⟨#[]⟩, .bool false]
theorem mid_list (T : ByteArray) (m : Nat) (hm : T.size = m + 1) : (T.extract 4 m).data.toList = (T.data.toList.drop 4).dropLast := by
  have hl : T.data.toList.length = T.size := by simp
  rw [Lib.extract_data, List.dropLast_eq_take, List.length_drop, hl, hm]
  congr 1
theorem last_get (T : ByteArray) (m : Nat) (h : m < T.size) (hm : T.size = m + 1) : T.data.toList.getLast? = some T[m] := by
  rw [last_split T m h (by omega)]
  simp

set_option maxHeartbeats 8000000 in
theorem rdopens_any (s : ByteArray) (w : World) (hs : s.size ≤ 140737488355328) :
    Calls Tryz.prog 87 #[.string s] w fun e w' => e = .returned (optV2 (opensL s.data.toList)) ∧ w' = w := by
  have c1 := rrest_any s w hs
  have hle : (trimR s.data.toList).length ≤ s.data.toList.length := by
    obtain ⟨k, hk⟩ := trimR_more s.data.toList
    have := congrArg List.length hk
    rw [List.length_append] at this
    omega
  have hl : s.data.toList.length = s.size := by simp
  rw [hl] at hle
  generalize hV : optV2 (opensL s.data.toList) = V
  rw [← dopen_eq] at hV
  obtain ⟨T, hT1, hT⟩ : ∃ T : ByteArray, (⟨(trimR s.data.toList).toArray⟩ : ByteArray) = T ∧ T.data.toList = trimR s.data.toList := ⟨_, rfl, rfl⟩
  rw [hT1] at c1
  rw [← hT] at hV hle
  have hTl : T.data.toList.length = T.size := by simp
  rw [hTl] at hle
  unfold dopenL at hV
  clear hT1 hT hl
  by_cases h6 : T.size < 6
  · have HV := Lib.hid (show V = optV2 none from by rw [← hV, if_neg (fun h => by have := h.1; omega)])
    have f6 : decide ((T.size : Int) < 6) = true := by simp; omega
    clear hV h6 hTl
    go_enter Tryz.func87, Tryz.ntmps87
    go_wp2_with fail
    refine c1.mono ?_
    rintro e w1 ⟨rfl, rfl⟩
    go_wp2
    go_ret2
    exact ⟨by rw [HV.out]; rfl, rfl⟩
  · have f6 : decide ((T.size : Int) < 6) = false := by simp; omega
    obtain ⟨m, hm⟩ : ∃ m, T.size = m + 1 := ⟨T.size - 1, by omega⟩
    have hml : m < T.size := by omega
    have hm4 : 4 ≤ m := by omega
    have hml2 : (m : Int) ≤ (T.size : Int) := by omega
    have hix : wrap64 ((T.size : Int) - 1) = (m : Int) := by unfold wrap64; omega
    have hix2 : IntKind.i64.wrap ((T.size : Int) - 1) = (m : Int) := by rw [IntWalk.i64_in _ (by omega)]; omega
    have hg := last_get T m hml hm
    have c4 := fun w1 => rlabel_any (T.extract 4 m) w1 (by rw [ByteArray.size_extract]; omega)
    rw [mid_list T m hm] at c4
    have hmid := mid_list T m hm
    have h4 : (T.extract 0 4).toList = T.data.toList.take 4 := by rw [ByteArray.toList_eq, Lib.extract_data]; rfl
    rw [hg] at hV
    have hsl4 : ∀ W, (Instr.slice 9 (.string T) none (some (.int .i64 4)) none).run Tryz.prog W = .ok (.string (T.extract 0 4)) W := fun W => by
      have := run_slice_string_h (P := Tryz.prog) W 9 T Tryz.underlying9 .i64 4 (by omega) (by omega)
      exact this
    have hsl : ∀ W, (Instr.slice 9 (.string T) (some (.int .i64 4)) (some (.int .i64 (m : Int))) none).run Tryz.prog W = .ok (.string (T.extract 4 m)) W := fun W => by
      have := run_slice_string (P := Tryz.prog) W 9 T .i64 .i64 4 (m : Int) Tryz.underlying9 (by omega) (by omega) (by omega)
      exact this
    by_cases hp : T.data.toList.take 4 = divB
    · have p4 : ((T.extract 0 4).toList == [58, 58, 58, 123]) = true := by rw [h4, hp]; rfl
      have p4b : ((T.extract 0 4).toList != [58, 58, 58, 123]) = false := by rw [h4, hp]; rfl
      by_cases hb : T[m] = 125
      · have f7 : ((T[m].toNat : Int) == 125) = true := by simp [hb]
        have f7b : ((T[m].toNat : Int) != 125) = false := by simp [hb]
        cases hlb : isLab ((T.data.toList.drop 4).dropLast) with
        | true =>
          rw [hlb] at c4
          have HV := Lib.hid (show V = optV2 (some ((T.data.toList.drop 4).dropLast)) from by rw [← hV, if_pos ⟨by omega, hp, by rw [hb], hlb⟩])
          have HM := Lib.hid (show (⟨((T.data.toList.drop 4).dropLast).toArray⟩ : ByteArray) = T.extract 4 m from mk_of hmid)
          clear hV h6 hTl hm hg h4 hp hb hlb hmid
          go_enter Tryz.func87, Tryz.ntmps87
          go_wp2_with fail
          refine c1.mono ?_
          rintro e w1 ⟨rfl, rfl⟩
          go_wp2_with fail
          refine (c4 _).mono ?_
          rintro e w1 ⟨rfl, rfl⟩
          go_wp2
          go_ret2
          exact ⟨by rw [HV.out]; unfold optV2; dsimp only; rw [HM.out]; rfl, rfl⟩
        | false =>
          rw [hlb] at c4
          have HV := Lib.hid (show V = optV2 none from by rw [← hV, if_neg (fun h => by rw [hlb] at h; exact absurd h.2.2.2 (by simp))])
          clear hV h6 hTl hm hg h4 hp hb hlb hmid
          go_enter Tryz.func87, Tryz.ntmps87
          go_wp2_with fail
          refine c1.mono ?_
          rintro e w1 ⟨rfl, rfl⟩
          go_wp2_with fail
          refine (c4 _).mono ?_
          rintro e w1 ⟨rfl, rfl⟩
          go_wp2
          go_ret2
          exact ⟨by rw [HV.out]; rfl, rfl⟩
      · have hnb : ((T[m].toNat : Int) == 125) = false := by
          simp only [beq_eq_false_iff_ne, ne_eq]
          intro e
          exact hb (UInt8.toNat_inj.1 (by show T[m].toNat = 125; omega))
        have hnb2 : ((T[m].toNat : Int) != 125) = true := by unfold bne; rw [hnb]; rfl
        have HV := Lib.hid (show V = optV2 none from by rw [← hV, if_neg (fun h => hb (Option.some.inj h.2.2.1))])
        clear hV h6 hTl hm hg h4 hp hb hmid
        go_enter Tryz.func87, Tryz.ntmps87
        go_wp2_with fail
        refine c1.mono ?_
        rintro e w1 ⟨rfl, rfl⟩
        go_wp2
        go_ret2
        exact ⟨by rw [HV.out]; rfl, rfl⟩
    · have p4 : ((T.extract 0 4).toList == [58, 58, 58, 123]) = false := by
        rw [h4, beq_eq_false_iff_ne]; exact hp
      have p4b : ((T.extract 0 4).toList != [58, 58, 58, 123]) = true := by unfold bne; rw [p4]; rfl
      have HV := Lib.hid (show V = optV2 none from by rw [← hV, if_neg (fun h => hp h.2.1)])
      clear hV h6 hTl hm hg h4 hp hmid
      go_enter Tryz.func87, Tryz.ntmps87
      go_wp2_with fail
      refine c1.mono ?_
      rintro e w1 ⟨rfl, rfl⟩
      go_wp2
      go_ret2
      exact ⟨by rw [HV.out]; rfl, rfl⟩

end Go.Proofs.YtkcmhdkhdjmjeaaGreatDoor
