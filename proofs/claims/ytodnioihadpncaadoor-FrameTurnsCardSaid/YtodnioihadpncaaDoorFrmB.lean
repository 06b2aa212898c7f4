/-
  Package frame: lastLabel, opens, closes, hasEnd: what each answers, in plain words.
-/
import Derived.Test.YtodnioihadpncaaDoorFrmA
namespace Go.Proofs.YtodnioihadpncaaDoor
open Go.RowKit
set_option linter.unusedSimpArgs false
set_option linter.unusedVariables false

def optV : Option Txt → Value
  | some l => .tuple #[.string ⟨l.toArray⟩, .bool true]
  | none => .tuple #[.string ⟨#[]⟩, .bool false]
theorem suffix_one (t : Txt) (c : UInt8) : Lib.hasSuffix t [c] = decide (t.getLast? = some c) := by
  unfold Lib.hasSuffix
  rw [Bool.eq_iff_iff, List.isSuffixOf_iff_suffix, decide_eq_true_eq, List.getLast?_eq_some_iff]
  constructor
  · rintro ⟨ys, h⟩; exact ⟨ys, h.symm⟩
  · rintro ⟨ys, h⟩; exact ⟨ys, h.symm⟩
theorem trimR_size (l : Txt) : (trimR l).length ≤ l.length := by
  obtain ⟨k, hk⟩ := trimR_more l
  have := congrArg List.length hk
  rw [List.length_append] at this
  omega

set_option maxHeartbeats 2000000 in
theorem lastLabel_any (s : ByteArray) (w : World) (hs : s.size ≤ 140737488355328) :
    Calls Tryd.prog 31 #[.string s] w fun e w' => e = .returned (optV (lastLab s.data.toList)) ∧ Below w.heap.size w w' := by
  have c1 := Tryd.strings_TrimRight_one s 32 (by decide) w (by omega)
  have et : Lib.trimRightB s.data.toList 32 = trimR s.data.toList := rfl
  rw [et] at c1
  have hl : s.data.toList.length = s.size := by simp
  have hz := trimR_size s.data.toList
  rw [hl] at hz
  unfold lastLab
  generalize trimR s.data.toList = t at *
  have c2 := Tryd.strings_CutSuffix ⟨t.toArray⟩ ⟨#[125]⟩ w (by rw [str_size]; omega)
  have e2 : (⟨t.toArray⟩ : ByteArray).data.toList = t := rfl
  have e3 : (⟨#[125]⟩ : ByteArray).data.toList = [125] := rfl
  rw [e2, e3, suffix_one] at c2
  clear et hl e2 e3
  by_cases h1 : t.getLast? = some 125
  · have hts : Lib.trimSuffix t [125] = t.dropLast := by
      unfold Lib.trimSuffix
      rw [suffix_one, if_pos (by simpa using h1), List.dropLast_eq_take]; rfl
    rw [hts, decide_eq_true h1] at c2
    have hz2 : t.dropLast.length ≤ 140737488355328 := by rw [List.length_dropLast]; omega
    have c3 := isLabel_any ⟨t.dropLast.toArray⟩ w (by rw [str_size]; exact hz2)
    rw [show (⟨t.dropLast.toArray⟩ : ByteArray).data.toList = t.dropLast from rfl] at c3
    clear hts
    cases h2 : isLab t.dropLast with
    | true =>
      rw [h2] at c3
      rw [if_pos ⟨h1, rfl⟩]
      clear h1 h2
      go_enter Tryd.func31, Tryd.ntmps31
      go_wp2_with fail
      refine c1.mono ?_
      rintro e w1 ⟨rfl, rfl⟩
      go_wp2_with fail
      refine c2.mono ?_
      rintro e w2 ⟨rfl, rfl⟩
      go_wp2_with fail
      refine c3.mono ?_
      rintro e w3 ⟨rfl, b3⟩
      go_wp2
      go_ret2
      exact ⟨rfl, b3⟩
    | false =>
      rw [h2] at c3
      rw [if_neg (by simp)]
      clear h1 h2
      go_enter Tryd.func31, Tryd.ntmps31
      go_wp2_with fail
      refine c1.mono ?_
      rintro e w1 ⟨rfl, rfl⟩
      go_wp2_with fail
      refine c2.mono ?_
      rintro e w2 ⟨rfl, rfl⟩
      go_wp2_with fail
      refine c3.mono ?_
      rintro e w3 ⟨rfl, b3⟩
      go_wp2
      go_ret2
      exact ⟨rfl, b3⟩
  · rw [decide_eq_false h1] at c2
    rw [show (if t.getLast? = some 125 ∧ isLab t.dropLast = true then some t.dropLast else none) = none from if_neg (fun h => h1 h.1)]
    clear h1
    go_enter Tryd.func31, Tryd.ntmps31
    go_wp2_with fail
    refine c1.mono ?_
    rintro e w1 ⟨rfl, rfl⟩
    go_wp2_with fail
    refine c2.mono ?_
    rintro e w2 ⟨rfl, rfl⟩
    go_wp2
    go_ret2
    exact ⟨rfl, Below.refl _ _⟩

theorem hasPre (s p : Txt) : Lib.hasPrefix s p = p.isPrefixOf s := rfl
set_option maxHeartbeats 2000000 in
theorem opens_any (s : ByteArray) (w : World) (hs : s.size ≤ 140737488355328) :
    Calls Tryd.prog 20 #[.string s] w fun e w' => e = .returned (optV (opensL s.data.toList)) ∧ Below w.heap.size w w' := by
  have c1 := Tryd.strings_CutPrefix s ⟨#[58, 58, 58, 123]⟩ w
  rw [show (⟨#[58, 58, 58, 123]⟩ : ByteArray).data.toList = divB from rfl, hasPre] at c1
  have hl : s.data.toList.length = s.size := by simp
  unfold opensL
  cases h1 : divB.isPrefixOf s.data.toList with
  | true =>
    rw [show Lib.trimPrefix s.data.toList divB = s.data.toList.drop 4 from by unfold Lib.trimPrefix; rw [hasPre, h1]; rfl, h1] at c1
    have c2 := lastLabel_any ⟨(s.data.toList.drop 4).toArray⟩ w (by rw [str_size, List.length_drop]; omega)
    rw [show (⟨(s.data.toList.drop 4).toArray⟩ : ByteArray).data.toList = s.data.toList.drop 4 from rfl] at c2
    rw [if_pos rfl]
    generalize s.data.toList.drop 4 = d at *
    cases h2 : lastLab d with
    | none =>
      rw [h2] at c2
      unfold optV at c2 ⊢
      dsimp only at c2 ⊢
      clear h1 h2 hl
      go_enter Tryd.func20, Tryd.ntmps20
      go_wp2_with fail
      refine c1.mono ?_
      rintro e w1 ⟨rfl, rfl⟩
      go_wp2_with fail
      refine c2.mono ?_
      rintro e w3 ⟨rfl, b3⟩
      go_wp2
      go_ret2
      exact ⟨rfl, b3⟩
    | some lab =>
      rw [h2] at c2
      unfold optV at c2 ⊢
      dsimp only at c2 ⊢
      clear h1 h2 hl
      go_enter Tryd.func20, Tryd.ntmps20
      go_wp2_with fail
      refine c1.mono ?_
      rintro e w1 ⟨rfl, rfl⟩
      go_wp2_with fail
      refine c2.mono ?_
      rintro e w3 ⟨rfl, b3⟩
      go_wp2
      go_ret2
      exact ⟨rfl, b3⟩
  | false =>
    rw [h1] at c1
    rw [if_neg (by simp)]
    clear h1 hl
    go_enter Tryd.func20, Tryd.ntmps20
    go_wp2_with fail
    refine c1.mono ?_
    rintro e w1 ⟨rfl, rfl⟩
    go_wp2
    go_ret2
    exact ⟨rfl, Below.refl _ _⟩

theorem closes_any (s : ByteArray) (w : World) (hs : s.size ≤ 140737488355328) :
    Calls Tryd.prog 21 #[.string s] w fun e w' => e = .returned (.bool (closesL s.data.toList)) ∧ w' = w := by
  have c1 := Tryd.strings_TrimRight_one s 32 (by decide) w (by omega)
  have et : Lib.trimRightB s.data.toList 32 = trimR s.data.toList := rfl
  rw [et] at c1
  unfold closesL
  generalize trimR s.data.toList = t at *
  clear et
  go_enter Tryd.func21, Tryd.ntmps21
  go_wp2_with fail
  refine c1.mono ?_
  rintro e w1 ⟨rfl, rfl⟩
  go_wp2
  go_ret
  exact ⟨ret_bool (by rw [Bool.eq_iff_iff, decide_eq_true_eq]; simp [divE]), rfl⟩

theorem indexByte_ge (c : UInt8) : ∀ l : Txt, -1 ≤ Lib.indexByte l c
  | [] => by simp [Lib.indexByte]
  | b :: l => by
    have ih := indexByte_ge c l
    unfold Lib.indexByte
    split
    · omega
    · split <;> omega
theorem indexByte_mem (c : UInt8) : ∀ l : Txt, (0 ≤ Lib.indexByte l c) ↔ c ∈ l
  | [] => by simp [Lib.indexByte]
  | b :: l => by
    have ih := indexByte_mem c l
    unfold Lib.indexByte
    by_cases h : b = c
    · simp [h]
    · have h' : (b == c) = false := by simpa using h
      have h2 : ¬ c = b := fun e => h e.symm
      rw [h']
      simp only [Bool.false_eq_true, if_false, List.mem_cons, h2, false_or]
      rw [← ih]
      split
      · rename_i e; simp at e; omega
      · rename_i e
        simp at e
        have hm := indexByte_ge c l
        omega
theorem hasEnd_any (s : ByteArray) (w : World) :
    Calls Tryd.prog 37 #[.string s] w fun e w' => e = .returned (.bool (!lfFree s.data.toList)) ∧ w' = w := by
  have c1 := Tryd.strings_Contains_one s 10 w
  have e : decide (0 ≤ Lib.indexByte s.data.toList 10) = !lfFree s.data.toList := by
    rw [Bool.eq_iff_iff, decide_eq_true_eq, indexByte_mem]
    unfold lfFree
    rw [Bool.not_eq_true', List.all_eq_false]
    simp
  rw [e] at c1
  go_enter Tryd.func37, Tryd.ntmps37
  go_wp2_with fail
  refine c1.mono ?_
  rintro e w1 ⟨rfl, rfl⟩
  go_wp2
  go_ret
  exact ⟨rfl, rfl⟩

end Go.Proofs.YtodnioihadpncaaDoor
