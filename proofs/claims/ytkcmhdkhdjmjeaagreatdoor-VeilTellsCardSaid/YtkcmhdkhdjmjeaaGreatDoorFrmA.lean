/-
  Package frame: labels: labelSign, labelAt, isLabel, lastLabel, opens, closes, hasEnd: what each answers, in plain words.
  Package frame: lastLabel, opens, closes, hasEnd: what each answers, in plain words.
-/
import Derived.Test.YtkcmhdkhdjmjeaaGreatDoorPla
import Derived.Test.YtkcmhdkhdjmjeaaGreatDoorBase
namespace Go.Proofs.YtkcmhdkhdjmjeaaGreatDoor
open Go.RowKit
set_option linter.unusedSimpArgs false
set_option linter.unusedVariables false

def labI (r : Int) : Bool := !(r == 123 || r == 125 || r == 124 || r == 58 || r == 32 || r == 9)
theorem labI_byte (b : UInt8) : labI (b.toNat : Int) = labSign b := by
  unfold labI labSign
  have h : ∀ c : UInt8, (((b.toNat : Int) == (c.toNat : Int)) = (b == c)) := by
    intro c
    rw [Bool.eq_iff_iff, beq_iff_eq, beq_iff_eq]
    exact ⟨fun e => UInt8.toNat_inj.1 (by omega), fun e => by rw [e]⟩
  have h1 := h 123
  have h2 := h 125
  have h3 := h 124
  have h4 := h 58
  have h5 := h 32
  have h6 := h 9
  simp only [← h1, ← h2, ← h3, ← h4, ← h5, ← h6]
  rfl
theorem labSign_high {b : UInt8} (h : 128 ≤ b.toNat) : labSign b = true := by
  rw [← labI_byte]
  unfold labI
  simp
  omega

theorem labelSign_any (r : Int) (w : World) :
    Calls Tryz.prog 121 #[.int .i32 r] w fun e w' => e = .returned (.bool (labI r)) ∧ w' = w := by
  unfold labI
  by_cases h1 : r = 123
  · have f1 : (r == 123) = true := by simp [h1]
    clear h1
    go_enter Tryz.func121, Tryz.ntmps121
    go_wp2
    go_ret
    exact ⟨ret_bool (by rw [f1]; rfl), rfl⟩
  have f1 : (r == 123) = false := by simp [h1]
  by_cases h2 : r = 125
  · have f2 : (r == 125) = true := by simp [h2]
    clear h1 h2
    go_enter Tryz.func121, Tryz.ntmps121
    go_wp2
    go_ret
    exact ⟨ret_bool (by rw [f1, f2]; rfl), rfl⟩
  have f2 : (r == 125) = false := by simp [h2]
  by_cases h3 : r = 124
  · have f3 : (r == 124) = true := by simp [h3]
    clear h1 h2 h3
    go_enter Tryz.func121, Tryz.ntmps121
    go_wp2
    go_ret
    exact ⟨ret_bool (by rw [f1, f2, f3]; rfl), rfl⟩
  have f3 : (r == 124) = false := by simp [h3]
  by_cases h4 : r = 58
  · have f4 : (r == 58) = true := by simp [h4]
    clear h1 h2 h3 h4
    go_enter Tryz.func121, Tryz.ntmps121
    go_wp2
    go_ret
    exact ⟨ret_bool (by rw [f1, f2, f3, f4]; rfl), rfl⟩
  have f4 : (r == 58) = false := by simp [h4]
  by_cases h5 : r = 32
  · have f5 : (r == 32) = true := by simp [h5]
    clear h1 h2 h3 h4 h5
    go_enter Tryz.func121, Tryz.ntmps121
    go_wp2
    go_ret
    exact ⟨ret_bool (by rw [f1, f2, f3, f4, f5]; rfl), rfl⟩
  have f5 : (r == 32) = false := by simp [h5]
  by_cases h6 : r = 9
  · have f6 : (r == 9) = true := by simp [h6]
    clear h1 h2 h3 h4 h5 h6
    go_enter Tryz.func121, Tryz.ntmps121
    go_wp2
    go_ret
    exact ⟨ret_bool (by rw [f1, f2, f3, f4, f5, f6]; rfl), rfl⟩
  have f6 : (r == 9) = false := by simp [h6]
  clear h1 h2 h3 h4 h5 h6
  go_enter Tryz.func121, Tryz.ntmps121
  go_wp2
  go_ret
  exact ⟨ret_bool (by rw [f1, f2, f3, f4, f5, f6]; rfl), rfl⟩

/-- One rune, as a sign of a label. -/
theorem lab_step (s : ByteArray) (k : Nat) (h : k < s.size) :
    (labI (Utf8.decode s k).1 = true → labSize (s.data.toList.drop k) = (Utf8.decode s k).2 + labSize (s.data.toList.drop (k + (Utf8.decode s k).2))) ∧
    (labI (Utf8.decode s k).1 = false → labSize (s.data.toList.drop k) = 0) := by
  have hl := get_list s k h
  by_cases ha : s[k].toNat < 128
  · rw [decode_ascii s k h ha, hl]
    simp only [labI_byte]
    unfold labSize
    rw [List.takeWhile_cons]
    constructor
    · intro e; rw [if_pos e, List.length_cons]; omega
    · intro e; rw [e]; rfl
  · have hd := decode_tail s k h
    have hh := decode_high s k h (by omega)
    have hle := decode_le s k
    constructor
    · intro _
      have hall : ∀ n j, n ≤ (Utf8.decode s k).2 → j = (Utf8.decode s k).2 - n → labSize (s.data.toList.drop (k + j)) = n + labSize (s.data.toList.drop (k + (Utf8.decode s k).2)) := by
        intro n
        induction n with
        | zero => intro j _ hj; rw [hj]; simp
        | succ n ih =>
          intro j hn hj
          have hlt : k + j < s.size := by omega
          have hb : 128 ≤ s[k + j].toNat := by
            by_cases hj0 : j = 0
            · subst hj0; simp only [Nat.add_zero]; omega
            · have := hd.2 j (by omega) (by omega)
              rw [get!_list s (k + j) hlt] at this
              exact this
          rw [get_list s (k + j) hlt]
          have h2 := ih (j + 1) (by omega) (by omega)
          unfold labSize at h2 ⊢
          rw [List.takeWhile_cons, if_pos (labSign_high hb), List.length_cons]
          rw [show k + (j + 1) = k + j + 1 from by omega] at h2
          rw [h2]; omega
      have := hall (Utf8.decode s k).2 0 (Nat.le_refl _) (by omega)
      simpa using this
    · intro e
      exfalso
      unfold labI at e
      have h1 := hh.1
      simp at e
      omega

theorem decode_pos (s : ByteArray) (k : Nat) (h : k < s.size) : 1 ≤ (Utf8.decode s k).2 := by
  by_cases ha : s[k].toNat < 128
  · rw [decode_ascii s k h ha]; exact Nat.le_refl _
  · exact (decode_high s k h (by omega)).2
theorem lab_ret {n : Nat} {b : Bool} (h : b = labOk n) : Ending.returned (.tuple #[.int .i64 n, .bool b]) = .returned (.tuple #[.int .i64 n, .bool (labOk n)]) := by rw [h]
def LabRel (s : ByteArray) (w : World) (I : Nat) (z : Value) (wr : World) : Prop :=
  ∃ k : Nat, z = .int .i64 s.size ∧ k ≤ s.size ∧ wr.heap[I]? = some (.stringIter s k) ∧ Below w.heap.size w wr ∧ k + labSize (s.data.toList.drop k) = labSize s.data.toList

set_option maxHeartbeats 2000000 in
theorem labelAt_any (s : ByteArray) (w : World) (hs : s.size ≤ 140737488355328) :
    Calls Tryz.prog 105 #[.string s] w fun e w' => e = .returned (.tuple #[.int .i64 (labSize s.data.toList), .bool (labOk (labSize s.data.toList))]) ∧ Below w.heap.size w w' := by
  go_enter Tryz.func105, Tryz.ntmps105
  go_wp2_with fail
  go_loopw [4] (fun z wr => LabRel s w w.heap.size z wr) (fun _ wr => s.size - wr.iterPos w.heap.size)
  case atStart => exact ⟨0, rfl, Nat.zero_le _, World.iter_heap w s 0, (Below.refl _ w).alloc (Nat.le_refl _) _, by simp⟩
  case round =>
    obtain ⟨k, rfl, hk, hit, hbw, hsz⟩ := hrel
    by_cases hp : k < s.size
    · have hnx : ∀ ty, (Instr.next (.pointer (some ⟨w.heap.size, 0, none⟩)) true ty).run Tryz.prog wr = _ := fun ty => Lib.run_next_any_at wr w.heap.size s k ty hit hp
      have hit2 := Lib.iterAt_heap wr w.heap.size s k (k + (Utf8.decode s k).2) hit
      have hbw2 := Lib.below_iterAt hbw (k := w.heap.size) (by omega) s (k + (Utf8.decode s k).2)
      have hst := lab_step s k hp
      have hwd := (decode_tail s k hp).1
      have Hit := Lib.hid hit
      have HS := Lib.hid hsz
      have hsz' := hsz
      have cs := labelSign_any (Utf8.decode s k).1
      clear hit hbw hsz
      cases hl : labI (Utf8.decode s k).1 with
      | true =>
        rw [hl] at cs
        have HT := Lib.hid (hst.1 hl)
        clear hst hl hsz'
        go_wp2_with fail
        refine (cs _).mono ?_
        rintro e w1 ⟨rfl, rfl⟩
        go_wp2
        go_roundw
        case rel => exact ⟨k + (Utf8.decode s k).2, rfl, hwd, hit2, hbw2, by rw [← HS.out, HT.out]; omega⟩
        case measure => simp only [World.iterPos, hit2, Hit.out]; have := decode_pos s k hp; omega
      | false =>
        rw [hl] at cs
        have HT := Lib.hid (show labSize s.data.toList = k from by rw [← hsz', hst.2 hl]; rfl)
        clear hst hl hsz'
        go_wp2_with fail
        refine (cs _).mono ?_
        rintro e w1 ⟨rfl, rfl⟩
        go_wp2
        all_goals go_ret2
        all_goals refine ⟨?_, hbw2⟩
        all_goals rw [HT.out]
        all_goals refine lab_ret ?_
        all_goals (rw [Bool.eq_iff_iff]; simp [labOk])
        all_goals omega
    · have hnx : ∀ ty, (Instr.next (.pointer (some ⟨w.heap.size, 0, none⟩)) true ty).run Tryz.prog wr = _ := fun ty => Lib.run_next_end_at wr w.heap.size s k ty hit hp
      have e : s.data.toList.drop k = [] := List.drop_eq_nil_of_le (by simp; omega)
      have HT := Lib.hid (show labSize s.data.toList = s.size from by rw [← hsz, e]; simp [labSize]; omega)
      clear e hsz
      go_wp2
      all_goals go_ret2
      all_goals refine ⟨?_, hbw⟩
      all_goals rw [HT.out]
      all_goals refine lab_ret ?_
      all_goals (rw [Bool.eq_iff_iff]; simp [labOk])
      all_goals omega


theorem isLabel_any (s : ByteArray) (w : World) (hs : s.size ≤ 140737488355328) :
    Calls Tryz.prog 101 #[.string s] w fun e w' => e = .returned (.bool (isLab s.data.toList)) ∧ Below w.heap.size w w' := by
  have hb : s.data.toList.length = s.size := by simp
  have hl := isLab_size s.data.toList
  rw [hb] at hl
  have HL := Lib.hid hl
  have hle := labSize_le s.data.toList
  rw [hb] at hle
  have cl := labelAt_any s w hs
  clear hb hl
  generalize hn : labSize s.data.toList = n at *
  have hb2 : Below w.heap.size w w := Below.refl _ _
  cases ho : labOk n with
  | false =>
    rw [ho] at cl
    go_enter Tryz.func101, Tryz.ntmps101
    go_wp2_with fail
    refine cl.mono ?_
    rintro e w1 ⟨rfl, b1⟩
    go_wp2
    go_ret
    exact ⟨ret_bool (by rw [HL.out, ho]; rfl), b1⟩
  | true =>
    rw [ho] at cl
    go_enter Tryz.func101, Tryz.ntmps101
    go_wp2_with fail
    refine cl.mono ?_
    rintro e w1 ⟨rfl, b1⟩
    go_wp2
    go_ret
    exact ⟨ret_bool (by rw [HL.out, ho, Bool.eq_iff_iff]; simp; omega), b1⟩

end Go.Proofs.YtkcmhdkhdjmjeaaGreatDoor

namespace Go.Proofs.YtkcmhdkhdjmjeaaGreatDoor
open Go.RowKit
set_option linter.unusedSimpArgs false
set_option linter.unusedVariables false

def optV : Option Txt → Value
  | some l => .tuple #[.string ⟨l.toArray⟩, .bool true]
  | none => .tuple #[.string ⟨#[]⟩, .bool false]
theorem suffix_one (t : Txt) (c : UInt8) : Lib.hasSuffix t [c] = decide (t.getLast? = some c) := by
  unfold Lib.hasSuffix
  rw [Bool.eq_iff_iff, List.isSuffixOf_iff_suffix, decide_eq_true_eq, List.getLast?_eq_some_iff]
  constructor
  · rintro ⟨ys, h⟩; exact ⟨ys, h.symm⟩
  · rintro ⟨ys, h⟩; exact ⟨ys, h.symm⟩
theorem trimR_size (l : Txt) : (trimR l).length ≤ l.length := by
  obtain ⟨k, hk⟩ := trimR_more l
  have := congrArg List.length hk
  rw [List.length_append] at this
  omega

set_option maxHeartbeats 2000000 in
theorem lastLabel_any (s : ByteArray) (w : World) (hs : s.size ≤ 140737488355328) :
    Calls Tryz.prog 77 #[.string s] w fun e w' => e = .returned (optV (lastLab s.data.toList)) ∧ Below w.heap.size w w' := by
  have c1 := Tryz.strings_TrimRight_one s 32 (by decide) w (by omega)
  have et : Lib.trimRightB s.data.toList 32 = trimR s.data.toList := rfl
  rw [et] at c1
  have hl : s.data.toList.length = s.size := by simp
  have hz := trimR_size s.data.toList
  rw [hl] at hz
  unfold lastLab
  generalize trimR s.data.toList = t at *
  have c2 := Tryz.strings_CutSuffix ⟨t.toArray⟩ ⟨#[125]⟩ w (by rw [str_size]; omega)
  have e2 : (⟨t.toArray⟩ : ByteArray).data.toList = t := rfl
  have e3 : (⟨#[125]⟩ : ByteArray).data.toList = [125] := rfl
  rw [e2, e3, suffix_one] at c2
  clear et hl e2 e3
  by_cases h1 : t.getLast? = some 125
  · have hts : Lib.trimSuffix t [125] = t.dropLast := by
      unfold Lib.trimSuffix
      rw [suffix_one, if_pos (by simpa using h1), List.dropLast_eq_take]; rfl
    rw [hts, decide_eq_true h1] at c2
    have hz2 : t.dropLast.length ≤ 140737488355328 := by rw [List.length_dropLast]; omega
    have c3 := isLabel_any ⟨t.dropLast.toArray⟩ w (by rw [str_size]; exact hz2)
    rw [show (⟨t.dropLast.toArray⟩ : ByteArray).data.toList = t.dropLast from rfl] at c3
    clear hts
    cases h2 : isLab t.dropLast with
    | true =>
      rw [h2] at c3
      rw [if_pos ⟨h1, rfl⟩]
      clear h1 h2
      go_enter Tryz.func77, Tryz.ntmps77
      go_wp2_with fail
      refine c1.mono ?_
      rintro e w1 ⟨rfl, rfl⟩
      go_wp2_with fail
      refine c2.mono ?_
      rintro e w2 ⟨rfl, rfl⟩
      go_wp2_with fail
      refine c3.mono ?_
      rintro e w3 ⟨rfl, b3⟩
      go_wp2
      go_ret2
      exact ⟨rfl, b3⟩
    | false =>
      rw [h2] at c3
      rw [if_neg (by simp)]
      clear h1 h2
      go_enter Tryz.func77, Tryz.ntmps77
      go_wp2_with fail
      refine c1.mono ?_
      rintro e w1 ⟨rfl, rfl⟩
      go_wp2_with fail
      refine c2.mono ?_
      rintro e w2 ⟨rfl, rfl⟩
      go_wp2_with fail
      refine c3.mono ?_
      rintro e w3 ⟨rfl, b3⟩
      go_wp2
      go_ret2
      exact ⟨rfl, b3⟩
  · rw [decide_eq_false h1] at c2
    rw [show (if t.getLast? = some 125 ∧ isLab t.dropLast = true then some t.dropLast else none) = none from if_neg (fun h => h1 h.1)]
    clear h1
    go_enter Tryz.func77, Tryz.ntmps77
    go_wp2_with fail
    refine c1.mono ?_
    rintro e w1 ⟨rfl, rfl⟩
    go_wp2_with fail
    refine c2.mono ?_
    rintro e w2 ⟨rfl, rfl⟩
    go_wp2
    go_ret2
    exact ⟨rfl, Below.refl _ _⟩

theorem hasPre (s p : Txt) : Lib.hasPrefix s p = p.isPrefixOf s := rfl
set_option maxHeartbeats 2000000 in
theorem opens_any (s : ByteArray) (w : World) (hs : s.size ≤ 140737488355328) :
    Calls Tryz.prog 64 #[.string s] w fun e w' => e = .returned (optV (opensL s.data.toList)) ∧ Below w.heap.size w w' := by
  have c1 := Tryz.strings_CutPrefix s ⟨#[58, 58, 58, 123]⟩ w
  rw [show (⟨#[58, 58, 58, 123]⟩ : ByteArray).data.toList = divB from rfl, hasPre] at c1
  have hl : s.data.toList.length = s.size := by simp
  unfold opensL
  cases h1 : divB.isPrefixOf s.data.toList with
  | true =>
    rw [show Lib.trimPrefix s.data.toList divB = s.data.toList.drop 4 from by unfold Lib.trimPrefix; rw [hasPre, h1]; rfl, h1] at c1
    have c2 := lastLabel_any ⟨(s.data.toList.drop 4).toArray⟩ w (by rw [str_size, List.length_drop]; omega)
    rw [show (⟨(s.data.toList.drop 4).toArray⟩ : ByteArray).data.toList = s.data.toList.drop 4 from rfl] at c2
    rw [if_pos rfl]
    generalize s.data.toList.drop 4 = d at *
    cases h2 : lastLab d with
    | none =>
      rw [h2] at c2
      unfold optV at c2 ⊢
      dsimp only at c2 ⊢
      clear h1 h2 hl
      go_enter Tryz.func64, Tryz.ntmps64
      go_wp2_with fail
      refine c1.mono ?_
      rintro e w1 ⟨rfl, rfl⟩
      go_wp2_with fail
      refine c2.mono ?_
      rintro e w3 ⟨rfl, b3⟩
      go_wp2
      go_ret2
      exact ⟨rfl, b3⟩
    | some lab =>
      rw [h2] at c2
      unfold optV at c2 ⊢
      dsimp only at c2 ⊢
      clear h1 h2 hl
      go_enter Tryz.func64, Tryz.ntmps64
      go_wp2_with fail
      refine c1.mono ?_
      rintro e w1 ⟨rfl, rfl⟩
      go_wp2_with fail
      refine c2.mono ?_
      rintro e w3 ⟨rfl, b3⟩
      go_wp2
      go_ret2
      exact ⟨rfl, b3⟩
  | false =>
    rw [h1] at c1
    rw [if_neg (by simp)]
    clear h1 hl
    go_enter Tryz.func64, Tryz.ntmps64
    go_wp2_with fail
    refine c1.mono ?_
    rintro e w1 ⟨rfl, rfl⟩
    go_wp2
    go_ret2
    exact ⟨rfl, Below.refl _ _⟩

theorem closes_any (s : ByteArray) (w : World) (hs : s.size ≤ 140737488355328) :
    Calls Tryz.prog 65 #[.string s] w fun e w' => e = .returned (.bool (closesL s.data.toList)) ∧ w' = w := by
  have c1 := Tryz.strings_TrimRight_one s 32 (by decide) w (by omega)
  have et : Lib.trimRightB s.data.toList 32 = trimR s.data.toList := rfl
  rw [et] at c1
  unfold closesL
  generalize trimR s.data.toList = t at *
  clear et
  go_enter Tryz.func65, Tryz.ntmps65
  go_wp2_with fail
  refine c1.mono ?_
  rintro e w1 ⟨rfl, rfl⟩
  go_wp2
  go_ret
  exact ⟨ret_bool (by rw [Bool.eq_iff_iff, decide_eq_true_eq]; simp [divE]), rfl⟩

theorem indexByte_ge (c : UInt8) : ∀ l : Txt, -1 ≤ Lib.indexByte l c
  | [] => by simp [Lib.indexByte]
  | b :: l => by
    have ih := indexByte_ge c l
    unfold Lib.indexByte
    split
    · omega
    · split <;> omega
theorem indexByte_mem (c : UInt8) : ∀ l : Txt, (0 ≤ Lib.indexByte l c) ↔ c ∈ l
  | [] => by simp [Lib.indexByte]
  | b :: l => by
    have ih := indexByte_mem c l
    unfold Lib.indexByte
    by_cases h : b = c
    · simp [h]
    · have h' : (b == c) = false := by simpa using h
      have h2 : ¬ c = b := fun e => h e.symm
      rw [h']
      simp only [Bool.false_eq_true, if_false, List.mem_cons, h2, false_or]
      rw [← ih]
      split
      · rename_i e; simp at e; omega
      · rename_i e
        simp at e
        have hm := indexByte_ge c l
        omega
theorem hasEnd_any (s : ByteArray) (w : World) :
    Calls Tryz.prog 114 #[.string s] w fun e w' => e = .returned (.bool (!lfFree s.data.toList)) ∧ w' = w := by
  have c1 := Tryz.strings_Contains_one s 10 w
  have e : decide (0 ≤ Lib.indexByte s.data.toList 10) = !lfFree s.data.toList := by
    rw [Bool.eq_iff_iff, decide_eq_true_eq, indexByte_mem]
    unfold lfFree
    rw [Bool.not_eq_true', List.all_eq_false]
    simp
  rw [e] at c1
  go_enter Tryz.func114, Tryz.ntmps114
  go_wp2_with fail
  refine c1.mono ?_
  rintro e w1 ⟨rfl, rfl⟩
  go_wp2
  go_ret
  exact ⟨rfl, rfl⟩

end Go.Proofs.YtkcmhdkhdjmjeaaGreatDoor
