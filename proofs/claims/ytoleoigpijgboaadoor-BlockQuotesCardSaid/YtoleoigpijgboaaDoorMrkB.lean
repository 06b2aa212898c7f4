/-
  Package mark: begin, Heading, Rule, Fence, Closes, Quote: what each answers, in plain words.
-/
import Derived.Test.YtoleoigpijgboaaDoorMrkA
import Derived.Test.YtoleoigpijgboaaDoorLineA
import Derived.Lib.MinMax
namespace Go.Proofs.YtoleoigpijgboaaDoor
open Go.RowKit
set_option linter.unusedSimpArgs false
set_option linter.unusedVariables false

theorem mkBegin_strip {l : List UInt8} (h : mCols l 0 ≤ 3) : stripL l 3 = l.drop (mSize l) := by
  unfold stripL spaces
  rw [show mCols l 0 - 3 = 0 from by omega]; rfl

theorem begin_any (s : ByteArray) (w : World) (hs : s.size ≤ 35184372088832) :
    Calls Tryd.prog 58 #[.string s] w fun e w' => e = .returned (.string ⟨(mkBegin s.data.toList).toArray⟩) ∧ Below w.heap.size w w' := by
  have c1 := indent_any s w hs
  unfold mkBegin
  by_cases h : mCols s.data.toList 0 ≤ 3
  · have c2 := fun w1 => strip_any s 3 w1 hs (by decide)
    rw [show (3 : Int).toNat = 3 from rfl, mkBegin_strip h] at c2
    rw [if_pos h]
    have f1 : decide ((3 : Int) < (mCols s.data.toList 0 : Int)) = false := by simp; omega
    generalize mCols s.data.toList 0 = m at *
    go_enter Tryd.func58, Tryd.ntmps58
    go_wp2_with fail
    refine c1.mono ?_
    rintro e w1 ⟨rfl, b1⟩
    go_wp2_with fail
    refine (c2 w1).mono ?_
    rintro e w2 ⟨rfl, b2⟩
    go_wp2
    go_ret
    exact ⟨rfl, b1.then b2⟩
  · rw [if_neg h]
    have f1 : decide ((3 : Int) < (mCols s.data.toList 0 : Int)) = true := by simp; omega
    generalize mCols s.data.toList 0 = m at *
    go_enter Tryd.func58, Tryd.ntmps58
    go_wp2_with fail
    refine c1.mono ?_
    rintro e w1 ⟨rfl, b1⟩
    go_wp2
    go_ret
    exact ⟨rfl, b1⟩

/-- A text under a name. -/
theorem text_of (l : List UInt8) : ∃ X : ByteArray, (⟨l.toArray⟩ : ByteArray) = X ∧ X.data.toList = l := ⟨_, rfl, rfl⟩
theorem ext_list (X : ByteArray) (n : Nat) : (X.extract n X.size).data.toList = X.data.toList.drop n := by rw [Lib.extract_from]
/-- The first byte of a text's rest. -/
theorem ext_first (X : ByteArray) (n : Nat) (h : n < X.size) (h0 : 0 < (X.extract n X.size).size) : (X.extract n X.size)[0] = X[n] := by
  have e1 := get_list (X.extract n X.size) 0 h0
  rw [List.drop_zero, ext_list, get_list X n h] at e1
  injection e1 with e _
  exact e.symm
def mkHeadV : Option (Nat × List UInt8) → Value
  | some (n, t) => .tuple #[.int .i64 n, .string ⟨t.toArray⟩, .bool true]
  | none => .tuple #[.int .i64 0, .string ⟨#[]⟩, .bool false]

set_option maxHeartbeats 4000000 in
theorem mkHeading_any (s : ByteArray) (w : World) (hs : s.size ≤ 35184372088832) :
    Calls Tryd.prog 49 #[.string s] w fun e w' => e = .returned (mkHeadV (mkHead s.data.toList)) ∧ Below w.heap.size w w' := by
  have c1 := begin_any s w hs
  have hle := mkBegin_le s.data.toList
  have hl : s.data.toList.length = s.size := by simp
  rw [hl] at hle
  generalize hV : mkHeadV (mkHead s.data.toList) = V
  unfold mkHead at hV
  obtain ⟨X, hX1, hX⟩ := text_of (mkBegin s.data.toList)
  rw [hX1] at c1
  rw [← hX] at hle hV
  have hXs : X.data.toList.length = X.size := by simp
  rw [hXs] at hle
  have c2 := fun w1 => row_any X 35 (by decide) w1 (by omega)
  have hr := mkRow_le 35 X.data.toList
  rw [hXs] at hr
  have hd := Lib.extract_from X
  generalize mkRow 35 X.data.toList = n at *
  have HX := Lib.hid hX
  have HD := Lib.hid hd
  clear hX1 hl hX
  by_cases h1 : 1 ≤ n ∧ n ≤ 6
  · have f1 : decide ((n : Int) < 1) = false := by simp; omega
    have f2 : decide ((6 : Int) < (n : Int)) = false := by simp; omega
    by_cases h2 : n = X.size
    · have hdr : X.data.toList.drop n = [] := List.drop_eq_nil_of_le (by omega)
      rw [hdr, if_pos ⟨h1.1, h1.2, rfl⟩] at hV
      subst h2
      have HV := Lib.hid (show V = .tuple #[.int .i64 X.size, .string ⟨#[]⟩, .bool true] from by rw [← hV]; rfl)
      have c3 : ∀ w1, Calls Tryd.prog 71 #[.string ByteArray.empty, .string ⟨#[32, 9]⟩] w1 fun e w' => e = .returned (.string ByteArray.empty) ∧ Below w1.heap.size w1 w' := fun w1 => trim_any ByteArray.empty w1 (by decide)
      have c4 : ∀ w1, Calls Tryd.prog 75 #[.string ByteArray.empty] w1 fun e w' => e = .returned (.string ByteArray.empty) ∧ Below w1.heap.size w1 w' := fun w1 => withoutRow_any ByteArray.empty w1 (by decide)
      clear hV hdr h1 hXs
      go_enter Tryd.func49, Tryd.ntmps49
      go_wp2_with fail
      refine c1.mono ?_
      rintro e w1 ⟨rfl, b1⟩
      go_wp2_with fail
      refine (c2 w1).mono ?_
      rintro e w2 ⟨rfl, b2⟩
      go_wp2_with fail
      refine (c3 w2).mono ?_
      rintro e w3 ⟨rfl, b3⟩
      go_wp2_with fail
      refine (c4 w3).mono ?_
      rintro e w4 ⟨rfl, b4⟩
      go_wp2
      go_ret3
      exact ⟨by rw [HV.out]; rfl, ((b1.then b2).then b3).then b4⟩
    · have hlt : n < X.size := by omega
      have hdr := get_list X n hlt
      rw [hdr] at hV
      have c3 := fun w1 => trim_any (X.extract n X.size) w1 (by rw [ByteArray.size_extract]; omega)
      have hsz : (X.extract n X.size).size = X.size - n := by rw [ByteArray.size_extract]; omega
      have hne : (X.extract n X.size).toList.isEmpty = false := toList_empty (by omega)
      rw [ext_list] at c3
      have hzz : (trimG (X.data.toList.drop n)).length ≤ 140737488355328 := by
        have := trimG_le (X.data.toList.drop n)
        rw [List.length_drop] at this
        omega
      have h00 : 0 < (X.extract n X.size).size := by omega
      have hb := ext_first X n hlt h00
      by_cases h3 : isGap X[n] = true
      · rw [if_pos ⟨h1.1, h1.2, h3⟩, ← hdr] at hV
        have HV := Lib.hid hV
        generalize trimG (X.data.toList.drop n) = Y at *
        have c4 := fun w1 => withoutRow_any ⟨Y.toArray⟩ w1 (by rw [str_size]; exact hzz)
        rw [show (⟨Y.toArray⟩ : ByteArray).data.toList = Y from rfl] at c4
        have hg := h3
        simp [isGap] at hg
        rw [← hb] at hg
        clear hV hdr h1 hXs hd hzz hb h3 h2
        rcases hg with hg | hg
        · have f3 : (((X.extract n X.size)[0].toNat : Int) != 32) = false := by rw [hg]; rfl
          have f4 : (((X.extract n X.size)[0].toNat : Int) != 9) = true := by rw [hg]; rfl
          clear hg
          go_enter Tryd.func49, Tryd.ntmps49
          go_wp2_with fail
          refine c1.mono ?_
          rintro e w1 ⟨rfl, b1⟩
          go_wp2_with fail
          refine (c2 w1).mono ?_
          rintro e w2 ⟨rfl, b2⟩
          go_wp2_with fail
          refine (c3 w2).mono ?_
          rintro e w3 ⟨rfl, b3⟩
          go_wp2_with fail
          refine (c4 w3).mono ?_
          rintro e w4 ⟨rfl, b4⟩
          go_wp2
          go_ret3
          exact ⟨by rw [← HV.out]; rfl, ((b1.then b2).then b3).then b4⟩
        · have f3 : (((X.extract n X.size)[0].toNat : Int) != 32) = true := by rw [hg]; rfl
          have f4 : (((X.extract n X.size)[0].toNat : Int) != 9) = false := by rw [hg]; rfl
          clear hg
          go_enter Tryd.func49, Tryd.ntmps49
          go_wp2_with fail
          refine c1.mono ?_
          rintro e w1 ⟨rfl, b1⟩
          go_wp2_with fail
          refine (c2 w1).mono ?_
          rintro e w2 ⟨rfl, b2⟩
          go_wp2_with fail
          refine (c3 w2).mono ?_
          rintro e w3 ⟨rfl, b3⟩
          go_wp2_with fail
          refine (c4 w3).mono ?_
          rintro e w4 ⟨rfl, b4⟩
          go_wp2
          go_ret3
          exact ⟨by rw [← HV.out]; rfl, ((b1.then b2).then b3).then b4⟩
      · have hg : ¬ X[n] = 32 ∧ ¬ X[n] = 9 := by simpa [isGap] using h3
        have f3 : (((X.extract n X.size)[0].toNat : Int) != 32) = true := by
          rw [hb, bne_iff_ne]
          intro e
          exact hg.1 (UInt8.toNat_inj.1 (by show X[n].toNat = 32; omega))
        have f4 : (((X.extract n X.size)[0].toNat : Int) != 9) = true := by
          rw [hb, bne_iff_ne]
          intro e
          exact hg.2 (UInt8.toNat_inj.1 (by show X[n].toNat = 9; omega))
        have HV := Lib.hid (show V = mkHeadV none from by rw [← hV, if_neg (fun h => h3 h.2.2)])
        clear hV hdr h1 hXs hd hzz hb h3 h2 hg
        go_enter Tryd.func49, Tryd.ntmps49
        go_wp2_with fail
        refine c1.mono ?_
        rintro e w1 ⟨rfl, b1⟩
        go_wp2_with fail
        refine (c2 w1).mono ?_
        rintro e w2 ⟨rfl, b2⟩
        go_wp2
        go_ret3
        exact ⟨by rw [HV.out]; rfl, b1.then b2⟩
  · have HV := Lib.hid (show V = mkHeadV none from by rw [← hV, if_neg (fun h => h1 ⟨h.1, h.2.1⟩)])
    clear hV
    have hor : n < 1 ∨ (1 ≤ n ∧ 6 < n) := by omega
    rcases hor with h | ⟨h, h'⟩
    · have f1 : decide ((n : Int) < 1) = true := by simp; omega
      clear h1 h
      go_enter Tryd.func49, Tryd.ntmps49
      go_wp2_with fail
      refine c1.mono ?_
      rintro e w1 ⟨rfl, b1⟩
      go_wp2_with fail
      refine (c2 w1).mono ?_
      rintro e w2 ⟨rfl, b2⟩
      go_wp2
      go_ret3
      exact ⟨by rw [HV.out]; rfl, b1.then b2⟩
    · have f1 : decide ((n : Int) < 1) = false := by simp; omega
      have f2 : decide ((6 : Int) < (n : Int)) = true := by simp; omega
      clear h1 h h'
      go_enter Tryd.func49, Tryd.ntmps49
      go_wp2_with fail
      refine c1.mono ?_
      rintro e w1 ⟨rfl, b1⟩
      go_wp2_with fail
      refine (c2 w1).mono ?_
      rintro e w2 ⟨rfl, b2⟩
      go_wp2
      go_ret3
      exact ⟨by rw [HV.out]; rfl, b1.then b2⟩

def RulRel (X : ByteArray) (w : World) (I : Nat) (z2 z3 z4 : Value) (wr : World) : Prop :=
  ∃ (k n : Nat) (c : UInt8), z2 = .bool false ∧ z3 = .int .i32 c.toNat ∧ z4 = .int .i64 n ∧ c.toNat < 128 ∧ k ≤ X.size ∧ n ≤ k ∧ wr.heap[I]? = some (.stringIter X k) ∧ Below w.heap.size w wr ∧
    ruleH (decide (k = 0)) c n (X.data.toList.drop k) = ruleH true 0 0 X.data.toList

set_option maxHeartbeats 4000000 in
theorem mkRule_any (s : ByteArray) (w : World) (hs : s.size ≤ 35184372088832) :
    Calls Tryd.prog 50 #[.string s] w fun e w' => e = .returned (.bool (mkRule s.data.toList)) ∧ Below w.heap.size w w' := by
  have c1 := begin_any s w hs
  have hle := mkBegin_le s.data.toList
  have hl : s.data.toList.length = s.size := by simp
  rw [hl] at hle
  unfold mkRule
  obtain ⟨X, hX1, hX⟩ := text_of (mkBegin s.data.toList)
  rw [hX1] at c1
  rw [← hX] at hle ⊢
  have hXs : X.data.toList.length = X.size := by simp
  rw [hXs] at hle
  clear hX1 hX hl hXs
  go_enter Tryd.func50, Tryd.ntmps50
  go_wp2_with fail
  refine c1.mono ?_
  rintro e w1 ⟨rfl, b1⟩
  clear c1
  go_wp2_with fail
  go_loopw [2, 3, 4] (fun z2 z3 z4 wr => RulRel X w1 w1.heap.size z2 z3 z4 wr) (fun _ _ _ wr => X.size - wr.iterPos w1.heap.size)
  case atStart => exact ⟨0, 0, 0, rfl, rfl, rfl, by decide, Nat.zero_le _, Nat.le_refl _, World.iter_heap w1 X 0, (Below.refl _ w1).alloc (Nat.le_refl _) _, by simp⟩
  case round =>
    obtain ⟨k, n, c, rfl, rfl, rfl, hc, hk, hn, hit, hbw, hsz⟩ := hrel
    by_cases hp : k < X.size
    · have hnx : ∀ ty, (Instr.next (.pointer (some ⟨w1.heap.size, 0, none⟩)) true ty).run Tryd.prog wr = _ := fun ty => Lib.run_next_any_at wr w1.heap.size X k ty hit hp
      have hit2 := Lib.iterAt_heap wr w1.heap.size X k (k + (Utf8.decode X k).2) hit
      have hbw2 := Lib.below_iterAt hbw (k := w1.heap.size) (by omega) X (k + (Utf8.decode X k).2)
      have Hit := Lib.hid hit
      rw [get_list X k hp] at hsz
      clear hit hbw
      by_cases ha : X[k].toNat < 128
      · have hd : Utf8.decode X k = (X[k].toNat, 1) := decode_ascii X k hp ha
        rw [hd] at hnx hit2 hbw2
        simp only at hnx hit2 hbw2
        clear hd
        have hq : ∀ b : UInt8, ((X[k].toNat : Int) == (b.toNat : Int)) = (X[k] == b) := by
          intro b
          rw [Bool.eq_iff_iff, beq_iff_eq, beq_iff_eq]
          exact ⟨fun e => UInt8.toNat_inj.1 (by omega), fun e => by rw [e]⟩
        have q45 : ((X[k].toNat : Int) == 45) = (X[k] == 45) := hq 45
        have q42 : ((X[k].toNat : Int) == 42) = (X[k] == 42) := hq 42
        have q95 : ((X[k].toNat : Int) == 95) = (X[k] == 95) := hq 95
        have q32 : ((X[k].toNat : Int) == 32) = (X[k] == 32) := hq 32
        have q9 : ((X[k].toNat : Int) == 9) = (X[k] == 9) := hq 9
        have n32 : ((X[k].toNat : Int) != 32) = !(X[k] == 32) := by unfold bne; rw [q32]
        have n9 : ((X[k].toNat : Int) != 9) = !(X[k] == 9) := by unfold bne; rw [q9]
        have qc := hq c
        by_cases h0 : k = 0
        · subst h0
          simp only [decide_true] at hsz
          obtain rfl : n = 0 := by omega
          cases h45 : X[0] == 45 with
          | true =>
            have hR := ruleH_rs (c := c) (n := 0) (t := X.data.toList.drop (0 + 1)) (show isRS X[0] = true from by simp [isRS, h45])
            have HR := Lib.hid (show ruleH false X[0] 1 (X.data.toList.drop (0 + 1)) = ruleH true 0 0 X.data.toList from by rw [← hsz]; exact hR.symm)
            rw [h45] at q45
            clear hsz hR h45 q42 q95 q32 q9 n32 n9 qc hq
            go_wp2
            go_roundw
            case rel => exact ⟨0 + 1, 1, X[0], rfl, rfl, rfl, ha, hp, Nat.le_refl _, hit2, hbw2, HR.out⟩
            case measure => simp only [World.iterPos, hit2, Hit.out]; omega
          | false =>
          rw [h45] at q45
          cases h42 : X[0] == 42 with
          | true =>
            have hR := ruleH_rs (c := c) (n := 0) (t := X.data.toList.drop (0 + 1)) (show isRS X[0] = true from by simp [isRS, h42])
            have HR := Lib.hid (show ruleH false X[0] 1 (X.data.toList.drop (0 + 1)) = ruleH true 0 0 X.data.toList from by rw [← hsz]; exact hR.symm)
            rw [h42] at q42
            clear hsz hR h45 h42 q95 q32 q9 n32 n9 qc hq
            go_wp2
            go_roundw
            case rel => exact ⟨0 + 1, 1, X[0], rfl, rfl, rfl, ha, hp, Nat.le_refl _, hit2, hbw2, HR.out⟩
            case measure => simp only [World.iterPos, hit2, Hit.out]; omega
          | false =>
          rw [h42] at q42
          cases h95 : X[0] == 95 with
          | true =>
            have hR := ruleH_rs (c := c) (n := 0) (t := X.data.toList.drop (0 + 1)) (show isRS X[0] = true from by simp [isRS, h95])
            have HR := Lib.hid (show ruleH false X[0] 1 (X.data.toList.drop (0 + 1)) = ruleH true 0 0 X.data.toList from by rw [← hsz]; exact hR.symm)
            rw [h95] at q95
            clear hsz hR h45 h42 h95 q32 q9 n32 n9 qc hq
            go_wp2
            go_roundw
            case rel => exact ⟨0 + 1, 1, X[0], rfl, rfl, rfl, ha, hp, Nat.le_refl _, hit2, hbw2, HR.out⟩
            case measure => simp only [World.iterPos, hit2, Hit.out]; omega
          | false =>
          rw [h95] at q95
          have hrs : isRS X[0] = false := by simp only [isRS, h45, h42, h95]; rfl
          cases hg : isGap X[0] with
          | true =>
            have hR := ruleH_gap (f := true) (c := c) (n := 0) (t := X.data.toList.drop (0 + 1)) (fun _ => hrs) (fun h => by cases h) hg
            have HR := Lib.hid (show ruleH false c 0 (X.data.toList.drop (0 + 1)) = ruleH true 0 0 X.data.toList from by rw [← hsz]; exact hR.symm)
            have hor : X[0] = 32 ∨ X[0] = 9 := by simpa [isGap] using hg
            clear hsz hR h45 h42 h95 hrs hg qc hq q32 q9
            rcases hor with h | h
            · have e1 : (X[0] == 32) = true := by rw [h]; rfl
              rw [e1] at n32
              clear e1 h n9
              go_wp2
              go_roundw
              case rel => exact ⟨0 + 1, 0, c, rfl, rfl, rfl, hc, hp, by omega, hit2, hbw2, HR.out⟩
              case measure => simp only [World.iterPos, hit2, Hit.out]; omega
            · have e1 : (X[0] == 32) = false := by rw [h]; rfl
              have e2 : (X[0] == 9) = true := by rw [h]; rfl
              rw [e1] at n32
              rw [e2] at n9
              clear e1 e2 h
              go_wp2
              go_roundw
              case rel => exact ⟨0 + 1, 0, c, rfl, rfl, rfl, hc, hp, by omega, hit2, hbw2, HR.out⟩
              case measure => simp only [World.iterPos, hit2, Hit.out]; omega
          | false =>
            have hR := ruleH_no (f := true) (c := c) (n := 0) (t := X.data.toList.drop (0 + 1)) (fun _ => hrs) (fun h => by cases h) hg
            have HR := Lib.hid (show ruleH true 0 0 X.data.toList = false from by rw [← hsz]; exact hR)
            have e1 : (X[0] == 32) = false := by simp only [isGap, Bool.or_eq_false_iff] at hg; exact hg.1
            have e2 : (X[0] == 9) = false := by simp only [isGap, Bool.or_eq_false_iff] at hg; exact hg.2
            rw [e1] at n32
            rw [e2] at n9
            clear hsz hR h45 h42 h95 hrs hg qc hq q32 q9 e1 e2
            go_wp2
            go_ret
            exact ⟨ret_bool (by rw [HR.out]), b1.then hbw2⟩
        · have g2 : ((k : Int) == 0) = false := by simp; omega
          have g3 : decide ((0 : Int) < (k : Int)) = true := by simp; omega
          have g4 : 0 < k := by omega
          rw [decide_eq_false h0] at hsz
          clear h0 q45 q42 q95
          cases hx : X[k] == c with
          | true =>
            have hxe : X[k] = c := by simpa using hx
            have HR := Lib.hid (show ruleH false c (n + 1) (X.data.toList.drop (k + 1)) = ruleH true 0 0 X.data.toList from by rw [← hsz, hxe]; exact ruleH_same.symm)
            rw [hx] at qc
            clear hsz hx hxe n32 n9 q32 q9 hq
            go_wp2
            go_roundw
            case rel => exact ⟨k + 1, n + 1, c, rfl, rfl, by go_num, hc, hp, by omega, hit2, hbw2, by simpa using HR.out⟩
            case measure => simp only [World.iterPos, hit2, Hit.out]; omega
          | false =>
          have hxe : ¬ X[k] = c := by simpa using hx
          rw [hx] at qc
          cases hg : isGap X[k] with
          | true =>
            have hR := ruleH_gap (f := false) (c := c) (n := n) (t := X.data.toList.drop (k + 1)) (fun h => by cases h) (fun _ => hxe) hg
            have HR := Lib.hid (show ruleH false c n (X.data.toList.drop (k + 1)) = ruleH true 0 0 X.data.toList from by rw [← hsz]; exact hR.symm)
            have hor : X[k] = 32 ∨ X[k] = 9 := by simpa [isGap] using hg
            clear hsz hR hx hxe hg hq q32 q9
            rcases hor with h | h
            · have e1 : (X[k] == 32) = true := by rw [h]; rfl
              rw [e1] at n32
              clear e1 h n9
              go_wp2
              go_roundw
              case rel => exact ⟨k + 1, n, c, rfl, rfl, rfl, hc, hp, by omega, hit2, hbw2, by simpa using HR.out⟩
              case measure => simp only [World.iterPos, hit2, Hit.out]; omega
            · have e1 : (X[k] == 32) = false := by rw [h]; rfl
              have e2 : (X[k] == 9) = true := by rw [h]; rfl
              rw [e1] at n32
              rw [e2] at n9
              clear e1 e2 h
              go_wp2
              go_roundw
              case rel => exact ⟨k + 1, n, c, rfl, rfl, rfl, hc, hp, by omega, hit2, hbw2, by simpa using HR.out⟩
              case measure => simp only [World.iterPos, hit2, Hit.out]; omega
          | false =>
            have hR := ruleH_no (f := false) (c := c) (n := n) (t := X.data.toList.drop (k + 1)) (fun h => by cases h) (fun _ => hxe) hg
            have HR := Lib.hid (show ruleH true 0 0 X.data.toList = false from by rw [← hsz]; exact hR)
            have e1 : (X[k] == 32) = false := by simp only [isGap, Bool.or_eq_false_iff] at hg; exact hg.1
            have e2 : (X[k] == 9) = false := by simp only [isGap, Bool.or_eq_false_iff] at hg; exact hg.2
            rw [e1] at n32
            rw [e2] at n9
            clear hsz hR hx hxe hg hq q32 q9 e1 e2
            go_wp2
            go_ret
            exact ⟨ret_bool (by rw [HR.out]), b1.then hbw2⟩
      · have hr := (decode_high X k hp (by omega)).1
        have f1 : (((Utf8.decode X k).1 : Int) == 45) = false := by simp; omega
        have f2 : (((Utf8.decode X k).1 : Int) == 42) = false := by simp; omega
        have f3 : (((Utf8.decode X k).1 : Int) == 95) = false := by simp; omega
        have f4 : (((Utf8.decode X k).1 : Int) == (c.toNat : Int)) = false := by simp; omega
        have f5 : (((Utf8.decode X k).1 : Int) != 32) = true := by simp; omega
        have f6 : (((Utf8.decode X k).1 : Int) != 9) = true := by simp; omega
        have hno : ∀ b : UInt8, b.toNat < 128 → X[k] ≠ b := fun b hb e => ha (by rw [e]; exact hb)
        have hR := ruleH_no (f := decide (k = 0)) (c := c) (n := n) (b := X[k]) (t := X.data.toList.drop (k + 1)) (fun _ => by simp [isRS, hno 45 (by decide), hno 42 (by decide), hno 95 (by decide)]) (fun _ => hno c hc) (by simp [isGap, hno 32 (by decide), hno 9 (by decide)])
        have HR := Lib.hid (show ruleH true 0 0 X.data.toList = false from by rw [← hsz]; exact hR)
        clear hsz hR hno ha hr
        by_cases h0 : k = 0
        · subst h0
          go_wp2
          go_ret
          exact ⟨ret_bool (by rw [HR.out]), b1.then (by simpa using hbw2)⟩
        · have g2 : ((k : Int) == 0) = false := by simp; omega
          have g3 : decide ((0 : Int) < (k : Int)) = true := by simp; omega
          have g4 : 0 < k := by omega
          clear h0
          go_wp2
          go_ret
          exact ⟨ret_bool (by rw [HR.out]), b1.then hbw2⟩
    · have hnx : ∀ ty, (Instr.next (.pointer (some ⟨w1.heap.size, 0, none⟩)) true ty).run Tryd.prog wr = _ := fun ty => Lib.run_next_end_at wr w1.heap.size X k ty hit hp
      have e : X.data.toList.drop k = [] := List.drop_eq_nil_of_le (by simp; omega)
      rw [e] at hsz
      have HT := Lib.hid (show ruleH true 0 0 X.data.toList = decide (3 ≤ n) from by rw [← hsz]; rfl)
      clear e hsz
      go_wp2
      go_ret
      exact ⟨ret_bool (by rw [HT.out, Bool.eq_iff_iff]; simp; omega), b1.then hbw⟩

end Go.Proofs.YtoleoigpijgboaaDoor
