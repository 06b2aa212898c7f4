/-
  The document's own frames (bowdlerref1): Headed: what it answers, in plain words.
-/
import Derived.Test.YtkcmhdkhdjmjeaaGreatDoorRfA
import Derived.Deep.CutRange
import Derived.Deep.CutBlock
namespace Go.Proofs.YtkcmhdkhdjmjeaaGreatDoor
open Go.RowKit
set_option linter.unusedSimpArgs false
set_option linter.unusedVariables false
set_option maxRecDepth 100000

def rheadV : Option (Txt × Txt) → Nat → Value
  | some (t, lab), n => .tuple #[.string ⟨t.toArray⟩, .string ⟨lab.toArray⟩, .int .i64 n, .bool true]
  | none, _ => .tuple #[.string ⟨#[]⟩, .string ⟨#[]⟩, .int .i64 0, .bool false]
def RBlRel (T : ByteArray) (w : World) (z : Value) (wr : World) : Prop := ∃ k : Nat, z = .int .i64 k ∧ k ≤ T.size ∧ k + cntL 32 (T.data.toList.drop k) = bI T.data.toList ∧ wr = w
def RSgRel (T : ByteArray) (i : Nat) (w : World) (z : Value) (wr : World) : Prop := ∃ k : Nat, z = .int .i64 k ∧ i ≤ k ∧ k ≤ T.size ∧ k + cntL 35 (T.data.toList.drop k) = bN T.data.toList ∧ wr = w
def RBrRel (T : ByteArray) (n : Nat) (w : World) (z : Value) (wr : World) : Prop := ∃ k : Nat, z = .int .i64 k ∧ n ≤ k ∧ k + 2 ≤ T.size ∧ (∀ j (h : j < T.size), k < j → j + 2 ≤ T.size → T[j] ≠ 123) ∧ wr = w
theorem results_tmpd {fn : Func} {t u v x : Tmp} (h : fn.results = #[.tmp t, .tmp u, .tmp v, .tmp x]) (tmps : Array Value) (P : Program) (w : World) :
    (results fn tmps).run P w = .ok (.tuple #[tmps.getD t undef, tmps.getD u undef, tmps.getD v undef, tmps.getD x undef]) w := by
  simp [results, h]
theorem cnt_yes (c : UInt8) (l : Txt) : cntL c (c :: l) = cntL c l + 1 := by simp [cntL]
theorem mid2_list (T : ByteArray) (k m : Nat) (hm : T.size = m + 1) : (T.extract (k + 2) m).data.toList = (T.data.toList.drop (k + 2)).dropLast := by
  have hl : T.data.toList.length = T.size := by simp
  rw [Lib.extract_data, List.dropLast_eq_take, List.length_drop, hl, hm]
  congr 1
  omega
theorem get_some {T : ByteArray} {k : Nat} {b : UInt8} (h : T.data.toList[k]? = some b) : ∃ hk : k < T.size, T[k] = b := by
  obtain ⟨h1, h2⟩ := List.getElem?_eq_some_iff.1 h
  have hl : T.data.toList.length = T.size := by simp
  exact ⟨by omega, h2⟩
theorem get_of (T : ByteArray) (k : Nat) (h : k < T.size) : T.data.toList[k]? = some T[k] := by
  have hl : T.data.toList.length = T.size := by simp
  rw [List.getElem?_eq_getElem (by omega)]; rfl
theorem byte_no {b c : UInt8} (h : b ≠ c) : ((b.toNat : Int) == (c.toNat : Int)) = false := by
  simp only [beq_eq_false_iff_ne, ne_eq]
  intro e
  exact h (UInt8.toNat_inj.1 (by omega))

set_option maxHeartbeats 16000000 in
theorem rheaded_any (s : ByteArray) (w : World) (hs : s.size ≤ 140737488355328) :
    Calls Tryz.prog 43 #[.string s] w fun e w' => e = .returned (rheadV (headingL s.data.toList) (bN (trimR s.data.toList))) ∧ Below w.heap.size w w' := by
  have c1 := rrest_any s w hs
  have hle : (trimR s.data.toList).length ≤ s.data.toList.length := by
    obtain ⟨k, hk⟩ := trimR_more s.data.toList
    have := congrArg List.length hk
    rw [List.length_append] at this
    omega
  have hl : s.data.toList.length = s.size := by simp
  rw [hl] at hle
  have hC := fun t0 lab => heading_conds (s := s.data.toList) (t0 := t0) (lab := lab)
  have hC2 := fun t0 lab k => heading_conds2 (s := s.data.toList) (t0 := t0) (lab := lab) (k := k)
  have hF := fun k => heading_found (s := s.data.toList) (k := k)
  obtain ⟨T, hT1, hT⟩ : ∃ T : ByteArray, (⟨(trimR s.data.toList).toArray⟩ : ByteArray) = T ∧ T.data.toList = trimR s.data.toList := ⟨_, rfl, rfl⟩
  rw [hT1] at c1
  rw [← hT] at hle hC hC2 hF ⊢
  have hTl : T.data.toList.length = T.size := by simp
  rw [hTl] at hle
  generalize headingL s.data.toList = hd at *
  clear hT1 hT hl
  have hno : ∀ P : Prop, ((∀ t0 lab, hd = some (t0, lab) → P) → ¬ P → rheadV hd (bN T.data.toList) = rheadV none 0) := by
    intro P h1 h2
    cases hd with
    | none => rfl
    | some c => exact absurd (h1 c.1 c.2 rfl) h2
  have hi := bI_le T.data.toList
  have hn := bN_le T.data.toList
  have hnd : bN T.data.toList = bI T.data.toList + cntL 35 (T.data.toList.drop (bI T.data.toList)) := rfl
  rw [hTl] at hi hn
  have hin : bI T.data.toList ≤ bN T.data.toList := by omega
  have HC := Lib.hid hC
  have HC2 := Lib.hid hC2
  have HF := Lib.hid hF
  have HTl := Lib.hid hTl
  have HND := Lib.hid hnd
  clear hC hC2 hF hTl hnd
  generalize hV : rheadV hd (bN T.data.toList) = V at *
  have HV := Lib.hid hV
  have HNo := Lib.hid hno
  clear hV hno
  go_enter Tryz.func43, Tryz.ntmps43
  go_wp2_with fail
  refine c1.mono ?_
  rintro e w1 ⟨rfl, hw1⟩
  have hw1 := hw1.symm
  subst hw1
  clear c1
  go_upto_block 0 with fail
  go_cut [7] from 12 to 23 (fun z wx => z = .int .i64 (bI T.data.toList : Nat) ∧ wx = w)
  case first =>
    go_wp2_with fail
    go_loopw [7] (fun z wr => RBlRel T w z wr) (fun z _ => T.size - (intOf z).toNat)
    case atStart => exact ⟨0, rfl, Nat.zero_le _, by simp [bI], rfl⟩
    case round =>
      obtain ⟨k, rfl, hk, hc, hwe⟩ := hrel
      have hwe := hwe.symm
      subst hwe
      by_cases hks : k < T.size
      · rw [get_list T k hks] at hc
        by_cases hb : T[k] = 32
        · have f1 : ((T[k].toNat : Int) == 32) = true := by simp [hb]
          have HK := Lib.hid (show k + 1 + cntL 32 (T.data.toList.drop (k + 1)) = bI T.data.toList from by rw [← hc, hb, cnt_yes]; omega)
          clear hc hb
          go_wp2
          exact ⟨⟨k + 1, by go_num, by omega, HK.out, rfl⟩, by simp [intOf]; omega⟩
        · have f1 : ((T[k].toNat : Int) == 32) = false := byte_no (c := 32) hb
          have HK := Lib.hid (show (k : Nat) = bI T.data.toList from by rw [← hc, cnt_ne hb]; rfl)
          clear hc hb
          go_wp2
          go_meet
          exact ⟨by rw [HK.out], rfl⟩
      · have HK := Lib.hid (show (k : Nat) = bI T.data.toList from by rw [← hc, List.drop_eq_nil_of_le (by rw [HTl.out]; omega)]; rfl)
        clear hc
        go_wp2
        go_meet
        exact ⟨by rw [HK.out], rfl⟩
  case rest =>
  obtain ⟨rfl, hwc⟩ := hcut
  have hwc := hwc.symm
  subst hwc
  generalize hI : bI T.data.toList = i at *
  go_upto_block 2 with fail
  go_cut [8] from 24 to 36 (fun z wx => z = .int .i64 (bN T.data.toList : Nat) ∧ wx = w)
  case first =>
    go_wp2_with fail
    go_loopw [8] (fun z wr => RSgRel T i w z wr) (fun z _ => T.size - (intOf z).toNat)
    case atStart => exact ⟨i, rfl, Nat.le_refl _, by omega, by rw [HND.out], rfl⟩
    case round =>
      obtain ⟨k, rfl, hik, hk, hc, hwe⟩ := hrel
      have hwe := hwe.symm
      subst hwe
      by_cases hks : k < T.size
      · rw [get_list T k hks] at hc
        by_cases hb : T[k] = 35
        · have f1 : ((T[k].toNat : Int) == 35) = true := by simp [hb]
          have HK := Lib.hid (show k + 1 + cntL 35 (T.data.toList.drop (k + 1)) = bN T.data.toList from by rw [← hc, hb, cnt_yes]; omega)
          clear hc hb
          go_wp2
          exact ⟨⟨k + 1, by go_num, by omega, by omega, HK.out, rfl⟩, by simp [intOf]; omega⟩
        · have f1 : ((T[k].toNat : Int) == 35) = false := byte_no (c := 35) hb
          have HK := Lib.hid (show (k : Nat) = bN T.data.toList from by rw [← hc, cnt_ne hb]; rfl)
          clear hc hb
          go_wp2
          go_meet
          exact ⟨by rw [HK.out], rfl⟩
      · have HK := Lib.hid (show (k : Nat) = bN T.data.toList from by rw [← hc, List.drop_eq_nil_of_le (by rw [HTl.out]; omega)]; rfl)
        clear hc
        go_wp2
        go_meet
        exact ⟨by rw [HK.out], rfl⟩
  case rest =>
  obtain ⟨rfl, hwc⟩ := hcut
  have hwc := hwc.symm
  subst hwc
  generalize hN : bN T.data.toList = n at *
  clear hI hN
  have hTs : T.size ≤ 140737488355328 := by omega
  by_cases q1 : 3 < i
  · have e1 : decide ((3 : Int) < (i : Int)) = true := by simp; omega
    have HB := Lib.hid (HNo.out (i ≤ 3) (fun t0 lab h => (HC.out t0 lab h).1) (by omega))
    clear HNo HC HC2 HF HV
    go_wp2
    refine bodyPost_ret (results_tmpd rfl _ _ _) rfl ?_
    exact ⟨by rw [HB.out]; rfl, Below.refl _ _⟩
  have e1 : decide ((3 : Int) < (i : Int)) = false := by simp; omega
  have e1n : decide (3 < i) = false := by simp; omega
  by_cases q2 : n = i
  · have e2 : ((n : Int) == (i : Int)) = true := by simp; omega
    have HB := Lib.hid (HNo.out (i < n) (fun t0 lab h => (HC.out t0 lab h).2.1) (by omega))
    clear HNo HC HC2 HF HV
    go_wp2
    refine bodyPost_ret (results_tmpd rfl _ _ _) rfl ?_
    exact ⟨by rw [HB.out]; rfl, Below.refl _ _⟩
  have e2 : ((n : Int) == (i : Int)) = false := by simp; omega
  have e2n : (n == i) = false := by simp; omega
  obtain ⟨d, hd⟩ : ∃ d, n = i + d := ⟨n - i, by omega⟩
  have e3 : IntKind.i64.wrap ((n : Int) - (i : Int)) = (d : Int) := by rw [IntWalk.i64_in _ (by omega)]; omega
  have e3b : wrap64 ((n : Int) - (i : Int)) = (d : Int) := by unfold wrap64; omega
  have HD := Lib.hid hd
  clear hd
  by_cases q3 : 6 < d
  · have e4 : decide ((6 : Int) < (d : Int)) = true := by simp; omega
    have HB := Lib.hid (HNo.out (n ≤ i + 6) (fun t0 lab h => (HC.out t0 lab h).2.2.1) (by have := HD.out; omega))
    clear HNo HC HC2 HF HV
    go_wp2
    refine bodyPost_ret (results_tmpd rfl _ _ _) rfl ?_
    exact ⟨by rw [HB.out]; rfl, Below.refl _ _⟩
  have e4 : decide ((6 : Int) < (d : Int)) = false := by simp; omega
  have e4n : decide (6 < d) = false := by simp; omega
  by_cases q4 : n < T.size
  case neg =>
    have e5 : decide ((T.size : Int) ≤ (n : Int)) = true := by simp; omega
    have HB := Lib.hid (HNo.out (n < T.size) (fun t0 lab h => (get_some (HC.out t0 lab h).2.2.2.2.1).1) (q4))
    clear HNo HC HC2 HF HV
    go_wp2
    refine bodyPost_ret (results_tmpd rfl _ _ _) rfl ?_
    exact ⟨by rw [HB.out]; rfl, Below.refl _ _⟩
  have e5 : decide ((T.size : Int) ≤ (n : Int)) = false := by simp; omega
  have e5n : decide (T.size ≤ n) = false := by simp; omega
  by_cases q5 : T[n] = 32
  case neg =>
    have e6 : ((T[n].toNat : Int) == 32) = false := byte_no (c := 32) q5
    have e6b : ((T[n].toNat : Int) != 32) = true := by unfold bne; rw [e6]; rfl
    have HB := Lib.hid (HNo.out (T[n] = 32) (fun t0 lab h => (get_some (HC.out t0 lab h).2.2.2.2.1).2) (q5))
    clear HNo HC HC2 HF HV q5
    go_wp2
    refine bodyPost_ret (results_tmpd rfl _ _ _) rfl ?_
    exact ⟨by rw [HB.out]; rfl, Below.refl _ _⟩
  have e6 : ((T[n].toNat : Int) == 32) = true := by simp [q5]
  have e6b : ((T[n].toNat : Int) != 32) = false := by simp [q5]
  obtain ⟨m, hm⟩ : ∃ m, T.size = m + 1 := ⟨T.size - 1, by omega⟩
  have hml : m < T.size := by omega
  have hix : wrap64 ((T.size : Int) - 1) = (m : Int) := by unfold wrap64; omega
  have hix2 : IntKind.i64.wrap ((T.size : Int) - 1) = (m : Int) := by rw [IntWalk.i64_in _ (by omega)]; omega
  by_cases q6 : T[m] = 125
  case neg =>
    have e7 : ((T[m].toNat : Int) == 125) = false := byte_no (c := 125) q6
    have e7b : ((T[m].toNat : Int) != 125) = true := by unfold bne; rw [e7]; rfl
    have HB := Lib.hid (HNo.out (T.data.toList.getLast? = some 125) (fun t0 lab h => (HC.out t0 lab h).2.2.2.2.2.1) (by rw [last_get T m hml hm]; intro h; injection h with h; exact q6 h))
    clear HNo HC HC2 HF HV q6
    go_wp2
    refine bodyPost_ret (results_tmpd rfl _ _ _) rfl ?_
    exact ⟨by rw [HB.out]; rfl, Below.refl _ _⟩
  have e7 : ((T[m].toNat : Int) == 125) = true := by simp [q6]
  have e7b : ((T[m].toNat : Int) != 125) = false := by simp [q6]
  have HQ := Lib.hid (show T[n] = 32 ∧ T[m] = 125 ∧ i ≤ 3 ∧ i < n ∧ n ≤ i + 6 ∧ T.size = m + 1 from ⟨q5, q6, by omega, by omega, by have := HD.out; omega, hm⟩)
  have hnm : n + 1 ≤ m := by
    rcases Nat.lt_or_ge n m with h | h
    · omega
    · have : n = m := by omega
      subst this
      rw [q5] at q6
      exact absurd q6 (by decide)
  clear q1 q2 q3 q5 q6 hm
  have hk0 : wrap64 ((T.size : Int) - 2) = ((T.size - 2 : Nat) : Int) := by unfold wrap64; omega
  have hk02 : IntKind.i64.wrap ((T.size : Int) - 2) = ((T.size - 2 : Nat) : Int) := by rw [IntWalk.i64_in _ (by omega)]; omega
  obtain ⟨k0, hk0e⟩ : ∃ k0, T.size - 2 = k0 := ⟨_, rfl⟩
  rw [hk0e] at hk0 hk02
  have hk0b : n ≤ k0 := by have := HQ.out.2.2.2.2.2; omega
  have hk0c : k0 + 2 = T.size := by have := HQ.out.2.2.2.2.2; omega
  clear hk0e
  go_upto_block 4 with fail
  go_cut [9] from 73 to 83 (fun z wx => ∃ k : Nat, z = .int .i64 k ∧ n ≤ k ∧ k + 2 ≤ T.size ∧ (∀ j (h : j < T.size), k < j → j + 2 ≤ T.size → T[j] ≠ 123) ∧ (k = n ∨ (n < k ∧ ∃ h : k < T.size, T[k] = 123)) ∧ wx = w)
  case first =>
    go_wp2_with fail
    go_loopw [9] (fun z wr => RBrRel T n w z wr) (fun z _ => (intOf z).toNat)
    case atStart => exact ⟨k0, rfl, hk0b, by omega, fun j h h1 h2 => absurd h1 (by omega), rfl⟩
    case round =>
      obtain ⟨k, rfl, hk1, hk2, hno, hwe⟩ := hrel
      have hwe := hwe.symm
      subst hwe
      by_cases hkn : n < k
      · have hks : k < T.size := by omega
        by_cases hb : T[k] = 123
        · have f1 : ((T[k].toNat : Int) == 123) = true := by simp [hb]
          have f1b : ((T[k].toNat : Int) != 123) = false := by simp [hb]
          have HK := Lib.hid (show (n ≤ k ∧ k + 2 ≤ T.size ∧ (∀ j (h : j < T.size), k < j → j + 2 ≤ T.size → T[j] ≠ 123) ∧ (k = n ∨ (n < k ∧ ∃ h : k < T.size, T[k] = 123))) from ⟨hk1, hk2, hno, .inr ⟨hkn, hks, hb⟩⟩)
          clear hno hb
          go_wp2
          go_meet
          exact ⟨k, rfl, HK.out.1, HK.out.2.1, HK.out.2.2.1, HK.out.2.2.2, rfl⟩
        · have f1 : ((T[k].toNat : Int) == 123) = false := byte_no (c := 123) hb
          have f1b : ((T[k].toNat : Int) != 123) = true := by unfold bne; rw [f1]; rfl
          obtain ⟨k', hk'⟩ : ∃ k', k = k' + 1 := ⟨k - 1, by omega⟩
          have hw1 : wrap64 ((k : Int) - 1) = (k' : Int) := by unfold wrap64; omega
          have hw2 : IntKind.i64.wrap ((k : Int) - 1) = (k' : Int) := by rw [IntWalk.i64_in _ (by omega)]; omega
          have HK := Lib.hid (show n ≤ k' ∧ k' + 2 ≤ T.size ∧ (∀ j (h : j < T.size), k' < j → j + 2 ≤ T.size → T[j] ≠ 123) ∧ k' < k from by
            refine ⟨by omega, by omega, fun j h h1 h2 => ?_, by omega⟩
            by_cases e : j = k
            · subst e; exact hb
            · exact hno j h (by omega) h2)
          clear hno hb hk'
          go_wp2
          exact ⟨⟨k', rfl, HK.out.1, HK.out.2.1, HK.out.2.2.1, rfl⟩, by have := HK.out.2.2.2; simp [intOf]; omega⟩
      · have HK := Lib.hid (show (n ≤ k ∧ k + 2 ≤ T.size ∧ (∀ j (h : j < T.size), k < j → j + 2 ≤ T.size → T[j] ≠ 123) ∧ (k = n ∨ (n < k ∧ ∃ h : k < T.size, T[k] = 123))) from ⟨hk1, hk2, hno, .inl (by omega)⟩)
        clear hno
        go_wp2
        go_meet
        exact ⟨k, rfl, HK.out.1, HK.out.2.1, HK.out.2.2.1, HK.out.2.2.2, rfl⟩
  case rest =>
  obtain ⟨k, rfl, hk1, hk2, hno, hat, hwc⟩ := hcut
  have hwc := hwc.symm
  subst hwc
  have hks : k < T.size := by omega
  have hks1 : k + 1 < T.size := by omega
  have hkm : k + 1 ≤ m := by have := HQ.out.2.2.2.2.2; omega
  have hlb : LastBr T.data.toList n k := ⟨hk1, fun j h1 h2 h3 => by
    obtain ⟨h4, h5⟩ := get_some h3
    exact hno j h4 h1 (by rw [HTl.out] at h2; exact h2) h5⟩
  have hat2 : k = n ∨ T.data.toList[k]? = some 123 := by
    rcases hat with h | ⟨_, h, h2⟩
    · exact .inl h
    · exact .inr (by rw [get_of T k h, h2])
  have HK := Lib.hid (fun t0 lab h => HC2.out t0 lab k h hlb (by rw [HTl.out]; exact hk2) hat2)
  have HAT := Lib.hid hat
  clear hno hlb hat2 hat
  have hi1 : (k : Int) + 1 < (T.size : Int) := by omega
  by_cases r1 : k ≤ n
  · have d1 : decide ((k : Int) ≤ (n : Int)) = true := by simp; omega
    have HB := Lib.hid (HNo.out (n < k) (fun t0 lab h => (HK.out t0 lab h).2.1) (by omega))
    clear HNo HC HC2 HF HV HK HAT
    go_wp2
    refine bodyPost_ret (results_tmpd rfl _ _ _) rfl ?_
    exact ⟨by rw [HB.out]; rfl, Below.refl _ _⟩
  have d1 : decide ((k : Int) ≤ (n : Int)) = false := by simp; omega
  have d1n : decide (k ≤ n) = false := by simp; omega
  by_cases r2 : T[k + 1] = 61
  case neg =>
    have d2 : ((T[k + 1].toNat : Int) == 61) = false := byte_no (c := 61) r2
    have d2b : ((T[k + 1].toNat : Int) != 61) = true := by unfold bne; rw [d2]; rfl
    have HB := Lib.hid (HNo.out (T[k + 1] = 61) (fun t0 lab h => (get_some (HK.out t0 lab h).2.2.2.1).2) r2)
    clear HNo HC HC2 HF HV HK HAT r2
    go_wp2
    refine bodyPost_ret (results_tmpd rfl _ _ _) rfl ?_
    exact ⟨by rw [HB.out]; rfl, Below.refl _ _⟩
  have d2 : ((T[k + 1].toNat : Int) == 61) = true := by simp [r2]
  have d2b : ((T[k + 1].toNat : Int) != 61) = false := by simp [r2]
  have hkm2 : k + 2 ≤ m := by
    rcases Nat.lt_or_ge (k + 1) m with h | h
    · omega
    · have : k + 1 = m := by omega
      subst this
      have h1 := HQ.out.2.1
      rw [r2] at h1
      exact absurd h1 (by decide)
  have HR2 := Lib.hid r2
  clear r2
  have hmT : T.size = m + 1 := HQ.out.2.2.2.2.2
  have cl := rlabel_any (T.extract (k + 2) m) w (by rw [ByteArray.size_extract]; omega)
  have hmid := mid2_list T k m hmT
  rw [hmid] at cl
  have hsl : ∀ W, (Instr.slice 9 (.string T) (some (.int .i64 ((k : Int) + 2))) (some (.int .i64 (m : Int))) none).run Tryz.prog W = .ok (.string (T.extract (k + 2) m)) W := fun W => by
    have := run_slice_string (P := Tryz.prog) W 9 T .i64 .i64 ((k + 2 : Nat) : Int) (m : Int) Tryz.underlying9 (by omega) (by omega) (by omega)
    exact this
  have HMID := Lib.hid hmid
  have HmT := Lib.hid hmT
  clear hmid hmT
  cases hlab : isLab ((T.data.toList.drop (k + 2)).dropLast) with
  | false =>
    rw [hlab] at cl
    have HB := Lib.hid (HNo.out (isLab ((T.data.toList.drop (k + 2)).dropLast) = true) (fun t0 lab h => by have h2 := HK.out t0 lab h; rw [h2.2.2.2.2.1]; exact h2.2.2.2.2.2) (by rw [hlab]; decide))
    clear HNo HC HC2 HF HV HK HAT hlab
    go_wp2_with fail
    refine cl.mono ?_
    rintro e w1 ⟨rfl, hw1⟩
    have hw1 := hw1.symm
    subst hw1
    go_wp2
    refine bodyPost_ret (results_tmpd rfl _ _ _) rfl ?_
    exact ⟨by rw [HB.out]; rfl, Below.refl _ _⟩
  | true =>
    rw [hlab] at cl
    have HB := Lib.hid (show V = .tuple #[.string (T.extract 0 k), .string (T.extract (k + 2) m), .int .i64 n, .bool true] from by
      have hq := HQ.out
      have h123 : T[k] = 123 := by
        rcases HAT.out with h | ⟨_, _, h⟩
        · omega
        · exact h
      have h := (HF.out k (by omega) (by omega) (by omega) (by rw [get_of T n (by omega), hq.1]) (by omega) (by rw [get_of T k hks, h123]) (by rw [get_of T (k + 1) hks1, HR2.out]) (by rw [last_get T m (by omega) HmT.out, hq.2.1]) hlab).1
      rw [← HV.out, h]
      unfold rheadV
      dsimp only
      rw [← HMID.out, ← Lib.extract_upto, Lib.mk_data])
    clear HNo HC HC2 HF HV HK HAT hlab
    go_wp2_with fail
    refine cl.mono ?_
    rintro e w1 ⟨rfl, hw1⟩
    have hw1 := hw1.symm
    subst hw1
    clear cl
    have hsl0 : ∀ W, (Instr.slice 9 (.string T) none (some (.int .i64 (k : Int))) none).run Tryz.prog W = .ok (.string (T.extract 0 k)) W := fun W => by
      rw [run_slice_string_h W 9 T Tryz.underlying9 .i64 (k : Int) (by omega) (by omega)]
      rfl
    go_wp2_with fail
    go_quiet (fail)
    go_wp2
    refine bodyPost_ret (results_tmpd rfl _ _ _) rfl ?_
    exact ⟨by rw [HB.out]; rfl, below_drewN' (Below.refl _ _) _⟩

end Go.Proofs.YtkcmhdkhdjmjeaaGreatDoor
