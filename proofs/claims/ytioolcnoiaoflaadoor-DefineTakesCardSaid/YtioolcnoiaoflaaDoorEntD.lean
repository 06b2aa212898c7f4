/-
  Package entity: byName, At: what each answers, in plain words.
-/
import Derived.Test.YtioolcnoiaoflaaDoorEntC
namespace Go.Proofs.YtioolcnoiaoflaaDoor
open Go.RowKit
set_option linter.unusedSimpArgs false
set_option linter.unusedVariables false

theorem nameGo_end {b : UInt8} {l : List UInt8} {i : Nat} (h : b.toNat = 59) : nameGo (b :: l) i = some i := by rw [nameGo, if_pos h]
theorem nameGo_more {b : UInt8} {l : List UInt8} {i : Nat} (h : ¬ b.toNat = 59) (h2 : isLow b = true) : nameGo (b :: l) i = nameGo l (i + 1) := by rw [nameGo, if_neg h, if_pos h2]
theorem nameGo_none {b : UInt8} {l : List UInt8} {i : Nat} (h : ¬ b.toNat = 59) (h2 : isLow b = false) : nameGo (b :: l) i = none := by rw [nameGo, if_neg h, if_neg (by simp [h2])]
theorem nameAt_none {s T : ByteArray} (hT : T.data.toList = s.data.toList.drop 1) (h : nameGo T.data.toList 0 = none) : nameAt s.data.toList = (ByteArray.empty, 0) := by
  unfold nameAt
  rw [← hT, h]
theorem nameAt_some {s T : ByteArray} {i : Nat} (hT : T.data.toList = s.data.toList.drop 1) (h : nameGo T.data.toList 0 = some i) : nameAt s.data.toList = nameOf T.data.toList i := by
  unfold nameAt
  rw [← hT, h]
theorem part_list (s : ByteArray) (i : Nat) : (s.extract 1 (1 + i)).data.toList = (s.data.toList.drop 1).take i := by
  rw [ByteArray.data_extract, Array.toList_extract, List.extract_eq_take_drop]
  simp
theorem slice_part (s : ByteArray) (k : Nat) (h : k + 1 ≤ s.size) (w : World) :
    (Instr.slice 9 (.string s) (some (.int .i64 1)) (some (.int .i64 (1 + (k : Int)))) none).run Tryd.prog w = .ok (.string (s.extract 1 (1 + k))) w := by
  rw [run_slice_string w 9 s .i64 .i64 1 (1 + (k : Int)) Tryd.underlying9 (by omega) (by omega) (by omega)]
  rw [show (1 + (k : Int)).toNat = 1 + k from by omega]; rfl
def ByNameRel (T : ByteArray) (w : World) (I : Nat) (wr : World) : Prop :=
  ∃ k : Nat, k ≤ T.size ∧ wr.heap[I]? = some (.stringIter T k) ∧ Below w.heap.size w wr ∧ w.heap.size < wr.heap.size ∧ nameGo (T.data.toList.drop k) k = nameGo T.data.toList 0

set_option maxHeartbeats 2000000 in
set_option maxRecDepth 100000 in
theorem byName_any (s : ByteArray) (w : World) (hn : NamedIs w) (hf : 1 ≤ s.size) (hs : s.size ≤ 70368744177664) :
    Calls Tryd.prog 59 #[.string s, .int .i64 1] w fun e w' => e = .returned (.tuple #[.string (nameAt s.data.toList).1, .int .i64 (nameAt s.data.toList).2]) ∧ Below w.heap.size w w' := by
  have hT := drop_ext s 1
  have hz := ext_size s 1
  have HT := Lib.hid hT
  have HZ := Lib.hid hz
  have hz2 : (s.extract 1 s.size).size ≤ 70368744177664 := by omega
  have HN := Lib.hid hn
  clear hT hz hn
  go_enter Tryd.func59, Tryd.ntmps59
  go_wp2_with fail
  generalize s.extract 1 s.size = T at *
  go_loopw [] (fun wr => ByNameRel T w w.heap.size wr) (fun wr => T.size - wr.iterPos w.heap.size)
  case atStart => exact ⟨0, Nat.zero_le _, World.iter_heap w T 0, (Below.refl _ w).alloc (Nat.le_refl _) _, (by show _ < (w.heap.push _).size; simp), by rw [List.drop_zero]⟩
  case round =>
    obtain ⟨k, hk, hit, hbw, hsz, hgo⟩ := hrel
    by_cases hp : k < T.size
    · have hnx : ∀ ty, (Instr.next (.pointer (some ⟨w.heap.size, 0, none⟩)) true ty).run Tryd.prog wr = _ := fun ty => Lib.run_next_any_at wr w.heap.size T k ty hit hp
      have hit2 := Lib.iterAt_heap wr w.heap.size T k (k + (Utf8.decode T k).2) hit
      have hbw2 := Lib.below_iterAt hbw (k := w.heap.size) (by omega) T (k + (Utf8.decode T k).2)
      have hsz2 : w.heap.size < (wr.iterAt w.heap.size T (k + (Utf8.decode T k).2)).heap.size := by rw [Lib.iterAt_size]; exact hsz
      have Hit := Lib.hid hit
      have hzz : k + 1 ≤ s.size := by have := HZ.out; omega
      rw [get_list T k hp] at hgo
      have HG := Lib.hid hgo
      clear hit hbw hgo
      by_cases ha : T[k].toNat < 128
      · have hd : Utf8.decode T k = (T[k].toNat, 1) := decode_ascii T k hp ha
        rw [hd] at hnx hit2 hbw2 hsz2
        simp only at hnx hit2 hbw2 hsz2
        clear hd
        obtain ⟨b, hb⟩ : ∃ b, T[k] = b := ⟨_, rfl⟩
        have HB := Lib.hid hb
        rw [hb] at hnx ha
        clear hb
        by_cases h59 : b.toNat = 59
        · have f59 : ((b.toNat : Int) == 59) = true := by simp; omega
          have HR := Lib.hid (nameAt_some HT.out (HG.out.symm.trans (by rw [HB.out]; exact nameGo_end h59)))
          clear h59
          have hc := named_any (s.extract 1 (1 + k)) _ (HN.out.below hbw2)
          have hsl := slice_part s k hzz
          rw [part_list, ← HT.out] at hc
          cases hl : lookL (T.data.toList.take k) with
          | none =>
            have HO := Lib.hid (show nameOf T.data.toList k = (ByteArray.empty, 0) from by unfold nameOf; rw [hl])
            rw [show namedR (T.data.toList.take k) = .tuple #[.string ByteArray.empty, .bool false] from by unfold namedR; rw [hl]] at hc
            have HC := Lib.hid hc
            clear hc hl
            go_wp2_with (go_at_call 62; refine HC.out.mono ?_; rintro e w2 ⟨rfl, b2⟩)
            go_ret2
            exact ⟨by rw [HR.out, HO.out]; rfl, hbw2.trans (b2.mono hbw2.size)⟩
          | some t =>
            have HO := Lib.hid (show nameOf T.data.toList k = (⟨t.toArray⟩, 1 + k + 1) from by unfold nameOf; rw [hl])
            rw [show namedR (T.data.toList.take k) = .tuple #[.string ⟨t.toArray⟩, .bool true] from by unfold namedR; rw [hl]] at hc
            have HC := Lib.hid hc
            clear hc hl
            go_wp2_with (go_at_call 62; refine HC.out.mono ?_; rintro e w2 ⟨rfl, b2⟩)
            go_ret2
            exact ⟨ret_strint (by rw [HR.out, HO.out]) (by rw [HR.out, HO.out]; simp), hbw2.trans (b2.mono hbw2.size)⟩
        · have f59 : ((b.toNat : Int) == 59) = false := by simp; omega
          cases hlow : isLow b with
          | true =>
            have hr := (inR_iff _ _ _).1 hlow
            have HR := Lib.hid (show nameGo (T.data.toList.drop (k + 1)) (k + 1) = nameGo T.data.toList 0 from by rw [← nameGo_more h59 hlow, ← HG.out, HB.out])
            obtain ⟨hr1, hr2⟩ := hr
            clear h59 hlow
            go_wp2
            go_roundw
            case rel => exact ⟨k + 1, by omega, hit2, hbw2, hsz2, HR.out⟩
            case measure => simp only [World.iterPos, hit2, Hit.out]; omega
          | false =>
            have hr := (inR_f _ _ _).1 hlow
            have HR := Lib.hid (nameAt_none HT.out (HG.out.symm.trans (by rw [HB.out]; exact nameGo_none h59 hlow)))
            clear h59 hlow
            by_cases h97 : (b.toNat : Int) < 97
            · clear hr
              go_wp2
              go_ret2
              exact ⟨by rw [HR.out]; rfl, hbw2⟩
            · have h122 : ¬ (b.toNat : Int) ≤ 122 := by omega
              clear hr
              go_wp2
              go_ret2
              exact ⟨by rw [HR.out]; rfl, hbw2⟩
      · have hh := (decode_high T k hp (by omega)).1
        have f59 : (((Utf8.decode T k).1 : Int) == 59) = false := by simp; omega
        have HR := Lib.hid (nameAt_none HT.out (HG.out.symm.trans (nameGo_none (by omega) ((inR_f _ _ _).2 (by omega)))))
        have h97 : ¬ ((Utf8.decode T k).1 : Int) < 97 := by omega
        have h122 : ¬ ((Utf8.decode T k).1 : Int) ≤ 122 := by omega
        clear ha hh
        generalize (Utf8.decode T k).1 = r at *
        go_wp2
        go_ret2
        exact ⟨by rw [HR.out]; rfl, hbw2⟩
    · have hnx : ∀ ty, (Instr.next (.pointer (some ⟨w.heap.size, 0, none⟩)) true ty).run Tryd.prog wr = _ := fun ty => Lib.run_next_end_at wr w.heap.size T k ty hit hp
      have e : T.data.toList.drop k = [] := List.drop_eq_nil_of_le (by simp; omega)
      rw [e] at hgo
      have HR := Lib.hid (nameAt_none HT.out (hgo.symm.trans rfl))
      clear e hgo
      go_wp2
      go_ret2
      exact ⟨by rw [HR.out]; rfl, hbw⟩

theorem hasPrefix_size {s : ByteArray} {p : List UInt8} (h : Lib.hasPrefix s.data.toList p = true) : p.length ≤ s.size := by
  unfold Lib.hasPrefix at h
  have := (List.isPrefixOf_iff_prefix.1 h).length_le
  simpa using this

/-- The entity that a text begins with. -/
def atRet (l : List UInt8) : Value := .tuple #[.string (atL l).1, .int .i64 (atL l).2]

set_option maxHeartbeats 1000000 in
theorem at_any (s : ByteArray) (w : World) (hn : NamedIs w) (hs : s.size ≤ 70368744177664) :
    Calls Tryd.prog 54 #[.string s] w fun e w' => e = .returned (atRet s.data.toList) ∧ Below w.heap.size w w' := by
  have p1 := fun w => Tryd.strings_HasPrefix s ⟨#[38, 35, 120]⟩ w
  have p2 := fun w => Tryd.strings_HasPrefix s ⟨#[38, 35, 88]⟩ w
  have p3 := fun w => Tryd.strings_HasPrefix s ⟨#[38, 35]⟩ w
  have p4 := fun w => Tryd.strings_HasPrefix s ⟨#[38]⟩ w
  have e1 : (⟨#[38, 35, 120]⟩ : ByteArray).data.toList = [38, 35, 120] := rfl
  have e2 : (⟨#[38, 35, 88]⟩ : ByteArray).data.toList = [38, 35, 88] := rfl
  have e3 : (⟨#[38, 35]⟩ : ByteArray).data.toList = [38, 35] := rfl
  have e4 : (⟨#[38]⟩ : ByteArray).data.toList = [38] := rfl
  rw [e1] at p1
  rw [e2] at p2
  rw [e3] at p3
  rw [e4] at p4
  have HN := Lib.hid hn
  clear e1 e2 e3 e4 hn
  cases h1 : Lib.hasPrefix s.data.toList [38, 35, 120] with
  | true =>
    rw [h1] at p1
    have hz := hasPrefix_size h1
    have HR := Lib.hid (show atL s.data.toList = numAt 16 3 6 s.data.toList from by unfold atL; rw [if_pos h1])
    have P1 := Lib.hid p1
    clear p1 p2 p3 p4 h1
    go_enter Tryd.func54, Tryd.ntmps54
    go_wp2_with (first | (go_at_call 26; refine (P1.out _).mono ?_; rintro e w' ⟨rfl, rfl⟩) | (go_at_call 58; refine (byNumber16 s _ hz hs).mono ?_; rintro e w1 ⟨rfl, b1⟩))
    go_ret2
    exact ⟨by unfold atRet; rw [HR.out]; rfl, b1⟩
  | false =>
    rw [h1] at p1
    cases h2 : Lib.hasPrefix s.data.toList [38, 35, 88] with
    | true =>
      rw [h2] at p2
      have hz := hasPrefix_size h2
      have HR := Lib.hid (show atL s.data.toList = numAt 16 3 6 s.data.toList from by unfold atL; rw [if_neg (by simp [h1]), if_pos h2])
      have P1 := Lib.hid p1
      have P2 := Lib.hid p2
      clear p1 p2 p3 p4 h1 h2
      go_enter Tryd.func54, Tryd.ntmps54
      go_wp2_with fail
      refine (P1.out _).mono ?_
      rintro e w' ⟨rfl, rfl⟩
      go_wp2_with fail
      refine (P2.out _).mono ?_
      rintro e w' ⟨rfl, rfl⟩
      go_wp2_with (go_at_call 58; refine (byNumber16 s _ hz hs).mono ?_; rintro e w1 ⟨rfl, b1⟩)
      go_ret2
      exact ⟨by unfold atRet; rw [HR.out]; rfl, b1⟩
    | false =>
      rw [h2] at p2
      cases h3 : Lib.hasPrefix s.data.toList [38, 35] with
      | true =>
        rw [h3] at p3
        have hz := hasPrefix_size h3
        have HR := Lib.hid (show atL s.data.toList = numAt 10 2 7 s.data.toList from by unfold atL; rw [if_neg (by simp [h1]), if_neg (by simp [h2]), if_pos h3])
        have P1 := Lib.hid p1
        have P2 := Lib.hid p2
        have P3 := Lib.hid p3
        clear p1 p2 p3 p4 h1 h2 h3
        go_enter Tryd.func54, Tryd.ntmps54
        go_wp2_with fail
        refine (P1.out _).mono ?_
        rintro e w' ⟨rfl, rfl⟩
        go_wp2_with fail
        refine (P2.out _).mono ?_
        rintro e w' ⟨rfl, rfl⟩
        go_wp2_with fail
        refine (P3.out _).mono ?_
        rintro e w' ⟨rfl, rfl⟩
        go_wp2_with (go_at_call 58; refine (byNumber10 s _ hz hs).mono ?_; rintro e w1 ⟨rfl, b1⟩)
        go_ret2
        exact ⟨by unfold atRet; rw [HR.out]; rfl, b1⟩
      | false =>
        rw [h3] at p3
        cases h4 : Lib.hasPrefix s.data.toList [38] with
        | true =>
          rw [h4] at p4
          have hz := hasPrefix_size h4
          have HR := Lib.hid (show atL s.data.toList = nameAt s.data.toList from by unfold atL; rw [if_neg (by simp [h1]), if_neg (by simp [h2]), if_neg (by simp [h3]), if_pos h4])
          have P1 := Lib.hid p1
          have P2 := Lib.hid p2
          have P3 := Lib.hid p3
          have P4 := Lib.hid p4
          clear p1 p2 p3 p4 h1 h2 h3 h4
          go_enter Tryd.func54, Tryd.ntmps54
          go_wp2_with fail
          refine (P1.out _).mono ?_
          rintro e w' ⟨rfl, rfl⟩
          go_wp2_with fail
          refine (P2.out _).mono ?_
          rintro e w' ⟨rfl, rfl⟩
          go_wp2_with fail
          refine (P3.out _).mono ?_
          rintro e w' ⟨rfl, rfl⟩
          go_wp2_with fail
          refine (P4.out _).mono ?_
          rintro e w' ⟨rfl, rfl⟩
          go_wp2_with (go_at_call 59; refine (byName_any s _ HN.out hz hs).mono ?_; rintro e w1 ⟨rfl, b1⟩)
          go_ret2
          exact ⟨by unfold atRet; rw [HR.out]; rfl, b1⟩
        | false =>
          rw [h4] at p4
          have HR := Lib.hid (show atL s.data.toList = (ByteArray.empty, 0) from by unfold atL; rw [if_neg (by simp [h1]), if_neg (by simp [h2]), if_neg (by simp [h3]), if_neg (by simp [h4])])
          have P1 := Lib.hid p1
          have P2 := Lib.hid p2
          have P3 := Lib.hid p3
          have P4 := Lib.hid p4
          clear p1 p2 p3 p4 h1 h2 h3 h4
          go_enter Tryd.func54, Tryd.ntmps54
          go_wp2_with fail
          refine (P1.out _).mono ?_
          rintro e w' ⟨rfl, rfl⟩
          go_wp2_with fail
          refine (P2.out _).mono ?_
          rintro e w' ⟨rfl, rfl⟩
          go_wp2_with fail
          refine (P3.out _).mono ?_
          rintro e w' ⟨rfl, rfl⟩
          go_wp2_with fail
          refine (P4.out _).mono ?_
          rintro e w' ⟨rfl, rfl⟩
          go_wp2
          go_ret2
          exact ⟨by unfold atRet; rw [HR.out]; rfl, Below.refl _ _⟩

end Go.Proofs.YtioolcnoiaoflaaDoor
