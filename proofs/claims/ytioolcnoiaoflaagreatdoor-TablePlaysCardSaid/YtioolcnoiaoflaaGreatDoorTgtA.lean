/-
  Package target: hidden, small, blank, mayStay, escaped, and strings.ContainsRune of a text of ASCII alone: what each answers, in plain words.
-/
import Derived.Test.YtioolcnoiaoflaaGreatDoorTgtP
import Derived.Test.YtioolcnoiaoflaaGreatDoorEntB
import Derived.Lib.OthersKept
namespace Go.Proofs.YtioolcnoiaoflaaGreatDoor
open Go.RowKit
set_option linter.unusedSimpArgs false
set_option linter.unusedVariables false
theorem tgHidden_any (r : Int) (w : World) :
    Calls Tryz.prog 119 #[.int .i32 r] w fun e w' => e = .returned (.bool (tgHid r)) ∧ w = w' := by
  by_cases h1 : r ≤ 32
  · go_enter Tryz.func119, Tryz.ntmps119
    go_wp2
    go_ret
    exact ⟨ret_bool (by simp [tgHid, h1]), rfl⟩
  · go_enter Tryz.func119, Tryz.ntmps119
    go_wp2
    go_ret
    exact ⟨ret_bool (by
      have : decide (r ≤ 32) = false := by simpa using h1
      simp only [tgHid, this, Bool.false_or]), rfl⟩
theorem slice_lo (s : ByteArray) (i : Int) (k : Nat) (e : i = k) (h : k ≤ s.size) (w : World) :
    (Instr.slice 9 (.string s) (some (.int .i64 i)) none none).run Tryz.prog w = .ok (.string (s.extract k s.size)) w := by
  subst e
  rw [run_slice_string_l w 9 s Tryz.underlying9 .i64 (k : Int) (by omega) (by omega)]
  rfl
theorem slice_hi (s : ByteArray) (i : Int) (k : Nat) (e : i = k) (h : k ≤ s.size) (w : World) :
    (Instr.slice 9 (.string s) none (some (.int .i64 i)) none).run Tryz.prog w = .ok (.string (s.extract 0 k)) w := by
  subst e
  rw [run_slice_string_h w 9 s Tryz.underlying9 .i64 (k : Int) (by omega) (by omega)]
  rfl
theorem slice_lohi (s : ByteArray) (i j : Int) (k m : Nat) (e : i = k) (e2 : j = m) (h : k ≤ m) (h2 : m ≤ s.size) (w : World) :
    (Instr.slice 9 (.string s) (some (.int .i64 i)) (some (.int .i64 j)) none).run Tryz.prog w = .ok (.string (s.extract k m)) w := by
  subst e; subst e2
  rw [run_slice_string w 9 s .i64 .i64 (k : Int) (m : Int) Tryz.underlying9 (by omega) (by omega) (by omega)]
  rfl
theorem index_str (s : ByteArray) (i : Int) (k : Nat) (e : i = k) (h : k < s.size) (w : World) :
    (Instr.index 9 (.string s) (.int .i64 i)).run Tryz.prog w = .ok (.int .u8 s[k].toNat) w := by
  subst e
  rw [run_index_string _ _ _ _ _ Tryz.underlying9, dif_pos (by omega)]
  rfl

/-! ### strings.ContainsRune -/
theorem hasB_index (l : List UInt8) (r : Int) (h0 : 0 ≤ r) (h1 : r < 128) : decide (0 ≤ Lib.indexByte l r.toNat.toUInt8) = hasB l r := by
  have hr : (r.toNat.toUInt8).toNat = r.toNat := by simp; omega
  generalize r.toNat.toUInt8 = c at *
  induction l with
  | nil => rfl
  | cons b l ih =>
    have hg := Lib.indexByte_ge l c
    have hbc : (b == c) = ((b.toNat : Int) == r) := by
      rw [Bool.eq_iff_iff, beq_iff_eq, beq_iff_eq]
      constructor
      · rintro rfl; omega
      · intro e; exact UInt8.toNat_inj.1 (by omega)
    show decide (0 ≤ if b == c then 0 else if Lib.indexByte l c == -1 then -1 else Lib.indexByte l c + 1) = ((b.toNat : Int) == r || hasB l r)
    rw [← ih, hbc]
    by_cases h1 : ((b.toNat : Int) == r) = true
    · rw [if_pos h1, h1]; rfl
    · rw [if_neg h1, Bool.eq_false_iff.2 h1, Bool.false_or]
      congr 1
      by_cases h2 : Lib.indexByte l c = -1
      · simp [h2]
      · rw [if_neg (by simpa using h2)]
        apply propext
        omega
theorem hasB_high {l : List UInt8} {r : Int} (hs : ∀ b ∈ l, b.toNat < 128) (h : 128 ≤ r) : hasB l r = false := by
  unfold hasB
  rw [List.any_eq_false]
  intro b hb
  have := hs b hb
  simp; omega
theorem enc_last (r : Int) (h : 128 ≤ r) : ∃ (n : Nat) (x : UInt8), (Utf8.encode r).size = n + 1 ∧ n ≤ 3 ∧ (Utf8.encode r).data[n]? = some x ∧ 128 ≤ x.toNat := by
  have tail : ∀ m : Nat, 128 ≤ (UInt8.ofNat (128 + m % 64)).toNat := by
    intro m
    rw [UInt8.toNat_ofNat']
    omega
  unfold Utf8.encode
  dsimp only
  generalize hc : (if Utf8.valid r then r.toNat else Utf8.runeError) = c
  have h1 : 128 ≤ c := by
    rw [← hc]
    split
    · omega
    · decide
  rw [if_neg (by omega)]
  split
  · exact ⟨1, _, rfl, by omega, rfl, tail _⟩
  · split
    · exact ⟨2, _, rfl, by omega, rfl, tail _⟩
    · exact ⟨3, _, rfl, by omega, rfl, tail _⟩
def RuRel (s : ByteArray) (w : World) (I : Nat) (wr : World) : Prop :=
  ∃ k : Nat, k ≤ s.size ∧ wr.heap[I]? = some (.stringIter s k) ∧ Below w.heap.size w wr
set_option maxHeartbeats 1000000 in
set_option maxRecDepth 100000 in
theorem indexRune_error (s : ByteArray) (w : World) (hs : ∀ b ∈ s.data.toList, b.toNat < 128) (hz : s.size ≤ 1000) :
    Calls Tryz.prog 126 #[.string s, .int .i32 65533] w fun e w' => e = .returned (.int .i64 (-1)) ∧ Below w.heap.size w w' := by
  have HS := Lib.hid hs
  clear hs
  go_enter Tryz.func126, Tryz.ntmps126
  go_wp2_with fail
  go_loopw [] (fun wr => RuRel s w w.heap.size wr) (fun wr => s.size - wr.iterPos w.heap.size)
  case atStart => exact ⟨0, Nat.zero_le _, World.iter_heap w s 0, (Below.refl _ w).alloc (Nat.le_refl _) _⟩
  case round =>
    obtain ⟨k, hk, hit, hbw⟩ := hrel
    by_cases hp : k < s.size
    · have hnx : ∀ ty, (Instr.next (.pointer (some ⟨w.heap.size, 0, none⟩)) true ty).run Tryz.prog wr = _ := fun ty => Lib.run_next_any_at wr w.heap.size s k ty hit hp
      have hit2 := Lib.iterAt_heap wr w.heap.size s k (k + (Utf8.decode s k).2) hit
      have hbw2 := Lib.below_iterAt hbw (k := w.heap.size) (by omega) s (k + (Utf8.decode s k).2)
      have hb := HS.out s[k] (by rw [← List.mem_iff_getElem?.symm]; exact ⟨k, by simp [hp]; rfl⟩)
      have hd : Utf8.decode s k = (s[k].toNat, 1) := decode_ascii s k hp hb
      have Hit := Lib.hid hit
      clear hit hbw
      rw [hd] at hnx hit2 hbw2
      simp only at hnx hit2 hbw2
      clear hd
      generalize s[k] = b at *
      have f1 : ((b.toNat : Int) == 65533) = false := by simp; omega
      go_wp2
      go_roundw
      case rel => exact ⟨k + 1, by omega, hit2, hbw2⟩
      case measure => simp only [World.iterPos, hit2, Hit.out]; omega
    · have hnx : ∀ ty, (Instr.next (.pointer (some ⟨w.heap.size, 0, none⟩)) true ty).run Tryz.prog wr = _ := fun ty => Lib.run_next_end_at wr w.heap.size s k ty hit hp
      go_wp2
      go_ret
      exact ⟨rfl, hbw⟩
theorem indexByte_high {l : List UInt8} {x : UInt8} (hs : ∀ b ∈ l, b.toNat < 128) (hx : 128 ≤ x.toNat) : Lib.indexByte l x = -1 := by
  induction l with
  | nil => rfl
  | cons b l ih =>
    have hb := hs b (by simp)
    show (if b == x then 0 else if Lib.indexByte l x == -1 then -1 else Lib.indexByte l x + 1) = -1
    rw [if_neg (by simp; rintro rfl; omega), ih (fun y hy => hs y (by simp [hy]))]
    rfl
def TgIdxRel (n : Nat) (w : World) (i : Value) (wr : World) : Prop := i = .int .i64 n ∧ Below w.heap.size w wr
set_option maxHeartbeats 1000000 in
set_option maxRecDepth 100000 in
theorem indexRune_other (s : ByteArray) (r : Int) (w : World) (h : 128 ≤ r) (h9 : r ≤ 1114111) (hne : r ≠ 65533) (hs : ∀ b ∈ s.data.toList, b.toNat < 128) (hz : s.size ≤ 1000) :
    Calls Tryz.prog 126 #[.string s, .int .i32 r] w fun e w' => e = .returned (.int .i64 (-1)) ∧ Below w.heap.size w w' := by
  have HS := Lib.hid hs
  clear hs
  have hv := Tryz.utf8_ValidRune r w
  have f1 : (r == 65533) = false := by simpa using hne
  cases hok : Lib.validRune r with
  | false =>
    rw [hok] at hv
    have HV := Lib.hid hv
    clear hv hok hne
    go_enter Tryz.func126, Tryz.ntmps126
    go_wp2_with fail
    refine HV.out.mono ?_
    rintro e w' ⟨rfl, rfl⟩
    go_wp2
    go_ret
    exact ⟨rfl, Below.refl _ _⟩
  | true =>
    rw [hok] at hv
    obtain ⟨n, x, e1, e2, e3, e4⟩ := enc_last r h
    have HV := Lib.hid hv
    have hx : ∀ (w : World), (Instr.index 9 (.string (Utf8.encode r)) (.int .i64 n)).run Tryz.prog w = .ok (.int .u8 x.toNat) w := by
      intro w
      rw [run_index_string _ _ _ _ _ Tryz.underlying9, dif_pos (by omega)]
      have : (Utf8.encode r).data[n]? = some x := e3
      congr 3
      have h2 := (Array.getElem?_eq_some_iff.1 e3).2
      rw [← h2]
      rfl
    clear hv hok hne e3
    go_enter Tryz.func126, Tryz.ntmps126
    go_wp2_with fail
    refine HV.out.mono ?_
    rintro e w' ⟨rfl, rfl⟩
    go_wp2_with fail
    go_step3
    go_wp2_with fail
    generalize Utf8.encode r = R at *
    go_loopw [9] (fun i wr => TgIdxRel n w' i wr) (fun _ wr => 0)
    case atStart => exact ⟨rfl, Below.refl _ _⟩
    case round =>
      obtain ⟨rfl, hbw⟩ := hrel
      by_cases hp : n < s.size
      · have hb := HS.out s[n] (by rw [List.mem_iff_getElem?]; exact ⟨n, by simp [hp]; rfl⟩)
        have f2 : ((s[n].toNat : Int) == x.toNat) = false := by simp; omega
        have hx2 := index_str s n n rfl hp
        have hsl := slice_lo s ((n : Int) + 1) (n + 1) rfl (by omega)
        have hwr : IntKind.i64.wrap ((n : Int) + 1) = (n : Int) + 1 := IntWalk.i64_in _ (by omega)
        have ci := fun w => Tryz.strings_IndexByte (s.extract (n + 1) s.size) x.toNat w
        rw [show Lib.indexByte (s.extract (n + 1) s.size).data.toList (((x.toNat : Int)).toNat.toUInt8) = -1 from by
          rw [show ((x.toNat : Int)).toNat.toUInt8 = x from by simp]
          refine indexByte_high (fun b hb => HS.out b ?_) e4
          rw [drop_ext] at hb
          exact List.mem_of_mem_drop hb] at ci
        have CI := Lib.hid ci
        clear ci hb
        go_wp2_with fail
        go_step3
        go_wp2_with fail
        go_quiet (fail)
        go_wp2_with fail
        go_quiet ((go_at_call 129; exact (CI.out _).mono (fun _ _ h => ⟨h.1, _, h.2⟩)))
        go_wp2_with fail
        simp +zetaDelta only [Exit.noGoto_ret, Exit.inBlock, Exit.then]
        go_ret
        exact ⟨rfl, below_drewN' hbw _⟩
      · go_wp2_with fail
        rw [Exit.noGoto_ret]
        go_ret
        exact ⟨rfl, hbw⟩
theorem containsRune_any (s : ByteArray) (r : Int) (w : World) (h0 : 0 ≤ r) (h9 : r ≤ 1114111) (hs : ∀ b ∈ s.data.toList, b.toNat < 128) (hz : s.size ≤ 1000) :
    Calls Tryz.prog 118 #[.string s, .int .i32 r] w fun e w' => e = .returned (.bool (hasB s.data.toList r)) ∧ Below w.heap.size w w' := by
  by_cases h : r < 128
  · refine (Tryz.strings_ContainsRune_ascii s r w h0 h).mono ?_
    rintro e w' ⟨rfl, rfl⟩
    exact ⟨ret_bool (hasB_index _ _ h0 h), Below.refl _ _⟩
  · have c : Calls Tryz.prog 126 #[.string s, .int .i32 r] w fun e w' => e = .returned (.int .i64 (-1)) ∧ Below w.heap.size w w' := by
      by_cases he : r = 65533
      · subst he
        exact indexRune_error s w hs hz
      · exact indexRune_other s r w (by omega) h9 he hs hz
    have HB := Lib.hid (hasB_high hs (show 128 ≤ r from by omega))
    clear hs h
    go_enter Tryz.func118, Tryz.ntmps118
    go_wp2_with fail
    refine c.mono ?_
    rintro e w' ⟨rfl, b1⟩
    go_wp2
    go_ret
    exact ⟨ret_bool HB.out.symm, b1⟩
theorem str_list (s : ByteArray) : (⟨s.data.toList.toArray⟩ : ByteArray) = s := rfl
def escRet (l : List UInt8) : Value := .tuple #[.string ⟨(escL l).1.toArray⟩, .int .i64 (escL l).2]
theorem escRet_at {s : ByteArray} (h : ¬ (1 < s.data.toList.length ∧ (s.data.toList.getD 0 0).toNat = 92 ∧ asciiB (s.data.toList.getD 1 0).toNat = true)) : escRet s.data.toList = atRet s.data.toList := by
  unfold escRet escL atRet
  rw [if_neg h]
theorem getD_str (s : ByteArray) (k : Nat) (h : k < s.size) : s.data.toList.getD k 0 = s[k] := by
  have : k < s.data.toList.length := by simpa using h
  rw [List.getD_eq_getElem?_getD, List.getElem?_eq_getElem this]
  rfl
set_option maxHeartbeats 1000000 in
theorem escaped_any (s : ByteArray) (w : World) (hn : NamedIs w) (hs : s.size ≤ 70368744177664) :
    Calls Tryz.prog 120 #[.string s] w fun e w' => e = .returned (escRet s.data.toList) ∧ Below w.heap.size w w' := by
  have ca := at_any s w hn hs
  unfold atRet at ca
  have hlen := Lib.hid (show s.data.toList.length = s.size from by simp)
  by_cases h1 : 1 < s.size
  · have g0 := getD_str s 0 (by omega)
    have g1 := getD_str s 1 h1
    have i0 := fun w => index_str s 0 0 rfl (by omega) w
    have i1 := fun w => index_str s 1 1 rfl h1 w
    have sl := fun w => slice_lohi s 1 2 1 2 rfl rfl (by omega) (by omega) w
    by_cases h2 : s[0].toNat = 92
    · have f2 : ((s[0].toNat : Int) == 92) = true := by simp; omega
      have c1 := fun w => ascii_any s[1].toNat w
      cases h3 : asciiB s[1].toNat with
      | true =>
        rw [h3] at c1
        have HR := Lib.hid (show escRet s.data.toList = .tuple #[.string (s.extract 1 2), .int .i64 2] from by
          unfold escRet escL
          rw [if_pos ⟨by rw [hlen.out]; omega, by rw [g0]; exact h2, by rw [g1]; exact h3⟩, g1, ext_bytes, get_list s 1 h1]
          rfl)
        have HN := Lib.hid hn
        have HC := Lib.hid c1
        clear g0 g1 h2 h3 hlen hn c1
        go_enter Tryz.func120, Tryz.ntmps120
        go_wp2_with (go_at_call 127; refine (HC.out _).mono ?_; rintro e w' ⟨rfl, rfl⟩)
        go_ret2
        exact ⟨by rw [HR.out]; rfl, Below.refl _ _⟩
      | false =>
        rw [h3] at c1
        have HR := Lib.hid (escRet_at (s := s) (by rw [g1, h3]; simp))
        have HN := Lib.hid hn
        have HC := Lib.hid c1
        have HA := Lib.hid ca
        clear g0 g1 h2 h3 hlen hn c1 ca
        go_enter Tryz.func120, Tryz.ntmps120
        go_wp2_with (first | (go_at_call 127; refine (HC.out _).mono ?_; rintro e w' ⟨rfl, rfl⟩) | (go_at_call 128; refine HA.out.mono ?_; rintro e w1 ⟨rfl, b1⟩))
        go_ret2
        exact ⟨by rw [HR.out]; rfl, b1⟩
    · have f2 : ((s[0].toNat : Int) == 92) = false := by simp; omega
      have HR := Lib.hid (escRet_at (s := s) (by rw [g0]; simp [h2]))
      have HN := Lib.hid hn
      have HA := Lib.hid ca
      clear g0 g1 h2 hlen hn ca
      go_enter Tryz.func120, Tryz.ntmps120
      go_wp2_with (go_at_call 128; refine HA.out.mono ?_; rintro e w1 ⟨rfl, b1⟩)
      go_ret2
      exact ⟨by rw [HR.out]; rfl, b1⟩
  · have HR := Lib.hid (escRet_at (s := s) (by rw [hlen.out]; simp [h1]))
    have HN := Lib.hid hn
    have HA := Lib.hid ca
    clear hlen hn ca
    go_enter Tryz.func120, Tryz.ntmps120
    go_wp2_with (go_at_call 128; refine HA.out.mono ?_; rintro e w1 ⟨rfl, b1⟩)
    go_ret2
    exact ⟨by rw [HR.out]; rfl, b1⟩

end Go.Proofs.YtioolcnoiaoflaaGreatDoor
