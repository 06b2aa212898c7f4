/- Texts joined: TgtA InB InH InC Byt InD InE BookA Tkp DfA BlkT TgtEp. -/
import Derived.Test.YteihmgcphbijhaaGreatDoorQAB
import Derived.Test.YteihmgcphbijhaaGreatDoorQAI
import Derived.Lib.OthersKept
import Derived.Test.YteihmgcphbijhaaGreatDoorQAF
import Derived.Test.YteihmgcphbijhaaGreatDoorQAA
import Derived.Laws.BytesArg
import Derived.Laws.IdiomStrings
import Derived.Maps.AppendAt
import Derived.RegionTactic
import Derived.Test.YteihmgcphbijhaaGreatDoorQAD
import Derived.Deep.AppendLies
import Derived.Deep.RegionHeld3
import Derived.BigRegion
import Derived.Maps.Range
import Derived.ArgAppend
import Derived.OwnWalk
import Derived.WalkKit
import Derived.BigCall
import Derived.BigQuiet
import Derived.Deep.QuietTactic
import Derived.Lib.Hide
import Derived.Lib.SlTrimSet
import Derived.Lib.Bytealg
import Derived.Lib.Strings
namespace Go.Proofs.YteihmgcphbijhaaGreatDoor
open Go.RowKit
set_option linter.unusedSimpArgs false
set_option linter.unusedVariables false
theorem tgHidden_any (r : Int) (w : World) :
    Calls Tryz.prog 178 #[.int .i32 r] w fun e w' => e = .returned (.bool (tgHid r)) ∧ w = w' := by
  by_cases h1 : r ≤ 32
  · go_enter Tryz.func178, Tryz.ntmps178
    go_wp2
    go_ret
    exact ⟨ret_bool (by simp [tgHid, h1]), rfl⟩
  · go_enter Tryz.func178, Tryz.ntmps178
    go_wp2
    go_ret
    exact ⟨ret_bool (by
      have : decide (r ≤ 32) = false := by simpa using h1
      simp only [tgHid, this, Bool.false_or]), rfl⟩
theorem index_str (s : ByteArray) (i : Int) (k : Nat) (e : i = k) (h : k < s.size) (w : World) :
    (Instr.index 9 (.string s) (.int .i64 i)).run Tryz.prog w = .ok (.int .u8 s[k].toNat) w := by
  subst e
  rw [run_index_string _ _ _ _ _ Tryz.underlying9, dif_pos (by omega)]
  rfl
theorem hasB_index (l : List UInt8) (r : Int) (h0 : 0 ≤ r) (h1 : r < 128) : decide (0 ≤ Lib.indexByte l r.toNat.toUInt8) = hasB l r := by
  have hr : (r.toNat.toUInt8).toNat = r.toNat := by simp; omega
  generalize r.toNat.toUInt8 = c at *
  induction l with
  | nil => rfl
  | cons b l ih =>
    have hg := Lib.indexByte_ge l c
    have hbc : (b == c) = ((b.toNat : Int) == r) := by
      rw [Bool.eq_iff_iff, beq_iff_eq, beq_iff_eq]
      constructor
      · rintro rfl; omega
      · intro e; exact UInt8.toNat_inj.1 (by omega)
    show decide (0 ≤ if b == c then 0 else if Lib.indexByte l c == -1 then -1 else Lib.indexByte l c + 1) = ((b.toNat : Int) == r || hasB l r)
    rw [← ih, hbc]
    by_cases h1 : ((b.toNat : Int) == r) = true
    · rw [if_pos h1, h1]; rfl
    · rw [if_neg h1, Bool.eq_false_iff.2 h1, Bool.false_or]
      congr 1
      by_cases h2 : Lib.indexByte l c = -1
      · simp [h2]
      · rw [if_neg (by simpa using h2)]
        apply propext
        omega
theorem hasB_high {l : List UInt8} {r : Int} (hs : ∀ b ∈ l, b.toNat < 128) (h : 128 ≤ r) : hasB l r = false := by
  unfold hasB
  rw [List.any_eq_false]
  intro b hb
  have := hs b hb
  simp; omega
theorem enc_last (r : Int) (h : 128 ≤ r) : ∃ (n : Nat) (x : UInt8), (Utf8.encode r).size = n + 1 ∧ n ≤ 3 ∧ (Utf8.encode r).data[n]? = some x ∧ 128 ≤ x.toNat := by
  have tail : ∀ m : Nat, 128 ≤ (UInt8.ofNat (128 + m % 64)).toNat := by
    intro m
    rw [UInt8.toNat_ofNat']
    omega
  unfold Utf8.encode
  dsimp only
  generalize hc : (if Utf8.valid r then r.toNat else Utf8.runeError) = c
  have h1 : 128 ≤ c := by
    rw [← hc]
    split
    · omega
    · decide
  rw [if_neg (by omega)]
  split
  · exact ⟨1, _, rfl, by omega, rfl, tail _⟩
  · split
    · exact ⟨2, _, rfl, by omega, rfl, tail _⟩
    · exact ⟨3, _, rfl, by omega, rfl, tail _⟩
def RuRel (s : ByteArray) (w : World) (I : Nat) (wr : World) : Prop :=
  ∃ k : Nat, k ≤ s.size ∧ wr.heap[I]? = some (.stringIter s k) ∧ Below w.heap.size w wr
set_option maxHeartbeats 1000000 in
set_option maxRecDepth 100000 in
theorem indexRune_error (s : ByteArray) (w : World) (hs : ∀ b ∈ s.data.toList, b.toNat < 128) (hz : s.size ≤ 1000) :
    Calls Tryz.prog 165 #[.string s, .int .i32 65533] w fun e w' => e = .returned (.int .i64 (-1)) ∧ Below w.heap.size w w' := by
  have HS := Lib.hid hs
  clear hs
  go_enter Tryz.func165, Tryz.ntmps165
  go_wp2_with fail
  go_loopw [] (fun wr => RuRel s w w.heap.size wr) (fun wr => s.size - wr.iterPos w.heap.size)
  case atStart => exact ⟨0, Nat.zero_le _, World.iter_heap w s 0, (Below.refl _ w).alloc (Nat.le_refl _) _⟩
  case round =>
    obtain ⟨k, hk, hit, hbw⟩ := hrel
    by_cases hp : k < s.size
    · have hnx : ∀ ty, (Instr.next (.pointer (some ⟨w.heap.size, 0, none⟩)) true ty).run Tryz.prog wr = _ := fun ty => Lib.run_next_any_at wr w.heap.size s k ty hit hp
      have hit2 := Lib.iterAt_heap wr w.heap.size s k (k + (Utf8.decode s k).2) hit
      have hbw2 := Lib.below_iterAt hbw (k := w.heap.size) (by omega) s (k + (Utf8.decode s k).2)
      have hb := HS.out s[k] (by rw [← List.mem_iff_getElem?.symm]; exact ⟨k, by simp [hp]; rfl⟩)
      have hd : Utf8.decode s k = (s[k].toNat, 1) := decode_ascii s k hp hb
      have Hit := Lib.hid hit
      clear hit hbw
      rw [hd] at hnx hit2 hbw2
      simp only at hnx hit2 hbw2
      clear hd
      generalize s[k] = b at *
      have f1 : ((b.toNat : Int) == 65533) = false := by simp; omega
      go_wp2
      go_roundw
      case rel => exact ⟨k + 1, by omega, hit2, hbw2⟩
      case measure => simp only [World.iterPos, hit2, Hit.out]; omega
    · have hnx : ∀ ty, (Instr.next (.pointer (some ⟨w.heap.size, 0, none⟩)) true ty).run Tryz.prog wr = _ := fun ty => Lib.run_next_end_at wr w.heap.size s k ty hit hp
      go_wp2
      go_ret
      exact ⟨rfl, hbw⟩
theorem indexByte_high {l : List UInt8} {x : UInt8} (hs : ∀ b ∈ l, b.toNat < 128) (hx : 128 ≤ x.toNat) : Lib.indexByte l x = -1 := by
  induction l with
  | nil => rfl
  | cons b l ih =>
    have hb := hs b (by simp)
    show (if b == x then 0 else if Lib.indexByte l x == -1 then -1 else Lib.indexByte l x + 1) = -1
    rw [if_neg (by simp; rintro rfl; omega), ih (fun y hy => hs y (by simp [hy]))]
    rfl
def TgIdxRel (n : Nat) (w : World) (i : Value) (wr : World) : Prop := i = .int .i64 n ∧ Below w.heap.size w wr
set_option maxHeartbeats 1000000 in
set_option maxRecDepth 100000 in
theorem indexRune_other (s : ByteArray) (r : Int) (w : World) (h : 128 ≤ r) (h9 : r ≤ 1114111) (hne : r ≠ 65533) (hs : ∀ b ∈ s.data.toList, b.toNat < 128) (hz : s.size ≤ 1000) :
    Calls Tryz.prog 165 #[.string s, .int .i32 r] w fun e w' => e = .returned (.int .i64 (-1)) ∧ Below w.heap.size w w' := by
  have HS := Lib.hid hs
  clear hs
  have hv := Tryz.utf8_ValidRune r w
  have f1 : (r == 65533) = false := by simpa using hne
  cases hok : Lib.validRune r with
  | false =>
    rw [hok] at hv
    have HV := Lib.hid hv
    clear hv hok hne
    go_enter Tryz.func165, Tryz.ntmps165
    go_wp2_with fail
    refine HV.out.mono ?_
    rintro e w' ⟨rfl, rfl⟩
    go_wp2
    go_ret
    exact ⟨rfl, Below.refl _ _⟩
  | true =>
    rw [hok] at hv
    obtain ⟨n, x, e1, e2, e3, e4⟩ := enc_last r h
    have HV := Lib.hid hv
    have hx : ∀ (w : World), (Instr.index 9 (.string (Utf8.encode r)) (.int .i64 n)).run Tryz.prog w = .ok (.int .u8 x.toNat) w := by
      intro w
      rw [run_index_string _ _ _ _ _ Tryz.underlying9, dif_pos (by omega)]
      have : (Utf8.encode r).data[n]? = some x := e3
      congr 3
      have h2 := (Array.getElem?_eq_some_iff.1 e3).2
      rw [← h2]
      rfl
    clear hv hok hne e3
    go_enter Tryz.func165, Tryz.ntmps165
    go_wp2_with fail
    refine HV.out.mono ?_
    rintro e w' ⟨rfl, rfl⟩
    go_wp2_with fail
    go_step3
    go_wp2_with fail
    generalize Utf8.encode r = R at *
    go_loopw [9] (fun i wr => TgIdxRel n w' i wr) (fun _ wr => 0)
    case atStart => exact ⟨rfl, Below.refl _ _⟩
    case round =>
      obtain ⟨rfl, hbw⟩ := hrel
      by_cases hp : n < s.size
      · have hb := HS.out s[n] (by rw [List.mem_iff_getElem?]; exact ⟨n, by simp [hp]; rfl⟩)
        have f2 : ((s[n].toNat : Int) == x.toNat) = false := by simp; omega
        have hx2 := index_str s n n rfl hp
        have hsl := slice_lo s ((n : Int) + 1) (n + 1) rfl (by omega)
        have hwr : IntKind.i64.wrap ((n : Int) + 1) = (n : Int) + 1 := IntWalk.i64_in _ (by omega)
        have ci := fun w => Tryz.strings_IndexByte (s.extract (n + 1) s.size) x.toNat w
        rw [show Lib.indexByte (s.extract (n + 1) s.size).data.toList (((x.toNat : Int)).toNat.toUInt8) = -1 from by
          rw [show ((x.toNat : Int)).toNat.toUInt8 = x from by simp]
          refine indexByte_high (fun b hb => HS.out b ?_) e4
          rw [drop_ext] at hb
          exact List.mem_of_mem_drop hb] at ci
        have CI := Lib.hid ci
        clear ci hb
        go_wp2_with fail
        go_step3
        go_wp2_with fail
        go_quiet (fail)
        go_wp2_with fail
        go_quiet ((go_at_call 78; exact (CI.out _).mono (fun _ _ h => ⟨h.1, _, h.2⟩)))
        go_wp2_with fail
        simp +zetaDelta only [Exit.noGoto_ret, Exit.inBlock, Exit.then]
        go_ret
        exact ⟨rfl, below_drewN' hbw _⟩
      · go_wp2_with fail
        rw [Exit.noGoto_ret]
        go_ret
        exact ⟨rfl, hbw⟩
theorem containsRune_any (s : ByteArray) (r : Int) (w : World) (h0 : 0 ≤ r) (h9 : r ≤ 1114111) (hs : ∀ b ∈ s.data.toList, b.toNat < 128) (hz : s.size ≤ 1000) :
    Calls Tryz.prog 177 #[.string s, .int .i32 r] w fun e w' => e = .returned (.bool (hasB s.data.toList r)) ∧ Below w.heap.size w w' := by
  by_cases h : r < 128
  · refine (Tryz.strings_ContainsRune_ascii s r w h0 h).mono ?_
    rintro e w' ⟨rfl, rfl⟩
    exact ⟨ret_bool (hasB_index _ _ h0 h), Below.refl _ _⟩
  · have c : Calls Tryz.prog 165 #[.string s, .int .i32 r] w fun e w' => e = .returned (.int .i64 (-1)) ∧ Below w.heap.size w w' := by
      by_cases he : r = 65533
      · subst he
        exact indexRune_error s w hs hz
      · exact indexRune_other s r w (by omega) h9 he hs hz
    have HB := Lib.hid (hasB_high hs (show 128 ≤ r from by omega))
    clear hs h
    go_enter Tryz.func177, Tryz.ntmps177
    go_wp2_with fail
    refine c.mono ?_
    rintro e w' ⟨rfl, b1⟩
    go_wp2
    go_ret
    exact ⟨ret_bool HB.out.symm, b1⟩
def escRet (l : List UInt8) : Value := .tuple #[.string ⟨(escL l).1.toArray⟩, .int .i64 (escL l).2]
theorem escRet_at {s : ByteArray} (h : ¬ (1 < s.data.toList.length ∧ (s.data.toList.getD 0 0).toNat = 92 ∧ asciiB (s.data.toList.getD 1 0).toNat = true)) : escRet s.data.toList = atRet s.data.toList := by
  unfold escRet escL atRet
  rw [if_neg h]
theorem getD_str (s : ByteArray) (k : Nat) (h : k < s.size) : s.data.toList.getD k 0 = s[k] := by
  have : k < s.data.toList.length := by simpa using h
  rw [List.getD_eq_getElem?_getD, List.getElem?_eq_getElem this]
  rfl
set_option maxHeartbeats 1000000 in
theorem escaped_any (s : ByteArray) (w : World) (hn : NamedIs w) (hs : s.size ≤ 70368744177664) :
    Calls Tryz.prog 179 #[.string s] w fun e w' => e = .returned (escRet s.data.toList) ∧ Below w.heap.size w w' := by
  have ca := at_any s w hn hs
  unfold atRet at ca
  have hlen := Lib.hid (show s.data.toList.length = s.size from by simp)
  by_cases h1 : 1 < s.size
  · have g0 := getD_str s 0 (by omega)
    have g1 := getD_str s 1 h1
    have i0 := fun w => index_str s 0 0 rfl (by omega) w
    have i1 := fun w => index_str s 1 1 rfl h1 w
    have sl := fun w => slice_lohi s 1 2 1 2 rfl rfl (by omega) (by omega) w
    by_cases h2 : s[0].toNat = 92
    · have f2 : ((s[0].toNat : Int) == 92) = true := by simp; omega
      have c1 := fun w => ascii_any s[1].toNat w
      cases h3 : asciiB s[1].toNat with
      | true =>
        rw [h3] at c1
        have HR := Lib.hid (show escRet s.data.toList = .tuple #[.string (s.extract 1 2), .int .i64 2] from by
          unfold escRet escL
          rw [if_pos ⟨by rw [hlen.out]; omega, by rw [g0]; exact h2, by rw [g1]; exact h3⟩, g1, ext_bytes, get_list s 1 h1]
          rfl)
        have HN := Lib.hid hn
        have HC := Lib.hid c1
        clear g0 g1 h2 h3 hlen hn c1
        go_enter Tryz.func179, Tryz.ntmps179
        go_wp2_with (go_at_call 67; refine (HC.out _).mono ?_; rintro e w' ⟨rfl, rfl⟩)
        go_ret2
        exact ⟨by rw [HR.out]; rfl, Below.refl _ _⟩
      | false =>
        rw [h3] at c1
        have HR := Lib.hid (escRet_at (s := s) (by rw [g1, h3]; simp))
        have HN := Lib.hid hn
        have HC := Lib.hid c1
        have HA := Lib.hid ca
        clear g0 g1 h2 h3 hlen hn c1 ca
        go_enter Tryz.func179, Tryz.ntmps179
        go_wp2_with (first | (go_at_call 67; refine (HC.out _).mono ?_; rintro e w' ⟨rfl, rfl⟩) | (go_at_call 68; refine HA.out.mono ?_; rintro e w1 ⟨rfl, b1⟩))
        go_ret2
        exact ⟨by rw [HR.out]; rfl, b1⟩
    · have f2 : ((s[0].toNat : Int) == 92) = false := by simp; omega
      have HR := Lib.hid (escRet_at (s := s) (by rw [g0]; simp [h2]))
      have HN := Lib.hid hn
      have HA := Lib.hid ca
      clear g0 g1 h2 hlen hn ca
      go_enter Tryz.func179, Tryz.ntmps179
      go_wp2_with (go_at_call 68; refine HA.out.mono ?_; rintro e w1 ⟨rfl, b1⟩)
      go_ret2
      exact ⟨by rw [HR.out]; rfl, b1⟩
  · have HR := Lib.hid (escRet_at (s := s) (by rw [hlen.out]; simp [h1]))
    have HN := Lib.hid hn
    have HA := Lib.hid ca
    clear hlen hn ca
    go_enter Tryz.func179, Tryz.ntmps179
    go_wp2_with (go_at_call 68; refine HA.out.mono ?_; rintro e w1 ⟨rfl, b1⟩)
    go_ret2
    exact ⟨by rw [HR.out]; rfl, b1⟩
end Go.Proofs.YteihmgcphbijhaaGreatDoor

namespace Go.Proofs.YteihmgcphbijhaaGreatDoor
open Go.RowKit
set_option linter.unusedSimpArgs false
set_option linter.unusedVariables false
set_option maxRecDepth 100000
def anchP (r : Nat) : Bool := !(decide (97 ≤ r) && decide (r ≤ 122) || decide (48 ≤ r) && decide (r ≤ 57) || r == 45)
theorem anchP_byte (b : UInt8) : anchP b.toNat = !anchorB b := by
  unfold anchP anchorB inR
  congr 1
  congr 1
  · congr 1
    · congr 1 <;> exact decide_eq_decide.2 (by omega)
    · congr 1 <;> exact decide_eq_decide.2 (by omega)
  · rw [Bool.eq_iff_iff]
    simp only [beq_iff_eq]
    constructor
    · intro h; exact UInt8.toNat_inj.1 h
    · intro h; rw [h]; rfl
theorem anch1_any (x : Nat) (w : World) : Calls Tryz.prog 137 #[.int .i32 x] w fun e w' => e = .returned (.bool (anchP x)) ∧ ∃ q, w' = w.drewN q := by
  unfold anchP
  by_cases h1 : 97 ≤ x
  · have g1 : decide ((97 : Int) ≤ x) = true := by simp; omega
    by_cases h2 : x ≤ 122
    · have g2 : decide ((x : Int) ≤ 122) = true := by simp; omega
      go_enter Tryz.func137, Tryz.ntmps137
      go_wp2
      go_ret
      exact ⟨ret_bool (by simp [h1, h2]), 0, rfl⟩
    · have g2 : decide ((x : Int) ≤ 122) = false := by simp; omega
      have g3 : decide ((48 : Int) ≤ x) = true := by simp; omega
      have g4 : decide ((x : Int) ≤ 57) = false := by simp; omega
      have g5 : ((x : Int) == 45) = false := by simp; omega
      go_enter Tryz.func137, Tryz.ntmps137
      go_wp2
      go_ret
      exact ⟨ret_bool (by simp [h2]; omega), 0, rfl⟩
  · have g1 : decide ((97 : Int) ≤ x) = false := by simp; omega
    by_cases h3 : 48 ≤ x
    · have g3 : decide ((48 : Int) ≤ x) = true := by simp; omega
      by_cases h4 : x ≤ 57
      · have g4 : decide ((x : Int) ≤ 57) = true := by simp; omega
        go_enter Tryz.func137, Tryz.ntmps137
        go_wp2
        go_ret
        exact ⟨ret_bool (by simp [h3, h4]), 0, rfl⟩
      · have g4 : decide ((x : Int) ≤ 57) = false := by simp; omega
        have g5 : ((x : Int) == 45) = false := by simp; omega
        go_enter Tryz.func137, Tryz.ntmps137
        go_wp2
        go_ret
        exact ⟨ret_bool (by simp [h1, h4]; omega), 0, rfl⟩
    · have g3 : decide ((48 : Int) ≤ x) = false := by simp; omega
      by_cases h5 : x = 45
      · subst h5
        go_enter Tryz.func137, Tryz.ntmps137
        go_wp2
        go_ret
        exact ⟨rfl, 0, rfl⟩
      · have g5 : ((x : Int) == 45) = false := by simp; omega
        go_enter Tryz.func137, Tryz.ntmps137
        go_wp2
        go_ret
        exact ⟨ret_bool (by simp [h1, h3, h5]), 0, rfl⟩
theorem anch_from (s : ByteArray) : ∀ (f pos : Nat), s.size ≤ pos + f → (decide (Lib.idxFuncFrom anchP true s f pos < 0)) = (s.data.toList.drop pos).all anchorB
  | 0, pos, h => by
    rw [List.drop_eq_nil_of_le (by simp; omega)]
    rfl
  | f + 1, pos, h => by
    unfold Lib.idxFuncFrom
    by_cases hp : pos < s.size
    · rw [if_pos hp, get_list s pos hp, List.all_cons]
      by_cases ha : s[pos].toNat < 128
      · have hd : Utf8.decode s pos = (s[pos].toNat, 1) := decode_ascii s pos hp ha
        rw [hd]
        simp only
        rw [anchP_byte]
        cases hb : anchorB s[pos] with
        | true =>
          rw [if_neg (by simp), anch_from s f (pos + 1) (by omega)]
          simp
        | false =>
          rw [if_pos (by simp)]
          simp
      · obtain ⟨h1, h2⟩ := decode_high s pos hp (by omega)
        have e : anchP (Utf8.decode s pos).1 = true := by
          unfold anchP
          simp
          omega
        have e2 : anchorB s[pos] = false := by
          rw [← Bool.not_eq_true']
          rw [← anchP_byte]
          unfold anchP
          simp
          omega
        rw [if_pos e, e2]
        simp
    · rw [if_neg hp, List.drop_eq_nil_of_le (by simp; omega)]
      rfl
theorem anchor_any (s : ByteArray) (w : World) : Calls Tryz.prog 111 #[.string s] w fun e w' => e = .returned (.bool (anchorL s.data.toList)) ∧ Below w.heap.size w w' := by
  have ci := Tryz.strings_IndexFunc 137 #[] (fun _ _ => by kernel_rfl) anchP s w (fun W x _ => anch1_any x W)
  have hfr := anch_from s s.size 0 (by omega)
  rw [List.drop_zero] at hfr
  unfold Lib.idxFunc at ci
  generalize Lib.idxFuncFrom anchP true s s.size 0 = r at *
  have HF := Lib.hid hfr
  clear hfr
  go_enter Tryz.func111, Tryz.ntmps111
  go_wp2_with fail
  refine ci.mono ?_
  rintro e w1 ⟨rfl, b1⟩
  by_cases h0 : s.data.toList = []
  · have he : s.toList.isEmpty = true := by rw [ByteArray.toList_eq, h0]; rfl
    go_wp2
    all_goals go_ret
    all_goals exact ⟨ret_bool (by unfold anchorL; rw [h0]; rfl), b1⟩
  · have he : s.toList.isEmpty = false := by rw [ByteArray.toList_eq]; cases h : s.data.toList with | nil => exact absurd h h0 | cons a b => rfl
    have h1 : s.data.toList.isEmpty = false := by rw [← ByteArray.toList_eq]; exact he
    go_wp2
    all_goals go_ret
    all_goals exact ⟨ret_bool (by unfold anchorL; rw [h1, ← HF.out]; simp_all), b1⟩
def ch3 : ByteArray := ⟨#[91, 93, 0]⟩
theorem noBr_is (b : UInt8) : ([91, 93, 0] : List UInt8).contains b = !noBr b := by
  unfold noBr
  simp
  cases h1 : (b == 91) <;> cases h2 : (b == 93) <;> cases h3 : (b == 0) <;> simp_all
theorem idx3 (l : List UInt8) : Lib.indexAny l [91, 93, 0] = if l.all noBr then -1 else ((l.takeWhile noBr).length : Int) := by
  induction l with
  | nil => rfl
  | cons b l ih =>
    unfold Lib.indexAny
    rw [noBr_is, List.all_cons]
    cases hb : noBr b with
    | true =>
      rw [ih, List.takeWhile_cons, hb]
      cases ha : l.all noBr with
      | true => simp
      | false => simp
    | false =>
      rw [List.takeWhile_cons, hb]
      simp
theorem ch3_ascii : ∀ b ∈ ch3.data.toList, b.toNat < 128 := by decide
/-- Which of the signs a rune is: none, if it is no byte. -/
theorem idxRune3 (r : Int) (w : World) (h : 128 ≤ r) (h9 : r ≤ 1114111) : Calls Tryz.prog 165 #[.string ch3, .int .i32 r] w fun e w' => e = .returned (.int .i64 (-1)) ∧ Below w.heap.size w w' := by
  by_cases he : r = 65533
  · rw [he]; exact indexRune_error ch3 w ch3_ascii (by decide)
  · exact indexRune_other ch3 r w h h9 he ch3_ascii (by decide)
def ixF (m : List UInt8) (k : Nat) : Int := if m.all noBr then -1 else (k : Int) + ((m.takeWhile noBr).length : Nat)
theorem ixF_zero (l : List UInt8) : Lib.indexAny l [91, 93, 0] = ixF l 0 := by
  rw [idx3]
  unfold ixF
  split <;> simp
theorem ixF_nil (k : Nat) : ixF [] k = -1 := rfl
theorem ixF_no {b : UInt8} (m : List UInt8) (k : Nat) (h : noBr b = true) : ixF (b :: m) k = ixF m (k + 1) := by
  unfold ixF
  rw [List.all_cons, h, List.takeWhile_cons, h]
  simp only [Bool.true_and, if_true, List.length_cons]
  split
  · rfl
  · omega
theorem ixF_yes {b : UInt8} (m : List UInt8) (k : Nat) (h : noBr b = false) : ixF (b :: m) k = k := by
  unfold ixF
  rw [List.all_cons, h, List.takeWhile_cons, h]
  simp
theorem ixF_many (r : List UInt8) : ∀ (m : List UInt8) (k : Nat), (∀ b ∈ m, noBr b = true) → ixF (m ++ r) k = ixF r (k + m.length)
  | [], k, _ => by simp
  | b :: m, k, h => by
    rw [List.cons_append, ixF_no _ _ (h b (List.mem_cons_self ..)), ixF_many r m (k + 1) fun x hx => h x (List.mem_cons_of_mem _ hx), List.length_cons]
    congr 1
    omega
theorem noBr_high {b : UInt8} (h : 128 ≤ b.toNat) : noBr b = true := by
  cases hb : noBr b with
  | true => rfl
  | false =>
    have h1 : ([91, 93, 0] : List UInt8).contains b = true := by rw [noBr_is, hb]; rfl
    simp at h1
    rcases h1 with rfl | rfl | rfl <;> revert h <;> decide
theorem ib3 (b : UInt8) : decide (0 ≤ Lib.indexByte [91, 93, 0] b) = !noBr b := by
  unfold noBr
  simp only [Lib.indexByte]
  by_cases h1 : b = 91
  · subst h1; rfl
  · by_cases h2 : b = 93
    · subst h2; rfl
    · by_cases h3 : b = 0
      · subst h3; rfl
      · have e1 : ((91 : UInt8) == b) = false := by simpa using fun e => h1 e.symm
        have e2 : ((93 : UInt8) == b) = false := by simpa using fun e => h2 e.symm
        have e3 : ((0 : UInt8) == b) = false := by simpa using fun e => h3 e.symm
        simp [e1, e2, e3, h1, h2, h3]
theorem should_any (n : Int) (w : World) : Calls Tryz.prog 166 #[.int .i64 n] w fun e w' => e = .returned (.bool (decide (8 < n))) ∧ w' = w := by
  go_enter Tryz.func166, Tryz.ntmps166
  go_wp2
  go_ret
  exact ⟨rfl, rfl⟩
set_option maxHeartbeats 2000000 in
theorem indexAny3_any (s : ByteArray) (w : World) (hs : s.size ≤ 4000000000) :
    Calls Tryz.prog 144 #[.string s, .string ⟨#[91, 93, 0]⟩] w fun e w' => e = .returned (.int .i64 (Lib.indexAny s.data.toList [91, 93, 0])) ∧ Below w.heap.size w w' := by
  by_cases h8 : 8 < s.size
  · refine (Tryz.strings_IndexAny_long (fun w => by kernel_rfl) s ch3 w (by decide) h8 (by omega) (by decide) (fun j b hb => ch3_ascii b (List.mem_of_getElem? hb))).mono ?_
    rintro e w' ⟨rfl, rfl⟩
    exact ⟨rfl, ((Below.refl _ w).alloc (Nat.le_refl _) _).alloc (by simp) _⟩
  · have h8b : decide (8 < (s.size : Int)) = false := by simp; omega
    have cs := should_any (s.size : Int) w
    rw [h8b] at cs
    have cr := fun (r : Int) (W : World) (h : 128 ≤ r) (h9 : r ≤ 1114111) => idxRune3 r W h h9
    have ca := fun (r : Int) (W : World) (h0 : 0 ≤ r) (h1 : r < 128) => Tryz.strings_IndexRune_ascii ch3 r W h0 h1
    unfold ch3 at cr ca
    rw [ixF_zero]
    generalize hL : ixF s.data.toList 0 = L
    have HL := Lib.hid hL
    clear hL
    go_enter Tryz.func144, Tryz.ntmps144
    go_wp2_with fail
    refine cs.mono ?_
    rintro e w1 ⟨rfl, rfl⟩
    clear cs
    go_wp2_with fail
    go_loopw [9, 10] (fun iv cv wr => ∃ k : Nat, k ≤ s.size ∧ wr.heap[w1.heap.size]? = some (.stringIter s k) ∧ Below w1.heap.size w1 wr ∧ ixF (s.data.toList.drop k) k = L) (fun _ _ wr => s.size - wr.iterPos w1.heap.size)
    case atStart => exact ⟨0, Nat.zero_le _, World.iter_heap w1 s 0, (Below.refl _ w1).alloc (Nat.le_refl _) _, by rw [List.drop_zero]; exact HL.out⟩
    case round =>
      obtain ⟨k, hk, hit, hbw, hst⟩ := hrel
      by_cases hp : k < s.size
      · have hnx : ∀ ty, (Instr.next (.pointer (some ⟨w1.heap.size, 0, none⟩)) true ty).run Tryz.prog wr = _ := fun ty => Lib.run_next_any_at wr w1.heap.size s k ty hit hp
        have hit2 := Lib.iterAt_heap wr w1.heap.size s k (k + (Utf8.decode s k).2) hit
        have hbw2 := Lib.below_iterAt hbw (k := w1.heap.size) (by omega) s (k + (Utf8.decode s k).2)
        have Hit := Lib.hid hit
        clear hit hbw
        by_cases ha : s[k].toNat < 128
        · have hd : Utf8.decode s k = (s[k].toNat, 1) := decode_ascii s k hp ha
          rw [hd] at hnx hit2 hbw2
          simp only at hnx hit2 hbw2
          clear hd
          rw [get_list s k hp] at hst
          generalize s[k] = b at *
          have cb := fun W => ca b.toNat W (by omega) (by omega)
          rw [show ((b.toNat : Int)).toNat.toUInt8 = b from by simp] at cb
          have hib := ib3 b
          generalize hz : Lib.indexByte _ b = z at cb
          rw [show Lib.indexByte ([91, 93, 0] : List UInt8) b = z from hz] at hib
          clear hz
          cases hb : noBr b with
          | true =>
            rw [ixF_no _ _ hb] at hst
            rw [hb] at hib
            have hz0 : decide (0 ≤ z) = false := hib
            have HS := Lib.hid hst
            clear hst hb hib ca cr
            go_wp2_with (go_at_call 165; refine (cb _).mono ?_; rintro e w' ⟨rfl, rfl⟩)
            go_roundw
            case rel => exact ⟨k + 1, by omega, hit2, hbw2, HS.out⟩
            case measure => simp only [World.iterPos, hit2, Hit.out]; omega
          | false =>
            rw [ixF_yes _ _ hb] at hst
            rw [hb] at hib
            have hz0 : decide (0 ≤ z) = true := hib
            have HS := Lib.hid hst
            clear hst hb hib ca cr
            go_wp2_with (go_at_call 165; refine (cb _).mono ?_; rintro e w' ⟨rfl, rfl⟩)
            go_ret
            exact ⟨by rw [HS.out]; rfl, hbw2⟩
        · obtain ⟨d1, d2, d3, m, hm1, hm2, hm3⟩ := rune_high s k hp (by omega)
          have hd9 := decode_max s k
          rw [hm1, ixF_many _ m k (fun b hb => noBr_high (hm3 b hb)), hm2] at hst
          have HS := Lib.hid hst
          have cb := fun W => cr (Utf8.decode s k).1 W (by omega) (by omega)
          clear hm1 hm2 hm3 ha hst ca cr
          generalize (Utf8.decode s k).1 = r at *
          generalize (Utf8.decode s k).2 = d at *
          go_wp2_with fail
          refine (cb _).mono ?_
          rintro e w5 ⟨rfl, b5⟩
          have hit5 := (b5.block _ (Array.getElem?_eq_some_iff.1 hit2).1).trans hit2
          go_wp2
          go_roundw
          case rel => exact ⟨k + d, by omega, hit5, hbw2.then b5, HS.out⟩
          case measure => simp only [World.iterPos, hit5, Hit.out]; omega
      · obtain rfl : k = s.size := by omega
        rw [List.drop_eq_nil_of_le (by simp), ixF_nil] at hst
        have hnx : ∀ ty, (Instr.next (.pointer (some ⟨w1.heap.size, 0, none⟩)) true ty).run Tryz.prog wr = _ := fun ty => Lib.run_next_end_at wr w1.heap.size s s.size ty hit (by omega)
        have HS := Lib.hid hst
        clear hst
        go_wp2
        go_ret
        exact ⟨by rw [← HS.out]; rfl, hbw⟩
def brL (l : List UInt8) : List UInt8 × Nat := match pairL l with | some x => x | none => ([], 0)
theorem brL_no {l : List UInt8} (h : Lib.hasPrefix l [91] = false) : brL l = ([], 0) := by unfold brL pairL; simp [h]
theorem all_takeWhile {m : List UInt8} (h : m.all noBr = true) : m.dropWhile noBr = [] := by
  induction m with
  | nil => rfl
  | cons b m ih =>
    rw [List.all_cons, Bool.and_eq_true] at h
    rw [List.dropWhile_cons, if_pos h.1]
    exact ih h.2
theorem brL_all {l : List UInt8} (h : (l.drop 1).all noBr = true) : brL l = ([], 0) := by
  unfold brL pairL
  rw [all_takeWhile h]
  simp [Lib.hasPrefix]
theorem drop_tw (m : List UInt8) : m.drop (m.takeWhile noBr).length = m.dropWhile noBr := by
  conv => lhs; arg 2; rw [← List.takeWhile_append_dropWhile (p := noBr) (l := m)]
  rw [List.drop_left' rfl]
theorem take_tw (m : List UInt8) : m.take (m.takeWhile noBr).length = m.takeWhile noBr := by
  conv => lhs; arg 2; rw [← List.takeWhile_append_dropWhile (p := noBr) (l := m)]
  rw [List.take_left' rfl]
set_option maxHeartbeats 2000000 in
theorem bracket_any (s : ByteArray) (w : World) (hs : s.size ≤ 4000000000) :
    Calls Tryz.prog 114 #[.string s] w fun e w' => e = .returned (.tuple #[.string ⟨(brL s.data.toList).1.toArray⟩, .int .i64 (brL s.data.toList).2]) ∧ Below w.heap.size w w' := by
  have cc := Tryz.strings_CutPrefix s ⟨#[91]⟩ w
  rw [show (⟨#[91]⟩ : ByteArray).data.toList = [91] from rfl] at cc
  by_cases hp : Lib.hasPrefix s.data.toList [91] = true
  · rw [hp] at cc
    have hlen : (s.data.toList.drop 1).length ≤ 4000000000 := by simp; omega
    have htr : Lib.trimPrefix s.data.toList [91] = s.data.toList.drop 1 := by unfold Lib.trimPrefix; simp [hp]
    rw [htr] at cc
    have hbr : brL s.data.toList = if (s.data.toList.drop 1).all noBr then ([], 0) else if Lib.hasPrefix ((s.data.toList.drop 1).dropWhile noBr) [93] then ((s.data.toList.drop 1).takeWhile noBr, ((s.data.toList.drop 1).takeWhile noBr).length + 2) else ([], 0) := by
      split
      · next h => exact brL_all h
      · unfold brL pairL
        rw [hp]
        simp only [Bool.true_and]
        cases Lib.hasPrefix ((s.data.toList.drop 1).dropWhile noBr) [93] <;> rfl
    rw [hbr]
    clear hbr htr hp
    generalize s.data.toList.drop 1 = M at *
    have ci := fun W => indexAny3_any ⟨M.toArray⟩ W (by show M.length ≤ _; omega)
    rw [show (⟨M.toArray⟩ : ByteArray).data.toList = M from rfl, idx3] at ci
    by_cases ha : M.all noBr = true
    · rw [if_pos ha] at ci
      rw [if_pos ha]
      clear ha
      go_enter Tryz.func114, Tryz.ntmps114
      go_wp2_with fail
      refine cc.mono ?_
      rintro e w1 ⟨rfl, rfl⟩
      go_wp2_with fail
      refine (ci _).mono ?_
      rintro e w2 ⟨rfl, b2⟩
      go_wp2
      go_ret2
      exact ⟨rfl, b2⟩
    · rw [if_neg ha] at ci
      rw [if_neg ha]
      have hsl := fun W => slice_lo ⟨M.toArray⟩ ((M.takeWhile noBr).length : Int) (M.takeWhile noBr).length rfl (by show _ ≤ M.length; exact (List.takeWhile_prefix _).length_le) W
      have hsh := fun W => slice_hi ⟨M.toArray⟩ ((M.takeWhile noBr).length : Int) (M.takeWhile noBr).length rfl (by show _ ≤ M.length; exact (List.takeWhile_prefix _).length_le) W
      have e1 : (⟨M.toArray⟩ : ByteArray).extract (M.takeWhile noBr).length (⟨M.toArray⟩ : ByteArray).size = ⟨(M.dropWhile noBr).toArray⟩ := by
        rw [ext_bytes]
        show (⟨((M.drop (M.takeWhile noBr).length).take (M.length - (M.takeWhile noBr).length)).toArray⟩ : ByteArray) = _
        rw [List.take_of_length_le (by simp), drop_tw]
      have e2 : (⟨M.toArray⟩ : ByteArray).extract 0 (M.takeWhile noBr).length = ⟨(M.takeWhile noBr).toArray⟩ := by
        rw [ext_bytes, List.drop_zero]
        rw [Nat.sub_zero]
        show (⟨(M.take (M.takeWhile noBr).length).toArray⟩ : ByteArray) = _
        rw [take_tw]
      rw [e1] at hsl
      rw [e2] at hsh
      have ch := fun W => Tryz.strings_HasPrefix ⟨(M.dropWhile noBr).toArray⟩ ⟨#[93]⟩ W
      rw [show (⟨#[93]⟩ : ByteArray).data.toList = [93] from rfl, show (⟨(M.dropWhile noBr).toArray⟩ : ByteArray).data.toList = M.dropWhile noBr from rfl] at ch
      have hnl : (M.takeWhile noBr).length ≤ 4000000000 := Nat.le_trans (List.takeWhile_prefix _).length_le hlen
      clear e1 e2 ha
      generalize Lib.hasPrefix (M.dropWhile noBr) [93] = hb at *
      generalize M.dropWhile noBr = D at *
      generalize (M.takeWhile noBr) = T at *
      generalize hTn : T.length = n at *
      clear hTn
      cases hb with
      | false =>
        go_enter Tryz.func114, Tryz.ntmps114
        go_wp2_with fail
        refine cc.mono ?_
        rintro e w1 ⟨rfl, rfl⟩
        go_wp2_with fail
        refine (ci _).mono ?_
        rintro e w2 ⟨rfl, b2⟩
        go_wp2_with fail
        refine (ch _).mono ?_
        rintro e w3 ⟨rfl, rfl⟩
        go_wp2
        go_ret2
        exact ⟨rfl, b2⟩
      | true =>
        go_enter Tryz.func114, Tryz.ntmps114
        go_wp2_with fail
        refine cc.mono ?_
        rintro e w1 ⟨rfl, rfl⟩
        go_wp2_with fail
        refine (ci _).mono ?_
        rintro e w2 ⟨rfl, b2⟩
        go_wp2_with fail
        refine (ch _).mono ?_
        rintro e w3 ⟨rfl, rfl⟩
        go_wp2
        go_ret2
        exact ⟨rfl, b2⟩

  · have hpf : Lib.hasPrefix s.data.toList [91] = false := by simpa using hp
    rw [hpf] at cc
    rw [brL_no hpf]
    go_enter Tryz.func114, Tryz.ntmps114
    go_wp2_with fail
    refine cc.mono ?_
    rintro e w1 ⟨rfl, rfl⟩
    go_wp2
    go_ret2
    exact ⟨rfl, Below.refl _ _⟩
end Go.Proofs.YteihmgcphbijhaaGreatDoor

namespace Go.Proofs.YteihmgcphbijhaaGreatDoor
open Go.RowKit
set_option linter.unusedSimpArgs false
set_option linter.unusedVariables false
theorem blk_hid {b : UInt8} (h : blkB b.toNat = true) : tgHid b.toNat = true := by
  simp [blkB] at h
  simp [tgHid]
  omega
/-- No target begins at p: a bracket is left open in its destination. -/
def Hop (s : List UInt8) (p : Nat) : Prop := 0 < (bareGo (s.drop (p + 1)) 0 false 0).2 ∧ s.getD (p + 1) 0 ≠ 60
theorem hop_inside {s : List UInt8} {p : Nat} (h : Hop s p) : (insideL (s.drop p)).2.2.2 = false := by
  obtain ⟨h1, h2⟩ := h
  unfold insideL
  split
  · next hp =>
    have e1 : s.drop (p + 1) = (s.drop p).drop 1 := by rw [List.drop_drop]
    rw [e1] at h1
    have e2 : s.getD (p + 1) 0 = ((s.drop p).drop 1).headD 0 := by
      rw [List.drop_drop, List.getD_eq_getElem?_getD, List.headD_eq_head?_getD, List.head?_drop]
    rw [e2] at h2
    generalize s.drop p = l at *
    match l, hp with
    | c :: l, hp =>
      have hc : c = 40 := by
        have : 40 = c := by simpa [Lib.hasPrefix] using hp
        exact this.symm
      subst hc
      rw [List.drop_one, List.tail_cons] at h1 h2
      match l, h1, h2 with
      | b :: l, h1, h2 =>
        have hnb : tgHid b.toNat = false := by
          cases hb : tgHid b.toNat with
          | false => rfl
          | true => rw [bareGo, hb] at h1; simp at h1
        have hn41 : b.toNat ≠ 41 := by
          intro hb
          rw [bareGo, hb] at h1
          simp at h1
        have hblk : blkB b.toNat = false := by
          cases hb : blkB b.toNat with
          | false => rfl
          | true => rw [blk_hid hb] at hnb; cases hnb
        have hB : behL (40 :: b :: l) 1 = 1 := by
          simp [behL, hblk]
        rw [hB]
        have hd : destL (b :: l) = (unL ((b :: l).take (bareL (b :: l))), bareL (b :: l), decide (0 < bareL (b :: l))) := by
          unfold destL
          rw [if_neg (by
            intro e
            apply h2
            have e2 : 60 = b := by simpa [Lib.hasPrefix] using e
            exact e2.symm)]
        have hz : bareL (b :: l) = 0 := by unfold bareL; rw [if_pos h1]
        rw [List.drop_one, List.tail_cons, hd, hz, Nat.add_zero, hB]
        unfold insL2
        have h40 : ¬ blkB (((40 :: b :: l : List UInt8).getD (1 - 1) 0).toNat) = true := by
          show ¬ blkB ((40 : UInt8).toNat) = true
          decide
        rw [if_neg h40]
        unfold shutL
        rw [if_neg]
        intro e
        have e2 : 41 = b := by simpa [Lib.hasPrefix] using e
        subst e2
        exact hn41 rfl
  · rfl
/-- What is known of the brackets that are left open (opn: the first first) behind i bytes. -/
def OpenI (s : List UInt8) (i : Nat) (esc : Bool) (opn : List Nat) : Prop :=
  ∀ j (h : j < opn.length), opn[j] < i ∧ bareGo (s.drop (opn[j] + 1)) 0 false 0 = bareGo (s.drop i) (opn.length - 1 - j) esc (i - opn[j] - 1)
theorem openI_nil (s : List UInt8) (i : Nat) (esc : Bool) : OpenI s i esc [] := fun j h => by simp at h
/-- A byte that ends no destination, behind the bracket, or where none is left open. -/
theorem openI_other {s : List UInt8} {i : Nat} {esc : Bool} {opn : List Nat} (h : OpenI s i esc opn) (hi : i < s.length) (esc' : Bool)
    (hs : ∀ o k, bareGo (s[i] :: s.drop (i + 1)) o esc k = bareGo (s.drop (i + 1)) o esc' (k + 1)) : OpenI s (i + 1) esc' opn := by
  intro j hj
  obtain ⟨h1, h2⟩ := h j hj
  refine ⟨by omega, ?_⟩
  rw [h2, List.drop_eq_getElem_cons hi, hs]
  congr 1
  omega
theorem bareGo_esc {b : UInt8} (h : tgHid b.toNat = false) (l : List UInt8) (o k : Nat) : bareGo (b :: l) o true k = bareGo l o false (k + 1) := by
  rw [bareGo]; simp [h]
theorem bareGo_back {b : UInt8} (hb : b.toNat = 92) (l : List UInt8) (o k : Nat) : bareGo (b :: l) o false k = bareGo l o true (k + 1) := by
  have : tgHid 92 = false := by decide
  rw [bareGo]; simp [hb, this]
theorem bareGo_plain {b : UInt8} (h : tgHid b.toNat = false) (h1 : b.toNat ≠ 92) (h2 : b.toNat ≠ 40) (h3 : b.toNat ≠ 41) (l : List UInt8) (o k : Nat) : bareGo (b :: l) o false k = bareGo l o false (k + 1) := by
  rw [bareGo]; simp [h, h1, h2, h3]
theorem bareGo_open {b : UInt8} (hb : b.toNat = 40) (l : List UInt8) (o k : Nat) : bareGo (b :: l) o false k = bareGo l (o + 1) false (k + 1) := by
  have : tgHid 40 = false := by decide
  rw [bareGo]; simp [hb, this]
theorem bareGo_shut {b : UInt8} (hb : b.toNat = 41) (l : List UInt8) (o k : Nat) (ho : 0 < o) : bareGo (b :: l) o false k = bareGo l (o - 1) false (k + 1) := by
  have : tgHid 41 = false := by decide
  rw [bareGo]
  have h0 : o ≠ 0 := by omega
  simp [hb, this, h0]
theorem openI_open {s : List UInt8} {i : Nat} {opn : List Nat} (h : OpenI s i false opn) (hi : i < s.length) (hb : s[i].toNat = 40) : OpenI s (i + 1) false (opn ++ [i]) := by
  intro j hj
  rw [List.length_append, List.length_singleton] at hj ⊢
  by_cases hl : j < opn.length
  · rw [List.getElem_append_left hl]
    obtain ⟨h1, h2⟩ := h j hl
    refine ⟨by omega, ?_⟩
    rw [h2, List.drop_eq_getElem_cons hi, bareGo_open hb]
    congr 1 <;> omega
  · have e : j = opn.length := by omega
    subst e
    simp only [List.getElem_concat_length]
    refine ⟨by omega, ?_⟩
    congr 1 <;> omega
theorem openI_shut {s : List UInt8} {i : Nat} {opn : List Nat} (h : OpenI s i false opn) (hi : i < s.length) (hb : s[i].toNat = 41) : OpenI s (i + 1) false opn.dropLast := by
  intro j hj
  rw [List.length_dropLast] at hj ⊢
  rw [List.getElem_dropLast]
  obtain ⟨h1, h2⟩ := h j (by omega)
  refine ⟨by omega, ?_⟩
  rw [h2, List.drop_eq_getElem_cons hi, bareGo_shut hb _ _ _ (by omega)]
  congr 1 <;> omega
/-- At a blank, or at the end, all but the last are without hope. -/
theorem openI_end {s : List UInt8} {i : Nat} {esc : Bool} {opn : List Nat} (h : OpenI s i esc opn) (hi : ∀ b ∈ (s.drop i).head?, tgHid b.toNat = true) : ∀ p ∈ opn.dropLast, p + 1 < i ∧ (s.getD (p + 1) 0 ≠ 60 → Hop s p) := by
  intro p hp
  obtain ⟨j, hj, rfl⟩ := List.mem_iff_getElem.1 hp
  rw [List.length_dropLast] at hj
  rw [List.getElem_dropLast]
  obtain ⟨h1, h2⟩ := h j (by omega)
  have e : ∀ o k, bareGo (s.drop i) o esc k = (k, o) := by
    intro o k
    cases hd : s.drop i with
    | nil => rfl
    | cons b l =>
      have := hi b (by rw [hd]; rfl)
      rw [bareGo, this]
      simp
  rw [e] at h2
  have hpos : 0 < (bareGo (s.drop (opn[j] + 1)) 0 false 0).2 := by rw [h2]; show 0 < opn.length - 1 - j; omega
  refine ⟨?_, fun h60 => ⟨hpos, h60⟩⟩
  rcases Nat.lt_or_ge (opn[j] + 1) i with h3 | h3
  · exact h3
  · exfalso
    have e2 : opn[j] + 1 = i := by omega
    have := h2
    rw [e2, show i - opn[j] - 1 = 0 from by omega] at this
    have h4 : bareGo (s.drop i) 0 false 0 = (0, 0) := by
      cases hd : s.drop i with
      | nil => rfl
      | cons b l =>
        have := hi b (by rw [hd]; rfl)
        rw [bareGo, this]
        simp
    rw [h4] at this
    have := congrArg Prod.snd this
    simp at this
    omega
end Go.Proofs.YteihmgcphbijhaaGreatDoor

namespace Go.Proofs.YteihmgcphbijhaaGreatDoor
open Go.RowKit Go.Maps
set_option linter.unusedSimpArgs false
set_option linter.unusedVariables false
set_option maxRecDepth 100000
/-- A place behind which another byte stands. -/
abbrev HopX (s : ByteArray) := {x : Nat // x + 1 < s.size}
def hopP (s : ByteArray) (x : HopX s) : Bool := s[x.1 + 1]'x.2 == 60
def hopE (s : ByteArray) : HopX s → Value := fun x => .int .i64 (x.1 : Nat)
theorem nl1_any (s : ByteArray) (x : HopX s) (bx : Nat) (w : World) (hs : s.size ≤ 4000000000) (hbx : w.cell? ⟨bx, 0, none⟩ = some (.string s)) (hbl : bx < w.heap.size) :
    Calls Tryz.prog 32 (#[hopE s x] ++ #[.pointer (some ⟨bx, 0, none⟩)]) w fun e w' => e = .returned (.bool (hopP s x)) ∧ ∃ q, w' = w.drewN q := by
  obtain ⟨x, hx⟩ := x
  show Calls Tryz.prog 32 #[.int .i64 x, .pointer (some ⟨bx, 0, none⟩)] w _
  unfold hopP
  dsimp only
  have hix := fun W => index_str s ((x : Int) + 1) (x + 1) (by omega) hx W
  generalize s[x + 1] = b at *
  have hb : ((b.toNat : Int) == 60) = (b == 60) := by
    rw [Bool.eq_iff_iff]
    simp only [beq_iff_eq]
    constructor
    · intro h; exact UInt8.toNat_inj.1 (by show b.toNat = 60; omega)
    · intro h; rw [h]; rfl
  go_enter Tryz.func32, Tryz.ntmps32
  go_wp2
  go_ret
  exact ⟨rfl, 0, rfl⟩
theorem sort_other {α : Type} [Inhabited α] (enc : α → Value) (w : World) (blk off n : Nat) (dk : Array α) (os : Array Obj) {k : Nat} (hk : k ≠ blk) (hl : k < w.heap.size) : (sortWorld enc w blk off n dk os).heap[k]? = w.heap[k]? := by
  have e : (sortWorld enc w blk off n dk os).heap = (w.heap.modify blk (Go.Sort.onCells (Go.Sort.putCells enc off dk))) ++ os := rfl
  rw [e, Array.getElem?_append_left (by simpa using hl), Array.getElem?_modify, if_neg (fun h => hk h.symm)]
theorem sort_self {α : Type} [Inhabited α] (enc : α → Value) (w : World) (blk n : Nat) (dk : Array α) {cs : Array Value} {t : TypeId} {fz : Nat × Nat} (h : w.heap[blk]? = some (.cells cs t fz)) : (Go.Sort.putRow enc (Go.Sort.ahead w n) blk 0 dk).heap[blk]? = some (.cells (Go.Sort.putCells enc 0 dk cs) t fz) := by
  have e : (Go.Sort.putRow enc (Go.Sort.ahead w n) blk 0 dk).heap = w.heap.modify blk (Go.Sort.onCells (Go.Sort.putCells enc 0 dk)) := rfl
  rw [e, Array.getElem?_modify, if_pos rfl, h]
  rfl
theorem put_take {α : Type} [Inhabited α] (enc : α → Value) (Y Z : List α) (cs : Array Value) (h : Y.length + Z.length ≤ cs.size) : (Go.Sort.putCells enc 0 (Y ++ Z).toArray cs).toList.take Y.length = Y.map enc := by
  apply List.ext_getElem?
  intro k
  rw [List.getElem?_take]
  split
  · next hk =>
    have hkc : k < cs.size := by omega
    rw [List.getElem?_map, List.getElem?_eq_getElem hk]
    simp only [Go.Sort.putCells, Array.getElem?_toList, Array.getElem?_mapIdx, Array.getElem?_eq_getElem hkc, Option.map_some]
    rw [if_pos ⟨by omega, by simp; omega⟩]
    simp only [Nat.sub_zero]
    congr 2
    rw [getElem!_pos (Y ++ Z).toArray k (by simp; omega)]
    simp [List.getElem_append_left hk]
  · next hk =>
    rw [List.getElem?_eq_none (by simp; omega)]
theorem delete_nothing (a : Option Addr) (c : Nat) (fv : Value) (w : World) : Calls Tryz.prog 31 #[.slice a 0 c, fv] w fun e w' => e = .returned (.slice a 0 c) ∧ w' = w := by
  have ci := fun W => Tryz.slices_IndexFunc_empty (α := Nat) a c fv W
  go_enter Tryz.func31, Tryz.ntmps31
  go_wp2_with fail
  refine (ci _).mono ?_
  rintro e w' ⟨rfl, rfl⟩
  go_wp2
  go_ret
  exact ⟨rfl, rfl⟩
theorem pmap_val (s : ByteArray) : ∀ L : List Nat, (∀ p ∈ L, p + 1 < s.size) → ∃ D : List (HopX s), D.map Subtype.val = L
  | [], _ => ⟨[], rfl⟩
  | p :: L, h => by
    obtain ⟨D, hD⟩ := pmap_val s L fun q hq => h q (List.mem_cons_of_mem _ hq)
    exact ⟨⟨p, h p (List.mem_cons_self ..)⟩ :: D, by simp [hD]⟩
theorem natI_ofX (s : ByteArray) (D : List (HopX s)) : D.map (hopE s) = (natI (D.map Subtype.val)).map (Value.int .i64) := by
  unfold natI hopE
  simp
/-- DeleteFunc by the closure that asks whether a sharp bracket stands behind. -/
theorem delete_hop (s : ByteArray) (bx g cap B : Nat) (L : List Nat) (w : World) (hs : s.size ≤ 4000000000) (hL : ∀ p ∈ L, p + 1 < s.size) (hbx : w.cell? ⟨bx, 0, none⟩ = some (.string s)) (hbl : bx < w.heap.size) (hne : bx ≠ g)
    (ho : w.ownsInts B 3 .i64 (.slice (some ⟨g, 0, none⟩) L.length cap) (natI L)) :
    Calls Tryz.prog 31 #[.slice (some ⟨g, 0, none⟩) L.length cap, .func (.func 32) #[] #[.pointer (some ⟨bx, 0, none⟩)]] w fun e w' =>
      ∃ Y : List Nat, e = .returned (.slice (some ⟨g, 0, none⟩) Y.length cap) ∧ Y.Sublist L ∧ (∀ y ∈ Y, s.data.toList.getD (y + 1) 0 ≠ 60) ∧ w'.ownsInts B 3 .i64 (.slice (some ⟨g, 0, none⟩) Y.length cap) (natI Y) ∧ w.grownBy w' (some g) := by
  cases hLn : L with
  | nil =>
    subst hLn
    refine (delete_nothing (some ⟨g, 0, none⟩) cap _ w).mono ?_
    rintro e w' ⟨rfl, rfl⟩
    exact ⟨[], rfl, List.Sublist.refl _, by simp, ho, World.grownBy.refl _ _⟩
  | cons p0 L0 =>
    rw [← hLn]
    have hp0 := hL p0 (by rw [hLn]; exact List.mem_cons_self ..)
    clear hLn
    obtain ⟨D, hD⟩ := pmap_val s L hL
    have hinh : Inhabited (HopX s) := ⟨⟨0, by omega⟩⟩
    obtain ⟨⟨hx1, hx2⟩, hwf⟩ := ho
    have hnl : (natI L).length = L.length := by simp [natI]
    rw [hnl] at hx1 hx2
    rcases hx2 with ⟨e1, _⟩ | ⟨g', cap', cur, e1, hBg, hg, hnc, hcm, hcs, ht⟩
    · cases e1
    · cases e1
      have hDl : D.length = L.length := by rw [← hD]; simp
      have hcells : cur.toList.take L.length = D.map (hopE s) := by rw [natI_ofX, hD]; simpa using ht
      have hH : Go.Sort.Holds (hopE s) w g 0 D.toArray := by
        intro j hj
        have hj' : j < D.length := by simpa using hj
        refine ⟨?_, by simp [World.frozen?, hg]⟩
        rw [Nat.zero_add, cell_of_row w g j cur _ (0, 0) hg]
        have h1 := congrArg (·[j]?) hcells
        simp only [List.getElem?_take, List.getElem?_map] at h1
        rw [if_pos (by omega), List.getElem?_eq_getElem hj', Option.map_some] at h1
        rw [getElem!_pos D.toArray j hj]
        simpa using h1
      have hcl : (cur.toList.take L.length).length = L.length := by rw [hcells]; simp [hDl]
      have hcsz : L.length ≤ cur.size := by
        rw [List.length_take] at hcl
        simp at hcl
        omega
      unfold maxLen at hcm
      have cd := Tryz.slices_DeleteFunc (hopE s) (fun _ => rfl) (hopP s) 32 #[.pointer (some ⟨bx, 0, none⟩)] (fun _ _ => by kernel_rfl) (⟨0, by omega⟩ : HopX s) (fun _ => by kernel_rfl) g 0 cap D.toArray w
        (fun W x hb => nl1_any s x bx W hs ((hb.cell (p := ⟨bx, 0, none⟩) hbl).trans hbx) (Nat.lt_of_lt_of_le hbl hb.size))
        (fun n os dk x hsz => nl1_any s x bx _ hs (by
          have h1 := sort_other (hopE s) w g 0 n dk os hne hbl
          rw [← hbx]
          simp [World.cell?, h1]) (by
          have h1 := sort_other (hopE s) w g 0 n dk os hne hbl
          rw [Array.getElem?_eq_getElem hbl] at h1
          exact (Array.getElem?_eq_some_iff.1 h1).1)) hH (by simp; omega) (by simp; omega)
      rw [show D.toArray.size = L.length from by simp [hDl]] at cd
      refine cd.mono ?_
      rintro e w' ⟨rfl, q, rfl⟩
      have hsub : (D.filter fun x => !hopP s x).length ≤ D.length := List.length_filter_le _ _
      generalize hY : (D.filter fun x => !hopP s x) = Y at *
      have hmem : ∀ y ∈ Y, hopP s y = false := fun y hy => by rw [← hY] at hy; simpa using (List.mem_filter.1 hy).2
      have hsl : Y.Sublist D := by rw [← hY]; exact List.filter_sublist
      refine ⟨Y.map Subtype.val, by rw [List.length_map], by rw [← hD]; exact hsl.map _, ?_, ?_, ?_⟩
      · intro y hy
        obtain ⟨x, hx, rfl⟩ := List.mem_map.1 hy
        have h1 := hmem x hx
        unfold hopP at h1
        have h2 : s.data.toList.getD (x.1 + 1) 0 = s[x.1 + 1]'x.2 := by
          rw [List.getD_eq_getElem?_getD, List.getElem?_eq_getElem (by simpa using x.2)]
          rfl
        rw [h2]
        simpa using h1
      · refine ⟨⟨by simp [natI], Or.inr ⟨g, cap, _, by simp [natI], hBg, sort_self (hopE s) w g q _ hg, by simp [natI]; omega, hcm, by simp [Go.Sort.putCells, hcs], ?_⟩⟩, ?_⟩
        · rw [Nat.mul_one, show (natI (Y.map Subtype.val)).length = Y.length from by simp [natI], ← natI_ofX]
          exact put_take (hopE s) Y _ cur (by simp; omega)
        · intro z hz
          unfold natI at hz
          obtain ⟨y, hy, rfl⟩ := List.mem_map.1 hz
          obtain ⟨x, _, rfl⟩ := List.mem_map.1 hy
          have := x.2
          simp [Lit.wf, IntKind.min, IntKind.max, IntKind.signed, IntKind.bits]
          omega
      · refine ⟨rfl, rfl, rfl, by simp [Go.Sort.putRow, Go.Sort.mapBlock, Go.Sort.ahead], fun k hk hne => ?_⟩
        have h1 := sort_other (hopE s) w g 0 q ((Y ++ List.replicate (L.length - Y.length) (⟨0, by omega⟩ : HopX s)).toArray) #[] (k := k) (fun e => hne (by rw [e])) hk
        simpa [sortWorld] using h1
end Go.Proofs.YteihmgcphbijhaaGreatDoor

namespace Go.Proofs.YteihmgcphbijhaaGreatDoor
open Go.RowKit
set_option linter.unusedSimpArgs false
set_option linter.unusedVariables false
def BytesIn (w : World) (B : Nat) (V : List UInt8) : Prop :=
  ∃ C fr, w.heap[B]? = some (.cells C 5 fr) ∧ (∀ j (h : j < V.length), C[j]? = some (.int .u8 V[j].toNat)) ∧ ∀ j, j < V.length → ¬ (fr.1 ≤ j ∧ j < fr.2)
theorem BytesIn.cell {w : World} {B : Nat} {V : List UInt8} (h : BytesIn w B V) (j : Nat) (hj : j < V.length) : w.cell? ⟨B, j, none⟩ = some (.int .u8 V[j].toNat) := by
  obtain ⟨C, fr, hb, hc, _⟩ := h
  rw [cell_of_row w B j C 5 fr hb]
  exact hc j hj
theorem BytesIn.below {w w' : World} {B : Nat} {V : List UInt8} (h : BytesIn w B V) (hb : Below w.heap.size w w') : BytesIn w' B V := by
  obtain ⟨C, fr, h1, h2⟩ := h
  exact ⟨C, fr, (hb.block B (Array.getElem?_eq_some_iff.1 h1).1).trans h1, h2⟩
theorem BytesIn.set {w : World} {B : Nat} {V : List UInt8} (h : BytesIn w B V) (k : Nat) (hk : k < V.length) (x : UInt8) : BytesIn (w.setCell ⟨B, k, none⟩ (.int .u8 x.toNat)) B (V.set k x) := by
  obtain ⟨C, fr, hb, hc, hf⟩ := h
  refine ⟨C.setIfInBounds k (.int .u8 x.toNat), fr, ?_, ?_, by simpa using hf⟩
  · simp [World.setCell, Array.getElem?_modify, hb]
  · intro j hj
    rw [List.length_set] at hj
    have hck := hc k hk
    have hks : k < C.size := (Array.getElem?_eq_some_iff.1 hck).1
    by_cases e : k = j
    · subst e
      simp [hks]
    · rw [Array.getElem?_setIfInBounds_ne e, hc j hj]
      simp [e]
theorem BytesIn.new (w : World) (s : ByteArray) (cap : Nat) : BytesIn (w.drew.alloc (.cells (bytesRow s cap) 5 ((bytesRow s cap).size, (bytesRow s cap).size + 1))) w.heap.size s.data.toList := by
  refine ⟨bytesRow s cap, _, heap_alloc_new w.drew _, fun j hj => ?_, fun j hj => ?_⟩
  · have hj2 : j < s.data.size := by simpa using hj
    unfold bytesRow
    rw [Array.getElem?_append_left (by simpa using hj2)]
    simp only [Array.getElem?_map, Array.getElem?_eq_getElem hj2, Option.map_some]
    rfl
  · have hj2 : j < s.data.size := by simpa using hj
    have : s.data.size ≤ (bytesRow s cap).size := by simp [bytesRow]
    show ¬ ((bytesRow s cap).size ≤ j ∧ _)
    omega
end Go.Proofs.YteihmgcphbijhaaGreatDoor

namespace Go.Proofs.YteihmgcphbijhaaGreatDoor
open Go.RowKit Go.Maps
set_option linter.unusedSimpArgs false
set_option linter.unusedVariables false
set_option maxRecDepth 100000
/-- A list of numbers of the call's own behind another one. -/
theorem append_nums {w : World} {ops : Array Oper} {rest : List Oper} {o : Oper} {a : Act} {Q : Exit → Act → World → Prop} (hgd : o.guard = none) (s x : Operand)
    (ho : o.op = .call { callee := .builtin .append, args := #[s, x], argTypes := #[22, 22] }) (base B2 : Nat) (v : Value) (X : List Int) (hs : a.eval s = v)
    (hown : w.ownsInts base 3 .i64 v X) (u : Value) (Y : List Int) (hx : a.eval x = u) (hu : w.ownsInts B2 3 .i64 u Y)
    (h63 : X.length + Y.length ≤ 1000000000) (hbase : base ≤ w.heap.size)
    (h : ∀ v' w', w'.ownsInts base 3 .i64 v' (X ++ Y) → w.grownBy w' v.ownBlock → (v'.ownBlock = v.ownBlock ∨ v'.ownBlock = some w.heap.size) → wpList Tryz.prog ops Q rest (a.put o.dst v') w') : wpList Tryz.prog ops Q (o :: rest) a w := by
  obtain ⟨i0, hi, hz0, hz1, hz2⟩ := info_parts infoInt
  have hwf : ∀ z ∈ X ++ Y, (Lit.int .i64 z).wf = true := fun z hz => by
    rcases List.mem_append.1 hz with hz | hz
    · exact hown.2 z hz
    · exact hu.2 z hz
  rcases hu.1.2 with ⟨e1, h0⟩ | ⟨g, cap, cur, e1, hb, hg, hnc, hcm, hcs, ht⟩
  · have hY : Y = [] := List.eq_nil_of_length_eq_zero h0
    subst hY
    subst e1
    refine wpList_plain hgd fun K hK => ?_
    have hrun := run_append_none_i (w := w) base 22 o.type 3 i0 1 0 Tryz.underlying22 hi v X.length (X.map (Value.int .i64)) hown.1
    unfold Oper.wp
    simp [execOp, ho, resolve, invoke, builtin, hs, hx, hrun, Result.andThen]
    exact hK _ _ (h v w (by simpa using hown) ⟨rfl, rfl, rfl, Nat.le_refl _, fun _ _ _ => rfl⟩ (Or.inl rfl))
  · subst e1
    refine wpList_append_own_at w hgd s x 22 ho base 3 i0 (.int .i64 0) 1 8 Tryz.underlying22 hi hz0 hz1 hz2 rfl (by decide) v X.length (X.map (Value.int .i64)) hs hown.1 ⟨g, 0, none⟩ Y.length cap (Y.map (Value.int .i64)) hx (by simp) (hu.1.cells (g := g) rfl) (by intro y hy; obtain ⟨z, _, rfl⟩ := List.mem_map.1 hy; rfl) (by unfold maxLen; omega) (by omega) hbase ?_
    intro v' w' h2 h3 _ h5
    exact h v' w' ⟨by rw [List.length_append, List.map_append]; exact h2, hwf⟩ h3 h5
set_option maxHeartbeats 2000000 in
theorem notLast_any (s : ByteArray) (v : Value) (L : List Nat) (B : Nat) (w : World) (hs : s.size ≤ 4000000000) (hL : ∀ p ∈ L.dropLast, p + 1 < s.size) (hlen : L.length ≤ 4000000000) (ho : w.ownsInts B 3 .i64 v (natI L)) :
    Calls Tryz.prog 17 #[.string s, v] w fun e w' => ∃ (v' : Value) (Y : List Nat), e = .returned v' ∧ Y.Sublist L.dropLast ∧ (∀ y ∈ Y, s.data.toList.getD (y + 1) 0 ≠ 60) ∧ w'.ownsInts B 3 .i64 v' (natI Y) ∧ w.grownBy w' v.ownBlock := by
  rcases List.eq_nil_or_concat L with rfl | ⟨L', j, rfl⟩
  · obtain ⟨A, cap, rfl, _⟩ := own_form ho.1
    go_enter Tryz.func17, Tryz.ntmps17
    go_wp2
    go_ret
    exact ⟨_, [], rfl, List.Sublist.refl _, by simp, World.ownsInts_nil _ _ _ _, World.grownBy_alloc _ _ _⟩
  · rw [List.concat_eq_append] at *
    rw [List.dropLast_concat] at *
    rw [List.length_append, List.length_singleton] at hlen
    obtain ⟨g, c, rfl, hBg, hgl, _, hlc, hcm⟩ := last_cell ho
    have hcut := cut_last ho
    have hns := fun W => nslice_high (some ⟨g, 0, none⟩) (L'.length + 1) c L'.length (by omega) W
    have cd := delete_hop s w.heap.size g c B L' (w.alloc (.cells #[.string s] 9)) hs hL (by rw [cell_of_row _ _ 0 #[.string s] _ (0, 0) (heap_alloc_new w _)]; rfl) (by simp) (by omega) (hcut.alloc _)
    unfold maxLen at hcm
    have HG := Lib.hid (show ∀ w', (w.alloc (.cells #[.string s] 9)).grownBy w' (some g) → w.grownBy w' (some g) from fun w' h => (World.grownBy_alloc w _ _).trans h)
    clear hcut ho hL
    go_enter Tryz.func17, Tryz.ntmps17
    go_wp2_with fail
    refine cd.mono ?_
    rintro e w1 ⟨Y, rfl, hY1, hY2, hY3, hY4⟩
    go_wp2
    go_ret
    exact ⟨_, Y, rfl, hY1, hY2, hY3, HG.out _ hY4⟩
end Go.Proofs.YteihmgcphbijhaaGreatDoor

namespace Go.Proofs.YteihmgcphbijhaaGreatDoor
open Go.RowKit Go.Maps
set_option linter.unusedSimpArgs false
set_option linter.unusedVariables false
set_option maxRecDepth 100000
/-- What is known behind i bytes: al: what is without hope; op: what is left open; lo: where this word begins. -/
structure HopSt (s : List UInt8) (i : Nat) (esc : Bool) (al op : List Nat) (lo : Nat) : Prop where
  opn : OpenI s i esc op
  hop : ∀ p ∈ al, Hop s p
  asc : al.Pairwise (· < ·)
  low : ∀ p ∈ al, p < lo
  oasc : op.Pairwise (· < ·)
  olow : ∀ p ∈ op, lo ≤ p ∧ p < i
  le : lo ≤ i
theorem hopSt_start (s : List UInt8) : HopSt s 0 false [] [] 0 := ⟨openI_nil _ _ _, by simp, List.Pairwise.nil, by simp, List.Pairwise.nil, by simp, Nat.le_refl _⟩
section
variable {s : List UInt8} {i : Nat} {esc : Bool} {al op : List Nat} {lo : Nat}
theorem HopSt.other (h : HopSt s i esc al op lo) (hi : i < s.length) (esc' : Bool) (hs : ∀ o k, bareGo (s[i] :: s.drop (i + 1)) o esc k = bareGo (s.drop (i + 1)) o esc' (k + 1)) : HopSt s (i + 1) esc' al op lo :=
  ⟨openI_other h.opn hi esc' hs, h.hop, h.asc, h.low, h.oasc, fun p hp => by have := h.olow p hp; omega, by have := h.le; omega⟩
theorem HopSt.nilOp (h : HopSt s i esc al [] lo) (esc' : Bool) : HopSt s (i + 1) esc' al [] lo :=
  ⟨openI_nil _ _ _, h.hop, h.asc, h.low, List.Pairwise.nil, by simp, by have := h.le; omega⟩
theorem HopSt.open' (h : HopSt s i false al op lo) (hi : i < s.length) (hb : s[i].toNat = 40) : HopSt s (i + 1) false al (op ++ [i]) lo := by
  refine ⟨openI_open h.opn hi hb, h.hop, h.asc, h.low, ?_, ?_, by have := h.le; omega⟩
  · rw [List.pairwise_append]
    exact ⟨h.oasc, List.pairwise_singleton _ _, fun a ha b hb => by rw [List.mem_singleton] at hb; subst hb; exact (h.olow a ha).2⟩
  · intro p hp
    rcases List.mem_append.1 hp with hp | hp
    · have := h.olow p hp; omega
    · rw [List.mem_singleton] at hp; subst hp; have := h.le; omega
theorem HopSt.shut (h : HopSt s i false al op lo) (hi : i < s.length) (hb : s[i].toNat = 41) : HopSt s (i + 1) false al op.dropLast lo :=
  ⟨openI_shut h.opn hi hb, h.hop, h.asc, h.low, h.oasc.sublist (List.dropLast_sublist _), fun p hp => by have := h.olow p ((List.dropLast_sublist _).subset hp); omega, by have := h.le; omega⟩
theorem HopSt.stop (h : HopSt s i esc al op lo) (hi : ∀ b ∈ (s.drop i).head?, tgHid b.toNat = true) {Y : List Nat} (hY : Y.Sublist op.dropLast) (hn : ∀ y ∈ Y, s.getD (y + 1) 0 ≠ 60) : HopSt s (i + 1) false (al ++ Y) [] (i + 1) := by
  have hend := openI_end h.opn hi
  have hmem : ∀ y ∈ Y, y ∈ op := fun y hy => (List.dropLast_sublist _).subset (hY.subset hy)
  refine ⟨openI_nil _ _ _, ?_, ?_, ?_, List.Pairwise.nil, by simp, Nat.le_refl _⟩
  · intro p hp
    rcases List.mem_append.1 hp with hp | hp
    · exact h.hop p hp
    · exact (hend p (hY.subset hp)).2 (hn p hp)
  · rw [List.pairwise_append]
    refine ⟨h.asc, h.oasc.sublist (hY.trans (List.dropLast_sublist _)), fun a ha b hb => ?_⟩
    have h1 := h.low a ha
    have h2 := h.olow b (hmem b hb)
    omega
  · intro p hp
    rcases List.mem_append.1 hp with hp | hp
    · have := h.low p hp; have := h.le; omega
    · have := h.olow p (hmem p hp); omega
theorem HopSt.fits (h : HopSt s i esc al op lo) (hi : ∀ b ∈ (s.drop i).head?, tgHid b.toNat = true) (hl : i ≤ s.length) : ∀ p ∈ op.dropLast, p + 1 < s.length := fun p hp => by have := (openI_end h.opn hi p hp).1; omega
end
theorem asc_len : ∀ (n : Nat) (l : List Nat), l.Pairwise (· < ·) → (∀ p ∈ l, p < n) → l.length ≤ n := by
  intro n
  induction n with
  | zero => intro l _ h; cases l with | nil => simp | cons a l => exact absurd (h a (List.mem_cons_self ..)) (by omega)
  | succ n ih =>
    intro l hl h
    rcases List.eq_nil_or_concat l with rfl | ⟨l', j, rfl⟩
    · simp
    · rw [List.concat_eq_append] at *
      rw [List.pairwise_append] at hl
      have := ih l' hl.1 (fun p hp => by
        have h1 := hl.2.2 p hp j (List.mem_singleton.2 rfl)
        have h2 := h j (by simp)
        omega)
      rw [List.length_append, List.length_singleton]
      omega
theorem HopSt.len {s : List UInt8} {i : Nat} {esc : Bool} {al op : List Nat} {lo : Nat} (h : HopSt s i esc al op lo) : al.length ≤ i ∧ op.length ≤ i :=
  ⟨Nat.le_trans (asc_len lo al h.asc h.low) h.le, asc_len i op h.oasc fun p hp => (h.olow p hp).2⟩
theorem BytesIn.kept {w w' : World} {g : Nat} {V : List UInt8} {row : Option Nat} (h : BytesIn w g V) (hg : w.grownBy w' row) (hne : row ≠ some g) : BytesIn w' g V := by
  obtain ⟨C, fr, h1, h2⟩ := h
  exact ⟨C, fr, (hg.block g (Array.getElem?_eq_some_iff.1 h1).1 (fun e => hne e.symm)).trans h1, h2⟩
theorem BytesIn.ne {w : World} {g B : Nat} {V : List UInt8} {v : Value} {zs : List Int} (h : BytesIn w g V) (k : w.ownsInts B 3 .i64 v zs) : v.ownBlock ≠ some g := by
  obtain ⟨C, fr, h1, _⟩ := h
  exact ints_ne k h1 (by decide)
theorem natI_app (a b : List Nat) : natI (a ++ b) = natI a ++ natI b := by simp [natI]
theorem int_lit {w : World} {g B : Nat} {z : Nat} (hg : w.heap[g]? = some (.cells #[.int .i64 (z : Int)] 3 (0, 0))) (hB : B ≤ g) (hz : z ≤ 1000000000) : w.ownsInts B 3 .i64 (.slice (some ⟨g, 0, none⟩) 1 1) (natI [z]) :=
  ⟨⟨rfl, Or.inr ⟨g, 1, _, rfl, hB, hg, Nat.le_refl _, by decide, rfl, rfl⟩⟩, by
    intro x hx
    simp [natI] at hx
    subst hx
    simp [Lit.wf, IntKind.min, IntKind.max, IntKind.signed, IntKind.bits]
    omega⟩
/-- The bytes of a text, in a block of the call's own. -/
theorem bytes_of (s : ByteArray) (w : World) (hs : s.size ≤ 4000000000) : ∃ cap W2, (convert 9 37 (.string s)).run Tryz.prog w = .ok (.slice (some ⟨w.heap.size, 0, none⟩) s.size cap) W2 ∧ BytesIn W2 w.heap.size s.data.toList ∧ Below w.heap.size w W2 ∧ s.size ≤ cap ∧ cap ≤ maxLen ∧ w.heap.size < W2.heap.size := by
  have h := run_bytes_of_string (P := Tryz.prog) w 9 37 5 s Tryz.underlying9 Tryz.underlying37 Tryz.underlying5
  exact ⟨_, _, h, BytesIn.new w s _, (below_drewN' (Below.refl _ w) 1).alloc (Nat.le_refl _) _, grownCap_ge _ _ _ _, grownCap_le_maxLen _ _ _ _ (by unfold maxLen; omega), by simp⟩
set_option maxHeartbeats 8000000 in
theorem hopeless_any (s : ByteArray) (w : World) (hs : s.size ≤ 1000000) :
    Calls Tryz.prog 12 #[.string s] w fun e w' => (∃ al : List Nat, (∃ v, e = .returned v ∧ w'.ownsInts w.heap.size 3 .i64 v (natI al)) ∧ (∀ p ∈ al, Hop s.data.toList p) ∧ al.Pairwise (· < ·) ∧ al.length ≤ 1000001) ∧ Below w.heap.size w w' := by
  have hsl : s.data.toList.length = s.size := by simp
  obtain ⟨cap, W2, hcv, hBI, hb2, hcap, hcm, hlt2⟩ := bytes_of (s ++ ⟨#[32]⟩) w (by rw [ByteArray.size_append]; show s.size + 1 ≤ _; omega)
  have htl : (s ++ (⟨#[32]⟩ : ByteArray)).data.toList = s.data.toList ++ [32] := by simp
  have hts : (s ++ (⟨#[32]⟩ : ByteArray)).size = s.size + 1 := by rw [ByteArray.size_append]; rfl
  rw [htl] at hBI
  rw [hts] at hcv hcap
  unfold maxLen at hcm
  have HBI := Lib.hid hBI
  have HB2 := Lib.hid hb2
  clear hBI hb2 htl hts
  have hns : ¬ 9223372036854775807 < s.size + 1 := by omega
  go_enter Tryz.func12, Tryz.ntmps12
  go_wp2_with fail
  go_loopw [3, 4, 5, 6, 7, 12] (fun av ov ev iv bv kv wr => ∃ (k : Nat) (esc : Bool) (al op : List Nat) (lo : Nat), kv = .int .i64 k ∧ ev = .bool esc ∧ k ≤ s.size + 1 ∧ HopSt s.data.toList k esc al op lo ∧ wr.ownsInts w.heap.size 3 .i64 av (natI al) ∧ wr.ownsInts w.heap.size 3 .i64 ov (natI op) ∧ Apart av ov ∧
    (k = s.size + 1 → op = []) ∧ BytesIn wr w.heap.size (s.data.toList ++ [32]) ∧ Below w.heap.size w wr) (fun _ _ _ _ _ kv _ => s.size + 1 - (intOf kv).toNat)
  case atStart =>
    exact ⟨0, false, [], [], 0, rfl, rfl, Nat.zero_le _, hopSt_start _, World.ownsInts_nil _ _ _ _, World.ownsInts_nil _ _ _ _, fun g h => by simp [Value.ownBlock] at h, fun _ => rfl, HBI.out, HB2.out⟩
  case round =>
    obtain ⟨k, esc, al, op, lo, rfl, rfl, hk, hst, hal, hop, hap, hfin, hbi, hbw⟩ := hrel
    by_cases hp : k < s.size + 1
    · have hkl : k < (s.data.toList ++ [32]).length := by simp; omega
      have c0 := hbi.cell k hkl
      have hbs : k < s.data.toList.length → (s.data.toList ++ [32])[k] = s.data.toList.getD k 0 := fun h => by
        rw [List.getElem_append_left h, List.getD_eq_getElem?_getD, List.getElem?_eq_getElem h]; rfl
      have hbe : k = s.data.toList.length → (s.data.toList ++ [32])[k] = 32 := fun h => by
        subst h; simp
      have hgd : ∀ h : k < s.data.toList.length, s.data.toList.getD k 0 = s.data.toList[k] := fun h => by
        rw [List.getD_eq_getElem?_getD, List.getElem?_eq_getElem h]; rfl
      have hlen := hst.len
      obtain ⟨Aa, ca, rfl, _⟩ := own_form hal.1
      obtain ⟨Ao, co, rfl, hoc⟩ := own_form hop.1
      have hol : (natI op).length = op.length := by simp [natI]
      have hall : (natI al).length = al.length := by simp [natI]
      rw [hol] at hop hap hoc ⊢
      rw [hall] at hal hap ⊢
      have hnb1 := hbi.ne hal
      have hnb2 := hbi.ne hop
      have hbsz := hbw.size
      have HST := Lib.hid hst
      have HAL := Lib.hid hal
      have HOP := Lib.hid hop
      have HAP := Lib.hid hap
      have HBI2 := Lib.hid hbi
      have HBW := Lib.hid hbw
      have HBS := Lib.hid hbs
      have HBE := Lib.hid hbe
      have HGD := Lib.hid hgd
      clear hst hal hop hap hbi hbw hbs hbe hgd hfin hol hall
      generalize (s.data.toList ++ [32])[k] = b at *
      by_cases hh : tgHid b.toNat = true
      · have hhead : ∀ x ∈ (s.data.toList.drop k).head?, tgHid x.toNat = true := by
          intro x hx
          rw [List.head?_drop] at hx
          have hlt : k < s.data.toList.length := by
            rcases Nat.lt_or_ge k s.data.toList.length with h | h
            · exact h
            · rw [List.getElem?_eq_none h] at hx; cases hx
          rw [List.getElem?_eq_getElem hlt, Option.mem_some_iff] at hx
          rw [← hx, ← HGD.out hlt, ← HBS.out hlt]
          exact hh
        have hfit := HST.out.fits hhead (by omega)
        have cn := notLast_any s (.slice Ao op.length co) op w.heap.size wr (by omega) (by rw [← hsl]; exact hfit) (by omega) HOP.out
        have HHD := Lib.hid hhead
        clear hfit hhead
        have hand : (decide ((b.toNat : Int) ≤ 32) = true) ∨ (decide ((b.toNat : Int) ≤ 32) = false ∧ ((b.toNat : Int) == 127) = true) := by
          unfold tgHid at hh
          cases h1 : decide ((b.toNat : Int) ≤ 32) with
          | true => exact Or.inl rfl
          | false => rw [h1] at hh; exact Or.inr ⟨rfl, by simpa using hh⟩
        clear hh
        rcases hand with h1 | ⟨h1, h2⟩
        all_goals
          go_wp2_with fail
          refine cn.mono ?_
          rintro e w3 ⟨v3, Y, rfl, hY1, hY2, hY3, hY4⟩
          have hAL3 : w3.ownsInts w.heap.size 3 .i64 (.slice Aa al.length ca) (natI al) := HAL.out.kept hY4 HAP.out.ne
          have hBI3 := HBI2.out.kept hY4 hnb2
          have hBW3 : Below w.heap.size w w3 := HBW.out.grown hY4 hbsz (fun r e => (HOP.out.1.lt r e).1)
          have hYl : Y.length ≤ op.length := by have := hY1.length_le; rw [List.length_dropLast] at this; omega
          have hal3 := HAL.out.1.lt
          have HAL3 := Lib.hid hAL3
          have HY3 := Lib.hid hY3
          have HBI3 := Lib.hid hBI3
          have HBW3 := Lib.hid hBW3
          have HN := Lib.hid (HST.out.stop HHD.out hY1 hY2)
          have hs3 := hBW3.size
          clear cn hY1 hY2 hY3 hY4 hAL3 hBI3 hBW3 hal3
          go_wp2_with (at_builtin; refine append_nums rfl _ _ rfl w.heap.size w.heap.size _ (natI al) rfl HAL3.out _ (natI Y) rfl HY3.out (by simp [natI]; omega) hs3 ?_)
          intro v4 w4 ho4 hg4 _
          have hBI4 := HBI3.out.kept hg4 hnb1
          have hBW4 : Below w.heap.size w w4 := HBW3.out.grown hg4 hs3 (fun r e => (HAL3.out.1.lt r e).1)
          have HO4 := Lib.hid ho4
          have HBI4 := Lib.hid hBI4
          have HBW4 := Lib.hid hBW4
          clear ho4 hg4 hBI4 hBW4
          go_wp2
          go_roundw
          case rel => exact ⟨k + 1, false, al ++ Y, [], k + 1, by go_num, rfl, by omega, HN.out, by rw [natI_app]; exact HO4.out, World.ownsInts_nil _ _ _ _, fun g _ h => by simp [Value.ownBlock] at h, fun _ => rfl, HBI4.out, HBW4.out⟩
          case measure => simp [intOf]; omega
      · have hh0 : tgHid b.toNat = false := by simpa using hh
        have hkL : k < s.data.toList.length := by
          rcases Nat.lt_or_ge k s.data.toList.length with h | h
          · exact h
          · have h2 := HBE.out (by omega)
            rw [h2] at hh0
            exact absurd hh0 (by decide)
        have hbk : s.data.toList[k] = b := by rw [← HGD.out hkL, ← HBS.out hkL]
        have h1 : decide ((b.toNat : Int) ≤ 32) = false := by
          unfold tgHid at hh0
          simp only [Bool.or_eq_false_iff] at hh0
          exact hh0.1
        have h2 : ((b.toNat : Int) == 127) = false := by
          unfold tgHid at hh0
          simp only [Bool.or_eq_false_iff] at hh0
          exact hh0.2
        have HH0 := Lib.hid hh0
        have HBK := Lib.hid hbk
        have HKL := Lib.hid hkL
        clear hh hh0 hbk
        cases esc with
        | true =>
          have HN := Lib.hid (HST.out.other HKL.out false (fun o j => by rw [HBK.out]; exact bareGo_esc HH0.out _ o j))
          go_wp2
          go_roundw
          case rel => exact ⟨k + 1, false, al, op, lo, by go_num, rfl, by omega, HN.out, HAL.out, HOP.out, HAP.out, fun e => by have := HKL.out; omega, HBI2.out, HBW.out⟩
          case measure => simp [intOf]; omega
        | false =>
          by_cases h92 : b.toNat = 92
          · have g1 : ((b.toNat : Int) == 92) = true := by simp; omega
            have HN := Lib.hid (HST.out.other HKL.out true (fun o j => by rw [HBK.out]; exact bareGo_back h92 _ o j))
            clear h92
            go_wp2
            go_roundw
            case rel => exact ⟨k + 1, true, al, op, lo, by go_num, rfl, by omega, HN.out, HAL.out, HOP.out, HAP.out, fun e => by have := HKL.out; omega, HBI2.out, HBW.out⟩
            case measure => simp [intOf]; omega
          · have g1 : ((b.toNat : Int) == 92) = false := by simp; omega
            by_cases h40 : b.toNat = 40
            · have g2 : ((b.toNat : Int) == 40) = true := by simp; omega
              have HN := Lib.hid (HST.out.open' HKL.out (by rw [HBK.out]; exact h40))
              have HOP3 := Lib.hid (HOP.out.alloc (.cells #[.int .i64 (k : Int)] 3))
              have HLT := Lib.hid (int_lit (w := wr.alloc (.cells #[.int .i64 (k : Int)] 3)) (B := w.heap.size) (z := k) (heap_alloc_new wr _) hbsz (by omega))
              have HAL3 := Lib.hid (HAL.out.alloc (.cells #[.int .i64 (k : Int)] 3))
              have HBI3 := Lib.hid (HBI2.out.below ((Below.refl _ wr).alloc (Nat.le_refl _) (.cells #[.int .i64 (k : Int)] 3)))
              have HBW3 := Lib.hid (HBW.out.alloc hbsz (.cells #[.int .i64 (k : Int)] 3))
              have hs3 : w.heap.size ≤ (wr.alloc (.cells #[.int .i64 (k : Int)] 3)).heap.size := by simp; omega
              have hal3 := Lib.hid HAL.out.1.lt
              clear h40 h92
              go_wp2_with (at_builtin; refine append_nums rfl _ _ rfl w.heap.size w.heap.size _ (natI op) rfl HOP3.out _ (natI [k]) rfl HLT.out (by simp [natI]; omega) hs3 ?_)
              intro v4 w4 ho4 hg4 hloc
              have hBI4 := HBI3.out.kept hg4 hnb2
              have hBW4 : Below w.heap.size w w4 := HBW3.out.grown hg4 hs3 (fun r e => (HOP3.out.1.lt r e).1)
              have hAL4 : w4.ownsInts w.heap.size 3 .i64 (.slice Aa al.length ca) (natI al) := HAL3.out.kept hg4 HAP.out.ne
              have hap4 : Apart (.slice Aa al.length ca) v4 := by
                intro g hg hg2
                rcases hloc with e | e
                · exact HAP.out g hg (e ▸ hg2)
                · have e2 : g = wr.heap.size + 1 := by rw [e] at hg2; exact (Option.some.inj hg2).symm
                  have := (hal3.out g hg).2
                  omega
              have HO4 := Lib.hid ho4
              have HBI4 := Lib.hid hBI4
              have HBW4 := Lib.hid hBW4
              have HAL4 := Lib.hid hAL4
              have HAP4 := Lib.hid hap4
              clear ho4 hg4 hBI4 hBW4 hAL4 hap4 hloc
              go_wp2
              go_roundw
              case rel => exact ⟨k + 1, false, al, op ++ [k], lo, by go_num, rfl, by omega, HN.out, HAL4.out, by rw [natI_app]; exact HO4.out, HAP4.out, fun e => by have := HKL.out; omega, HBI4.out, HBW4.out⟩
              case measure => simp [intOf]; omega
            · have g2 : ((b.toNat : Int) == 40) = false := by simp; omega
              by_cases h41 : b.toNat = 41
              · have g3 : ((b.toNat : Int) == 41) = true := by simp; omega
                rcases List.eq_nil_or_concat op with e0 | ⟨L', j, e0⟩
                · subst e0
                  have HN := Lib.hid (HST.out.nilOp false)
                  clear h41 h40 h92
                  go_wp2
                  go_roundw
                  case rel => exact ⟨k + 1, false, al, [], lo, by go_num, rfl, by omega, HN.out, HAL.out, HOP.out, HAP.out, fun _ => rfl, HBI2.out, HBW.out⟩
                  case measure => simp [intOf]; omega
                · rw [List.concat_eq_append] at e0
                  subst e0
                  have HN := Lib.hid (HST.out.shut HKL.out (by rw [HBK.out]; exact h41))
                  have hol2 : (L' ++ [j]).length = L'.length + 1 := by simp
                  have hop2 := HOP.out
                  have hap2 := HAP.out
                  rw [hol2] at hop2 hap2 hoc ⊢
                  obtain ⟨g, c, ev, hBg, hgl, _, hlc, hcm2⟩ := last_cell hop2
                  injection ev with ev1 _ ev3
                  subst ev1 ev3
                  have hcut := Lib.hid (cut_last hop2)
                  have hns2 := fun W => nslice_high (some ⟨g, 0, none⟩) (L'.length + 1) co L'.length (by omega) W
                  have HAP3 := Lib.hid (show Apart (.slice Aa al.length ca) (.slice (some ⟨g, 0, none⟩) L'.length co) from fun g' h h2 => hap2 g' h h2)
                  have hLs : L'.length ≤ 1000001 := by have := hlen.2; simp at this; omega
                  clear h41 h40 h92 hop2 hap2 hol2 HOP HAP hlen
                  go_wp2
                  go_roundw
                  case rel => exact ⟨k + 1, false, al, L', lo, by go_num, rfl, by omega, by have := HN.out; rwa [List.dropLast_concat] at this, HAL.out, hcut.out, HAP3.out, fun e => by have := HKL.out; omega, HBI2.out, HBW.out⟩
                  case measure => simp [intOf]; omega
              · have g3 : ((b.toNat : Int) == 41) = false := by simp; omega
                have HN := Lib.hid (HST.out.other HKL.out false (fun o j => by rw [HBK.out]; exact bareGo_plain HH0.out h92 h40 h41 _ o j))
                clear h41 h40 h92
                go_wp2
                go_roundw
                case rel => exact ⟨k + 1, false, al, op, lo, by go_num, rfl, by omega, HN.out, HAL.out, HOP.out, HAP.out, fun e => by have := HKL.out; omega, HBI2.out, HBW.out⟩
                case measure => simp [intOf]; omega
    · obtain rfl : k = s.size + 1 := by omega
      have hfin2 := hfin rfl
      have HST := Lib.hid hst
      have hln := hst.len
      clear hst
      go_wp2
      go_ret
      exact ⟨⟨al, ⟨_, rfl, hal⟩, HST.out.hop, HST.out.asc, by omega⟩, hbw⟩
end Go.Proofs.YteihmgcphbijhaaGreatDoor

namespace Go.Proofs.YteihmgcphbijhaaGreatDoor
open Go.RowKit
set_option linter.unusedSimpArgs false
set_option linter.unusedVariables false
def nameN (i k : Int) : List Int := [109, 65 + i % 26, 65 + i / 26 % 26, 48 + k % 10, 48 + k / 10 % 10, 48 + k / 100 % 10]
def nameL (i k : Int) : List UInt8 := (nameN i k).map fun n => UInt8.ofNat n.toNat
/-- The marks of list i from 'from' on. -/
def marks (i : Int) (from' n : Nat) : List (List UInt8) := (List.range n).map fun j => nameL i ((from' + j : Nat) : Int)
end Go.Proofs.YteihmgcphbijhaaGreatDoor

namespace Go.Proofs.YteihmgcphbijhaaGreatDoor
open Go.RowKit
set_option linter.unusedSimpArgs false
set_option linter.unusedVariables false
/-- All blocks whose elements are of none of these types stay as they were. -/
def TKept (ts : List TypeId) (w w' : World) : Prop := ∀ (g : Nat) (cs : Array Value) (t : TypeId) (fz : Nat × Nat), w.heap[g]? = some (.cells cs t fz) → t ∉ ts → w'.heap[g]? = some (.cells cs t fz)
theorem TKept.refl (ts : List TypeId) (w : World) : TKept ts w w := fun _ _ _ _ h _ => h
theorem TKept.trans {ts : List TypeId} {a b c : World} (h : TKept ts a b) (k : TKept ts b c) : TKept ts a c := fun g cs t fz hg ht => k g cs t fz (h g cs t fz hg ht) ht
theorem TKept.mono {ts ts' : List TypeId} {a b : World} (h : TKept ts a b) (hs : ∀ t ∈ ts, t ∈ ts') : TKept ts' a b := fun g cs t fz hg ht => h g cs t fz hg (fun e => ht (hs t e))
theorem TKept.below {w w' : World} (ts : List TypeId) (h : Below w.heap.size w w') : TKept ts w w' := fun g cs t fz hg _ => (h.block g (Array.getElem?_eq_some_iff.1 hg).1).trans hg
theorem TKept.drewN (ts : List TypeId) (w : World) (n : Nat) : TKept ts w (w.drewN n) := fun _ _ _ _ h _ => h
theorem TKept.alloc (ts : List TypeId) (w : World) (o : Obj) : TKept ts w (w.alloc o) := fun g cs t fz hg _ => (Below.heap_alloc w o g (Array.getElem?_eq_some_iff.1 hg).1).trans hg
theorem TKept.grown {ts : List TypeId} {w w' : World} {B : Nat} {e : TypeId} {size : Nat} {v : Value} {n : Nat} {xs : List Value} (h : w.ownsRow B e size v n xs) (hg : w.grownBy w' v.ownBlock) (he : e ∈ ts) : TKept ts w w' := by
  intro g cs t fz hgg ht
  rw [hg.block g (Array.getElem?_eq_some_iff.1 hgg).1 (fun e1 => own_ne h hgg (fun e2 => ht (e2 ▸ he)) e1.symm)]
  exact hgg
theorem TKept.setCell {ts : List TypeId} {w : World} {b : Nat} {cs : Array Value} {t : TypeId} {fz : Nat × Nat} (hb : w.heap[b]? = some (.cells cs t fz)) (he : t ∈ ts) (i : Nat) (u : Value) : TKept ts w (w.setCell ⟨b, i, none⟩ u) := by
  intro g cs' t' fz' hg ht
  have hgb : g ≠ b := by
    rintro rfl
    rw [hb] at hg
    injection hg with hg
    injection hg with _ h2
    exact ht (h2 ▸ he)
  rw [Below.heap_setCell w ⟨b, i, none⟩ u g hgb]
  exact hg
theorem TKept.row {ts : List TypeId} {w w' : World} (h : TKept ts w w') {B : Nat} {e : TypeId} {size : Nat} {v : Value} {n : Nat} {xs : List Value} (k : w.ownsRow B e size v n xs) (he : e ∉ ts) : w'.ownsRow B e size v n xs := by
  refine ⟨k.1, ?_⟩
  rcases k.2 with hn | ⟨g, cap, cur, rfl, hB, hg, rest⟩
  · exact .inl hn
  · exact .inr ⟨g, cap, cur, rfl, hB, h _ _ _ _ hg he, rest⟩
end Go.Proofs.YteihmgcphbijhaaGreatDoor

namespace Go.Proofs.YteihmgcphbijhaaGreatDoor
open Go.RowKit
set_option linter.unusedSimpArgs false
set_option linter.unusedVariables false
variable {r : Nat → Value}
/-- The marks of list i from 'from' on. -/
def dmark (i k : Int) : Dfn := ⟨nameL i k, [], [], [], false⟩
def dmarks (i : Int) (from' n : Nat) : List Dfn := (List.range n).map fun j => dmark i ((from' + j : Nat) : Int)
end Go.Proofs.YteihmgcphbijhaaGreatDoor
namespace Go.Proofs.YteihmgcphbijhaaGreatDoor
open Go.RowKit
set_option linter.unusedSimpArgs false
set_option linter.unusedVariables false
set_option maxRecDepth 100000
abbrev DefsAt (w : World) (A : Option Addr) (cap : Nat) (X : List Dfn) : Prop := EltsAt w dfC 5 A cap X
theorem DefsAt.cells5 {w : World} {A : Option Addr} {cap : Nat} {X : List Dfn} (h : DefsAt w A cap X) {k : Nat} (hk : k < X.length) :
    ∃ b off, A = some ⟨b, off, none⟩ ∧ b < w.heap.size ∧ w.cell? ⟨b, off + k * 5, none⟩ = some (.string ⟨X[k].nm.toArray⟩) ∧ w.cell? ⟨b, off + k * 5 + 1, none⟩ = some (.string ⟨X[k].url.toArray⟩) ∧
      w.cell? ⟨b, off + k * 5 + 2, none⟩ = some (.string ⟨X[k].ttl.toArray⟩) ∧ w.cell? ⟨b, off + k * 5 + 3, none⟩ = some (.string ⟨X[k].txt.toArray⟩) ∧ w.cell? ⟨b, off + k * 5 + 4, none⟩ = some (.bool X[k].nt) := by
  obtain ⟨b, off, e, hlt, hc⟩ := h.at hk
  exact ⟨b, off, e, hlt, hc 0 _ rfl, hc 1 _ rfl, hc 2 _ rfl, hc 3 _ rfl, hc 4 _ rfl⟩
theorem DefsAt.drew {w : World} {A : Option Addr} {cap : Nat} {X : List Dfn} (h : DefsAt w A cap X) (n : Nat) : DefsAt (w.drewN n) A cap X := EltsAt.heap (w := w) (w' := w.drewN n) rfl h
end Go.Proofs.YteihmgcphbijhaaGreatDoor
namespace Go.Proofs.YteihmgcphbijhaaGreatDoor
open Go.RowKit
set_option linter.unusedSimpArgs false
set_option linter.unusedVariables false
variable {r : Nat → Value}
/-- Every row of texts stays as it was. -/
def DStrKept (w w' : World) : Prop := ∀ (g : Nat) (cs : Array Value) (fz : Nat × Nat), w.heap[g]? = some (.cells cs 153 fz) → w'.heap[g]? = some (.cells cs 153 fz)
theorem DStrKept.row {w w' : World} (h : DStrKept w w') {B : Nat} {v : Value} {n : Nat} {xs : List Value} (k : w.ownsRow B 153 5 v n xs) : w'.ownsRow B 153 5 v n xs := by
  refine ⟨k.1, ?_⟩
  rcases k.2 with hn | ⟨g, cap, cur, rfl, hB, hg, rest⟩
  · exact .inl hn
  · exact .inr ⟨g, cap, cur, rfl, hB, h _ _ _ hg, rest⟩
theorem DStrKept.refl (w : World) : DStrKept w w := fun _ _ _ h => h
theorem DStrKept.trans {a b c : World} (h : DStrKept a b) (k : DStrKept b c) : DStrKept a c := fun g cs fz hg => k g cs fz (h g cs fz hg)
theorem DStrKept.below {w w' : World} (h : Below w.heap.size w w') : DStrKept w w' := fun g cs fz hg => (h.block g (Array.getElem?_eq_some_iff.1 hg).1).trans hg
theorem DStrKept.drew (w : World) : DStrKept w w.drew := fun _ _ _ h => h
theorem DStrKept.alloc (w : World) (o : Obj) : DStrKept w (w.alloc o) := fun g cs fz hg => (Below.heap_alloc w o g (Array.getElem?_eq_some_iff.1 hg).1).trans hg
theorem DStrKept.grown {w w' : World} {B : Nat} {e : TypeId} {size : Nat} {v : Value} {n : Nat} {xs : List Value} (h : w.ownsRow B e size v n xs) (hg : w.grownBy w' v.ownBlock) (hne : e ≠ 153) : DStrKept w w' := by
  intro g cs fz hgg
  rw [hg.block g (Array.getElem?_eq_some_iff.1 hgg).1 (fun e1 => own_ne h hgg hne e1.symm)]
  exact hgg
theorem DStrKept.setCell {w : World} {b : Nat} {cs : Array Value} {t : TypeId} {fz : Nat × Nat} (hb : w.heap[b]? = some (.cells cs t fz)) (hne : t ≠ 153) (i : Nat) (u : Value) : DStrKept w (w.setCell ⟨b, i, none⟩ u) := by
  intro g cs' fz' hg
  have hgb : g ≠ b := by
    rintro rfl
    rw [hb] at hg
    injection hg with hg
    injection hg with _ ht
    exact hne ht
  rw [Below.heap_setCell w ⟨b, i, none⟩ u g hgb]
  exact hg
end Go.Proofs.YteihmgcphbijhaaGreatDoor
namespace Go.Proofs.YteihmgcphbijhaaGreatDoor
open Go.RowKit
set_option linter.unusedSimpArgs false
set_option linter.unusedVariables false
variable {r : Nat → Value}
/-- Each list of vs is read as its dmarks. -/
def DMarked (w : World) (vs : List Value) : Prop := ∀ (i : Nat) (v : Value), vs[i]? = some v → ∃ A n c, v = .slice A n c ∧ n ≤ 1000000 ∧ DefsAt w A c (dmarks i 0 n)
theorem DMarked.below {w w' : World} {vs : List Value} (h : DMarked w vs) (hb : Below w.heap.size w w') : DMarked w' vs := fun i v hv => by
  obtain ⟨A, n, c, e, hn, hr⟩ := h i v hv
  exact ⟨A, n, c, e, hn, hr.below hb⟩
end Go.Proofs.YteihmgcphbijhaaGreatDoor
namespace Go.Proofs.YteihmgcphbijhaaGreatDoor
open Go.RowKit
set_option linter.unusedSimpArgs false
set_option linter.unusedVariables false
variable {r : Nat → Value}
end Go.Proofs.YteihmgcphbijhaaGreatDoor
namespace Go.Proofs.YteihmgcphbijhaaGreatDoor
open Go.RowKit
set_option linter.unusedSimpArgs false
set_option linter.unusedVariables false
variable {r : Nat → Value}
/-- A list of definitions that can be read in a block whose cells are definitions. -/
def DSeen (w : World) (v : Value) (X : List Dfn) : Prop :=
  ∃ A c, v = .slice A X.length c ∧ c ≤ maxLen ∧ X.length ≤ c ∧ (X = [] ∨ ∃ g cur, A = some ⟨g, 0, none⟩ ∧ w.heap[g]? = some (.cells cur 153 (0, 0)) ∧ cur.toList.take (X.length * 5) = flt dfC X)
section
variable {w w' : World} {v : Value} {X : List Dfn}
theorem DSeen.row (h : DSeen w v X) : ∃ A c, v = .slice A X.length c ∧ DefsAt w A c X := by
  obtain ⟨A, c, rfl, hc, hl, h⟩ := h
  refine ⟨A, c, rfl, hl, hc, ?_⟩
  rcases h with h | ⟨g, cur, rfl, hg, ht⟩
  · exact Or.inl h
  · refine Or.inr ⟨g, 0, rfl, (Array.getElem?_eq_some_iff.1 hg).1, fun k hk j u hu => ?_⟩
    rw [Nat.zero_add, cell_of_row w g _ cur _ (0, 0) hg]
    have h1 := flt_get dfC_length X k hk j u hu
    rw [← ht, List.getElem?_take] at h1
    split at h1
    · simpa using h1
    · cases h1
theorem DSeen.kept (h : DSeen w v X) {row : Option Nat} (hg : w.grownBy w' row) (hn : ∀ g, v.ownBlock = some g → row ≠ some g) : DSeen w' v X := by
  obtain ⟨A, c, rfl, hc, hl, h⟩ := h
  refine ⟨A, c, rfl, hc, hl, ?_⟩
  rcases h with h | ⟨g, cur, rfl, hh, ht⟩
  · exact Or.inl h
  · exact Or.inr ⟨g, cur, rfl, (hg.block g (Array.getElem?_eq_some_iff.1 hh).1 (fun e => hn g rfl e.symm)).trans hh, ht⟩
theorem DSeen.below (h : DSeen w v X) (hb : Below w.heap.size w w') : DSeen w' v X := h.kept (grownBy_of_below hb none) (fun g _ => by simp)
end
end Go.Proofs.YteihmgcphbijhaaGreatDoor
namespace Go.Proofs.YteihmgcphbijhaaGreatDoor
open Go.RowKit
set_option linter.unusedSimpArgs false
set_option linter.unusedVariables false
variable {r : Nat → Value}
end Go.Proofs.YteihmgcphbijhaaGreatDoor

namespace Go.Proofs.YteihmgcphbijhaaGreatDoor
open Go.RowKit
set_option linter.unusedSimpArgs false
set_option linter.unusedVariables false
set_option maxRecDepth 100000
theorem decode_step (s : ByteArray) (k : Nat) (h : k < s.size) : 1 ≤ (Utf8.decode s k).2 := by
  by_cases ha : s[k].toNat < 128
  · rw [decode_ascii s k h ha]; exact Nat.le_refl _
  · unfold Utf8.decode
    dsimp only
    split
    · simp
    · split
      · split <;> simp
      · split
        · split <;> simp
        · split
          · split <;> simp
          · simp
theorem text_of' (l : List UInt8) : ∃ X : ByteArray, (⟨l.toArray⟩ : ByteArray) = X ∧ X.data.toList = l := ⟨⟨l.toArray⟩, rfl, rfl⟩
end Go.Proofs.YteihmgcphbijhaaGreatDoor

namespace Go.Proofs.YteihmgcphbijhaaGreatDoor
open Go.RowKit
set_option linter.unusedSimpArgs false
set_option linter.unusedVariables false
/-- A builder stays where nothing below is turned. -/
theorem isB_below {T e : TypeId} {B b : Nat} {bs : List Value} {w w' : World} (h : Lib.IsBuilderF T e B b bs w) (hb : Below w.heap.size w w') : Lib.IsBuilderF T e B b bs w' := by
  have go : ∀ p, Lib.BuilderAtF T e B b p bs w → Lib.BuilderAtF T e B b p bs w' := by
    rintro p ⟨hB, v, hbk, hown, hne⟩
    refine ⟨hB, v, (hb.block b (Array.getElem?_eq_some_iff.1 hbk).1).trans hbk, ⟨hown.1, ?_⟩, hne⟩
    rcases hown.2 with hn | ⟨g, cap, cur, fz, hv, hbg, hg, rest⟩
    · exact .inl hn
    · exact .inr ⟨g, cap, cur, fz, hv, hbg, (hb.block g (Array.getElem?_eq_some_iff.1 hg).1).trans hg, rest⟩
  exact h.elim (fun x => .inl (go _ x)) (fun x => .inr (go _ x))
def segL (l : List UInt8) (t k : Nat) : List UInt8 := (l.drop t).take (k - t)
theorem seg_list (s : ByteArray) (t k : Nat) : (s.extract t k).data.toList = segL s.data.toList t k := by
  rw [ByteArray.data_extract, Array.toList_extract, List.extract_eq_take_drop]; rfl
theorem seg_more (l m : List UInt8) (t k d : Nat) (h : t ≤ k) (hd : l.drop k = m ++ l.drop (k + d)) (hm : m.length = d) : segL l t (k + d) = segL l t k ++ m := by
  have h1 : (l.drop k).take d = m := by rw [hd, List.take_append_of_le_length (by omega), List.take_of_length_le (by omega)]
  unfold segL
  rw [show k + d - t = (k - t) + d from by omega, List.take_add, List.drop_drop, show t + (k - t) = k from by omega, h1]
end Go.Proofs.YteihmgcphbijhaaGreatDoor
