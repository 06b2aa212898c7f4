/-
  Package policy: nameSign, isName, isIndex, rightPair, Index: what each answers, in plain words.
-/
import Derived.Test.YtobmmbhmaaednaaPolP
import Derived.Test.YtobmmbhmaaednaaTexts
namespace Go.Proofs.Ytobmmbhmaaednaa
open Go.RowKit
set_option linter.unusedSimpArgs false
set_option linter.unusedVariables false

theorem sign_any (r : Int) (w : World) :
    Calls Try.prog 22 #[.int .i32 r] w fun e w' => e = .returned (.bool (signI r)) ∧ w = w' := by
  go_enter Try.func22, Try.ntmps22
  go_wp2
  all_goals (go_ret; exact ⟨ret_bool (by rw [Bool.eq_iff_iff, signI_iff]; simp; omega), rfl⟩)

theorem isIx_any (i c : Int) (w : World) :
    Calls Try.prog 23 #[.int .i64 i, .int .i64 c] w fun e w' => e = .returned (.bool (isIx i c)) ∧ w = w' := by
  go_enter Try.func23, Try.ntmps23
  go_wp2
  all_goals (go_ret; exact ⟨ret_bool (by simp [isIx]; omega), rfl⟩)

/-- A pair, as a value. -/
def prV (p : Int × Int) : Value := .agg #[.int .i64 p.1, .int .i64 p.2]

theorem rightPair_any (a b c : Int) (w : World) :
    Calls Try.prog 15 #[.agg #[.int .i64 a, .int .i64 b], .int .i64 c] w fun e w' => e = .returned (.bool (pairOk a b c)) ∧ Below w.heap.size w w' := by
  go_enter Try.func15, Try.ntmps15
  cases h1 : isIx a c with
  | false =>
    have c1 := fun w1 => isIx_any a c w1
    rw [h1] at c1
    have HF := Lib.hid (show pairOk a b c = false from by simp [pairOk, h1])
    clear h1
    go_wp2_with (go_at_call 23; refine (c1 _).mono ?_; rintro e w' ⟨rfl, rfl⟩)
    go_ret
    exact ⟨ret_bool HF.out.symm, (Below.refl _ w).alloc (Nat.le_refl _) _⟩
  | true =>
    have c1 := fun w1 => isIx_any a c w1
    rw [h1] at c1
    cases h2 : isIx b c with
    | false =>
      have c2 := fun w1 => isIx_any b c w1
      rw [h2] at c2
      have HF := Lib.hid (show pairOk a b c = false from by simp [pairOk, h2])
      clear h1 h2
      go_wp2_with fail
      refine (c1 _).mono ?_
      rintro e w' ⟨rfl, rfl⟩
      go_wp2_with fail
      refine (c2 _).mono ?_
      rintro e w' ⟨rfl, rfl⟩
      go_wp2
      go_ret
      exact ⟨ret_bool HF.out.symm, (Below.refl _ w).alloc (Nat.le_refl _) _⟩
    | true =>
      have c2 := fun w1 => isIx_any b c w1
      rw [h2] at c2
      have HF := Lib.hid (show pairOk a b c = !(a == b) from by simp [pairOk, h1, h2])
      clear h1 h2
      go_wp2_with fail
      refine (c1 _).mono ?_
      rintro e w' ⟨rfl, rfl⟩
      go_wp2_with fail
      refine (c2 _).mono ?_
      rintro e w' ⟨rfl, rfl⟩
      go_wp2
      go_ret
      exact ⟨ret_bool (by rw [HF.out]; rfl), (Below.refl _ w).alloc (Nat.le_refl _) _⟩

theorem sign_at (s : ByteArray) (k : Nat) (h : k < s.size) : signI (Utf8.decode s k).1 = sign8 s[k] ∧ (sign8 s[k] = true → (Utf8.decode s k).2 = 1) := by
  by_cases ha : s[k].toNat < 128
  · rw [decode_ascii s k h ha]
    exact ⟨rfl, fun _ => rfl⟩
  · have hd := (decode_high s k h (by omega)).1
    have f1 : signI (Utf8.decode s k).1 = false := by
      rw [Bool.eq_false_iff]; intro e; have := (signI_iff _).1 e; omega
    have f2 : sign8 s[k] = false := by
      rw [Bool.eq_false_iff]; intro e; have := (signI_iff _).1 e; omega
    rw [f1, f2]
    exact ⟨rfl, fun e => by cases e⟩

def NmRel (s : ByteArray) (w : World) (I : Nat) (wr : World) : Prop :=
  ∃ k : Nat, k ≤ s.size ∧ wr.heap[I]? = some (.stringIter s k) ∧ Below w.heap.size w wr ∧ (∀ j (h : j < s.size), j < k → sign8 s[j] = true)

set_option maxHeartbeats 1000000 in
theorem isName_any (s : ByteArray) (w : World) (hs : s.size ≤ 9223372036854775807) :
    Calls Try.prog 14 #[.string s] w fun e w' => e = .returned (.bool (nmL s.data.toList)) ∧ Below w.heap.size w w' := by
  go_enter Try.func14, Try.ntmps14
  go_wp2_with fail
  go_loopw [] (fun wr => NmRel s w w.heap.size wr) (fun wr => s.size - wr.iterPos w.heap.size)
  case atStart => exact ⟨0, Nat.zero_le _, World.iter_heap w s 0, (Below.refl _ w).alloc (Nat.le_refl _) _, fun j _ hj => absurd hj (Nat.not_lt_zero _)⟩
  case round =>
    obtain ⟨k, hk, hit, hbw, hall⟩ := hrel
    by_cases hp : k < s.size
    · have hnx : ∀ ty, (Instr.next (.pointer (some ⟨w.heap.size, 0, none⟩)) true ty).run Try.prog wr = _ := fun ty => Lib.run_next_any_at wr w.heap.size s k ty hit hp
      have hit2 := Lib.iterAt_heap wr w.heap.size s k (k + (Utf8.decode s k).2) hit
      have hbw2 := Lib.below_iterAt hbw (k := w.heap.size) (by omega) s (k + (Utf8.decode s k).2)
      have Hit := Lib.hid hit
      have HA := Lib.hid hall
      have HS := Lib.hid (sign_at s k hp)
      clear hit hbw hall
      have hd1 := decode_le s k
      have cs := fun w1 => sign_any (Utf8.decode s k).1 w1
      rw [HS.out.1] at cs
      cases hc : sign8 s[k] with
      | true =>
        rw [hc] at cs
        have H1 := Lib.hid (HS.out.2 hc)
        have HC := Lib.hid hc
        clear hc
        go_wp2_with (go_at_call 22; refine (cs _).mono ?_; rintro e w' ⟨rfl, rfl⟩)
        go_roundw
        case rel =>
          have h1 := H1.out
          refine ⟨k + (Utf8.decode s k).2, by omega, hit2, hbw2, fun j hj hjk => ?_⟩
          by_cases e : j = k
          · subst e; exact HC.out
          · exact HA.out j hj (by omega)
        case measure => have h1 := H1.out; simp only [World.iterPos, hit2, Hit.out]; omega
      | false =>
        rw [hc] at cs
        have HF := Lib.hid (show nmL s.data.toList = false from by
          rw [Bool.eq_false_iff]
          intro e
          have h1 := ((nmL_iff _).1 e).1 (s.data.toList[k]'(by simpa using hp)) (List.getElem_mem _)
          have h2 : s.data.toList[k]'(by simpa using hp) = s[k] := rfl
          rw [h2, hc] at h1
          cases h1)
        clear hc
        go_wp2_with (go_at_call 22; refine (cs _).mono ?_; rintro e w' ⟨rfl, rfl⟩)
        go_ret
        exact ⟨ret_bool HF.out.symm, hbw2⟩
    · have hnx : ∀ ty, (Instr.next (.pointer (some ⟨w.heap.size, 0, none⟩)) true ty).run Try.prog wr = _ := fun ty => Lib.run_next_end_at wr w.heap.size s k ty hit hp
      obtain rfl : k = s.size := by omega
      have HF := Lib.hid (show nmL s.data.toList = (decide (1 ≤ s.size) && decide (s.size ≤ 20)) from by
        have h1 : s.data.toList.all sign8 = true := by
          rw [List.all_eq_true]
          intro b hb
          obtain ⟨j, hj, rfl⟩ := List.mem_iff_getElem.1 hb
          have hj2 : j < s.size := by simpa using hj
          exact hall j hj2 hj2
        have h2 : s.data.toList.length = s.size := by simp
        rw [nmL, h1, h2, Bool.true_and])
      clear hall
      go_wp2
      all_goals (go_ret; exact ⟨ret_bool (by rw [HF.out, Bool.eq_iff_iff]; simp; omega), hbw⟩)

def IxRel (ns : List (List UInt8)) (x : List UInt8) (w : World) (i : Value) (wr : World) : Prop :=
  ∃ k : Nat, i = .int .i64 k ∧ k ≤ ns.length ∧ idxF (ns.drop k) x k = idxL ns x ∧ wr = w

/-- A policy, as a value. -/
def polV (A : Option Addr) (n ca : Nat) (B : Option Addr) (m cb : Nat) : Value := .agg #[.slice A n ca, .slice B m cb]

set_option maxHeartbeats 1000000 in
theorem index_any (A : Option Addr) (ca : Nat) (V : Value) (ns : List (List UInt8)) (x : ByteArray) (w : World) (hrow : RowOf w A ca (strs ns)) :
    Calls Try.prog 13 #[.agg #[.slice A ns.length ca, V], .string x] w fun e w' => e = .returned (.int .i64 (idxL ns x.data.toList)) ∧ Below w.heap.size w w' := by
  have hc1 := hrow.1
  have hc2 := hrow.2.1
  rw [strs_length] at hc1
  unfold maxLen at hc2
  go_enter Try.func13, Try.ntmps13
  go_wp2_with fail
  go_loopw [10] (fun i wr => IxRel ns x.data.toList (w.alloc (.cells #[.slice A ns.length ca, V] 25)) i wr) (fun i wr => ns.length - (intOf i).toNat)
  case atStart => exact ⟨0, rfl, Nat.zero_le _, rfl, rfl⟩
  case round =>
    obtain ⟨k, rfl, hk, hix, rfl⟩ := hrel
    by_cases hp : k < ns.length
    · obtain ⟨b, off, rfl, hb, hc⟩ := (hrow.alloc (.cells #[.slice A ns.length ca, V] 25)).cellAt hp
      rw [idxF_at ns _ k hp] at hix
      by_cases he : ns[k] = x.data.toList
      · rw [if_pos he] at hix
        have fe : (@BEq.beq (List UInt8) (@List.instBEq UInt8 (@instBEqOfDecidableEq UInt8 instDecidableEqUInt8)) ns[k] x.toList) = true := by rw [ByteArray.toList_eq, he]; simp
        have HI := Lib.hid hix
        clear he hix
        go_wp2
        go_ret
        exact ⟨ret_int HI.out, (Below.refl _ w).alloc (Nat.le_refl _) _⟩
      · rw [if_neg he] at hix
        have fe : (@BEq.beq (List UInt8) (@List.instBEq UInt8 (@instBEqOfDecidableEq UInt8 instDecidableEqUInt8)) ns[k] x.toList) = false := by rw [ByteArray.toList_eq]; simpa using he
        have HI := Lib.hid hix
        clear he hix
        go_wp2
        go_roundw
        case rel => exact ⟨k + 1, by go_num, by omega, by rw [← HI.out]; congr 1, rfl⟩
        case measure => simp [intOf]; omega
    · obtain rfl : k = ns.length := by omega
      rw [List.drop_eq_nil_of_le (Nat.le_refl _)] at hix
      have HI := Lib.hid hix
      clear hix
      go_wp2
      go_ret
      exact ⟨ret_int HI.out, (Below.refl _ w).alloc (Nat.le_refl _) _⟩

end Go.Proofs.Ytobmmbhmaaednaa
