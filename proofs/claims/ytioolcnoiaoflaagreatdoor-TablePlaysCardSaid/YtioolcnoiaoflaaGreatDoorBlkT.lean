/-
  Package block: withoutBegin, withoutEnd, Plain: what each answers, in plain words.
-/
import Derived.Test.YtioolcnoiaoflaaGreatDoorBase
import Derived.Test.YtioolcnoiaoflaaGreatDoorMrkP
import Derived.Test.YtioolcnoiaoflaaGreatDoorShelf
import Derived.WalkKit
import Derived.BigCall
import Derived.BigQuiet
import Derived.Deep.QuietTactic
import Derived.Lib.Hide
namespace Go.Proofs.YtioolcnoiaoflaaGreatDoor
open Go.RowKit
set_option linter.unusedSimpArgs false
set_option linter.unusedVariables false
set_option maxRecDepth 100000

theorem decode_step (s : ByteArray) (k : Nat) (h : k < s.size) : 1 ≤ (Utf8.decode s k).2 := by
  by_cases ha : s[k].toNat < 128
  · rw [decode_ascii s k h ha]; exact Nat.le_refl _
  · unfold Utf8.decode
    dsimp only
    split
    · simp
    · split
      · split <;> simp
      · split
        · split <;> simp
        · split
          · split <;> simp
          · simp
/-- A rune that is no blank. -/
theorem rune_other (s : ByteArray) (k : Nat) (h : k < s.size) (hg : isGap s[k] = false) : ¬ (Utf8.decode s k).1 = 32 ∧ ¬ (Utf8.decode s k).1 = 9 := by
  by_cases ha : s[k].toNat < 128
  · rw [decode_ascii s k h ha]
    simp [isGap] at hg
    constructor
    · intro e; exact hg.1 (by apply UInt8.toNat_inj.1; simpa using e)
    · intro e; exact hg.2 (by apply UInt8.toNat_inj.1; simpa using e)
  · have := (decode_high s k h (by omega)).1
    omega
/-- Behind a rune that is no blank a text has no blank at its end. -/
theorem trimGR_rune (s : ByteArray) (k : Nat) (h : k < s.size) (hg : isGap s[k] = false) : trimGR (s.data.toList.take (k + (Utf8.decode s k).2)) = s.data.toList.take (k + (Utf8.decode s k).2) := by
  have h1 := decode_step s k h
  have h2 := decode_tail s k h
  obtain ⟨j, hj⟩ : ∃ j, (Utf8.decode s k).2 = j + 1 := ⟨(Utf8.decode s k).2 - 1, by omega⟩
  rw [hj] at h2 ⊢
  have hl : s.data.toList.length = s.size := by simp
  have hlt : k + j < s.data.toList.length := by omega
  rw [show k + (j + 1) = (k + j) + 1 from by omega, List.take_succ_eq_append_getElem hlt]
  refine trimGR_snoc _ _ ?_
  by_cases h0 : j = 0
  · subst h0
    exact hg
  · have := h2.2 j (by omega) (by omega)
    rw [get!_list s (k + j) (by omega)] at this
    generalize s.data.toList[k + j] = b at *
    simp only [isGap, Bool.or_eq_false_iff, beq_eq_false_iff_ne, ne_eq]
    constructor
    · rintro rfl; simp at this
    · rintro rfl; simp at this
theorem text_of' (l : List UInt8) : ∃ X : ByteArray, (⟨l.toArray⟩ : ByteArray) = X ∧ X.data.toList = l := ⟨⟨l.toArray⟩, rfl, rfl⟩

def NbRel (s : ByteArray) (w : World) (I : Nat) (z : Value) (wr : World) : Prop :=
  ∃ k : Nat, z = .string ⟨#[]⟩ ∧ k ≤ s.size ∧ wr.heap[I]? = some (.stringIter s k) ∧ Below w.heap.size w wr ∧ noBegin (s.data.toList.drop k) = noBegin s.data.toList

set_option maxHeartbeats 4000000 in
theorem noBegin_any (s : ByteArray) (w : World) (hs : s.size ≤ 140737488355328) :
    Calls Tryz.prog 78 #[.string s] w fun e w' => e = .returned (.string ⟨(noBegin s.data.toList).toArray⟩) ∧ Below w.heap.size w w' := by
  go_enter Tryz.func78, Tryz.ntmps78
  go_wp2_with fail
  go_loopw [2] (fun z wr => NbRel s w w.heap.size z wr) (fun _ wr => s.size - wr.iterPos w.heap.size)
  case atStart => exact ⟨0, rfl, Nat.zero_le _, World.iter_heap w s 0, (Below.refl _ w).alloc (Nat.le_refl _) _, by simp⟩
  case round =>
    obtain ⟨k, rfl, hk, hit, hbw, hsz⟩ := hrel
    by_cases hp : k < s.size
    · have hnx : ∀ ty, (Instr.next (.pointer (some ⟨w.heap.size, 0, none⟩)) true ty).run Tryz.prog wr = _ := fun ty => Lib.run_next_any_at wr w.heap.size s k ty hit hp
      have hit2 := Lib.iterAt_heap wr w.heap.size s k (k + (Utf8.decode s k).2) hit
      have hbw2 := Lib.below_iterAt hbw (k := w.heap.size) (by omega) s (k + (Utf8.decode s k).2)
      have Hit := Lib.hid hit
      rw [get_list s k hp] at hsz
      clear hit hbw
      cases hg : isGap s[k] with
      | true =>
        have hor : s[k] = 32 ∨ s[k] = 9 := by simpa [isGap] using hg
        have hd : Utf8.decode s k = (s[k].toNat, 1) := decode_ascii s k hp (by rcases hor with h | h <;> simp [h])
        rw [hd] at hnx hit2 hbw2
        simp only at hnx hit2 hbw2
        have HS := Lib.hid (show noBegin (s.data.toList.drop (k + 1)) = noBegin s.data.toList from by rw [← hsz]; unfold noBegin; rw [List.dropWhile_cons, if_pos hg])
        clear hd hsz hg
        rcases hor with h | h
        · have n32 : ((s[k].toNat : Int) != 32) = false := by rw [h]; rfl
          clear h
          go_wp2
          go_roundw
          case rel => exact ⟨k + 1, rfl, by omega, hit2, hbw2, HS.out⟩
          case measure => simp only [World.iterPos, hit2, Hit.out]; omega
        · have n32 : ((s[k].toNat : Int) != 32) = true := by rw [h]; rfl
          have n9 : ((s[k].toNat : Int) != 9) = false := by rw [h]; rfl
          clear h
          go_wp2
          go_roundw
          case rel => exact ⟨k + 1, rfl, by omega, hit2, hbw2, HS.out⟩
          case measure => simp only [World.iterPos, hit2, Hit.out]; omega
      | false =>
        have hr := rune_other s k hp hg
        have n32 : (((Utf8.decode s k).1 : Int) != 32) = true := by simp; omega
        have n9 : (((Utf8.decode s k).1 : Int) != 9) = true := by simp; omega
        have HS := Lib.hid (show noBegin s.data.toList = s.data.toList.drop k from by rw [← hsz, get_list s k hp]; unfold noBegin; rw [List.dropWhile_cons, if_neg (by rw [hg]; simp)])
        clear hr hsz hg
        go_wp2
        go_ret
        exact ⟨ret_string (by rw [HS.out, ext_bytes, List.take_of_length_le (by rw [List.length_drop]; simp)]), hbw2⟩
    · have hnx : ∀ ty, (Instr.next (.pointer (some ⟨w.heap.size, 0, none⟩)) true ty).run Tryz.prog wr = _ := fun ty => Lib.run_next_end_at wr w.heap.size s k ty hit hp
      have e : s.data.toList.drop k = [] := List.drop_eq_nil_of_le (by simp; omega)
      rw [e] at hsz
      have HT := Lib.hid (show noBegin s.data.toList = [] from hsz.symm)
      clear e hsz
      go_wp2
      go_ret
      exact ⟨ret_string (by rw [HT.out]), hbw⟩

def WeRel (s : ByteArray) (w : World) (I : Nat) (z3 z4 : Value) (wr : World) : Prop :=
  ∃ (k g : Nat) (t : Bool), z3 = .int .i64 g ∧ z4 = .bool t ∧ k ≤ s.size ∧ g ≤ k ∧ wr.heap[I]? = some (.stringIter s k) ∧ Below w.heap.size w wr ∧ trimGR (s.data.toList.take k) = s.data.toList.take (if t then k else g)

set_option maxHeartbeats 8000000 in
theorem withoutEnd_any (s : ByteArray) (w : World) (hs : s.size ≤ 140737488355328) :
    Calls Tryz.prog 77 #[.string s] w fun e w' => e = .returned (.string ⟨(trimGR s.data.toList).toArray⟩) ∧ Below w.heap.size w w' := by
  have hl : s.data.toList.length = s.size := by simp
  have HLen := Lib.hid hl
  clear hl
  go_enter Tryz.func77, Tryz.ntmps77
  go_wp2_with fail
  go_loopw [3, 4] (fun z3 z4 wr => WeRel s w w.heap.size z3 z4 wr) (fun _ _ wr => s.size - wr.iterPos w.heap.size)
  case atStart => exact ⟨0, 0, false, rfl, rfl, Nat.zero_le _, Nat.le_refl _, World.iter_heap w s 0, (Below.refl _ w).alloc (Nat.le_refl _) _, by simp [trimGR_nil]⟩
  case round =>
    obtain ⟨k, g, t, rfl, rfl, hk, hgk, hit, hbw, hsz⟩ := hrel
    by_cases hp : k < s.size
    · have hnx : ∀ ty, (Instr.next (.pointer (some ⟨w.heap.size, 0, none⟩)) true ty).run Tryz.prog wr = _ := fun ty => Lib.run_next_any_at wr w.heap.size s k ty hit hp
      have hit2 := Lib.iterAt_heap wr w.heap.size s k (k + (Utf8.decode s k).2) hit
      have hbw2 := Lib.below_iterAt hbw (k := w.heap.size) (by omega) s (k + (Utf8.decode s k).2)
      have Hit := Lib.hid hit
      have hdt := (decode_tail s k hp).1
      have hds := decode_step s k hp
      clear hit hbw
      cases hg : isGap s[k] with
      | true =>
        have hor : s[k] = 32 ∨ s[k] = 9 := by simpa [isGap] using hg
        have hd : Utf8.decode s k = (s[k].toNat, 1) := decode_ascii s k hp (by rcases hor with h | h <;> simp [h])
        rw [hd] at hnx hit2 hbw2
        simp only at hnx hit2 hbw2
        have HS := Lib.hid (show trimGR (s.data.toList.take (k + 1)) = s.data.toList.take (if t then k else g) from by
          rw [List.take_succ_eq_append_getElem (by rw [HLen.out]; exact hp), trimGR_blank _ _ (show isGap s.data.toList[k] = true from hg), hsz])
        clear hd hsz hg hdt hds
        cases t with
        | true =>
          rcases hor with h | h
          · have n32 : ((s[k].toNat : Int) != 32) = false := by rw [h]; rfl
            clear h
            go_wp2
            go_roundw
            case rel => exact ⟨k + 1, k, false, rfl, rfl, by omega, by omega, hit2, hbw2, HS.out⟩
            case measure => simp only [World.iterPos, hit2, Hit.out]; omega
          · have n32 : ((s[k].toNat : Int) != 32) = true := by rw [h]; rfl
            have n9 : ((s[k].toNat : Int) != 9) = false := by rw [h]; rfl
            clear h
            go_wp2
            go_roundw
            case rel => exact ⟨k + 1, k, false, rfl, rfl, by omega, by omega, hit2, hbw2, HS.out⟩
            case measure => simp only [World.iterPos, hit2, Hit.out]; omega
        | false =>
          rcases hor with h | h
          · have n32 : ((s[k].toNat : Int) != 32) = false := by rw [h]; rfl
            clear h
            go_wp2
            go_roundw
            case rel => exact ⟨k + 1, g, false, rfl, rfl, by omega, by omega, hit2, hbw2, HS.out⟩
            case measure => simp only [World.iterPos, hit2, Hit.out]; omega
          · have n32 : ((s[k].toNat : Int) != 32) = true := by rw [h]; rfl
            have n9 : ((s[k].toNat : Int) != 9) = false := by rw [h]; rfl
            clear h
            go_wp2
            go_roundw
            case rel => exact ⟨k + 1, g, false, rfl, rfl, by omega, by omega, hit2, hbw2, HS.out⟩
            case measure => simp only [World.iterPos, hit2, Hit.out]; omega
      | false =>
        have hr := rune_other s k hp hg
        have n32 : (((Utf8.decode s k).1 : Int) != 32) = true := by simp; omega
        have n9 : (((Utf8.decode s k).1 : Int) != 9) = true := by simp; omega
        have HS := Lib.hid (trimGR_rune s k hp hg)
        have HD := Lib.hid (And.intro hdt hds)
        clear hr hsz hg hdt hds
        cases t with
        | true =>
          go_wp2
          go_roundw
          case rel => exact ⟨k + (Utf8.decode s k).2, k, true, rfl, rfl, HD.out.1, by omega, hit2, hbw2, HS.out⟩
          case measure => have := HD.out; simp only [World.iterPos, hit2, Hit.out]; omega
        | false =>
          go_wp2
          go_roundw
          case rel => exact ⟨k + (Utf8.decode s k).2, g, true, rfl, rfl, HD.out.1, by omega, hit2, hbw2, HS.out⟩
          case measure => have := HD.out; simp only [World.iterPos, hit2, Hit.out]; omega
    · have hnx : ∀ ty, (Instr.next (.pointer (some ⟨w.heap.size, 0, none⟩)) true ty).run Tryz.prog wr = _ := fun ty => Lib.run_next_end_at wr w.heap.size s k ty hit hp
      obtain rfl : k = s.size := by omega
      rw [List.take_of_length_le (by rw [HLen.out]; exact Nat.le_refl _)] at hsz
      cases t with
      | true =>
        rw [if_pos rfl, List.take_of_length_le (by rw [HLen.out]; exact Nat.le_refl _)] at hsz
        have HT := Lib.hid hsz
        clear hsz
        go_wp2
        go_ret
        exact ⟨ret_string (by rw [HT.out, Lib.mk_data]), hbw⟩
      | false =>
        rw [if_neg (by simp)] at hsz
        have HT := Lib.hid hsz
        clear hsz
        go_wp2
        go_ret
        exact ⟨ret_string (by rw [HT.out, ext_bytes, List.drop_zero, Nat.sub_zero]), hbw⟩

theorem trimG_begin (l : List UInt8) : trimGR (noBegin l) = trimG l := by
  have := trim_first l
  exact this
set_option maxHeartbeats 1000000 in
theorem plain_any (s : ByteArray) (w : World) (hs : s.size ≤ 140737488355328) :
    Calls Tryz.prog 25 #[.string s] w fun e w' => e = .returned (.string ⟨(trimG s.data.toList).toArray⟩) ∧ Below w.heap.size w w' := by
  have c1 := noBegin_any s w hs
  have hle : (noBegin s.data.toList).length ≤ s.size := by
    have := (List.dropWhile_suffix isGap (l := s.data.toList)).length_le
    simpa [noBegin] using this
  have c2 := fun w1 => withoutEnd_any ⟨(noBegin s.data.toList).toArray⟩ w1 (by rw [str_size]; omega)
  rw [show (⟨(noBegin s.data.toList).toArray⟩ : ByteArray).data.toList = noBegin s.data.toList from rfl, trimG_begin] at c2
  clear hle
  generalize noBegin s.data.toList = X at *
  generalize trimG s.data.toList = Y at *
  go_enter Tryz.func25, Tryz.ntmps25
  go_wp2_with fail
  refine c1.mono ?_
  rintro e w1 ⟨rfl, b1⟩
  go_wp2_with fail
  refine (c2 _).mono ?_
  rintro e w2 ⟨rfl, b2⟩
  go_wp2
  go_ret
  exact ⟨rfl, b1.then b2⟩

end Go.Proofs.YtioolcnoiaoflaaGreatDoor
