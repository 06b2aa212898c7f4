/-
  Package entity: Named: what each answers, in plain words.
-/
import Derived.Test.YtggdpmaomhmobaaGreatDoorEntP
import Derived.Laws.Rows
namespace Go.Proofs.YtggdpmaomhmobaaGreatDoor
open Go.RowKit
set_option linter.unusedSimpArgs false
set_option linter.unusedVariables false

def namedCells : Array Value := (namedL.flatMap fun e => [Value.string ⟨e.1.toArray⟩, Value.string ⟨e.2.toArray⟩]).toArray
/-- The variable 'named' holds the names and their texts. -/
def NamedIs (w : World) : Prop := ∃ t fr, w.heap[0]? = some (.cells namedCells t fr)
theorem NamedIs.below {w w' : World} (h : NamedIs w) (hb : Below w.heap.size w w') : NamedIs w' := by
  obtain ⟨t, fr, h⟩ := h
  exact ⟨t, fr, (hb.block _ (Array.getElem?_eq_some_iff.1 h).1).trans h⟩

theorem named_index : ∀ k : Nat, k < 23 → ∀ w : World, (Instr.index 61 (.agg namedCells) (.int .i64 k)).run Tryz.prog w = .ok (.agg #[.string (nmB k), .string (txB k)]) w
  | 0, _, _ => by kernel_rfl
  | 1, _, _ => by kernel_rfl
  | 2, _, _ => by kernel_rfl
  | 3, _, _ => by kernel_rfl
  | 4, _, _ => by kernel_rfl
  | 5, _, _ => by kernel_rfl
  | 6, _, _ => by kernel_rfl
  | 7, _, _ => by kernel_rfl
  | 8, _, _ => by kernel_rfl
  | 9, _, _ => by kernel_rfl
  | 10, _, _ => by kernel_rfl
  | 11, _, _ => by kernel_rfl
  | 12, _, _ => by kernel_rfl
  | 13, _, _ => by kernel_rfl
  | 14, _, _ => by kernel_rfl
  | 15, _, _ => by kernel_rfl
  | 16, _, _ => by kernel_rfl
  | 17, _, _ => by kernel_rfl
  | 18, _, _ => by kernel_rfl
  | 19, _, _ => by kernel_rfl
  | 20, _, _ => by kernel_rfl
  | 21, _, _ => by kernel_rfl
  | 22, _, _ => by kernel_rfl
  | n + 23, h, _ => by omega

theorem nm_toList (k : Nat) : (nmB k).toList = (namedL.getD k ([], [])).1 := by rw [ByteArray.toList_eq]; rfl
theorem named_find (l : List UInt8) (k : Nat) (h : k < 23) : ((namedL.drop k).find? fun e => e.1 == l) = if (namedL.getD k ([], [])).1 = l then some (namedL.getD k ([], [])) else (namedL.drop (k + 1)).find? fun e => e.1 == l := by
  have hl := namedL_length
  rw [List.drop_eq_getElem_cons (by omega), List.find?_cons, List.getD_eq_getElem?_getD, List.getElem?_eq_getElem (by omega), Option.getD_some]
  split
  · rename_i h1; rw [if_pos (by simpa using h1)]
  · rename_i h1; rw [if_neg (by simpa using h1)]
def NamedRel (s : ByteArray) (w : World) (i : Value) (wr : World) : Prop :=
  ∃ k : Nat, i = .int .i64 k ∧ k ≤ 23 ∧ Below w.heap.size w wr ∧ ((namedL.drop k).find? fun e => e.1 == s.data.toList) = namedL.find? fun e => e.1 == s.data.toList
/-- What Named answers. -/
def namedR (l : List UInt8) : Value := match lookL l with
  | none => .tuple #[.string ByteArray.empty, .bool false]
  | some t => .tuple #[.string ⟨t.toArray⟩, .bool true]

set_option maxHeartbeats 1000000 in
theorem named_any (s : ByteArray) (w : World) (hn : NamedIs w) :
    Calls Tryz.prog 17 #[.string s] w fun e w' => e = .returned (namedR s.data.toList) ∧ Below w.heap.size w w' := by
  obtain ⟨t, fr, hg⟩ := hn
  go_enter Tryz.func17, Tryz.ntmps17
  go_wp2_with (refine wpList_load_row rfl 61 _ rfl 0 rfl t namedCells fr _ hg Tryz.underlying61 rfl (by kernel_rfl) ?_)
  go_loopw [7] (fun i wr => NamedRel s w i wr) (fun i _ => 23 - (intOf i).toNat)
  case atStart => exact ⟨0, rfl, Nat.zero_le _, Below.refl _ _, rfl⟩
  case round =>
    obtain ⟨k, rfl, hk, hbw, hf⟩ := hrel
    by_cases hp : k < 23
    · have hx := named_index k hp
      have hst := named_find s.data.toList k hp
      have HF := Lib.hid hf
      have HS := Lib.hid hst
      clear hf hst
      by_cases he : (namedL.getD k ([], [])).1 = s.data.toList
      · have fe : ((nmB k).toList == s.toList) = true := by rw [beq_iff_eq, nm_toList, ByteArray.toList_eq]; exact he
        have HR := Lib.hid (show namedR s.data.toList = .tuple #[.string (txB k), .bool true] from by
          have h1 := HS.out
          rw [if_pos he, HF.out] at h1
          unfold namedR lookL
          rw [h1]
          rfl)
        clear he
        go_wp2
        go_ret2
        exact ⟨by rw [HR.out]; rfl, hbw.alloc (by have := hbw.size; omega) _⟩
      · have fe : ((nmB k).toList == s.toList) = false := by
          rw [beq_eq_false_iff_ne, nm_toList, ByteArray.toList_eq]; exact he
        have HR := Lib.hid (show ((namedL.drop (k + 1)).find? fun e => e.1 == s.data.toList) = namedL.find? fun e => e.1 == s.data.toList from by
          have h1 := HS.out
          rw [if_neg he, HF.out] at h1
          exact h1.symm)
        clear he
        go_wp2
        go_roundw
        case rel => exact ⟨k + 1, by go_num, by omega, hbw.alloc (by have := hbw.size; omega) _, HR.out⟩
        case measure => simp [intOf]; omega
    · obtain rfl : k = 23 := by omega
      have HR := Lib.hid (show namedR s.data.toList = .tuple #[.string ByteArray.empty, .bool false] from by
          rw [List.drop_of_length_le (by rw [namedL_length]; omega)] at hf
          unfold namedR lookL
          rw [← hf]
          rfl)
      clear hf
      go_wp2
      go_ret2
      exact ⟨by rw [HR.out]; rfl, hbw⟩

def namesL : List (List UInt8) := namedL.map (·.1)
theorem namesL_length : namesL.length = 23 := by decide +kernel
theorem namesL_take (k : Nat) (h : k < 23) : strs (namesL.take (k + 1)) = strs (namesL.take k) ++ [.string (nmB k)] := by
  have hl := namesL_length
  have hl2 := namedL_length
  rw [List.take_succ_eq_append_getElem (by omega), strs_append, strs_one]
  simp [namesL, nmB, hl2, h]
theorem size_len (S : ByteArray) : S.data.toList.length = S.size := by simp

end Go.Proofs.YtggdpmaomhmobaaGreatDoor
