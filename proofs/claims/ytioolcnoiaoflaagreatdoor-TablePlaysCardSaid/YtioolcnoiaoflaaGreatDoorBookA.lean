/-
  The statements' book of lists: name, markTexts.
-/
import Derived.Test.YtioolcnoiaoflaaGreatDoorTexts
import Derived.Laws.BytesArg
import Derived.Maps.AppendAt
namespace Go.Proofs.YtioolcnoiaoflaaGreatDoor
open Go.RowKit
set_option linter.unusedSimpArgs false
set_option linter.unusedVariables false

def nameN (i k : Int) : List Int := [109, 65 + i % 26, 65 + i / 26 % 26, 48 + k % 10, 48 + k / 10 % 10, 48 + k / 100 % 10]
def nameL (i k : Int) : List UInt8 := (nameN i k).map fun n => UInt8.ofNat n.toNat

set_option maxRecDepth 100000 in
theorem name_any (i k : Int) (w : World) (hi : 0 ≤ i) (hi2 : i ≤ 100000) (hk : 0 ≤ k) (hk2 : k ≤ 1000000000) :
    Calls Tryz.prog 111 #[.int .i64 i, .int .i64 k] w fun e w' => e = .returned (.string ⟨(nameL i k).toArray⟩) ∧ Below w.heap.size w w' := by
  have hconv := run_convert_bytes_arg (P := Tryz.prog) (w.alloc (.cells #[.int .u8 109, .int .u8 (65 + i % 26), .int .u8 (65 + i / 26 % 26), .int .u8 (48 + k % 10), .int .u8 (48 + k / 10 % 10), .int .u8 (48 + k / 100 % 10)] 5))
    87 5 Tryz.underlying87 Tryz.underlying5 w.heap.size 0 6 6 (nameN i k) rfl (fun j hj => by
      rw [Nat.zero_add, cell_of_row _ _ j _ 5 (0, 0) (heap_alloc_new w _)]
      match j, hj with
      | 0, _ => rfl
      | 1, _ => rfl
      | 2, _ => rfl
      | 3, _ => rfl
      | 4, _ => rfl
      | 5, _ => rfl
      | n + 6, h => omega) 9 Tryz.underlying9
  rw [show strOfNums (nameN i k) = ⟨(nameL i k).toArray⟩ from rfl] at hconv
  generalize nameL i k = X at *
  go_enter Tryz.func111, Tryz.ntmps111
  go_wp2
  go_ret
  exact ⟨rfl, (Below.refl _ w).alloc (Nat.le_refl _) _⟩

/-- The marks of list i from 'from' on. -/
def marks (i : Int) (from' n : Nat) : List (List UInt8) := (List.range n).map fun j => nameL i ((from' + j : Nat) : Int)
theorem marks_length (i : Int) (f n : Nat) : (marks i f n).length = n := by simp [marks]
theorem marks_succ (i : Int) (f n : Nat) : marks i f (n + 1) = marks i f n ++ [nameL i ((f + n : Nat) : Int)] := by simp [marks, List.range_succ]
theorem marks_add (i : Int) (a b : Nat) : marks i 0 a ++ marks i a b = marks i 0 (a + b) := by
  induction b with
  | zero => simp [marks]
  | succ b ih => rw [marks_succ, ← List.append_assoc, ih, ← Nat.add_assoc, marks_succ]; simp
theorem marks_take (i : Int) (n k : Nat) (h : k ≤ n) : (marks i 0 n).take k = marks i 0 k := by
  obtain ⟨d, rfl⟩ := Nat.le.dest h
  rw [← marks_add, List.take_append_of_le_length (by rw [marks_length]; omega), List.take_of_length_le (by rw [marks_length]; omega)]

def MarkRel (i : Int) (f n : Nat) (w : World) (v k : Value) (wr : World) : Prop :=
  ∃ j q : Nat, k = .int .i64 q ∧ q = f + j ∧ j ≤ n ∧ wr.ownsRow w.heap.size 9 1 v j (strs (marks i f j)) ∧ Below w.heap.size w wr

set_option maxHeartbeats 1000000 in
set_option maxRecDepth 100000 in
theorem markTexts_any (i : Int) (f n : Nat) (w : World) (hi : 0 ≤ i) (hi2 : i ≤ 100000) (hf : f ≤ 1000000) (hn : n ≤ 1000000) :
    Calls Tryz.prog 90 #[.int .i64 i, .int .i64 f, .int .i64 n] w fun e w' => ∃ v, e = .returned v ∧ w'.ownsRow w.heap.size 9 1 v n (strs (marks i f n)) ∧ Below w.heap.size w w' := by
  obtain ⟨i0, hi0, hz0, hz1, hz2⟩ := info_parts infoString
  go_enter Tryz.func90, Tryz.ntmps90
  go_wp2_with fail
  go_loopw [7, 8] (fun v k wr => MarkRel i f n w v k wr) (fun _ k _ => f + n - (intOf k).toNat)
  case atStart => exact ⟨0, f, rfl, rfl, Nat.zero_le _, World.ownsRow_nil _ _ _ _, Below.refl _ _⟩
  case round =>
    obtain ⟨j, q, rfl, hq, hj, hown, hbw⟩ := hrel
    have hsz := hbw.size
    have hq0 : f ≤ q := by omega
    have hq1 : q ≤ f + n := by omega
    by_cases hp : j < n
    · have HM := Lib.hid (show marks i f (j + 1) = marks i f j ++ [nameL i (q : Int)] from by rw [marks_succ, hq])
      have hcn := name_any i (q : Int) wr hi hi2 (by omega) (by omega)
      have hq2 : q < f + n := by omega
      have HQ := Lib.hid hq
      have hU := strs_append (marks i f j) [nameL i (q : Int)]
      rw [strs_one] at hU
      have HU := Lib.hid hU
      clear hU
      generalize nameL i (q : Int) = X at *
      clear hq
      go_wp2_with fail
      refine hcn.mono ?_
      rintro e w1 ⟨rfl, b1⟩
      have hown1 := ownsRow_below hown b1
      have hsz1 := b1.size
      go_wp2_with (at_builtin; refine wpList_append_own _ rfl _ _ 52 rfl w.heap.size 9 i0 (.string ByteArray.empty) 1 16 Tryz.underlying52 hi0 hz0 hz1 hz2 rfl (by decide) _ _ _ rfl (hown1.alloc _) ⟨w1.heap.size, 0, none⟩ 1 1 [.string ⟨X.toArray⟩] rfl rfl ?c1 ?c2 ?c3 ?c4 ?c5 ?_)
      case c1 =>
        intro j u hj
        match j, hj with
        | 0, hj => simp at hj; subst hj; simp [Addr.add]
      case c2 => intro u hu; simp at hu; subst hu; rfl
      case c3 => unfold maxLen; omega
      case c4 => omega
      case c5 => simp; omega
      · intro v' w2 hown' hgrow _
        have hbw3 := ((hbw.trans (b1.mono hsz)).alloc (by omega) _).grown hgrow (by simp; omega) (fun k hk => (hown1.lt k hk).1)
        rw [← HU.out] at hown'
        have HO := Lib.hid hown'
        clear hown' hgrow
        go_wp2
        go_roundw
        case rel => exact ⟨j + 1, q + 1, by go_num, by rw [HQ.out]; omega, by omega, by rw [HM.out]; exact HO.out, hbw3⟩
        case measure => simp [intOf]; omega
    · obtain rfl : j = n := by omega
      have hq3 : ¬ q < f + j := by omega
      clear hq
      go_wp2
      go_ret
      exact ⟨_, rfl, hown, hbw⟩

end Go.Proofs.YtioolcnoiaoflaaGreatDoor
