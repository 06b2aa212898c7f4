/-
  Package line: Join, over a list that may be read.
-/
import Derived.Test.YtoleoigpijgboaaDoorLineP
import Derived.Test.YtoleoigpijgboaaDoorBase
namespace Go.Proofs.YtoleoigpijgboaaDoor
open Go.RowKit
set_option linter.unusedSimpArgs false
set_option linter.unusedVariables false

def joinL : List (List UInt8) → List UInt8
  | [] => []
  | l :: ls => l ++ 10 :: joinL ls
theorem joinL_append (a b : List (List UInt8)) : joinL (a ++ b) = joinL a ++ joinL b := by
  induction a with
  | nil => rfl
  | cons x a ih => simp [joinL, ih]
theorem joinL_take (ls : List (List UInt8)) (k : Nat) (h : k < ls.length) : joinL (ls.take (k + 1)) = joinL (ls.take k) ++ ls[k] ++ [10] := by
  rw [List.take_succ_eq_append_getElem h, joinL_append]
  simp [joinL]
theorem joinL_le (ls : List (List UInt8)) (k : Nat) : (joinL (ls.take k)).length ≤ (joinL ls).length := by
  have := congrArg List.length (show joinL ls = joinL (ls.take k) ++ joinL (ls.drop k) from by rw [← joinL_append, List.take_append_drop])
  rw [List.length_append] at this
  omega

theorem split_join : ∀ ls : List (List UInt8), (∀ y ∈ ls, ∀ x ∈ y, x ≠ 10) → splitL (joinL ls) = ls
  | [], _ => rfl
  | l :: ls, h => by
    have ih := split_join ls (fun y hy => h y (by simp [hy]))
    unfold splitL at ih ⊢
    simp only [joinL]
    rw [splitFrom_more _ _ _ (h l (by simp)), List.nil_append, splitFrom_lf, ih]

def JoinRel (ls : List (List UInt8)) (w : World) (i : Value) (wr : World) : Prop :=
  ∃ k : Nat, i = .int .i64 k ∧ k ≤ ls.length ∧ Lib.IsBuilderF 64 5 w.heap.size w.heap.size (Lib.byteCells (joinL (ls.take k))) wr ∧ Below w.heap.size w wr ∧ w.heap.size < wr.heap.size

theorem cells_str (l acc : List UInt8) : Lib.byteCells acc ++ Lib.strCells ⟨l.toArray⟩ = Lib.byteCells (acc ++ l) := by
  rw [Lib.byteCells_append]; rfl

set_option maxHeartbeats 2000000 in
theorem join_any (A : Option Addr) (cap : Nat) (ls : List (List UInt8)) (w : World) (hrow : RowOf w A cap (strs ls)) (hlen : (joinL ls).length ≤ 70368744177664) :
    Calls Tryd.prog 61 #[.slice A ls.length cap] w fun e w' => e = .returned (.string ⟨(joinL ls).toArray⟩) ∧ Below w.heap.size w w' := by
  have hl1 := hrow.1
  have hl2 := hrow.2.1
  rw [strs_length] at hl1
  unfold maxLen at hl2
  go_enter Tryd.func61, Tryd.ntmps61
  go_wp2_with fail
  go_loopw [8] (fun i wr => JoinRel ls w i wr) (fun i wr => ls.length - (intOf i).toNat)
  case atStart =>
    refine ⟨0, rfl, Nat.zero_le _, Lib.IsBuilderF.of (Lib.fresh_isBuilder 64 5 w), (Below.refl _ w).alloc (Nat.le_refl _) _, (by show _ < (w.heap.push _).size; simp)⟩
  case round =>
    obtain ⟨k, rfl, hk, hI, hbw, hsz⟩ := hrel
    by_cases hp : k < ls.length
    · have hne : strs ls ≠ [] := by intro e; have := congrArg List.length e; rw [strs_length, List.length_nil] at this; omega
      obtain ⟨b, off, rfl, hb, hc⟩ := hrow.at hne
      have hck := hc k (by rw [strs_length]; exact hp)
      rw [strs_get] at hck
      have hcw := (hbw.cell (p := ⟨b, off + k, none⟩) hb).trans hck
      have HJ := Lib.hid (joinL_take ls k hp)
      have h1 := joinL_le ls k
      have h2 := joinL_le ls (k + 1)
      rw [HJ.out] at h2
      simp only [List.length_append, List.length_cons, List.length_nil] at h2
      have hss := str_size ls[k]
      have hbs : (⟨ls[k].toArray⟩ : ByteArray).size ≤ 70368744177664 := by rw [hss]; omega
      have hbs2 : (Lib.byteCells (joinL (ls.take k))).length + (⟨ls[k].toArray⟩ : ByteArray).size ≤ 140737488355328 := by rw [hss, Lib.byteCells_length]; omega
      have hws := Tryd.Builder_WriteString_k w.heap.size w.heap.size _ ⟨ls[k].toArray⟩ wr hI hbs2 (by omega)
      rw [cells_str] at hws
      clear hck hss hc hne hI
      have HW := Lib.hid hws
      clear hws
      go_wp2_with fail
      refine HW.out.mono ?_
      rintro e w1 ⟨rfl, g1, b1, k1⟩
      have hsz1 := b1.size
      go_wp2_with fail
      refine (Tryd.Builder_WriteByte_k w.heap.size w.heap.size _ 10 w1 (Or.inr g1) (by rw [Lib.byteCells_length, List.length_append]; omega) (by omega)).mono ?_
      rintro e w2 ⟨rfl, g2, b2, k2⟩
      have hsz2 := b2.size
      have HG := Lib.hid g2
      clear g1 g2
      go_wp2
      go_roundw
      case rel => exact ⟨k + 1, by go_num, by omega, by rw [HJ.out, Lib.byteCells_append (joinL (ls.take k) ++ ls[k]) [10]]; exact Or.inr HG.out, (hbw.trans b1).trans b2, by omega⟩
      case measure => simp [intOf]; omega
    · obtain rfl : k = ls.length := by omega
      rw [List.take_length] at hI
      go_wp2_with fail
      refine (Tryd.Builder_String_any_k w.heap.size w.heap.size _ _ hI (by omega)).mono ?_
      rintro e w1 ⟨rfl, _, b1, _⟩
      go_wp2
      go_ret
      exact ⟨rfl, hbw.trans b1⟩

end Go.Proofs.YtoleoigpijgboaaDoor
