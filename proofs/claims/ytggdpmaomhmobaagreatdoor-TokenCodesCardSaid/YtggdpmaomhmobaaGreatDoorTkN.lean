/-
  Package token: Next, All.
-/
import Derived.Test.YtggdpmaomhmobaaGreatDoorTkG
import Derived.Test.YtggdpmaomhmobaaGreatDoorTkQ
namespace Go.Proofs.YtggdpmaomhmobaaGreatDoor
open Go.RowKit
set_option linter.unusedSimpArgs false
set_option linter.unusedVariables false
set_option maxRecDepth 100000

theorem next_out (s : ByteArray) (i : Int) (h : i < 0 ∨ (s.size : Int) ≤ i) (w : World) :
    Calls Tryz.prog 15 #[.string s, .int .i64 i] w fun e w' => e = .returned (.tuple #[.nilIface, .int .i64 0]) ∧ w = w' := by
  by_cases hn : i < 0
  · go_enter Tryz.func15, Tryz.ntmps15
    go_wp2
    go_ret2
    exact ⟨rfl, rfl⟩
  · have h2 : (s.size : Int) ≤ i := by omega
    go_enter Tryz.func15, Tryz.ntmps15
    go_wp2
    go_ret2
    exact ⟨rfl, rfl⟩

set_option maxHeartbeats 2000000 in
theorem next_any (s : ByteArray) (i : Nat) (hi : i < s.size) (w : World) (hw : TkW w) (hs : s.size ≤ 4000000000) :
    Calls Tryz.prog 15 #[.string s, .int .i64 i] w fun e w' => e = .returned (.tuple #[tkV (nextL (s.data.toList.drop i)).1, .int .i64 ((i : Int) + (nextL (s.data.toList.drop i)).2)]) ∧ Below w.heap.size w w' := by
  have hsl := fun W => slice_lo s (i : Int) i rfl (by omega) W
  have hT : (s.extract i s.size).size = s.size - i := by rw [ByteArray.size_extract]; omega
  have c1 := fun W h => first_any (s.extract i s.size) (by omega) W h (by omega)
  have c2 := fun W => word_any (s.extract i s.size) (by omega) W (by omega)
  have hne : s.data.toList.drop i ≠ [] := by intro e; have := congrArg List.length e; rw [List.length_drop, size_len'] at this; simp at this; omega
  have hl1 := first_len _ hne
  have hl2 := word_len _ hne
  rw [List.length_drop, size_len'] at hl1 hl2
  rw [drop_ext] at c1 c2
  have HN := Lib.hid (show nextL (s.data.toList.drop i) = if (firstTk (s.data.toList.drop i)).2 = 0 then (.word ((s.data.toList.drop i).take (wordTk (s.data.toList.drop i)).2), (wordTk (s.data.toList.drop i)).2) else firstTk (s.data.toList.drop i) from rfl)
  generalize nextL (s.data.toList.drop i) = r at *
  generalize firstTk (s.data.toList.drop i) = x at *
  generalize (wordTk (s.data.toList.drop i)).2 = z at *
  obtain ⟨t, n⟩ := x
  unfold tkR at c1
  simp only at c1 hl1
  have HW := Lib.hid hw
  have C1 := Lib.hid c1
  have C2 := Lib.hid c2
  clear c1 c2 hw hT hne
  by_cases hn : n = 0
  · subst hn
    have hr := HN.out
    rw [if_pos rfl] at hr
    subst hr
    have HV := Lib.hid (show tkV (.word ((s.data.toList.drop i).take z)) = .iface 42 (.string ⟨((s.data.toList.drop i).take z).toArray⟩) from rfl)
    generalize tkV t = v at *
    clear HN
    go_enter Tryz.func15, Tryz.ntmps15
    go_wp2_with fail
    refine (C1.out _ HW.out).mono ?_
    rintro e w1 ⟨rfl, b1⟩
    go_wp2_with fail
    refine (C2.out _).mono ?_
    rintro e w2 ⟨rfl, b2⟩
    go_wp2
    go_ret2
    exact ⟨by rw [HV.out]; rfl, b1.then b2⟩
  · have hr := HN.out
    rw [if_neg hn] at hr
    subst hr
    have f0 : ((n : Int) == 0) = false := by simpa using hn
    simp only
    generalize tkV t = v at *
    clear HN hn
    go_enter Tryz.func15, Tryz.ntmps15
    go_wp2_with fail
    refine (C1.out _ HW.out).mono ?_
    rintro e w1 ⟨rfl, b1⟩
    go_wp2
    go_ret2
    exact ⟨rfl, b1⟩

end Go.Proofs.YtggdpmaomhmobaaGreatDoor
