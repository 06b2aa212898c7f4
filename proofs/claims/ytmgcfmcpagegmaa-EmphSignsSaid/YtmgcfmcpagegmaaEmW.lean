/-
  EmphSigns.
-/
import Derived.Test.YtmgcfmcpagegmaaEmU
namespace Go.Proofs.Ytmgcfmcpagegmaa
open Go.RowKit Go.Maps Go.ChangeShapes
set_option linter.unusedSimpArgs false
set_option linter.unusedVariables false
set_option maxRecDepth 100000

theorem heap_alloc3_new' (w : World) (a b c : Obj) : (((w.alloc a).alloc b).alloc c).heap[w.heap.size + 1 + 1]? = some c := by
  have h := heap_alloc_new ((w.alloc a).alloc b) c
  rwa [alloc_size, alloc_size] at h
theorem app_list (a : ByteArray) (l : ByteArray) : (a ++ l).data.toList = a.data.toList ++ l.data.toList := by simp
set_option maxHeartbeats 4000000 in
theorem emphSigns_walk (w : World) (a0 : Int) (w0 : (Lit.int .i64 a0).wf = true) (a1 : Int) (w1 : (Lit.int .i64 a1).wf = true) :
    Calls Try.prog 9 #[.int .i64 a0, .int .i64 a1] w fun e w' => e = .returned (.bool true) ∧ Below w.heap.size w w' := by
  have hal := alive14_any w
  by_cases hin : (1 ≤ a0 ∧ a0 ≤ 9) ∧ (1 ≤ a1 ∧ a1 ≤ 9)
  · obtain ⟨⟨h1, h2⟩, h3, h4⟩ := hin
    obtain ⟨n, rfl⟩ : ∃ n : Nat, a0 = n := ⟨a0.toNat, by omega⟩
    obtain ⟨m, rfl⟩ : ∃ m : Nat, a1 = m := ⟨a1.toNat, by omega⟩
    have t1 : decide ((n : Int) < 1) = false := by simp; omega
    have t2 : decide ((m : Int) < 1) = false := by simp; omega
    have t3 : decide (9 < (n : Int)) = false := by simp; omega
    have t4 : decide (9 < (m : Int)) = false := by simp; omega
    go_enter Try.func9, Try.ntmps9
    go_wp2_with fail
    refine hal.mono ?_
    rintro e w1 ⟨rfl, b1⟩
    have HB1 := Lib.hid b1
    clear b1 hal
    go_wp2_with fail
    refine (group3_any (g := w1.heap.size) (g' := w1.heap.size + 1 + 1) (both 42 n) (both 95 m) [119] _ (((Below.heap_alloc _ _ _ (by simp; omega)).trans (Below.heap_alloc _ _ _ (by simp))).trans (heap_alloc_new _ _)) (heap_alloc3_new' _ _ _ _) ⟨by show (42 : UInt8) ≠ 0; decide, rfl, by show (0 : Int) ≤ n; omega, by show (n : Int) ≤ 1000; omega, rfl⟩ ⟨by show (95 : UInt8) ≠ 0; decide, rfl, by show (0 : Int) ≤ m; omega, by show (m : Int) ≤ 1000; omega, rfl⟩ (by decide)).mono ?_
    rintro e w2 ⟨⟨v, rfl, ho⟩, b2⟩
    have hB2 := (((HB1.out.alloc HB1.out.size _).alloc (by have := HB1.out.size; simp; omega) _).alloc (by have := HB1.out.size; simp; omega) _).trans (b2.mono (by have := HB1.out.size; simp; omega))
    have hT := signs_plain n (List.mem_range.2 (by omega)) m (List.mem_range.2 (by omega)) (by omega) (by omega)
    rw [show wItm = nds [wordsI 0 [119]] from rfl] at hT
    rw [hT] at ho
    clear hT
    obtain ⟨L, hL⟩ : ∃ L, L = List.replicate n (42 : UInt8) ++ [119] ++ List.replicate m 95 := ⟨_, rfl⟩
    rw [← hL] at ho
    obtain ⟨A1, k1, rfl, hG⟩ := EltsAt.own ilC_length ho
    obtain ⟨b, off, rfl, hb, c0, c1, c2, c3, c4⟩ := InlsAt.cells5 hG (k := 0) (by simp)
    have HB2 := Lib.hid hB2
    have HL := Lib.hid hL
    simp only [List.getElem_cons_zero, Nat.zero_mul, Nat.add_zero, wordsI] at c0 c1 c2 c3 c4
    clear hB2 b2 ho hL hG
    go_wp2_with fail
    (try simp only [t1, t2, t3, t4, Bool.false_or, Bool.or_false])
    go_loopw [7, 8] (fun s i wr => ∃ (k : Nat) (u : ByteArray), s = .string u ∧ i = .int .i64 k ∧ k ≤ n ∧ u.data.toList = List.replicate k 42 ∧ wr = w2) (fun _ i _ => n - (intOf i).toNat)
    case atStart => exact ⟨0, ⟨#[]⟩, rfl, rfl, Nat.zero_le _, rfl, rfl⟩
    case round =>
      obtain ⟨k, u, rfl, rfl, hk, hu, hw⟩ := hrel
      obtain rfl : w2 = wr := hw.symm
      have hns : ¬ 9223372036854775807 < u.size + 1 := by
        have h5 := congrArg List.length hu
        rw [List.length_replicate] at h5
        have h6 : u.size = k := h5
        omega
      have HU := Lib.hid hu
      clear hu
      by_cases hp : k < n
      · go_wp2
        go_roundw
        case rel => exact ⟨k + 1, _, rfl, by go_num, by omega, by rw [app_list, HU.out, List.replicate_succ'], trivial⟩
        case measure => simp [intOf]; omega
      · obtain rfl : k = n := by omega
        go_wp2_with fail
        go_loopw [7, 9] (fun s i wr => ∃ (j : Nat) (u2 : ByteArray), s = .string u2 ∧ i = .int .i64 j ∧ j ≤ m ∧ u2.data.toList = List.replicate k 42 ++ [119] ++ List.replicate j 95 ∧ wr = w2) (fun _ i _ => m - (intOf i).toNat)
        case atStart => exact ⟨0, _, rfl, rfl, Nat.zero_le _, by rw [app_list, HU.out]; simp, rfl⟩
        case round =>
          obtain ⟨j, u2, rfl, rfl, hj, hu2, hw⟩ := hrel
          obtain rfl : w2 = wr := hw.symm
          have hns2 : ¬ 9223372036854775807 < u2.size + 1 := by
            have h5 := congrArg List.length hu2
            simp only [List.length_append, List.length_replicate, List.length_singleton] at h5
            have h6 : u2.size = k + 1 + j := h5
            omega
          have HU2 := Lib.hid hu2
          clear hu2
          by_cases hp2 : j < m
          · go_wp2
            go_roundw
            case rel => exact ⟨j + 1, _, rfl, by go_num, by omega, by rw [app_list, HU2.out, List.replicate_succ', List.append_assoc], trivial⟩
            case measure => simp [intOf]; omega
          · obtain rfl : j = m := by omega
            have e : u2 = ⟨L.toArray⟩ := by rw [HL.out, ← HU2.out]
            clear HU2 HU
            subst e
            clear HL
            go_wp2

            go_ret
            exact ⟨rfl, HB2.out⟩
  · go_enter Try.func9, Try.ntmps9
    go_wp2_with fail
    all_goals (refine hal.mono ?_; rintro e w' ⟨rfl, b⟩; go_wp2; go_ret; exact ⟨rfl, b⟩)

end Go.Proofs.Ytmgcfmcpagegmaa
