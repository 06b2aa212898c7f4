/-
  EmphThrees.
-/
import Derived.Test.YtmgcfmcpagegmaaEmU
namespace Go.Proofs.Ytmgcfmcpagegmaa
open Go.RowKit Go.Maps Go.ChangeShapes
set_option linter.unusedSimpArgs false
set_option linter.unusedVariables false
set_option maxRecDepth 100000

theorem heap_alloc3_new (w : World) (a b c : Obj) : (((w.alloc a).alloc b).alloc c).heap[w.heap.size + 1 + 1]? = some c := by
  have h := heap_alloc_new ((w.alloc a).alloc b) c
  rwa [alloc_size, alloc_size] at h
set_option maxHeartbeats 4000000 in
theorem emphThrees_walk (w : World) (a0 : Int) (w0 : (Lit.int .i64 a0).wf = true) (a1 : Int) (w1 : (Lit.int .i64 a1).wf = true) :
    Calls Try.prog 8 #[.int .i64 a0, .int .i64 a1] w fun e w' => e = .returned (.bool true) ∧ Below w.heap.size w w' := by
  have hal := alive14_any w
  by_cases hin : (1 ≤ a0 ∧ a0 ≤ 9) ∧ (1 ≤ a1 ∧ a1 ≤ 9)
  · obtain ⟨⟨h1, h2⟩, h3, h4⟩ := hin
    obtain ⟨n, rfl⟩ : ∃ n : Nat, a0 = n := ⟨a0.toNat, by omega⟩
    obtain ⟨m, rfl⟩ : ∃ m : Nat, a1 = m := ⟨a1.toNat, by omega⟩
    have t1 : decide ((n : Int) < 1) = false := by simp; omega
    have t2 : decide ((m : Int) < 1) = false := by simp; omega
    have t3 : decide (9 < (n : Int)) = false := by simp; omega
    have t4 : decide (9 < (m : Int)) = false := by simp; omega
    go_enter Try.func8, Try.ntmps8
    go_wp2_with fail
    refine hal.mono ?_
    rintro e w1 ⟨rfl, b1⟩
    have HB1 := Lib.hid b1
    clear b1 hal
    go_wp2_with fail
    refine (group3_any (g := w1.heap.size) (g' := w1.heap.size + 1 + 1) (opn 42 n n) (both 42 m) [119] _ (((Below.heap_alloc _ _ _ (by simp; omega)).trans (Below.heap_alloc _ _ _ (by simp))).trans (heap_alloc_new _ _)) (heap_alloc3_new _ _ _ _) ⟨by show (42 : UInt8) ≠ 0; decide, rfl, by show (0 : Int) ≤ n; omega, by show (n : Int) ≤ 1000; omega, rfl⟩ ⟨by show (42 : UInt8) ≠ 0; decide, rfl, by show (0 : Int) ≤ m; omega, by show (m : Int) ≤ 1000; omega, rfl⟩ (by decide)).mono ?_
    rintro e w2 ⟨⟨v, rfl, ho⟩, b2⟩
    have hB2 := (((HB1.out.alloc HB1.out.size _).alloc (by have := HB1.out.size; simp; omega) _).alloc (by have := HB1.out.size; simp; omega) _).trans (b2.mono (by have := HB1.out.size; simp; omega))
    obtain ⟨A1, k1, rfl, hG⟩ := EltsAt.own ilC_length ho
    have hT := threes_plain n (List.mem_range.2 (by omega)) m (List.mem_range.2 (by omega)) (by omega) (by omega)
    rw [show wItm = nds [wordsI 0 [119]] from rfl] at hT
    have HB2 := Lib.hid hB2
    have HT := Lib.hid hT
    clear hB2 b2 ho hT
    generalize groupI [opn 42 n n, nds [wordsI 0 [119]], both 42 m] = G at *
    go_wp2_with fail
    have hgl : G.length ≤ 9223372036854775807 := by have h1 := hG.le; have h2 := hG.cap; unfold maxLen at h2; omega
    (try simp only [t1, t2, t3, t4, Bool.false_or, Bool.or_false])
    go_loopw [7, 41] (fun p i wr => ∃ k : Nat, i = .int .i64 k ∧ k ≤ G.length ∧ p = .bool ((G.take k).any fun x => x.kd != 1) ∧ Below w2.heap.size w2 wr) (fun _ i _ => G.length - (intOf i).toNat)
    case atStart => exact ⟨0, rfl, Nat.zero_le _, rfl, Below.refl _ _⟩
    case round =>
      obtain ⟨k, rfl, hk, rfl, hbw⟩ := hrel
      by_cases hp : k < G.length
      · obtain ⟨b, off, e, hb, c0, c1, c2, c3, c4⟩ := InlsAt.cells5 (EltsAt.below hG hbw) hp
        subst e
        have hts : G.take (k + 1) = G.take k ++ [G[k]] := List.take_succ_eq_append_getElem hp
        have hany : ((G.take (k + 1)).any fun x => x.kd != 1) = (((G.take k).any fun x => x.kd != 1) || (G[k].kd != 1)) := by
          rw [hts, List.any_append]
          simp
        have HANY := Lib.hid hany
        have HP := Lib.hid hp
        have HW := Lib.hid (hbw.alloc hbw.size (.cells #[.int .i64 G[k].kd, .int .i64 G[k].dp, .string ⟨G[k].txt.toArray⟩, .string ⟨G[k].url.toArray⟩, .string ⟨G[k].ttl.toArray⟩] 29))
        obtain ⟨x0, x1, x2, x3, x4⟩ := box5 wr (.int .i64 G[k].kd) (.int .i64 G[k].dp) (.string ⟨G[k].txt.toArray⟩) (.string ⟨G[k].url.toArray⟩) (.string ⟨G[k].ttl.toArray⟩) 29
        clear hany hts hbw
        generalize hpv : ((G.take k).any fun x => x.kd != 1) = pv at *
        have HPV := Lib.hid hpv
        clear hpv
        generalize G[k] = x at *
        obtain ⟨kd, dp, tx, ur, ti⟩ := x
        dsimp only at *
        cases pv with
        | true =>
          go_wp2
          go_roundw
          case rel => exact ⟨k + 1, by go_num, HP.out, by rw [HANY.out]; rfl, HW.out⟩
          case measure => have := HP.out; simp [intOf]; omega
        | false =>
          go_wp2
          go_roundw
          case rel => exact ⟨k + 1, by go_num, HP.out, by rw [HANY.out]; simp, HW.out⟩
          case measure => have := HP.out; simp [intOf]; omega
      · obtain rfl : k = G.length := by omega
        rw [List.take_length, HT.out]
        clear hG HT
        generalize hR : (!((n + m) % 3 == 0 && (n % 3 != 0 || m % 3 != 0))) = R
        have HRR := Lib.hid hR
        clear hR
        have hN : n % 3 = 0 ∨ n % 3 = 1 ∨ n % 3 = 2 := by omega
        have hM : m % 3 = 0 ∨ m % 3 = 1 ∨ m % 3 = 2 := by omega
        have HN := Lib.hid hN
        have HM := Lib.hid hM
        have q2 : (n : Int) % 3 = ((n % 3 : Nat) : Int) := by omega
        have q3 : (m : Int) % 3 = ((m % 3 : Nat) : Int) := by omega
        have HQ := Lib.hid (And.intro q2 q3)
        have HW := Lib.hid (HB2.out.trans (hbw.mono HB2.out.size))
        clear hN hM q2 q3 hbw
        go_wp2
        all_goals (go_ret; refine ⟨ret_bool ?_, HW.out⟩; obtain ⟨q2, q3⟩ := HQ.out; rw [← HRR.out]; rcases HN.out with hN | hN | hN <;> rcases HM.out with hM | hM | hM <;> first | (exfalso; omega) | (simp [q2, q3, hN, hM, Nat.add_mod]))
  · go_enter Try.func8, Try.ntmps8
    go_wp2_with fail
    all_goals (refine hal.mono ?_; rintro e w' ⟨rfl, b⟩; go_wp2; go_ret; exact ⟨rfl, b⟩)

end Go.Proofs.Ytmgcfmcpagegmaa
