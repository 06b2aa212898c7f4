/-
  The laws of package policy: same, alive.
-/
import Derived.Test.YtobmmbhmaaednaaPolG
import Derived.Laws.StructEq
namespace Go.Proofs.Ytobmmbhmaaednaa
open Go.RowKit
set_option linter.unusedSimpArgs false
set_option linter.unusedVariables false

theorem run_equal_pair_at (d : Nat) (w : World) (p1 p2 q1 q2 : Int) (hi : ∀ (a b : Int) (W : World), (Op.equalIn d 3 (.int .i64 a) (.int .i64 b)).run Try.prog W = .ok (a == b) W) :
    (Op.equalIn (d + 1) 41 (.agg #[.int .i64 p1, .int .i64 p2]) (.agg #[.int .i64 q1, .int .i64 q2])).run Try.prog w = .ok (p1 == q1 && p2 == q2) w := by
  simp only [Op.equalIn, Sem.run_bind, run_underlying Try.underlying41, Result.andThen_ok]
  generalize hE : Op.equalIn d = E at *
  simp [List.range', hi, part, Try.sizeOf3]
  by_cases h1 : p1 = q1 <;> by_cases h2 : p2 = q2 <;> simp [h1, h2]
theorem run_equal_pair (w : World) (p1 p2 q1 q2 : Int) :
    (Op.equalIn 10000 41 (.agg #[.int .i64 p1, .int .i64 p2]) (.agg #[.int .i64 q1, .int .i64 q2])).run Try.prog w = .ok (p1 == q1 && p2 == q2) w :=
  run_equal_pair_at 9999 w p1 p2 q1 q2 (fun a b W => run_equalIn_int W 9998 3 .i64 .i64 a b Try.underlying3)

def SamePRel (la lb : List (Int × Int)) (w : World) (i : Value) (wr : World) : Prop :=
  ∃ k n : Nat, i = .int .i64 k ∧ k ≤ la.length ∧ wr = w.drewN n ∧ la.take k = lb.take k

set_option maxHeartbeats 2000000 in
theorem samePairs_any (A B : Option Addr) (ca cb : Nat) (la lb : List (Int × Int)) (w : World) (ha : PairsAt w A ca la) (hb : PairsAt w B cb lb) :
    Calls Try.prog 12 #[.slice A la.length ca, .slice B lb.length cb] w (QuietBool w (decide (la = lb))) := by
  have ha1 := ha.1
  have ha2 := ha.2.1
  have hb1 := hb.1
  have hb2 := hb.2.1
  unfold maxLen at ha2 hb2
  by_cases hn : la.length = lb.length
  · have fn : ((la.length : Int) != lb.length) = false := by simp; omega
    have HN := Lib.hid hn
    clear hn
    go_enter Try.func12, Try.ntmps12
    go_wp2_with fail
    go_loopw [13] (fun i wr => SamePRel la lb w i wr) (fun i wr => la.length - (intOf i).toNat)
    case atStart => exact ⟨0, 0, rfl, Nat.zero_le _, rfl, rfl⟩
    case round =>
      obtain ⟨k, n, rfl, hk, rfl, hs⟩ := hrel
      have HS := Lib.hid hs
      clear hs
      by_cases hp : k < la.length
      · obtain ⟨b1, o1, rfl, hl1, hc1, hc1'⟩ := ha.at hp
        obtain ⟨b2, o2, rfl, hl2, hc2, hc2'⟩ := hb.at (k := k) (by rw [← HN.out]; exact hp)
        have hp2 : k < lb.length := by rw [← HN.out]; exact hp
        have HT1 := Lib.hid (List.take_succ_eq_append_getElem hp)
        have HT2 := Lib.hid (List.take_succ_eq_append_getElem hp2)
        have HE := Lib.hid (show la[k] ≠ lb[k] → decide (la = lb) = false from fun h => by
          rw [decide_eq_false_iff_not]
          intro e
          exact h (by simp [e]))
        generalize la[k] = p at *
        generalize lb[k] = q at *
        obtain ⟨p1, p2⟩ := p
        obtain ⟨q1, q2⟩ := q
        simp only at *
        have heq := fun W => run_equal_pair W p1 p2 q1 q2
        by_cases he : (p1, p2) = (q1, q2)
        · have HX := Lib.hid he
          have he2 : (p1 == q1 && p2 == q2) = true := by simpa using he
          rw [he2] at heq
          clear he he2
          go_wp2_with fail
          have hS : (w.drewN n).drew.cell? ⟨b1, o1 + k * 2, none⟩ = some (.int .i64 p1) ∧ (w.drewN n).drew.cell? ⟨b1, o1 + k * 2 + 1, none⟩ = some (.int .i64 p2) ∧ (w.drewN n).drew.cell? ⟨b2, o2 + k * 2, none⟩ = some (.int .i64 q1) ∧ (w.drewN n).drew.cell? ⟨b2, o2 + k * 2 + 1, none⟩ = some (.int .i64 q2) := ⟨hc1, hc1', hc2, hc2'⟩
          refine wp_region_N (fun W => W.cell? ⟨b1, o1 + k * 2, none⟩ = some (.int .i64 p1) ∧ W.cell? ⟨b1, o1 + k * 2 + 1, none⟩ = some (.int .i64 p2) ∧ W.cell? ⟨b2, o2 + k * 2, none⟩ = some (.int .i64 q1) ∧ W.cell? ⟨b2, o2 + k * 2 + 1, none⟩ = some (.int .i64 q2)) (fun _ => true) (by kernel_rfl) ?_
          refine wpAnyN_take_at 0 16 (v := ?_) rfl rfl (by kernel_rfl) (by kernel_rfl) (by kernel_rfl) (by kernel_rfl) (by kernel_rfl) (fun _ _ _ h => h) (by rfl) ?_ hS ?_
          rotate_left
          · intro w hSw; (try dsimp only at hSw); obtain ⟨s1, s2, s3, s4⟩ := hSw; go_simp; (try with_reducible rfl)
          simp only [Act.put, List.setIfInBounds_toArray, List.set_cons_zero, List.set_cons_succ]
          refine wpAnyN_take_at 1 17 (v := ?_) rfl rfl (by kernel_rfl) (by kernel_rfl) (by kernel_rfl) (by kernel_rfl) (by kernel_rfl) (fun _ _ _ h => h) (by rfl) ?_ hS ?_
          rotate_left
          · intro w hSw; (try dsimp only at hSw); obtain ⟨s1, s2, s3, s4⟩ := hSw; go_simp; (try with_reducible rfl)
          simp only [Act.put, List.setIfInBounds_toArray, List.set_cons_zero, List.set_cons_succ]
          refine wpAnyN_take_at 2 18 (v := ?_) rfl rfl (by kernel_rfl) (by kernel_rfl) (by kernel_rfl) (by kernel_rfl) (by kernel_rfl) (fun _ _ _ h => h) (by rfl) ?_ hS ?_
          rotate_left
          · intro w hSw; (try dsimp only at hSw); obtain ⟨s1, s2, s3, s4⟩ := hSw; go_simp; (try with_reducible rfl)
          simp only [Act.put, List.setIfInBounds_toArray, List.set_cons_zero, List.set_cons_succ]
          refine wpAnyN_take_at 3 19 (v := ?_) rfl rfl (by kernel_rfl) (by kernel_rfl) (by kernel_rfl) (by kernel_rfl) (by kernel_rfl) (fun _ _ _ h => h) (by rfl) ?_ hS ?_
          rotate_left
          · intro w hSw; (try dsimp only at hSw); obtain ⟨s1, s2, s3, s4⟩ := hSw; go_simp; (try with_reducible rfl)
          simp only [Act.put, List.setIfInBounds_toArray, List.set_cons_zero, List.set_cons_succ]
          refine wpAnyN_take_at 4 20 (v := ?_) rfl rfl (by kernel_rfl) (by kernel_rfl) (by kernel_rfl) (by kernel_rfl) (by kernel_rfl) (fun _ _ _ h => h) (by rfl) ?_ hS ?_
          rotate_left
          · intro w hSw; (try dsimp only at hSw); obtain ⟨s1, s2, s3, s4⟩ := hSw; go_simp; (try with_reducible rfl)
          simp only [Act.put, List.setIfInBounds_toArray, List.set_cons_zero, List.set_cons_succ]
          refine wpAnyN_take_at 5 21 (v := ?_) rfl rfl (by kernel_rfl) (by kernel_rfl) (by kernel_rfl) (by kernel_rfl) (by kernel_rfl) (fun _ _ _ h => h) (by rfl) ?_ hS ?_
          rotate_left
          · intro w hSw; (try dsimp only at hSw); obtain ⟨s1, s2, s3, s4⟩ := hSw; go_simp; (try with_reducible rfl)
          simp only [Act.put, List.setIfInBounds_toArray, List.set_cons_zero, List.set_cons_succ]
          refine wpAnyN_take_at 6 22 (v := ?_) rfl rfl (by kernel_rfl) (by kernel_rfl) (by kernel_rfl) (by kernel_rfl) (by kernel_rfl) (fun _ _ _ h => h) (by rfl) ?_ hS ?_
          rotate_left
          · intro w hSw; (try dsimp only at hSw); obtain ⟨s1, s2, s3, s4⟩ := hSw; go_simp; (try with_reducible rfl)
          simp only [Act.put, List.setIfInBounds_toArray, List.set_cons_zero, List.set_cons_succ]
          refine wpAnyN_take_at 7 23 (v := ?_) rfl rfl (by kernel_rfl) (by kernel_rfl) (by kernel_rfl) (by kernel_rfl) (by kernel_rfl) (fun _ _ _ h => h) (by rfl) ?_ hS ?_
          rotate_left
          · intro w hSw; (try dsimp only at hSw); obtain ⟨s1, s2, s3, s4⟩ := hSw; go_simp; (try with_reducible rfl)
          simp only [Act.put, List.setIfInBounds_toArray, List.set_cons_zero, List.set_cons_succ]
          refine wpAnyN_take_at 8 24 (v := ?_) rfl rfl (by kernel_rfl) (by kernel_rfl) (by kernel_rfl) (by kernel_rfl) (by kernel_rfl) (fun _ _ _ h => h) (by rfl) ?_ hS ?_
          rotate_left
          · intro w hSw; (try dsimp only at hSw); obtain ⟨s1, s2, s3, s4⟩ := hSw; go_simp; (try with_reducible rfl)
          simp only [Act.put, List.setIfInBounds_toArray, List.set_cons_zero, List.set_cons_succ]
          refine wpAnyN_rest 9 [] rfl (by kernel_rfl) (by kernel_rfl) ?_
          clear hS
          go_wp2
          go_roundw
          case rel => exact ⟨k + 1, n + 1, by go_num, by omega, rfl, by rw [HT1.out, HT2.out, HS.out, HX.out]⟩
          case measure => simp [intOf]; omega
        · have HF := Lib.hid (HE.out he)
          have he2 : (p1 == q1 && p2 == q2) = false := by rw [Bool.eq_false_iff]; intro e; apply he; simpa using e
          rw [he2] at heq
          clear he he2
          go_wp2_with fail
          have hS : (w.drewN n).drew.cell? ⟨b1, o1 + k * 2, none⟩ = some (.int .i64 p1) ∧ (w.drewN n).drew.cell? ⟨b1, o1 + k * 2 + 1, none⟩ = some (.int .i64 p2) ∧ (w.drewN n).drew.cell? ⟨b2, o2 + k * 2, none⟩ = some (.int .i64 q1) ∧ (w.drewN n).drew.cell? ⟨b2, o2 + k * 2 + 1, none⟩ = some (.int .i64 q2) := ⟨hc1, hc1', hc2, hc2'⟩
          refine wp_region_N (fun W => W.cell? ⟨b1, o1 + k * 2, none⟩ = some (.int .i64 p1) ∧ W.cell? ⟨b1, o1 + k * 2 + 1, none⟩ = some (.int .i64 p2) ∧ W.cell? ⟨b2, o2 + k * 2, none⟩ = some (.int .i64 q1) ∧ W.cell? ⟨b2, o2 + k * 2 + 1, none⟩ = some (.int .i64 q2)) (fun _ => true) (by kernel_rfl) ?_
          refine wpAnyN_take_at 0 16 (v := ?_) rfl rfl (by kernel_rfl) (by kernel_rfl) (by kernel_rfl) (by kernel_rfl) (by kernel_rfl) (fun _ _ _ h => h) (by rfl) ?_ hS ?_
          rotate_left
          · intro w hSw; (try dsimp only at hSw); obtain ⟨s1, s2, s3, s4⟩ := hSw; go_simp; (try with_reducible rfl)
          simp only [Act.put, List.setIfInBounds_toArray, List.set_cons_zero, List.set_cons_succ]
          refine wpAnyN_take_at 1 17 (v := ?_) rfl rfl (by kernel_rfl) (by kernel_rfl) (by kernel_rfl) (by kernel_rfl) (by kernel_rfl) (fun _ _ _ h => h) (by rfl) ?_ hS ?_
          rotate_left
          · intro w hSw; (try dsimp only at hSw); obtain ⟨s1, s2, s3, s4⟩ := hSw; go_simp; (try with_reducible rfl)
          simp only [Act.put, List.setIfInBounds_toArray, List.set_cons_zero, List.set_cons_succ]
          refine wpAnyN_take_at 2 18 (v := ?_) rfl rfl (by kernel_rfl) (by kernel_rfl) (by kernel_rfl) (by kernel_rfl) (by kernel_rfl) (fun _ _ _ h => h) (by rfl) ?_ hS ?_
          rotate_left
          · intro w hSw; (try dsimp only at hSw); obtain ⟨s1, s2, s3, s4⟩ := hSw; go_simp; (try with_reducible rfl)
          simp only [Act.put, List.setIfInBounds_toArray, List.set_cons_zero, List.set_cons_succ]
          refine wpAnyN_take_at 3 19 (v := ?_) rfl rfl (by kernel_rfl) (by kernel_rfl) (by kernel_rfl) (by kernel_rfl) (by kernel_rfl) (fun _ _ _ h => h) (by rfl) ?_ hS ?_
          rotate_left
          · intro w hSw; (try dsimp only at hSw); obtain ⟨s1, s2, s3, s4⟩ := hSw; go_simp; (try with_reducible rfl)
          simp only [Act.put, List.setIfInBounds_toArray, List.set_cons_zero, List.set_cons_succ]
          refine wpAnyN_take_at 4 20 (v := ?_) rfl rfl (by kernel_rfl) (by kernel_rfl) (by kernel_rfl) (by kernel_rfl) (by kernel_rfl) (fun _ _ _ h => h) (by rfl) ?_ hS ?_
          rotate_left
          · intro w hSw; (try dsimp only at hSw); obtain ⟨s1, s2, s3, s4⟩ := hSw; go_simp; (try with_reducible rfl)
          simp only [Act.put, List.setIfInBounds_toArray, List.set_cons_zero, List.set_cons_succ]
          refine wpAnyN_take_at 5 21 (v := ?_) rfl rfl (by kernel_rfl) (by kernel_rfl) (by kernel_rfl) (by kernel_rfl) (by kernel_rfl) (fun _ _ _ h => h) (by rfl) ?_ hS ?_
          rotate_left
          · intro w hSw; (try dsimp only at hSw); obtain ⟨s1, s2, s3, s4⟩ := hSw; go_simp; (try with_reducible rfl)
          simp only [Act.put, List.setIfInBounds_toArray, List.set_cons_zero, List.set_cons_succ]
          refine wpAnyN_take_at 6 22 (v := ?_) rfl rfl (by kernel_rfl) (by kernel_rfl) (by kernel_rfl) (by kernel_rfl) (by kernel_rfl) (fun _ _ _ h => h) (by rfl) ?_ hS ?_
          rotate_left
          · intro w hSw; (try dsimp only at hSw); obtain ⟨s1, s2, s3, s4⟩ := hSw; go_simp; (try with_reducible rfl)
          simp only [Act.put, List.setIfInBounds_toArray, List.set_cons_zero, List.set_cons_succ]
          refine wpAnyN_take_at 7 23 (v := ?_) rfl rfl (by kernel_rfl) (by kernel_rfl) (by kernel_rfl) (by kernel_rfl) (by kernel_rfl) (fun _ _ _ h => h) (by rfl) ?_ hS ?_
          rotate_left
          · intro w hSw; (try dsimp only at hSw); obtain ⟨s1, s2, s3, s4⟩ := hSw; go_simp; (try with_reducible rfl)
          simp only [Act.put, List.setIfInBounds_toArray, List.set_cons_zero, List.set_cons_succ]
          refine wpAnyN_take_at 8 24 (v := ?_) rfl rfl (by kernel_rfl) (by kernel_rfl) (by kernel_rfl) (by kernel_rfl) (by kernel_rfl) (fun _ _ _ h => h) (by rfl) ?_ hS ?_
          rotate_left
          · intro w hSw; (try dsimp only at hSw); obtain ⟨s1, s2, s3, s4⟩ := hSw; go_simp; (try with_reducible rfl)
          simp only [Act.put, List.setIfInBounds_toArray, List.set_cons_zero, List.set_cons_succ]
          refine wpAnyN_rest 9 [] rfl (by kernel_rfl) (by kernel_rfl) ?_
          clear hS
          go_wp2
          go_ret
          exact ⟨ret_bool HF.out.symm, n + 1, rfl⟩
      · obtain rfl : k = la.length := by omega
        have HE := Lib.hid (show decide (la = lb) = true from by
          have h := HS.out
          rw [List.take_length, HN.out, List.take_length] at h
          simpa using h)
        go_wp2
        go_ret
        exact ⟨ret_bool HE.out.symm, _, rfl⟩
  · have fn : ((la.length : Int) != lb.length) = true := by simp; omega
    have HE := Lib.hid (show decide (la = lb) = false from by
      rw [decide_eq_false_iff_not]
      intro e
      exact hn (by rw [e]))
    clear hn
    go_enter Try.func12, Try.ntmps12
    go_wp2
    go_ret
    exact ⟨ret_bool HE.out.symm, 0, rfl⟩

end Go.Proofs.Ytobmmbhmaaednaa
