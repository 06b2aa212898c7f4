/-
  EmphMerges.
-/
import Derived.Test.YtoomkhmmgjiniaaEmAa
import Derived.Test.YtoomkhmmgjiniaaEmQ
import Derived.Test.YtoomkhmmgjiniaaIlB
import Derived.Test.YtoomkhmmgjiniaaUpB
import Derived.BigQuiet
namespace Go.Proofs.Ytoomkhmmgjiniaa
open Go.RowKit Go.Maps Go.ChangeShapes
set_option linter.unusedSimpArgs false
set_option linter.unusedVariables false
set_option maxRecDepth 100000

theorem txtI_le : ∀ l : List Iln, (textI l).length ≤ txtSum l + l.length
  | [] => by simp [textI]
  | x :: l => by
    have ih := txtI_le l
    have h1 : (ilText x).length ≤ x.txt.length + 1 := by
      unfold ilText
      split
      · omega
      · split
        · simp
        · simp
    rw [textI_cons, List.length_append, List.length_cons]
    simp only [txtSum, List.map_cons, List.sum_cons] at *
    omega
theorem foldl_mlen (l : List Iln) : ∀ p : List Iln, (l.foldl mergeOne p).length ≤ p.length + l.length := by
  induction l with
  | nil => intro p; simp
  | cons x l ih =>
    intro p
    have h1 := ih (mergeOne p x)
    have h2 : (mergeOne p x).length ≤ p.length + 1 := by
      rcases List.eq_nil_or_concat p with rfl | ⟨l', y, rfl⟩
      · rw [mergeOne_nil]
        split
        · split <;> simp
        · simp
      · rw [List.concat_eq_append, mergeOne_snoc]
        split
        · split
          · simp
          · split <;> simp
        · simp
    rw [List.foldl_cons, List.length_cons]
    omega
theorem mergeI_len (l : List Iln) : (mergeI l).length ≤ l.length := by
  have := foldl_mlen l []
  simpa [mergeI] using this
theorem merged_at {M : List Iln} (h : Merged M) {j : Nat} (hj : j + 1 < M.length) : ¬ (M[j].kd = 1 ∧ M[j + 1].kd = 1 ∧ M[j].dp = M[j + 1].dp) := by
  refine h.2 (M.take j) M[j] M[j + 1] (M.drop (j + 2)) ?_
  have e1 : M.drop j = M[j] :: M.drop (j + 1) := List.drop_eq_getElem_cons (by omega)
  have e2 : M.drop (j + 1) = M[j + 1] :: M.drop (j + 2) := List.drop_eq_getElem_cons hj
  rw [← e2, ← e1, List.take_append_drop]

set_option maxHeartbeats 8000000 in
theorem emphMerges_walk (w : World) (A0 : Option Addr) (c0 : Nat) (z0 : List Iln) (r0 : InlsAt w A0 c0 z0) (w0 : IlnsWf z0) (u0 : txtSum z0 ≤ 1048576) :
    Calls Try.prog 4 #[.slice A0 z0.length c0] w fun e w' => e = .returned (.bool true) ∧ Below w.heap.size w w' := by
  have hal := alive14_any w
  by_cases hin : z0.length ≤ 60
  · have t1 : decide (60 < (z0.length : Int)) = false := by simp; omega
    have htl := txtI_le z0
    have hml := mergeI_len z0
    go_enter Try.func4, Try.ntmps4
    go_wp2_with fail
    refine hal.mono ?_
    rintro e w1 ⟨rfl, b1⟩
    have cm := merge_any A0 c0 z0 w1 (EltsAt.below r0 b1) (by omega) (by omega)
    have HB1 := Lib.hid b1
    have HR := Lib.hid r0
    clear b1 hal r0 w0
    go_wp2_with fail
    refine cm.mono ?_
    (try simp only [t1])
    rintro e w2 ⟨v2, rfl, ho2, b2⟩
    obtain ⟨A2, c2, rfl, hM⟩ := EltsAt.own ilC_length ho2
    have hmm := mergeI_merged z0
    have htw := mergeI_twice z0
    have htx := mergeI_text z0
    have hMl : (mergeI z0).length ≤ 60 := by omega
    generalize mergeI z0 = M at *
    have HM := Lib.hid hM
    have HMM := Lib.hid hmm
    have HTW := Lib.hid htw
    have HTX := Lib.hid htx
    have HB2 := Lib.hid (HB1.out.trans (b2.mono HB1.out.size))
    have hb2s := b2.size
    clear cm ho2 b2 hM hmm htw htx
    go_wp2_with fail
    (try simp only [t1])
    go_loopw [4, 17] (fun iv i wr => ∃ k n : Nat, i = .int .i64 k ∧ k ≤ M.length ∧ wr = w2.drewN n) (fun _ i _ => M.length - (intOf i).toNat)
    case atStart => exact ⟨0, 0, rfl, Nat.zero_le _, rfl⟩
    case round =>
      obtain ⟨k, n, rfl, hk, rfl⟩ := hrel
      by_cases hp : k < M.length
      · obtain ⟨b, off, rfl, hb, p0, p1, p2, p3, p4⟩ := InlsAt.cells5 HM.out hp
        have h1 := HMM.out.1 M[k] (List.getElem_mem hp)
        have HP := Lib.hid hp
        by_cases hkd : M[k].kd = 1
        · have hne := (h1 hkd).1
          have hse : M[k].txt.isEmpty = false := by
            cases h : M[k].txt with | nil => exact absurd h hne | cons a b => rfl
          replace p0 := p0.trans (congrArg (fun z => some (Value.int .i64 z)) hkd)
          cases k with
          | zero =>
            clear h1 hne
            generalize M[0] = x at *
            obtain ⟨xk, xd, xt, xu, xi⟩ := x
            dsimp only at *
            clear hkd
            simp only [Nat.zero_mul, Nat.add_zero] at p0 p1 p2 p3 p4
            go_wp2_with fail
            go_quiet (fail)
            go_wp2
            exact ⟨⟨1, _, by go_num, by have := HP.out; omega, rfl⟩, by have := HP.out; simp [intOf]; omega⟩
          | succ j =>
            obtain ⟨b', off', e', _, q0, q1, q2, q3, q4⟩ := InlsAt.cells5 HM.out (k := j) (by omega)
            have e'' := Option.some.inj e'
            injection e'' with e1 e2
            subst e1 e2
            have hpr := merged_at HMM.out (j := j) hp
            by_cases hjk : M[j].kd = 1
            · have hjd : ¬ M[j].dp = M[j + 1].dp := fun e => hpr ⟨hjk, hkd, e⟩
              have hjb : (M[j].dp == M[j + 1].dp) = false := by simpa using hjd
              replace q0 := q0.trans (congrArg (fun z => some (Value.int .i64 z)) hjk)
              clear hpr hjd h1 hne e' hjk hkd
              generalize M[j].dp = dj at *
              generalize M[j + 1].dp = dk at *
              generalize M[j + 1].txt = xt at *
              clear p3 p4 q2 q3 q4
              go_wp2_with fail
              go_quiet (fail)
              go_wp2
              exact ⟨⟨j + 1 + 1, _, by go_num, by have := HP.out; omega, rfl⟩, by have := HP.out; simp [intOf]; omega⟩
            · have hjb : (M[j].kd == 1) = false := by simpa using hjk
              clear hpr h1 hne e' hjk hkd
              generalize M[j].kd = kj at *
              generalize M[j + 1].txt = xt at *
              generalize M[j + 1].dp = dk at *
              clear p3 p4 q1 q2 q3 q4
              go_wp2_with fail
              go_quiet (fail)
              go_wp2
              exact ⟨⟨j + 1 + 1, _, by go_num, by have := HP.out; omega, rfl⟩, by have := HP.out; simp [intOf]; omega⟩
        · have hkb : (M[k].kd == 1) = false := by simpa using hkd
          clear hkd h1
          generalize M[k].kd = kk at *
          clear p1 p2 p3 p4
          go_wp2_with fail
          go_quiet (fail)
          go_wp2
          exact ⟨⟨k + 1, _, by go_num, by have := HP.out; omega, rfl⟩, by have := HP.out; simp [intOf]; omega⟩
      · obtain rfl : k = M.length := by omega
        have hMd := InlsAt.drew HM.out n
        have cm2 := merge_any A2 c2 M (w2.drewN n) hMd (by omega) (by rw [HTX.out]; omega)
        rw [HTW.out] at cm2
        have HMD := Lib.hid hMd
        have hmtl : (textI M).length ≤ 140737488355328 := by rw [HTX.out]; omega
        have HMTL := Lib.hid hmtl
        clear hMd hmtl htl
        go_wp2_with fail
        refine cm2.mono ?_
        rintro e w3 ⟨v3, rfl, ho3, b3⟩
        obtain ⟨A3, c3, rfl, hM3⟩ := EltsAt.own ilC_length ho3
        have hMd3 := EltsAt.below HMD.out b3
        have HM3 := Lib.hid hMd3
        have cs := sameInls_same A3 A2 c3 c2 M w3 hM3 hMd3
        have HB3 := Lib.hid ((below_drewN' HB2.out n).then b3)
        clear cm2 ho3 b3 hM3 hMd3
        go_wp2_with fail
        refine cs.mono ?_
        rintro e w4 ⟨rfl, q, rfl⟩
        have ct1 := text_inl A2 c2 M (w3.drewN q) (InlsAt.drew HM3.out q) HMTL.out
        rw [HTX.out] at ct1
        clear cs
        go_wp2_with fail
        refine ct1.mono ?_
        rintro e w5 ⟨rfl, b5⟩
        have HB5 := Lib.hid ((below_drewN' HB3.out q).then b5)
        have ct2 := text_inl A0 c0 z0 w5 (EltsAt.below HR.out HB5.out) (by have := HMTL.out; rw [HTX.out] at this; exact this)
        clear ct1 b5
        generalize textI z0 = tx at *
        go_wp2_with fail
        refine ct2.mono ?_
        rintro e w6 ⟨rfl, b6⟩
        go_wp2
        go_ret
        exact ⟨rfl, HB5.out.then b6⟩
  · go_enter Try.func4, Try.ntmps4
    go_wp2_with fail
    all_goals (refine hal.mono ?_; rintro e w' ⟨rfl, b⟩; go_wp2; go_ret; exact ⟨rfl, b⟩)

end Go.Proofs.Ytoomkhmmgjiniaa
