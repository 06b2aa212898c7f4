/-
  EmphNests.
-/
import Derived.Test.YtoomkhmmgjiniaaEmAc
namespace Go.Proofs.Ytoomkhmmgjiniaa
open Go.RowKit Go.Maps Go.ChangeShapes
set_option linter.unusedSimpArgs false
set_option linter.unusedVariables false
set_option maxRecDepth 100000

/-- Nodes that may be read behind a list of the call's own. -/
theorem append_inlsE {w : World} {ops : Array Oper} {rest : List Oper} {o : Oper} {a : Act} {Q : Exit → Act → World → Prop} (hgd : o.guard = none) (s x : Operand)
    (ho : o.op = .call { callee := .builtin .append, args := #[s, x], argTypes := #[24, 24] }) (base : Nat) (v : Value) (X : List Iln) (hs : a.eval s = v)
    (hown : w.ownsRow base 30 5 v X.length (flt ilC X)) (A : Option Addr) (c : Nat) (more : List Iln) (hx : a.eval x = .slice A more.length c) (hrow : InlsAt w A c more)
    (h63 : X.length + more.length ≤ 1000000000) (hbase : base ≤ w.heap.size)
    (h : ∀ v' w', w'.ownsRow base 30 5 v' (X ++ more).length (flt ilC (X ++ more)) → w.grownBy w' v.ownBlock → wpList Try.prog ops Q rest (a.put o.dst v') w') : wpList Try.prog ops Q (o :: rest) a w := by
  obtain ⟨i0, hi, hz0, hz1, hz2⟩ := info_parts infoInl
  cases A with
  | none =>
    obtain rfl : more = [] := by
      rcases hrow.cells with h | ⟨b, off, e, _⟩
      · exact h
      · cases e
    refine wpList_plain hgd fun K hK => ?_
    have hrun := run_append_none_i (w := w) base 24 o.type 30 i0 5 c Try.underlying24 hi v X.length (flt ilC X) hown
    unfold Oper.wp
    rw [List.length_nil] at hx
    simp [execOp, ho, resolve, invoke, builtin, hs, hx, hrun, Result.andThen]
    exact hK _ _ (h v w (by simpa using hown) ⟨rfl, rfl, rfl, Nat.le_refl _, fun _ _ _ => rfl⟩)
  | some ad =>
    refine wpList_append_own w hgd s x 24 ho base 30 i0 (.agg #[.int .i64 0, .int .i64 0, .string ByteArray.empty, .string ByteArray.empty, .string ByteArray.empty]) 5 64 Try.underlying24 hi hz0 hz1 hz2 rfl (by decide) v X.length (flt ilC X) hs hown ad more.length c (flt ilC more) hx (flt_length ilC_length more) (hrow.flat ilC_length (by decide)) (ils_one' more) (by unfold maxLen; omega) (by omega) hbase ?_
    intro v' w' h2 h3 _
    exact h v' w' (by rw [List.length_append, flt_append]; exact h2) h3


theorem own_litE {w : World} {B g : Nat} {x : Iln} (hg : w.heap[g]? = some (.cells (ilC x).toArray 30 (0, 0))) (hB : B ≤ g) : w.ownsRow B 30 5 (.slice (some ⟨g, 0, none⟩) 1 1) 1 (flt ilC [x]) :=
  ⟨by simp [flt, ilC], Or.inr ⟨g, 1, _, rfl, hB, hg, Nat.le_refl _, by decide, rfl, by simp [flt, ilC]⟩⟩
theorem lit_inlsE {w : World} {g : Nat} {x : Iln} (hg : w.heap[g]? = some (.cells (ilC x).toArray 30 (0, 0))) : InlsAt w (some ⟨g, 0, none⟩) 1 [x] := elts_block (t := 30) (X := [x]) ilC_length (by rw [hg]; simp [flt]) (by show (1 : Nat) ≤ maxLen; decide)

/-- Nodes, a row that opens, nodes, a row that closes, nodes. -/
theorem group5_any {g' : Nat} (k : Nat) (hk : k = 1 ∨ k = 2) (l : List Iln) (A0 : Option Addr) (c0 : Nat) (W : World) (hl : InlsAt W A0 c0 l) (hn : l.length ≤ 30) (hd : ∀ x ∈ l, 0 ≤ x.dp ∧ x.dp ≤ 100) (ht : (textI l).length ≤ 2000000)
    (h2 : W.heap[g']? = some (.cells #[.int .u8 0, .int .i64 0, .bool false, .bool false, .slice A0 l.length c0, .int .u8 42, .int .i64 k, .bool true, .bool false, .slice none 0 0, .int .u8 0, .int .i64 0, .bool false, .bool false, .slice A0 l.length c0, .int .u8 42, .int .i64 k, .bool false, .bool true, .slice none 0 0, .int .u8 0, .int .i64 0, .bool false, .bool false, .slice A0 l.length c0] 26 (0, 0))) :
    Calls Try.prog 7 #[.slice (some ⟨g', 0, none⟩) 5 5] W fun e w' => (∃ v, e = .returned v ∧ w'.ownsRow W.heap.size 30 5 v (groupI [nds l, opn 42 k k, nds l, cls 42 k k, nds l]).length (flt ilC (groupI [nds l, opn 42 k k, nds l, cls 42 k k, nds l]))) ∧ Below W.heap.size W w' := by
  have e2 : EltsAt W itC 5 (some ⟨g', 0, none⟩) 5 [(nds l, Value.slice A0 l.length c0), (opn 42 k k, Value.slice none 0 0), (nds l, Value.slice A0 l.length c0), (cls 42 k k, Value.slice none 0 0), (nds l, Value.slice A0 l.length c0)] :=
    elts_block (X := [(nds l, Value.slice A0 l.length c0), (opn 42 k k, Value.slice none 0 0), (nds l, Value.slice A0 l.length c0), (cls 42 k k, Value.slice none 0 0), (nds l, Value.slice A0 l.length c0)]) itC_length (by rw [h2]; rfl) (by show (5 : Nat) ≤ maxLen; decide)
  have hwl : WrapD l := fun x hx => IntWalk.i64_in _ (by have := hd x hx; omega)
  have hc : (42 : UInt8) ≠ 0 := by decide
  refine group_any [(nds l, Value.slice A0 l.length c0), (opn 42 k k, Value.slice none 0 0), (nds l, Value.slice A0 l.length c0), (cls 42 k k, Value.slice none 0 0), (nds l, Value.slice A0 l.length c0)] (some ⟨g', 0, none⟩) 5 W e2 ?_ ?_ ?_ (by simp) ?_ ?_
  · intro x hx
    simp at hx
    rcases hx with rfl | rfl | rfl | rfl | rfl
    · exact ⟨A0, c0, rfl, hl⟩
    · exact ⟨none, 0, rfl, EltsAt.nil _ _ _ _⟩
    · exact ⟨A0, c0, rfl, hl⟩
    · exact ⟨none, 0, rfl, EltsAt.nil _ _ _ _⟩
    · exact ⟨A0, c0, rfl, hl⟩
  · intro x hx
    simp at hx
    rcases hx with rfl | rfl | rfl | rfl | rfl
    all_goals (refine ⟨rfl, ?_⟩; simp [nds, opn, cls]; try omega)
  · simp [sumN, nds, opn, cls]
    omega
  · simp only [List.map_cons, List.map_nil, allI_cons, wrapD_append]
    exact ⟨hwl, wrapD_row hc, hwl, wrapD_row hc, hwl, by intro x hx; cases hx⟩
  · simp only [List.map_cons, List.map_nil, potI, List.sum_cons, List.sum_nil, itN, nds, opn, cls]
    simp
    omega

theorem mergeD_text (l : List Iln) (h : txtSum l ≤ 1048576) (hl : l.length ≤ 30) : (textI l).length ≤ 2000000 := by
  have := txtI_le l
  omega

set_option maxHeartbeats 8000000 in
theorem emphNests_walk (w : World) (A0 : Option Addr) (c0 : Nat) (z0 : List Iln) (r0 : InlsAt w A0 c0 z0) (w0 : IlnsWf z0) (u0 : txtSum z0 ≤ 1048576) (a1 : Bool) :
    Calls Try.prog 5 #[.slice A0 z0.length c0, .bool a1] w fun e w' => e = .returned (.bool true) ∧ Below w.heap.size w w' := by
  have hal := alive14_any w
  by_cases hin : z0.length ≤ 30
  · have t1 : decide (30 < (z0.length : Int)) = false := by simp; omega
    have htl := mergeD_text z0 u0 hin
    obtain ⟨k, hk, hkk⟩ : ∃ k : Nat, (k = 1 ∨ k = 2) ∧ k = (if a1 then 2 else 1) := by cases a1; exact ⟨1, Or.inl rfl, rfl⟩; exact ⟨2, Or.inr rfl, rfl⟩
    obtain ⟨K, hK, hKK⟩ : ∃ K : Int, K = (if (k : Int) = 2 then 4 else 3) ∧ K = (if a1 then 4 else 3) := by subst hkk; cases a1 <;> exact ⟨_, rfl, rfl⟩
    go_enter Try.func5, Try.ntmps5
    go_wp2_with fail
    refine hal.mono ?_
    rintro e w1 ⟨rfl, b1⟩
    have HB1 := Lib.hid b1
    have HR1 := Lib.hid (EltsAt.below r0 b1)
    have HK := Lib.hid (And.intro hk hkk)
    have HKK := Lib.hid (And.intro hK hKK)
    clear b1 hal r0 w0
    (try simp only [t1])
    cases a1 with
    | true =>
      clear hk hkk hK hKK
      go_wp2_with fail
      go_loopw [7, 24] (fun iv i wr => ∃ k n : Nat, i = .int .i64 k ∧ k ≤ z0.length ∧ wr = w1.drewN n ∧ ∀ x ∈ z0.take k, 0 ≤ x.dp ∧ x.dp ≤ 100) (fun _ i _ => z0.length - (intOf i).toNat)
      case atStart => exact ⟨0, 0, rfl, Nat.zero_le _, rfl, by simp⟩
      case round =>
        obtain ⟨j, n, rfl, hj, rfl, hsm⟩ := hrel
        have HSM := Lib.hid hsm
        clear hsm
        by_cases hp : j < z0.length
        · obtain ⟨b, off, rfl, hb, p0, p1, p2, p3, p4⟩ := InlsAt.cells5 HR1.out hp
          have htk : z0.take (j + 1) = z0.take j ++ [z0[j]] := List.take_succ_eq_append_getElem hp
          have hnx : 0 ≤ z0[j].dp ∧ z0[j].dp ≤ 100 → ∀ x ∈ z0.take (j + 1), 0 ≤ x.dp ∧ x.dp ≤ 100 := fun h x hx => by
            rw [htk] at hx
            rcases List.mem_append.1 hx with hx | hx
            · exact HSM.out x hx
            · rw [List.mem_singleton] at hx; subst hx; exact h
          have HNX := Lib.hid hnx
          have HP := Lib.hid hp
          clear p0 p2 p3 p4 htk hnx
          generalize z0[j].dp = d at *
          by_cases h1 : d < 0
          · go_wp2
            go_ret
            exact ⟨rfl, below_drewN' HB1.out n⟩
          · by_cases h2 : 100 < d
            · go_wp2
              go_ret
              exact ⟨rfl, below_drewN' HB1.out n⟩
            · have HD := Lib.hid (HNX.out ⟨by omega, by omega⟩)
              go_wp2
              exact ⟨⟨j + 1, _, by go_num, HP.out, rfl, HD.out⟩, by have := HP.out; simp [intOf]; omega⟩
        · obtain rfl : j = z0.length := by omega
          have hsm := HSM.out
          rw [List.take_length] at hsm
          have HS := Lib.hid hsm
          have HB2 := Lib.hid (below_drewN' HB1.out n)
          have HR2 := Lib.hid (InlsAt.drew HR1.out n)
          clear HSM hsm HR1 HB1
          generalize w1.drewN n = w2 at *
          have hg5 := group5_any 2 (Or.inr rfl) z0 A0 c0 _ (EltsAt.below HR2.out ((Below.refl _ w2).alloc (Nat.le_refl _) (.cells #[.int .u8 0, .int .i64 0, .bool false, .bool false, .slice A0 z0.length c0, .int .u8 42, .int .i64 (2 : Nat), .bool true, .bool false, .slice none 0 0, .int .u8 0, .int .i64 0, .bool false, .bool false, .slice A0 z0.length c0, .int .u8 42, .int .i64 (2 : Nat), .bool false, .bool true, .slice none 0 0, .int .u8 0, .int .i64 0, .bool false, .bool false, .slice A0 z0.length c0] 26))) hin HS.out htl (heap_alloc_new _ _)
          have HNP := Lib.hid (fun hn => nests_plain 42 (by decide) 2 (Or.inr rfl) z0 (fun x hx => by have := HS.out x hx; omega) hn)
          generalize hG : groupI [nds z0, opn 42 2 2, nds z0, cls 42 2 2, nds z0] = G at *
          go_wp2_with fail
          refine hg5.mono ?_
          rintro e w3 ⟨⟨v3, rfl, ho3⟩, b3⟩
          obtain ⟨A3, c3, rfl, hG3⟩ := EltsAt.own ilC_length ho3
          have hB3 : Below w2.heap.size w2 w3 := ((Below.refl _ w2).alloc (Nat.le_refl _) _).trans (b3.mono (by simp))
          have HG3 := Lib.hid hG3
          have HB3 := Lib.hid hB3
          have HR3 := Lib.hid (EltsAt.below HR2.out hB3)
          clear hg5 ho3 b3 hG3 hB3 hG
          have cm := merge_any A0 c0 z0 w3 HR3.out (by omega) (by omega)
          have hml := mergeI_len z0
          have hmm := mergeI_merged z0
          have HBG := Lib.hid (show ∀ d, beginsAt z0 d = (match (mergeI z0).head? with | some y => y.kd == 1 && y.dp == d | none => false) from fun d => rfl)
          have hsd : SmallD (mergeI z0) := mergeI_small fun x hx => by have := HS.out x hx; omega
          generalize mergeI z0 = M at *
          have HSD := Lib.hid hsd
          clear hsd
          go_wp2_with fail
          refine cm.mono ?_
          rintro e w4 ⟨v4, rfl, ho4, b4⟩
          obtain ⟨A4, c4, rfl, hM4⟩ := EltsAt.own ilC_length ho4
          have HM4 := Lib.hid hM4
          have HB4 := Lib.hid b4
          clear cm ho4 b4 hM4
          go_wp2_with (at_builtin; refine append_inlsE rfl _ _ rfl w4.heap.size (.slice none 0 0) [] rfl (World.ownsRow_nil _ _ _ _) A4 c4 M rfl HM4.out (by simp; omega) (Nat.le_refl _) ?_)
          intro v5 w5 ho5 hg5
          have hB5 : Below w4.heap.size w4 w5 := (Below.refl _ _).grown hg5 (Nat.le_refl _) (fun r e => by cases e)
          have hs5 := hB5.size
          have HO5 := Lib.hid (ho5.alloc (.cells #[.int .i64 4, .int .i64 0, .string ByteArray.empty, .string ByteArray.empty, .string ByteArray.empty] 30))
          have HB5 := Lib.hid (hB5.alloc hs5 (.cells #[.int .i64 4, .int .i64 0, .string ByteArray.empty, .string ByteArray.empty, .string ByteArray.empty] 30))
          obtain ⟨A5, c5, rfl, _⟩ := own_form ho5
          clear ho5 hg5 hB5
          go_wp2_with (at_builtin; refine append_inlsE rfl _ _ rfl w4.heap.size _ M rfl HO5.out (some ⟨w5.heap.size, 0, none⟩) 1 [⟨4, 0, [], [], []⟩] rfl (lit_inlsE (heap_alloc_new _ _)) (by simp; omega) (by simp; omega) ?_)
          intro v6 w6 ho6 hg6
          have HB6 := Lib.hid (HB5.out.grown hg6 HB5.out.size (fun r e => (HO5.out.lt r e).1))
          have HO6 := Lib.hid ho6
          have HM6 := Lib.hid (EltsAt.below HM4.out HB6.out)
          clear ho6 hg6 HO5 HB5
          go_wp2_with fail
          go_loopw [10, 12, 65] (fun av pv i wr => ∃ (j : Nat), i = .int .i64 j ∧ j ≤ M.length ∧ wr.ownsRow w4.heap.size 30 5 av (M.length + 1 + j) (flt ilC (M ++ ⟨4, 0, [], [], []⟩ :: deepI (M.take j))) ∧ Below w4.heap.size w4 wr) (fun _ _ i _ => M.length - (intOf i).toNat)
          case atStart => exact ⟨0, rfl, Nat.zero_le _, HO6.out, HB6.out⟩
          case round =>
            obtain ⟨j, rfl, hj, hrow, hbw⟩ := hrel
            have hlx : (M ++ (⟨4, 0, [], [], []⟩ : Iln) :: deepI (M.take j)).length = M.length + 1 + j := by simp [deepI]; omega
            by_cases hp : j < M.length
            · obtain ⟨b, off, rfl, hb, p0, p1, p2, p3, p4⟩ := InlsAt.cells5 (EltsAt.below HM4.out hbw) hp
              have htk : (M ++ (⟨4, 0, [], [], []⟩ : Iln) :: deepI (M.take j)) ++ [deepOne M[j]] = M ++ ⟨4, 0, [], [], []⟩ :: deepI (M.take (j + 1)) := by
                rw [List.take_succ_eq_append_getElem hp, deepI_append]; simp; rfl
              obtain ⟨A7, c7, rfl, _⟩ := own_form hrow
              rw [← hlx] at hrow ⊢
              have HROW := Lib.hid hrow
              have HTK := Lib.hid htk
              have HLX := Lib.hid hlx
              have HBW := Lib.hid hbw
              have hbs := hbw.size
              have HP := Lib.hid hp
              clear hrow htk hlx hbw
              generalize M ++ (⟨4, 0, [], [], []⟩ : Iln) :: deepI (M.take j) = X at *
              generalize M[j] = y at *
              obtain ⟨yk, yd, yt, yu, yi⟩ := y
              dsimp only at p0 p1 p2 p3 p4
              unfold deepOne at HTK
              dsimp only at HTK
              rw [show IntKind.i64.wrap (yd + 1) = wrap64 (yd + 1) from by first | rfl | simp only [wrap64, IntKind.wrap_i64]] at HTK
              have hr2 := (HROW.out.alloc (.cells #[.int .i64 yk, .int .i64 (wrap64 (yd + 1)), .string ⟨yt.toArray⟩, .string ⟨yu.toArray⟩, .string ⟨yi.toArray⟩] 30)).alloc (.cells #[.int .i64 yk, .int .i64 (wrap64 (yd + 1)), .string ⟨yt.toArray⟩, .string ⟨yu.toArray⟩, .string ⟨yi.toArray⟩] 30)
              have HR7 := Lib.hid hr2
              have hb2 : Below w4.heap.size w4 ((wr.alloc (.cells #[.int .i64 yk, .int .i64 (wrap64 (yd + 1)), .string ⟨yt.toArray⟩, .string ⟨yu.toArray⟩, .string ⟨yi.toArray⟩] 30)).alloc (.cells #[.int .i64 yk, .int .i64 (wrap64 (yd + 1)), .string ⟨yt.toArray⟩, .string ⟨yu.toArray⟩, .string ⟨yi.toArray⟩] 30)) := (HBW.out.alloc hbs _).alloc (by simp; omega) _
              have HB7 := Lib.hid hb2
              clear hr2 hb2
              go_wp2_with (at_builtin; refine append_inlsE rfl _ _ rfl w4.heap.size _ X rfl HR7.out (some ⟨wr.heap.size + 1, 0, none⟩) 1 [⟨yk, wrap64 (yd + 1), yt, yu, yi⟩] rfl (lit_inlsE (heap_alloc2_new _ _ _)) (by rw [HLX.out]; simp; omega) (by simp; omega) ?_)
              intro v8 w8 ho8 hg8
              rw [HTK.out] at ho8
              have HO8 := Lib.hid ho8
              have HB8 := Lib.hid (HB7.out.grown hg8 HB7.out.size (fun r e => (HR7.out.lt r e).1))
              clear ho8 hg8
              go_wp2
              go_roundw
              case rel => exact ⟨j + 1, by go_num, HP.out, by have := HO8.out; rwa [HLX.out] at this, HB8.out⟩
              case measure => have := HP.out; simp [intOf]; omega
            · obtain rfl : j = M.length := by omega
              rw [List.take_length] at hrow hlx
              have HLX := Lib.hid hlx
              rw [← hlx] at hrow
              obtain ⟨A7, c7, rfl, hW⟩ := EltsAt.own ilC_length hrow
              have hbs := hbw.size
              obtain ⟨N, hN⟩ : ∃ N, M.length + 1 + M.length = N + 1 := ⟨M.length + M.length, by omega⟩
              rw [hN] at hlx
              have hNl : N ≤ 60 := by omega
              clear HLX
              have hnp : (∀ d, endsAt (M ++ (⟨4, 0, [], [], []⟩ : Iln) :: deepI M) d = true → beginsAt z0 d = false) → G = M ++ (⟨4, 0, [], [], []⟩ : Iln) :: deepI M ++ M := HNP.out
              have hNp : N < (M ++ (⟨4, 0, [], [], []⟩ : Iln) :: deepI M).length := by omega
              have hend : ∀ d, endsAt (M ++ (⟨4, 0, [], [], []⟩ : Iln) :: deepI M) d = ((M ++ (⟨4, 0, [], [], []⟩ : Iln) :: deepI M)[N].kd == 1 && (M ++ (⟨4, 0, [], [], []⟩ : Iln) :: deepI M)[N].dp == d) := fun d => by
                unfold endsAt
                rw [List.getLast?_eq_getElem?, show (M ++ (⟨4, 0, [], [], []⟩ : Iln) :: deepI M).length - 1 = N from by omega, List.getElem?_eq_getElem hNp]
              obtain ⟨bw, ow, ew, hbw2, q0, q1, q2, q3, q4⟩ := InlsAt.cells5 hW hNp
              subst ew
              clear q2 q3 q4 HNP
              rw [hlx] at hrow ⊢
              generalize hXX : M ++ (⟨4, 0, [], [], []⟩ : Iln) :: deepI M = X at *
              generalize X[N] = y at *
              have HROW := Lib.hid hrow
              have HBW := Lib.hid hbw
              have HW := Lib.hid hW
              have HMr := Lib.hid (EltsAt.below HM4.out hbw)
              have HNP := Lib.hid hnp
              have HEND := Lib.hid hend
              have hw1 : IntKind.i64.wrap ((N : Int) + 1 - 1) = N := by rw [Int.add_sub_cancel]; exact IntWalk.i64_in _ (by omega)
              have hw2 : IntKind.i64.wrap (N : Int) = N := IntWalk.i64_in _ (by omega)
              clear hrow hbw hW hnp hend hNp
              cases M with
              | nil =>
                obtain rfl : N = 0 := by simp at hN; omega
                have HLEN := Lib.hid (show X.length + ([] : List Iln).length ≤ 1000000000 from by simp at hml ⊢; omega)
                have hGX := HNP.out (fun d hd => by rw [HBG.out]; rfl)
                have HGX := Lib.hid hGX
                clear hGX HNP HEND
                go_wp2_with fail
                go_quiet (fail)
                have HROWq := Lib.hid (ownsRow_below HROW.out (below_drewN' (Below.refl _ wr) nq))
                have HMq := Lib.hid (InlsAt.drew HMr.out nq)
                go_wp2_with (at_builtin; refine append_inlsE rfl _ _ rfl w4.heap.size _ X rfl (by rw [hlx]; exact HROWq.out) A4 c4 [] rfl HMq.out HLEN.out (by simpa using HBW.out.size) ?_)
                intro v9 w9 ho9 hg9
                have hB9 := (below_drewN' HBW.out nq).grown hg9 (by simpa using HBW.out.size) (fun r e => (HROWq.out.lt r e).1)
                have ho9' : w9.ownsRow w4.heap.size 30 5 v9 G.length (flt ilC G) := by
                  rw [HGX.out]
                  first
                    | exact ho9
                    | (rw [List.length_append]; exact ho9)
                    | (rw [List.length_append, hlx]; simpa using ho9)
                obtain ⟨A9, c9, rfl, hG9⟩ := EltsAt.own ilC_length ho9'
                have cs := sameInls_same A3 A9 c3 c9 G w9 (EltsAt.below (EltsAt.below HG3.out HB4.out) hB9) hG9
                have HB9 := Lib.hid (((HB2.out.then HB3.out).then HB4.out).then hB9)
                clear ho9 ho9' hg9 hB9 hG9
                go_wp2_with fail
                refine cs.mono ?_
                rintro e w10 ⟨rfl, q, rfl⟩
                go_wp2
                go_ret
                exact ⟨rfl, below_drewN' HB9.out q⟩
              | cons y0 M =>
                obtain ⟨b0, o0, rfl, hb0, p0, p1, p2, p3, p4⟩ := InlsAt.cells5 HMr.out (k := 0) (by simp)
                clear p2 p3 p4
                rw [List.getElem_cons_zero] at p0 p1
                simp only [Nat.zero_mul, Nat.add_zero, Nat.zero_add] at p0 p1
                have hbg : ∀ d, beginsAt z0 d = (y0.kd == 1 && y0.dp == d) := fun d => by rw [HBG.out]; rfl
                have HBG2 := Lib.hid hbg
                clear hbg HBG
                generalize y0.kd = ky at *
                generalize y0.dp = dy at *
                by_cases h1 : ky = 1
                · subst h1
                  by_cases h2 : y.kd = 1
                  · rw [h2] at q0
                    by_cases h3 : y.dp = dy
                    · rw [h3] at q1
                      clear h2 h3
                      go_wp2_with fail
                      go_quiet (fail)
                      go_wp2
                      go_ret
                      exact ⟨rfl, below_drewN' (((HB2.out.then HB3.out).then HB4.out).then HBW.out) nq⟩
                    · have h3b : (y.dp == dy) = false := by simpa using h3
                      have HLEN := Lib.hid (show X.length + (y0 :: M).length ≤ 1000000000 from by simp at hml ⊢; omega)
                      have hGX := HNP.out (fun d hd => by rw [HEND.out, h2] at hd; rw [HBG2.out]; simp only [beq_self_eq_true, Bool.true_and, beq_iff_eq, beq_eq_false_iff_ne] at hd ⊢; intro e; exact h3 (hd.trans e.symm))
                      have HGX := Lib.hid hGX
                      clear hGX HNP HEND
                      go_wp2_with fail
                      go_quiet (fail)
                      have HROWq := Lib.hid (ownsRow_below HROW.out (below_drewN' (Below.refl _ wr) nq))
                      have HMq := Lib.hid (InlsAt.drew HMr.out nq)
                      go_wp2_with (at_builtin; refine append_inlsE rfl _ _ rfl w4.heap.size _ X rfl (by rw [hlx]; exact HROWq.out) (some ⟨b0, o0, none⟩) c4 (y0 :: M) rfl HMq.out HLEN.out (by simpa using HBW.out.size) ?_)
                      intro v9 w9 ho9 hg9
                      have hB9 := (below_drewN' HBW.out nq).grown hg9 (by simpa using HBW.out.size) (fun r e => (HROWq.out.lt r e).1)
                      have ho9' : w9.ownsRow w4.heap.size 30 5 v9 G.length (flt ilC G) := by
                        rw [HGX.out]
                        first
                          | exact ho9
                          | (rw [List.length_append]; exact ho9)
                          | (rw [List.length_append, hlx]; simpa using ho9)
                      obtain ⟨A9, c9, rfl, hG9⟩ := EltsAt.own ilC_length ho9'
                      have cs := sameInls_same A3 A9 c3 c9 G w9 (EltsAt.below (EltsAt.below HG3.out HB4.out) hB9) hG9
                      have HB9 := Lib.hid (((HB2.out.then HB3.out).then HB4.out).then hB9)
                      clear ho9 ho9' hg9 hB9 hG9
                      go_wp2_with fail
                      refine cs.mono ?_
                      rintro e w10 ⟨rfl, q, rfl⟩
                      go_wp2
                      go_ret
                      exact ⟨rfl, below_drewN' HB9.out q⟩
                  · have h2b : (y.kd == 1) = false := by simpa using h2
                    have HLEN := Lib.hid (show X.length + (y0 :: M).length ≤ 1000000000 from by simp at hml ⊢; omega)
                    have hGX := HNP.out (fun d hd => by rw [HEND.out, h2b] at hd; simp at hd)
                    have HGX := Lib.hid hGX
                    clear hGX HNP HEND
                    go_wp2_with fail
                    go_quiet (fail)
                    have HROWq := Lib.hid (ownsRow_below HROW.out (below_drewN' (Below.refl _ wr) nq))
                    have HMq := Lib.hid (InlsAt.drew HMr.out nq)
                    go_wp2_with (at_builtin; refine append_inlsE rfl _ _ rfl w4.heap.size _ X rfl (by rw [hlx]; exact HROWq.out) (some ⟨b0, o0, none⟩) c4 (y0 :: M) rfl HMq.out HLEN.out (by simpa using HBW.out.size) ?_)
                    intro v9 w9 ho9 hg9
                    have hB9 := (below_drewN' HBW.out nq).grown hg9 (by simpa using HBW.out.size) (fun r e => (HROWq.out.lt r e).1)
                    have ho9' : w9.ownsRow w4.heap.size 30 5 v9 G.length (flt ilC G) := by
                      rw [HGX.out]
                      first
                        | exact ho9
                        | (rw [List.length_append]; exact ho9)
                        | (rw [List.length_append, hlx]; simpa using ho9)
                    obtain ⟨A9, c9, rfl, hG9⟩ := EltsAt.own ilC_length ho9'
                    have cs := sameInls_same A3 A9 c3 c9 G w9 (EltsAt.below (EltsAt.below HG3.out HB4.out) hB9) hG9
                    have HB9 := Lib.hid (((HB2.out.then HB3.out).then HB4.out).then hB9)
                    clear ho9 ho9' hg9 hB9 hG9
                    go_wp2_with fail
                    refine cs.mono ?_
                    rintro e w10 ⟨rfl, q, rfl⟩
                    go_wp2
                    go_ret
                    exact ⟨rfl, below_drewN' HB9.out q⟩
                · have h1b : (ky == 1) = false := by simpa using h1
                  have HLEN := Lib.hid (show X.length + (y0 :: M).length ≤ 1000000000 from by simp at hml ⊢; omega)
                  have hGX := HNP.out (fun d hd => by rw [HBG2.out, h1b]; rfl)
                  have HGX := Lib.hid hGX
                  clear hGX HNP HEND
                  go_wp2_with fail
                  go_quiet (fail)
                  have HROWq := Lib.hid (ownsRow_below HROW.out (below_drewN' (Below.refl _ wr) nq))
                  have HMq := Lib.hid (InlsAt.drew HMr.out nq)
                  go_wp2_with (at_builtin; refine append_inlsE rfl _ _ rfl w4.heap.size _ X rfl (by rw [hlx]; exact HROWq.out) (some ⟨b0, o0, none⟩) c4 (y0 :: M) rfl HMq.out HLEN.out (by simpa using HBW.out.size) ?_)
                  intro v9 w9 ho9 hg9
                  have hB9 := (below_drewN' HBW.out nq).grown hg9 (by simpa using HBW.out.size) (fun r e => (HROWq.out.lt r e).1)
                  have ho9' : w9.ownsRow w4.heap.size 30 5 v9 G.length (flt ilC G) := by
                    rw [HGX.out]
                    first
                      | exact ho9
                      | (rw [List.length_append]; exact ho9)
                      | (rw [List.length_append, hlx]; simpa using ho9)
                  obtain ⟨A9, c9, rfl, hG9⟩ := EltsAt.own ilC_length ho9'
                  have cs := sameInls_same A3 A9 c3 c9 G w9 (EltsAt.below (EltsAt.below HG3.out HB4.out) hB9) hG9
                  have HB9 := Lib.hid (((HB2.out.then HB3.out).then HB4.out).then hB9)
                  clear ho9 ho9' hg9 hB9 hG9
                  go_wp2_with fail
                  refine cs.mono ?_
                  rintro e w10 ⟨rfl, q, rfl⟩
                  go_wp2
                  go_ret
                  exact ⟨rfl, below_drewN' HB9.out q⟩
    | false =>
      clear hk hkk hK hKK
      go_wp2_with fail
      go_loopw [7, 24] (fun iv i wr => ∃ k n : Nat, i = .int .i64 k ∧ k ≤ z0.length ∧ wr = w1.drewN n ∧ ∀ x ∈ z0.take k, 0 ≤ x.dp ∧ x.dp ≤ 100) (fun _ i _ => z0.length - (intOf i).toNat)
      case atStart => exact ⟨0, 0, rfl, Nat.zero_le _, rfl, by simp⟩
      case round =>
        obtain ⟨j, n, rfl, hj, rfl, hsm⟩ := hrel
        have HSM := Lib.hid hsm
        clear hsm
        by_cases hp : j < z0.length
        · obtain ⟨b, off, rfl, hb, p0, p1, p2, p3, p4⟩ := InlsAt.cells5 HR1.out hp
          have htk : z0.take (j + 1) = z0.take j ++ [z0[j]] := List.take_succ_eq_append_getElem hp
          have hnx : 0 ≤ z0[j].dp ∧ z0[j].dp ≤ 100 → ∀ x ∈ z0.take (j + 1), 0 ≤ x.dp ∧ x.dp ≤ 100 := fun h x hx => by
            rw [htk] at hx
            rcases List.mem_append.1 hx with hx | hx
            · exact HSM.out x hx
            · rw [List.mem_singleton] at hx; subst hx; exact h
          have HNX := Lib.hid hnx
          have HP := Lib.hid hp
          clear p0 p2 p3 p4 htk hnx
          generalize z0[j].dp = d at *
          by_cases h1 : d < 0
          · go_wp2
            go_ret
            exact ⟨rfl, below_drewN' HB1.out n⟩
          · by_cases h2 : 100 < d
            · go_wp2
              go_ret
              exact ⟨rfl, below_drewN' HB1.out n⟩
            · have HD := Lib.hid (HNX.out ⟨by omega, by omega⟩)
              go_wp2
              exact ⟨⟨j + 1, _, by go_num, HP.out, rfl, HD.out⟩, by have := HP.out; simp [intOf]; omega⟩
        · obtain rfl : j = z0.length := by omega
          have hsm := HSM.out
          rw [List.take_length] at hsm
          have HS := Lib.hid hsm
          have HB2 := Lib.hid (below_drewN' HB1.out n)
          have HR2 := Lib.hid (InlsAt.drew HR1.out n)
          clear HSM hsm HR1 HB1
          generalize w1.drewN n = w2 at *
          have hg5 := group5_any 1 (Or.inl rfl) z0 A0 c0 _ (EltsAt.below HR2.out ((Below.refl _ w2).alloc (Nat.le_refl _) (.cells #[.int .u8 0, .int .i64 0, .bool false, .bool false, .slice A0 z0.length c0, .int .u8 42, .int .i64 (1 : Nat), .bool true, .bool false, .slice none 0 0, .int .u8 0, .int .i64 0, .bool false, .bool false, .slice A0 z0.length c0, .int .u8 42, .int .i64 (1 : Nat), .bool false, .bool true, .slice none 0 0, .int .u8 0, .int .i64 0, .bool false, .bool false, .slice A0 z0.length c0] 26))) hin HS.out htl (heap_alloc_new _ _)
          have HNP := Lib.hid (fun hn => nests_plain 42 (by decide) 1 (Or.inl rfl) z0 (fun x hx => by have := HS.out x hx; omega) hn)
          generalize hG : groupI [nds z0, opn 42 1 1, nds z0, cls 42 1 1, nds z0] = G at *
          go_wp2_with fail
          refine hg5.mono ?_
          rintro e w3 ⟨⟨v3, rfl, ho3⟩, b3⟩
          obtain ⟨A3, c3, rfl, hG3⟩ := EltsAt.own ilC_length ho3
          have hB3 : Below w2.heap.size w2 w3 := ((Below.refl _ w2).alloc (Nat.le_refl _) _).trans (b3.mono (by simp))
          have HG3 := Lib.hid hG3
          have HB3 := Lib.hid hB3
          have HR3 := Lib.hid (EltsAt.below HR2.out hB3)
          clear hg5 ho3 b3 hG3 hB3 hG
          have cm := merge_any A0 c0 z0 w3 HR3.out (by omega) (by omega)
          have hml := mergeI_len z0
          have hmm := mergeI_merged z0
          have HBG := Lib.hid (show ∀ d, beginsAt z0 d = (match (mergeI z0).head? with | some y => y.kd == 1 && y.dp == d | none => false) from fun d => rfl)
          have hsd : SmallD (mergeI z0) := mergeI_small fun x hx => by have := HS.out x hx; omega
          generalize mergeI z0 = M at *
          have HSD := Lib.hid hsd
          clear hsd
          go_wp2_with fail
          refine cm.mono ?_
          rintro e w4 ⟨v4, rfl, ho4, b4⟩
          obtain ⟨A4, c4, rfl, hM4⟩ := EltsAt.own ilC_length ho4
          have HM4 := Lib.hid hM4
          have HB4 := Lib.hid b4
          clear cm ho4 b4 hM4
          go_wp2_with (at_builtin; refine append_inlsE rfl _ _ rfl w4.heap.size (.slice none 0 0) [] rfl (World.ownsRow_nil _ _ _ _) A4 c4 M rfl HM4.out (by simp; omega) (Nat.le_refl _) ?_)
          intro v5 w5 ho5 hg5
          have hB5 : Below w4.heap.size w4 w5 := (Below.refl _ _).grown hg5 (Nat.le_refl _) (fun r e => by cases e)
          have hs5 := hB5.size
          have HO5 := Lib.hid (ho5.alloc (.cells #[.int .i64 3, .int .i64 0, .string ByteArray.empty, .string ByteArray.empty, .string ByteArray.empty] 30))
          have HB5 := Lib.hid (hB5.alloc hs5 (.cells #[.int .i64 3, .int .i64 0, .string ByteArray.empty, .string ByteArray.empty, .string ByteArray.empty] 30))
          obtain ⟨A5, c5, rfl, _⟩ := own_form ho5
          clear ho5 hg5 hB5
          go_wp2_with (at_builtin; refine append_inlsE rfl _ _ rfl w4.heap.size _ M rfl HO5.out (some ⟨w5.heap.size, 0, none⟩) 1 [⟨3, 0, [], [], []⟩] rfl (lit_inlsE (heap_alloc_new _ _)) (by simp; omega) (by simp; omega) ?_)
          intro v6 w6 ho6 hg6
          have HB6 := Lib.hid (HB5.out.grown hg6 HB5.out.size (fun r e => (HO5.out.lt r e).1))
          have HO6 := Lib.hid ho6
          have HM6 := Lib.hid (EltsAt.below HM4.out HB6.out)
          clear ho6 hg6 HO5 HB5
          go_wp2_with fail
          go_loopw [10, 12, 65] (fun av pv i wr => ∃ (j : Nat), i = .int .i64 j ∧ j ≤ M.length ∧ wr.ownsRow w4.heap.size 30 5 av (M.length + 1 + j) (flt ilC (M ++ ⟨3, 0, [], [], []⟩ :: deepI (M.take j))) ∧ Below w4.heap.size w4 wr) (fun _ _ i _ => M.length - (intOf i).toNat)
          case atStart => exact ⟨0, rfl, Nat.zero_le _, HO6.out, HB6.out⟩
          case round =>
            obtain ⟨j, rfl, hj, hrow, hbw⟩ := hrel
            have hlx : (M ++ (⟨3, 0, [], [], []⟩ : Iln) :: deepI (M.take j)).length = M.length + 1 + j := by simp [deepI]; omega
            by_cases hp : j < M.length
            · obtain ⟨b, off, rfl, hb, p0, p1, p2, p3, p4⟩ := InlsAt.cells5 (EltsAt.below HM4.out hbw) hp
              have htk : (M ++ (⟨3, 0, [], [], []⟩ : Iln) :: deepI (M.take j)) ++ [deepOne M[j]] = M ++ ⟨3, 0, [], [], []⟩ :: deepI (M.take (j + 1)) := by
                rw [List.take_succ_eq_append_getElem hp, deepI_append]; simp; rfl
              obtain ⟨A7, c7, rfl, _⟩ := own_form hrow
              rw [← hlx] at hrow ⊢
              have HROW := Lib.hid hrow
              have HTK := Lib.hid htk
              have HLX := Lib.hid hlx
              have HBW := Lib.hid hbw
              have hbs := hbw.size
              have HP := Lib.hid hp
              clear hrow htk hlx hbw
              generalize M ++ (⟨3, 0, [], [], []⟩ : Iln) :: deepI (M.take j) = X at *
              generalize M[j] = y at *
              obtain ⟨yk, yd, yt, yu, yi⟩ := y
              dsimp only at p0 p1 p2 p3 p4
              unfold deepOne at HTK
              dsimp only at HTK
              rw [show IntKind.i64.wrap (yd + 1) = wrap64 (yd + 1) from by first | rfl | simp only [wrap64, IntKind.wrap_i64]] at HTK
              have hr2 := (HROW.out.alloc (.cells #[.int .i64 yk, .int .i64 (wrap64 (yd + 1)), .string ⟨yt.toArray⟩, .string ⟨yu.toArray⟩, .string ⟨yi.toArray⟩] 30)).alloc (.cells #[.int .i64 yk, .int .i64 (wrap64 (yd + 1)), .string ⟨yt.toArray⟩, .string ⟨yu.toArray⟩, .string ⟨yi.toArray⟩] 30)
              have HR7 := Lib.hid hr2
              have hb2 : Below w4.heap.size w4 ((wr.alloc (.cells #[.int .i64 yk, .int .i64 (wrap64 (yd + 1)), .string ⟨yt.toArray⟩, .string ⟨yu.toArray⟩, .string ⟨yi.toArray⟩] 30)).alloc (.cells #[.int .i64 yk, .int .i64 (wrap64 (yd + 1)), .string ⟨yt.toArray⟩, .string ⟨yu.toArray⟩, .string ⟨yi.toArray⟩] 30)) := (HBW.out.alloc hbs _).alloc (by simp; omega) _
              have HB7 := Lib.hid hb2
              clear hr2 hb2
              go_wp2_with (at_builtin; refine append_inlsE rfl _ _ rfl w4.heap.size _ X rfl HR7.out (some ⟨wr.heap.size + 1, 0, none⟩) 1 [⟨yk, wrap64 (yd + 1), yt, yu, yi⟩] rfl (lit_inlsE (heap_alloc2_new _ _ _)) (by rw [HLX.out]; simp; omega) (by simp; omega) ?_)
              intro v8 w8 ho8 hg8
              rw [HTK.out] at ho8
              have HO8 := Lib.hid ho8
              have HB8 := Lib.hid (HB7.out.grown hg8 HB7.out.size (fun r e => (HR7.out.lt r e).1))
              clear ho8 hg8
              go_wp2
              go_roundw
              case rel => exact ⟨j + 1, by go_num, HP.out, by have := HO8.out; rwa [HLX.out] at this, HB8.out⟩
              case measure => have := HP.out; simp [intOf]; omega
            · obtain rfl : j = M.length := by omega
              rw [List.take_length] at hrow hlx
              have HLX := Lib.hid hlx
              rw [← hlx] at hrow
              obtain ⟨A7, c7, rfl, hW⟩ := EltsAt.own ilC_length hrow
              have hbs := hbw.size
              obtain ⟨N, hN⟩ : ∃ N, M.length + 1 + M.length = N + 1 := ⟨M.length + M.length, by omega⟩
              rw [hN] at hlx
              have hNl : N ≤ 60 := by omega
              clear HLX
              have hnp : (∀ d, endsAt (M ++ (⟨3, 0, [], [], []⟩ : Iln) :: deepI M) d = true → beginsAt z0 d = false) → G = M ++ (⟨3, 0, [], [], []⟩ : Iln) :: deepI M ++ M := HNP.out
              have hNp : N < (M ++ (⟨3, 0, [], [], []⟩ : Iln) :: deepI M).length := by omega
              have hend : ∀ d, endsAt (M ++ (⟨3, 0, [], [], []⟩ : Iln) :: deepI M) d = ((M ++ (⟨3, 0, [], [], []⟩ : Iln) :: deepI M)[N].kd == 1 && (M ++ (⟨3, 0, [], [], []⟩ : Iln) :: deepI M)[N].dp == d) := fun d => by
                unfold endsAt
                rw [List.getLast?_eq_getElem?, show (M ++ (⟨3, 0, [], [], []⟩ : Iln) :: deepI M).length - 1 = N from by omega, List.getElem?_eq_getElem hNp]
              obtain ⟨bw, ow, ew, hbw2, q0, q1, q2, q3, q4⟩ := InlsAt.cells5 hW hNp
              subst ew
              clear q2 q3 q4 HNP
              rw [hlx] at hrow ⊢
              generalize hXX : M ++ (⟨3, 0, [], [], []⟩ : Iln) :: deepI M = X at *
              generalize X[N] = y at *
              have HROW := Lib.hid hrow
              have HBW := Lib.hid hbw
              have HW := Lib.hid hW
              have HMr := Lib.hid (EltsAt.below HM4.out hbw)
              have HNP := Lib.hid hnp
              have HEND := Lib.hid hend
              have hw1 : IntKind.i64.wrap ((N : Int) + 1 - 1) = N := by rw [Int.add_sub_cancel]; exact IntWalk.i64_in _ (by omega)
              have hw2 : IntKind.i64.wrap (N : Int) = N := IntWalk.i64_in _ (by omega)
              clear hrow hbw hW hnp hend hNp
              cases M with
              | nil =>
                obtain rfl : N = 0 := by simp at hN; omega
                have HLEN := Lib.hid (show X.length + ([] : List Iln).length ≤ 1000000000 from by simp at hml ⊢; omega)
                have hGX := HNP.out (fun d hd => by rw [HBG.out]; rfl)
                have HGX := Lib.hid hGX
                clear hGX HNP HEND
                go_wp2_with fail
                go_quiet (fail)
                have HROWq := Lib.hid (ownsRow_below HROW.out (below_drewN' (Below.refl _ wr) nq))
                have HMq := Lib.hid (InlsAt.drew HMr.out nq)
                go_wp2_with (at_builtin; refine append_inlsE rfl _ _ rfl w4.heap.size _ X rfl (by rw [hlx]; exact HROWq.out) A4 c4 [] rfl HMq.out HLEN.out (by simpa using HBW.out.size) ?_)
                intro v9 w9 ho9 hg9
                have hB9 := (below_drewN' HBW.out nq).grown hg9 (by simpa using HBW.out.size) (fun r e => (HROWq.out.lt r e).1)
                have ho9' : w9.ownsRow w4.heap.size 30 5 v9 G.length (flt ilC G) := by
                  rw [HGX.out]
                  first
                    | exact ho9
                    | (rw [List.length_append]; exact ho9)
                    | (rw [List.length_append, hlx]; simpa using ho9)
                obtain ⟨A9, c9, rfl, hG9⟩ := EltsAt.own ilC_length ho9'
                have cs := sameInls_same A3 A9 c3 c9 G w9 (EltsAt.below (EltsAt.below HG3.out HB4.out) hB9) hG9
                have HB9 := Lib.hid (((HB2.out.then HB3.out).then HB4.out).then hB9)
                clear ho9 ho9' hg9 hB9 hG9
                go_wp2_with fail
                refine cs.mono ?_
                rintro e w10 ⟨rfl, q, rfl⟩
                go_wp2
                go_ret
                exact ⟨rfl, below_drewN' HB9.out q⟩
              | cons y0 M =>
                obtain ⟨b0, o0, rfl, hb0, p0, p1, p2, p3, p4⟩ := InlsAt.cells5 HMr.out (k := 0) (by simp)
                clear p2 p3 p4
                rw [List.getElem_cons_zero] at p0 p1
                simp only [Nat.zero_mul, Nat.add_zero, Nat.zero_add] at p0 p1
                have hbg : ∀ d, beginsAt z0 d = (y0.kd == 1 && y0.dp == d) := fun d => by rw [HBG.out]; rfl
                have HBG2 := Lib.hid hbg
                clear hbg HBG
                generalize y0.kd = ky at *
                generalize y0.dp = dy at *
                by_cases h1 : ky = 1
                · subst h1
                  by_cases h2 : y.kd = 1
                  · rw [h2] at q0
                    by_cases h3 : y.dp = dy
                    · rw [h3] at q1
                      clear h2 h3
                      go_wp2_with fail
                      go_quiet (fail)
                      go_wp2
                      go_ret
                      exact ⟨rfl, below_drewN' (((HB2.out.then HB3.out).then HB4.out).then HBW.out) nq⟩
                    · have h3b : (y.dp == dy) = false := by simpa using h3
                      have HLEN := Lib.hid (show X.length + (y0 :: M).length ≤ 1000000000 from by simp at hml ⊢; omega)
                      have hGX := HNP.out (fun d hd => by rw [HEND.out, h2] at hd; rw [HBG2.out]; simp only [beq_self_eq_true, Bool.true_and, beq_iff_eq, beq_eq_false_iff_ne] at hd ⊢; intro e; exact h3 (hd.trans e.symm))
                      have HGX := Lib.hid hGX
                      clear hGX HNP HEND
                      go_wp2_with fail
                      go_quiet (fail)
                      have HROWq := Lib.hid (ownsRow_below HROW.out (below_drewN' (Below.refl _ wr) nq))
                      have HMq := Lib.hid (InlsAt.drew HMr.out nq)
                      go_wp2_with (at_builtin; refine append_inlsE rfl _ _ rfl w4.heap.size _ X rfl (by rw [hlx]; exact HROWq.out) (some ⟨b0, o0, none⟩) c4 (y0 :: M) rfl HMq.out HLEN.out (by simpa using HBW.out.size) ?_)
                      intro v9 w9 ho9 hg9
                      have hB9 := (below_drewN' HBW.out nq).grown hg9 (by simpa using HBW.out.size) (fun r e => (HROWq.out.lt r e).1)
                      have ho9' : w9.ownsRow w4.heap.size 30 5 v9 G.length (flt ilC G) := by
                        rw [HGX.out]
                        first
                          | exact ho9
                          | (rw [List.length_append]; exact ho9)
                          | (rw [List.length_append, hlx]; simpa using ho9)
                      obtain ⟨A9, c9, rfl, hG9⟩ := EltsAt.own ilC_length ho9'
                      have cs := sameInls_same A3 A9 c3 c9 G w9 (EltsAt.below (EltsAt.below HG3.out HB4.out) hB9) hG9
                      have HB9 := Lib.hid (((HB2.out.then HB3.out).then HB4.out).then hB9)
                      clear ho9 ho9' hg9 hB9 hG9
                      go_wp2_with fail
                      refine cs.mono ?_
                      rintro e w10 ⟨rfl, q, rfl⟩
                      go_wp2
                      go_ret
                      exact ⟨rfl, below_drewN' HB9.out q⟩
                  · have h2b : (y.kd == 1) = false := by simpa using h2
                    have HLEN := Lib.hid (show X.length + (y0 :: M).length ≤ 1000000000 from by simp at hml ⊢; omega)
                    have hGX := HNP.out (fun d hd => by rw [HEND.out, h2b] at hd; simp at hd)
                    have HGX := Lib.hid hGX
                    clear hGX HNP HEND
                    go_wp2_with fail
                    go_quiet (fail)
                    have HROWq := Lib.hid (ownsRow_below HROW.out (below_drewN' (Below.refl _ wr) nq))
                    have HMq := Lib.hid (InlsAt.drew HMr.out nq)
                    go_wp2_with (at_builtin; refine append_inlsE rfl _ _ rfl w4.heap.size _ X rfl (by rw [hlx]; exact HROWq.out) (some ⟨b0, o0, none⟩) c4 (y0 :: M) rfl HMq.out HLEN.out (by simpa using HBW.out.size) ?_)
                    intro v9 w9 ho9 hg9
                    have hB9 := (below_drewN' HBW.out nq).grown hg9 (by simpa using HBW.out.size) (fun r e => (HROWq.out.lt r e).1)
                    have ho9' : w9.ownsRow w4.heap.size 30 5 v9 G.length (flt ilC G) := by
                      rw [HGX.out]
                      first
                        | exact ho9
                        | (rw [List.length_append]; exact ho9)
                        | (rw [List.length_append, hlx]; simpa using ho9)
                    obtain ⟨A9, c9, rfl, hG9⟩ := EltsAt.own ilC_length ho9'
                    have cs := sameInls_same A3 A9 c3 c9 G w9 (EltsAt.below (EltsAt.below HG3.out HB4.out) hB9) hG9
                    have HB9 := Lib.hid (((HB2.out.then HB3.out).then HB4.out).then hB9)
                    clear ho9 ho9' hg9 hB9 hG9
                    go_wp2_with fail
                    refine cs.mono ?_
                    rintro e w10 ⟨rfl, q, rfl⟩
                    go_wp2
                    go_ret
                    exact ⟨rfl, below_drewN' HB9.out q⟩
                · have h1b : (ky == 1) = false := by simpa using h1
                  have HLEN := Lib.hid (show X.length + (y0 :: M).length ≤ 1000000000 from by simp at hml ⊢; omega)
                  have hGX := HNP.out (fun d hd => by rw [HBG2.out, h1b]; rfl)
                  have HGX := Lib.hid hGX
                  clear hGX HNP HEND
                  go_wp2_with fail
                  go_quiet (fail)
                  have HROWq := Lib.hid (ownsRow_below HROW.out (below_drewN' (Below.refl _ wr) nq))
                  have HMq := Lib.hid (InlsAt.drew HMr.out nq)
                  go_wp2_with (at_builtin; refine append_inlsE rfl _ _ rfl w4.heap.size _ X rfl (by rw [hlx]; exact HROWq.out) (some ⟨b0, o0, none⟩) c4 (y0 :: M) rfl HMq.out HLEN.out (by simpa using HBW.out.size) ?_)
                  intro v9 w9 ho9 hg9
                  have hB9 := (below_drewN' HBW.out nq).grown hg9 (by simpa using HBW.out.size) (fun r e => (HROWq.out.lt r e).1)
                  have ho9' : w9.ownsRow w4.heap.size 30 5 v9 G.length (flt ilC G) := by
                    rw [HGX.out]
                    first
                      | exact ho9
                      | (rw [List.length_append]; exact ho9)
                      | (rw [List.length_append, hlx]; simpa using ho9)
                  obtain ⟨A9, c9, rfl, hG9⟩ := EltsAt.own ilC_length ho9'
                  have cs := sameInls_same A3 A9 c3 c9 G w9 (EltsAt.below (EltsAt.below HG3.out HB4.out) hB9) hG9
                  have HB9 := Lib.hid (((HB2.out.then HB3.out).then HB4.out).then hB9)
                  clear ho9 ho9' hg9 hB9 hG9
                  go_wp2_with fail
                  refine cs.mono ?_
                  rintro e w10 ⟨rfl, q, rfl⟩
                  go_wp2
                  go_ret
                  exact ⟨rfl, below_drewN' HB9.out q⟩
  · go_enter Try.func5, Try.ntmps5
    go_wp2_with fail
    all_goals (refine hal.mono ?_; rintro e w' ⟨rfl, b⟩; go_wp2; go_ret; exact ⟨rfl, b⟩)

end Go.Proofs.Ytoomkhmmgjiniaa
