/-
  LatticeSets: the law's walk.
-/
import Derived.Test.YtmmdjbbbjlkmoaaDoorLatM
import Derived.Test.YtmmdjbbbjlkmoaaDoorLatQ
namespace Go.Proofs.YtmmdjbbbjlkmoaaDoor
open Go.RowKit
set_option linter.unusedSimpArgs false
set_option linter.unusedVariables false

def setRow (s k : Nat) : List (Int × Int) := (List.range k).filterMap fun j : Nat => if s.testBit j then none else some ((s : Int), ((s ||| 2 ^ j : Nat) : Int))
def setAll (s : Nat) : List (Int × Int) := (List.range s).flatMap fun i => setRow i 3
theorem setRow_succ (s k : Nat) : setRow s (k + 1) = setRow s k ++ (if s.testBit k then [] else [((s : Int), ((s ||| 2 ^ k : Nat) : Int))]) := by
  simp only [setRow, List.range_succ, List.filterMap_append]
  congr 1
  cases h : s.testBit k <;> simp [h]
theorem setAll_succ (s : Nat) : setAll (s + 1) = setAll s ++ setRow s 3 := by simp [setAll, List.range_succ]
theorem setRow_length (s k : Nat) : (setRow s k).length ≤ k := by
  have := List.length_filterMap_le (fun j : Nat => if s.testBit j then none else some ((s : Int), ((s ||| 2 ^ j : Nat) : Int))) (List.range k)
  simpa [setRow] using this
theorem setAll_length (s : Nat) : (setAll s).length ≤ 3 * s := by
  induction s with
  | zero => exact Nat.le_refl _
  | succ s ih =>
    rw [setAll_succ, List.length_append]
    have := setRow_length s 3
    omega
def subT : Rel := fun a b => a &&& b == a
theorem sets_same : SameR 8 (leqS 8 (setAll 8)) subT :=
  sameR_of (fun a b m ha hb hm h1 h2 => (by decide +kernel : ∀ a, a < 8 → ∀ b, b < 8 → ∀ m, m < 8 → subT a m = true → subT m b = true → subT a b = true) a ha b hb m hm h1 h2)
    (fun a b ha hb h => (by decide +kernel : ∀ a, a < 8 → ∀ b, b < 8 → baseR (setAll 8) a b = true → subT a b = true) a ha b hb h)
    (fun a b ha hb h => by
      obtain ⟨c, hc, d, hd, h1, h2, h3⟩ := (by decide +kernel : ∀ a, a < 8 → ∀ b, b < 8 → subT a b = true → ∃ c, c < 8 ∧ ∃ d, d < 8 ∧ baseR (setAll 8) a c = true ∧ baseR (setAll 8) c d = true ∧ baseR (setAll 8) d b = true) a ha b hb h
      exact leqS_trans hd (leqS_trans hc (warN_base _ _ _ _ h1) (warN_base _ _ _ _ h2)) (warN_base _ _ _ _ h3))
theorem sets_sound : Sound 8 subT := by decide +kernel
theorem sets_err : errS 8 (setAll 8) = 0 := by
  unfold errS
  rw [if_neg (by decide), if_neg (by decide +kernel), if_pos]
  exact sets_same.symm.sound sets_sound
theorem sets_join {a b : Nat} (ha : a < 8) (hb : b < 8) : joinR 8 (leqS 8 (setAll 8)) a b = bits BinOp.or IntKind.i64 (a : Int) (b : Int) := by
  rw [sets_same.join ha hb]
  exact (by decide +kernel : ∀ a, a < 8 → ∀ b, b < 8 → joinR 8 subT a b = bits BinOp.or IntKind.i64 (a : Int) (b : Int)) a ha b hb
theorem sets_meet {a b : Nat} (ha : a < 8) (hb : b < 8) : meetR 8 (leqS 8 (setAll 8)) a b = bits BinOp.and IntKind.i64 (a : Int) (b : Int) := by
  rw [sets_same.meet ha hb]
  exact (by decide +kernel : ∀ a, a < 8 → ∀ b, b < 8 → meetR 8 subT a b = bits BinOp.and IntKind.i64 (a : Int) (b : Int)) a ha b hb
theorem sets_leq {a b : Nat} (ha : a < 8) (hb : b < 8) : leqS 8 (setAll 8) a b = (bits BinOp.and IntKind.i64 (a : Int) (b : Int) == (a : Int)) := by
  rw [sets_same a b ha hb]
  exact (by decide +kernel : ∀ a, a < 8 → ∀ b, b < 8 → subT a b = (bits BinOp.and IntKind.i64 (a : Int) (b : Int) == (a : Int))) a ha b hb

theorem sets_test {s k : Nat} (hs : s < 8) (hk : k < 3) : (bits BinOp.and IntKind.i64 ((s : Int) / 2 ^ k) 1 == 0) = !s.testBit k :=
  (by decide +kernel : ∀ s : Nat, s < 8 → ∀ k : Nat, k < 3 → (bits BinOp.and IntKind.i64 ((s : Int) / 2 ^ k) 1 == 0) = !s.testBit k) s hs k hk
theorem sets_value {s k : Nat} (hs : s < 8) (hk : k < 3) : bits BinOp.or IntKind.i64 (s : Int) (wrap64 (2 ^ k)) = ((s ||| 2 ^ k : Nat) : Int) :=
  (by decide +kernel : ∀ s : Nat, s < 8 → ∀ k : Nat, k < 3 → bits BinOp.or IntKind.i64 (s : Int) (wrap64 (2 ^ k)) = ((s ||| 2 ^ k : Nat) : Int)) s hs k hk

def StRel (w : World) (v i : Value) (wr : World) : Prop :=
  ∃ s : Nat, i = .int .i64 s ∧ s ≤ 8 ∧ wr.ownsRow w.heap.size 43 2 v (setAll s).length (prCells (setAll s)) ∧ Below w.heap.size w wr
def StRel2 (w : World) (s : Nat) (v i : Value) (wr : World) : Prop :=
  ∃ k : Nat, i = .int .i64 k ∧ k ≤ 3 ∧ wr.ownsRow w.heap.size 43 2 v (setAll s ++ setRow s k).length (prCells (setAll s ++ setRow s k)) ∧ Below w.heap.size w wr

set_option maxRecDepth 100000 in
set_option maxHeartbeats 4000000 in
theorem latticeSets_walk (w : World) (hT : TabIs w) (a0 : Int) (w0 : (Lit.int .i64 a0).wf = true) (a1 : Int) (w1 : (Lit.int .i64 a1).wf = true) :
    Calls Tryd.prog 6 #[.int .i64 a0, .int .i64 a1] w fun e w' => e = .returned (.bool true) ∧ Below w.heap.size w w' := by
  have ca := alive5_any w hT
  by_cases hbad : a0 < 0 ∨ (0 ≤ a0 ∧ a1 < 0) ∨ (0 ≤ a0 ∧ 0 ≤ a1 ∧ 7 < a0) ∨ (0 ≤ a0 ∧ 0 ≤ a1 ∧ a0 ≤ 7 ∧ 7 < a1)
  · rcases hbad with h | ⟨h, h'⟩ | ⟨h, h', h2⟩ | ⟨h, h', h2, h3⟩
    all_goals
      clear w0 w1 hT
      go_enter Tryd.func6, Tryd.ntmps6
      go_wp2_with fail
      refine ca.mono ?_
      rintro e w3 ⟨rfl, b3⟩
      go_wp2
      go_ret
      exact ⟨rfl, b3⟩
  · have i1 : a0 ≤ 7 := by omega
    have i2 : a1 ≤ 7 := by omega
    have i5 : (0 ≤ a0) := by omega
    have i6 : (0 ≤ a1) := by omega
    clear hbad w0 w1
    obtain ⟨i0, hi, hz0, hz1, hz2⟩ := info_parts infoPair
    have cn := fun A ca w1 h hp => new_ok A ca 8 (setAll 8) w1 h hp sets_err
    go_enter Tryd.func6, Tryd.ntmps6
    go_wp2_with fail
    refine ca.mono ?_
    rintro e w3 ⟨rfl, b3⟩
    have HT3 := Lib.hid (hT.below b3)
    have HB3 := Lib.hid b3
    clear hT ca b3
    go_wp2_with fail
    go_loopw [5, 6] (fun v i wr => StRel w3 v i wr) (fun _ i _ => 8 - (intOf i).toNat)
    case atStart => exact ⟨0, rfl, by omega, World.ownsRow_nil _ _ _ _, Below.refl _ _⟩
    case round =>
      obtain ⟨s, rfl, hs, hown, hbw⟩ := hrel
      by_cases hp : s < 8
      · have HO := Lib.hid hown
        have HB := Lib.hid hbw
        clear hown hbw
        have HP := Lib.hid hp
        have hd : decide ((s : Int) < 8) = true := by simp; omega
        clear hp hs
        go_wp2_with fail
        clear hd
        go_loopw [5, 7] (fun v i wr => StRel2 w3 s v i wr) (fun _ i _ => 3 - (intOf i).toNat)
        case atStart => exact ⟨0, rfl, by omega, by rw [show setAll s ++ setRow s 0 = setAll s from by simp [setRow]]; exact HO.out, HB.out⟩
        case round =>
          obtain ⟨k, rfl, hk, hown, hbw⟩ := hrel
          by_cases hp3 : k < 3
          · have hsz := hbw.size
            have htest := sets_test HP.out hp3
            have hval := sets_value HP.out hp3
            have hlen : (setAll s ++ setRow s k).length ≤ 100 := by
              have := setAll_length s
              have := setRow_length s k
              have := HP.out
              rw [List.length_append]
              omega
            cases hb : s.testBit k with
            | true =>
              rw [hb] at htest
              have HN := Lib.hid (show setAll s ++ setRow s k = setAll s ++ setRow s (k + 1) from by rw [setRow_succ, hb]; simp)
              rw [HN.out] at hown
              have HO2 := Lib.hid hown
              clear hown hb
              go_wp2
              go_roundw
              case rel => exact ⟨k + 1, by go_num, by omega, HO2.out, hbw⟩
              case measure => simp [intOf]; omega
            | false =>
              rw [hb] at htest
              have HS := Lib.hid ((prCells_snoc (setAll s ++ setRow s k) (s : Int) ((s ||| 2 ^ k : Nat) : Int)).trans (show _ = prCells (setAll s ++ setRow s (k + 1)) from by rw [setRow_succ, hb]; simp))
              have HLN := Lib.hid (show (setAll s ++ setRow s k).length + 1 = (setAll s ++ setRow s (k + 1)).length from by rw [setRow_succ, hb]; simp; omega)
              generalize (s ||| 2 ^ k : Nat) = q at *
              clear hb
              go_wp2_with (first | simp only [hval] | (at_builtin; refine wpList_append_own _ rfl _ _ 22 rfl w3.heap.size 43 i0 (.agg #[.int .i64 0, .int .i64 0]) 2 16 Tryd.underlying22 hi hz0 hz1 hz2 rfl (by decide) _ _ _ rfl (hown.alloc _) ⟨wr.heap.size, 0, none⟩ 1 1 [.int .i64 s, .int .i64 q] rfl rfl ?c1 ?c2 ?c3 ?c4 ?c5 ?_))
              case c1 => exact cells_two wr _ _ _
              case c2 => exact two_ints _ _
              case c3 => unfold maxLen; omega
              case c4 => omega
              case c5 => simp; omega
              · intro v' w2 hown' hgrow _
                have hbw3 := (hbw.alloc hsz _).grown hgrow (by simp; omega) (fun k hk => (hown.lt k hk).1)
                rw [HS.out, HLN.out] at hown'
                have HO2 := Lib.hid hown'
                clear hown' hgrow
                go_wp2
                go_roundw
                case rel => exact ⟨k + 1, by go_num, by omega, HO2.out, hbw3⟩
                case measure => simp [intOf]; omega
          · obtain rfl : k = 3 := by omega
            rw [← setAll_succ] at hown
            have HO2 := Lib.hid hown
            clear hown
            have h8 := HP.out
            go_wp2
            go_roundw
            case rel => exact ⟨s + 1, by go_num, by omega, HO2.out, hbw⟩
            case measure => simp [intOf]; omega
      · obtain rfl : s = 8 := by omega
        obtain ⟨x, rfl⟩ : ∃ n : Nat, a0 = n := ⟨a0.toNat, by omega⟩
        obtain ⟨y, rfl⟩ : ∃ n : Nat, a1 = n := ⟨a1.toNat, by omega⟩
        have hx : x < 8 := by omega
        have hy : y < 8 := by omega
        obtain ⟨A, cap, rfl, hpr⟩ := PairsAt.own hown
        have hT3 := HT3.out.below hbw
        have B3 := Lib.hid (HB3.out.then hbw)
        have e0 := sets_leq hx hy
        have e1 := sets_join hx hy
        have e2 := sets_meet hx hy
        clear hown hbw
        generalize setAll 8 = L at *
        go_wp2_with fail
        refine (cn A cap _ hT3 hpr).mono ?_
        rintro e w5 ⟨b, rfl, b5, hbl, hl⟩
        have B5 := Lib.hid (B3.out.then b5)
        have hT5 := hT3.below b5
        have cl := fun i => leq_in x y hx hy (w5.drewN i) (hl.heap (w' := w5.drewN i) rfl)
        have cj := fun i => join_in x y hx hy (w5.drewN i) (hT5.heap rfl) (hl.heap (w' := w5.drewN i) rfl)
        have cm := fun i => meet_in x y hx hy (w5.drewN i) (hT5.heap rfl) (hl.heap (w' := w5.drewN i) rfl)
        rw [e0] at cl
        rw [e1] at cj
        rw [e2] at cm
        clear e0 e1 e2 hl hT5 b5 hT3 hpr cn
        go_wp2_with fail
        refine (cj 0).mono ?_
        rintro e w6 ⟨rfl, i6, rfl⟩
        go_wp2_with fail
        refine (cm _).mono ?_
        rintro e w6 ⟨rfl, i7, rfl⟩
        go_wp2_with fail
        refine (cl _).mono ?_
        rintro e w6 ⟨rfl, rfl⟩
        go_wp2
        all_goals
          go_ret
          exact ⟨rfl, below_drewN' B5.out _⟩

end Go.Proofs.YtmmdjbbbjlkmoaaDoor
