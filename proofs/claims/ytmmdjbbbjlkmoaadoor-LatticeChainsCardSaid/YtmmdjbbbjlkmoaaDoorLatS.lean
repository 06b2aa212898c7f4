/-
  LatticeChains: the law's walk.
-/
import Derived.Test.YtmmdjbbbjlkmoaaDoorLatM
import Derived.Test.YtmmdjbbbjlkmoaaDoorLatQ
import Derived.Lib.MinMax
namespace Go.Proofs.YtmmdjbbbjlkmoaaDoor
open Go.RowKit
set_option linter.unusedSimpArgs false
set_option linter.unusedVariables false

def chS (k : Nat) : List (Int × Int) := (List.range k).map fun i : Nat => ((i : Int), (i : Int) + 1)
theorem chS_length (k : Nat) : (chS k).length = k := by simp [chS]
theorem chS_succ (k : Nat) : chS (k + 1) = chS k ++ [((k : Int), (k : Int) + 1)] := by simp [chS, List.range_succ]
theorem chS_mem {k a : Nat} (h : a < k) : ((a : Int), (a : Int) + 1) ∈ chS k := List.mem_map.2 ⟨a, List.mem_range.2 h, rfl⟩
def leT : Rel := fun a b => decide (a ≤ b)
theorem chain_same {n : Nat} (h1 : 1 ≤ n) : SameR n (leqS n (chS (n - 1))) leT := by
  refine sameR_of (fun a b m _ _ _ h1 h2 => by simp [leT] at h1 h2 ⊢; omega) (fun a b _ _ h => ?_) (fun a b ha hb h => ?_)
  · simp only [baseR, Bool.or_eq_true, decide_eq_true_eq, List.contains_iff_mem, chS, List.mem_map, Prod.mk.injEq] at h
    simp only [leT, decide_eq_true_eq]
    rcases h with h | ⟨i, _, h2, h3⟩ <;> omega
  · obtain ⟨d, rfl⟩ : ∃ d, b = a + d := ⟨b - a, by simp [leT] at h; omega⟩
    clear h
    induction d with
    | zero => exact leqS_refl _ _ _
    | succ d ih =>
      refine leqS_trans (m := a + d) (by omega) (ih (by omega)) (warN_base _ _ _ _ ?_)
      simp only [baseR, Bool.or_eq_true, decide_eq_true_eq, List.contains_iff_mem]
      right
      have := chS_mem (k := n - 1) (a := a + d) (by omega)
      rw [show ((a + (d + 1) : Nat) : Int) = ((a + d : Nat) : Int) + 1 from by omega]
      exact this
theorem le_join {n a b : Nat} (ha : a < n) (hb : b < n) : IsJoin n leT a b (max a b) := by
  refine ⟨by omega, by simp [leT]; omega, by simp [leT]; omega, fun y _ h1 h2 => ?_⟩
  simp [leT] at h1 h2 ⊢
  omega
theorem le_meet {n a b : Nat} (ha : a < n) (hb : b < n) : IsJoin n (flipR leT) a b (min a b) := by
  refine ⟨by omega, by simp [leT, flipR]; omega, by simp [leT, flipR]; omega, fun y _ h1 h2 => ?_⟩
  simp [leT, flipR] at h1 h2 ⊢
  omega
theorem le_lat (n : Nat) : Lat n leT :=
  ⟨fun a _ => by simp [leT], fun a b m _ _ _ h1 h2 => by simp [leT] at h1 h2 ⊢; omega, fun a _ b _ h1 h2 => by simp [leT] at h1 h2; omega,
    fun a ha b hb => joinR_nonneg (le_join ha hb), fun a ha b hb => joinR_nonneg (le_meet ha hb)⟩
theorem chain_err {n : Nat} (h1 : 1 ≤ n) (h64 : n ≤ 64) : errS n (chS (n - 1)) = 0 := by
  unfold errS
  rw [if_neg (by omega), if_neg, if_pos]
  · exact (chain_same h1).symm.sound (le_lat n).sound
  · rw [Bool.not_eq_false, List.all_eq_true]
    intro p hp
    obtain ⟨i, hi, rfl⟩ := List.mem_map.1 hp
    have := List.mem_range.1 hi
    simp [okPair]
    omega
theorem chain_join {n a b : Nat} (h1 : 1 ≤ n) (ha : a < n) (hb : b < n) : joinR n (leqS n (chS (n - 1))) a b = max (a : Int) (b : Int) := by
  rw [(chain_same h1).join ha hb, (le_lat n).join_eq (le_join ha hb)]
  omega
theorem chain_meet {n a b : Nat} (h1 : 1 ≤ n) (ha : a < n) (hb : b < n) : meetR n (leqS n (chS (n - 1))) a b = min (a : Int) (b : Int) := by
  rw [(chain_same h1).meet ha hb, (le_lat n).meet_eq (le_meet ha hb)]
  omega
theorem chain_top {n : Nat} (h1 : 1 ≤ n) : topR n (leqS n (chS (n - 1))) = (n : Int) - 1 := by
  rw [(chain_same h1).top]
  obtain ⟨t, e, ht, h⟩ := (le_lat n).top h1
  have := h (n - 1) (by omega)
  simp [leT] at this
  rw [e]
  omega
theorem chain_bot {n : Nat} (h1 : 1 ≤ n) : botR n (leqS n (chS (n - 1))) = 0 := by
  rw [(chain_same h1).bot]
  obtain ⟨t, e, ht, h⟩ := (le_lat n).bot h1
  have := h 0 (by omega)
  simp [leT] at this
  rw [e]
  omega
theorem chain_leq {n a b : Nat} (h1 : 1 ≤ n) (ha : a < n) (hb : b < n) : leqS n (chS (n - 1)) a b = decide ((a : Int) ≤ (b : Int)) := by
  rw [chain_same h1 a b ha hb]
  simp [leT]

def ChRel (n : Nat) (w : World) (v i : Value) (wr : World) : Prop :=
  ∃ k : Nat, i = .int .i64 k ∧ k + 1 ≤ n ∧ wr.ownsRow w.heap.size 43 2 v k (prCells (chS k)) ∧ Below w.heap.size w wr

set_option maxRecDepth 100000 in
set_option maxHeartbeats 4000000 in
theorem latticeChains_walk (w : World) (hT : TabIs w) (a0 : Int) (w0 : (Lit.int .i64 a0).wf = true) (a1 : Int) (w1 : (Lit.int .i64 a1).wf = true) (a2 : Int) (w2 : (Lit.int .i64 a2).wf = true) :
    Calls Tryd.prog 5 #[.int .i64 a0, .int .i64 a1, .int .i64 a2] w fun e w' => e = .returned (.bool true) ∧ Below w.heap.size w w' := by
  have ca := alive5_any w hT
  by_cases hbad : a0 < 1 ∨ (1 ≤ a0 ∧ 64 < a0) ∨ (1 ≤ a0 ∧ a0 ≤ 64 ∧ a1 < 0) ∨ (1 ≤ a0 ∧ a0 ≤ 64 ∧ 0 ≤ a1 ∧ a2 < 0) ∨ (1 ≤ a0 ∧ a0 ≤ 64 ∧ 0 ≤ a1 ∧ 0 ≤ a2 ∧ a0 ≤ a1) ∨ (1 ≤ a0 ∧ a0 ≤ 64 ∧ 0 ≤ a1 ∧ 0 ≤ a2 ∧ a1 < a0 ∧ a0 ≤ a2)
  · rcases hbad with h | ⟨h, h'⟩ | ⟨h, h', h2⟩ | ⟨h, h', h2, h3⟩ | ⟨h, h', h2, h3, h4⟩ | ⟨h, h', h2, h3, h4, h5⟩
    all_goals
      clear w0 w1 w2 hT
      go_enter Tryd.func5, Tryd.ntmps5
      go_wp2_with fail
      refine ca.mono ?_
      rintro e w3 ⟨rfl, b3⟩
      go_wp2
      go_ret
      exact ⟨rfl, b3⟩
  · obtain ⟨n, rfl⟩ : ∃ n : Nat, a0 = n := ⟨a0.toNat, by omega⟩
    have h1 : 1 ≤ n := by omega
    have h64 : n ≤ 64 := by omega
    have i1 : ((1 : Int) ≤ n) := by omega
    have i2 : ((n : Int) ≤ 64) := by omega
    have i3 : (a1 < n) := by omega
    have i4 : (a2 < n) := by omega
    have i5 : (0 ≤ a1) := by omega
    have i6 : (0 ≤ a2) := by omega
    clear hbad w0 w1 w2
    obtain ⟨i0, hi, hz0, hz1, hz2⟩ := info_parts infoPair
    have cn := fun A ca w1 h hp => new_ok A ca n (chS (n - 1)) w1 h hp (chain_err h1 h64)
    rw [chS_length] at cn
    go_enter Tryd.func5, Tryd.ntmps5
    go_wp2_with fail
    refine ca.mono ?_
    rintro e w3 ⟨rfl, b3⟩
    have HT3 := Lib.hid (hT.below b3)
    have HB3 := Lib.hid b3
    clear hT ca b3
    go_wp2_with fail
    go_loopw [7, 8] (fun v i wr => ChRel n w3 v i wr) (fun _ i _ => n - (intOf i).toNat)
    case atStart => exact ⟨0, rfl, h1, World.ownsRow_nil _ _ _ _, Below.refl _ _⟩
    case round =>
      obtain ⟨k, rfl, hk, hown, hbw⟩ := hrel
      have hsz := hbw.size
      by_cases hp : k + 1 < n
      · have HS := Lib.hid ((prCells_snoc (chS k) (k : Int) ((k : Int) + 1)).trans (by rw [← chS_succ]))
        go_wp2_with (at_builtin; refine wpList_append_own _ rfl _ _ 22 rfl w3.heap.size 43 i0 (.agg #[.int .i64 0, .int .i64 0]) 2 16 Tryd.underlying22 hi hz0 hz1 hz2 rfl (by decide) _ _ _ rfl (hown.alloc _) ⟨wr.heap.size, 0, none⟩ 1 1 [.int .i64 k, .int .i64 (k + 1)] rfl rfl ?c1 ?c2 ?c3 ?c4 ?c5 ?_)
        case c1 => exact cells_two wr _ _ _
        case c2 => exact two_ints _ _
        case c3 => unfold maxLen; omega
        case c4 => omega
        case c5 => simp; omega
        · intro v' w2 hown' hgrow _
          have hbw3 := (hbw.alloc hsz _).grown hgrow (by simp; omega) (fun k hk => (hown.lt k hk).1)
          rw [HS.out] at hown'
          have HO := Lib.hid hown'
          clear hown' hgrow
          go_wp2
          go_roundw
          case rel => exact ⟨k + 1, by go_num, by omega, HO.out, hbw3⟩
          case measure => simp [intOf]; omega
      · obtain rfl : n = k + 1 := by omega
        rw [Nat.add_sub_cancel] at cn
        obtain ⟨x, rfl⟩ : ∃ n : Nat, a1 = n := ⟨a1.toNat, by omega⟩
        obtain ⟨y, rfl⟩ : ∃ n : Nat, a2 = n := ⟨a2.toNat, by omega⟩
        have hx : x < k + 1 := by omega
        have hy : y < k + 1 := by omega
        obtain ⟨A, cap, rfl, hpr⟩ := PairsAt.own (by rw [chS_length]; exact hown)
        rw [chS_length] at *
        have hT3 := HT3.out.below hbw
        have B3 := Lib.hid (HB3.out.then hbw)
        clear hown hbw
        go_wp2_with fail
        refine (cn A cap _ hT3 hpr).mono ?_
        rintro e w5 ⟨b, rfl, b5, hbl, hl⟩
        have B5 := Lib.hid (B3.out.then b5)
        have hT5 := hT3.below b5
        have cl := fun i => leq_in x y hx hy (w5.drewN i) (hl.heap (w' := w5.drewN i) rfl)
        have cj := fun i => join_in x y hx hy (w5.drewN i) (hT5.heap rfl) (hl.heap (w' := w5.drewN i) rfl)
        have cm := fun i => meet_in x y hx hy (w5.drewN i) (hT5.heap rfl) (hl.heap (w' := w5.drewN i) rfl)
        have ct := fun i => top_any (w5.drewN i) (hT5.heap rfl) (hl.heap (w' := w5.drewN i) rfl)
        have cb := fun i => bot_any (w5.drewN i) (hT5.heap rfl) (hl.heap (w' := w5.drewN i) rfl)
        have e0 := chain_leq (n := k + 1) h1 hx hy
        have e1 := chain_join (n := k + 1) h1 hx hy
        have e2 := chain_meet (n := k + 1) h1 hx hy
        have e3 := chain_top (n := k + 1) h1
        have e4 := chain_bot (n := k + 1) h1
        rw [Nat.add_sub_cancel] at e0 e1 e2 e3 e4
        rw [e0] at cl
        rw [e1] at cj
        rw [e2] at cm
        rw [e3] at ct
        rw [e4] at cb
        clear e0 e1 e2 e3 e4 hl hT5 b5 hT3 hpr cn
        go_wp2_with fail
        refine (cl 0).mono ?_
        rintro e w6 ⟨rfl, rfl⟩
        go_wp2_with fail
        refine (cj _).mono ?_
        rintro e w6 ⟨rfl, i6, rfl⟩
        go_wp2_with fail
        refine (cm _).mono ?_
        rintro e w6 ⟨rfl, i7, rfl⟩
        go_wp2_with fail
        refine (ct _).mono ?_
        rintro e w6 ⟨rfl, i8, rfl⟩
        go_wp2_with fail
        refine (cb _).mono ?_
        rintro e w6 ⟨rfl, i9, rfl⟩
        go_wp2
        go_ret
        exact ⟨rfl, below_drewN' B5.out _⟩

end Go.Proofs.YtmmdjbbbjlkmoaaDoor
