/-
  Package lattice: the small calls: one, holds, Len, has, all; the library's TrailingZeros64; whose.
  Package lattice: Leq, Join, Meet, Top, Bottom.
-/
import Derived.Test.YtkcmhdkhdjmjeaaGreatDoorLatP
namespace Go.Proofs.YtkcmhdkhdjmjeaaGreatDoor
open Go.RowKit
set_option linter.unusedVariables false
set_option linter.unusedSimpArgs false

/-- The library's table in its variable. -/
def TabIs (w : World) : Prop := ∀ j, j < 64 → w.cell? ⟨0, j, none⟩ = some (.int .u8 (Lib.deBruijn64tab.getD j 0))
theorem TabIs.lt {w : World} (h : TabIs w) : 0 < w.heap.size := World.block_lt_of_cell? _ _ (h 0 (by omega))
theorem TabIs.below {w w' : World} (h : TabIs w) (hb : Below w.heap.size w w') : TabIs w' := fun j hj =>
  (hb.cell (p := ⟨0, j, none⟩) h.lt).trans (h j hj)
theorem TabIs.heap {w w' : World} (h : TabIs w) (hh : w'.heap = w.heap) : TabIs w' := fun j hj => by
  have := h j hj
  simpa [World.cell?, hh] using this

theorem tz_core (x k idx : Nat) (w : World) (hx0 : ((x : Int) == 0) = false)
    (key : IntKind.u64.wrap (bits BinOp.and IntKind.u64 (x : Int) (IntKind.u64.wrap (-(x : Int))) * 285870213051353865) / 288230376151711744 = (idx : Int))
    (hi : idx < 64) (hk : k < 64) (hcell : w.cell? ⟨0, idx, none⟩ = some (.int .u8 k)) :
    Calls Tryz.prog 91 #[.int .u64 x] w fun e w' => e = .returned (.int .i64 k) ∧ w' = w := by
  go_enter Tryz.func91, Tryz.ntmps91
  go_wp2_with (simp only [key])
  go_ret
  exact ⟨rfl, rfl⟩
theorem tz_key (x a : Nat) (hx : x < 18446744073709551616) (hx0 : x ≠ 0) (hlow : x &&& (18446744073709551616 - x) = a) :
    IntKind.u64.wrap (bits BinOp.and IntKind.u64 (x : Int) (IntKind.u64.wrap (-(x : Int))) * 285870213051353865) / 288230376151711744 = ((a * 285870213051353865 % 18446744073709551616 / 288230376151711744 : Nat) : Int) := by
  have e1 : IntKind.u64.wrap (-(x : Int)) = ((18446744073709551616 - x : Nat) : Int) := by rw [IntKind.wrap_u64]; omega
  rw [e1, bits_and_u64_nat x _ hx (by omega), hlow, IntKind.wrap_u64]
  omega
theorem tz_any (x : Nat) (hx0 : x ≠ 0) (hx : x < 2 ^ 64) (w : World) (hT : TabIs w) :
    Calls Tryz.prog 91 #[.int .u64 x] w fun e w' => e = .returned (.int .i64 (Lib.ctz 64 x)) ∧ w' = w := by
  obtain ⟨hlow, hk⟩ := Lib.lowest_bit 64 x hx0 hx
  obtain ⟨hi, htab⟩ := Lib.deBruijn64_at _ hk
  have hcell := hT _ hi
  rw [htab] at hcell
  exact tz_core x _ _ w (by simp; omega) (tz_key x _ hx hx0 hlow) hi hk hcell

theorem one_any (k : Nat) (hk : k < 64) (w : World) : Calls Tryz.prog 89 #[.int .i64 k] w fun e w' => e = .returned (.int .u64 ((2 ^ k : Nat) : Int)) ∧ w' = w := by
  have HW := Lib.hid (wrap_pow hk)
  go_enter Tryz.func89, Tryz.ntmps89
  go_wp2
  go_ret
  exact ⟨congrArg (fun z => Ending.returned (.int .u64 z)) HW.out, rfl⟩
theorem and_pow_zero (s k : Nat) : (((s &&& 2 ^ k : Nat) : Int) != 0) = s.testBit k := by
  cases h : s.testBit k with
  | true =>
    have h2 : (s &&& 2 ^ k).testBit k = true := by rw [Nat.testBit_and, h]; simp
    simp only [bne_iff_ne, ne_eq]
    intro e
    rw [show s &&& 2 ^ k = 0 from by omega] at h2
    simp at h2
  | false =>
    have h2 : s &&& 2 ^ k = 0 := by
      apply Nat.eq_of_testBit_eq
      intro i
      rw [Nat.testBit_and, Nat.testBit_two_pow]
      by_cases e : k = i
      · subst e; simp [h]
      · simp [e]
    rw [h2]; rfl
theorem holds_any (s k : Nat) (hs : s < 2 ^ 64) (hk : k < 64) (w : World) : Calls Tryz.prog 63 #[.int .u64 s, .int .i64 k] w fun e w' => e = .returned (.bool (s.testBit k)) ∧ w' = w := by
  have co := fun w1 => one_any k hk w1
  have hand := bits_and_u64_nat s (2 ^ k) hs (pow_lt64 hk)
  have HZ := Lib.hid (and_pow_zero s k)
  generalize 2 ^ k = p at *
  go_enter Tryz.func63, Tryz.ntmps63
  go_wp2_with fail
  refine (co _).mono ?_
  rintro e w1 ⟨rfl, rfl⟩
  go_wp2_with (simp only [hand])
  go_ret
  exact ⟨ret_bool HZ.out, rfl⟩

/-- The lattice in block b: how many levels, what is above each, what is below. -/
structure LatMem (w : World) (b n : Nat) (up dn : Nat → Nat) : Prop where
  c0 : w.cell? ⟨b, 0, none⟩ = some (.int .i64 n)
  cu : ∀ a, a < 64 → w.cell? ⟨b, 1 + a, none⟩ = some (.int .u64 (up a))
  cd : ∀ a, a < 64 → w.cell? ⟨b, 65 + a, none⟩ = some (.int .u64 (dn a))
  fz : ∀ i, w.frozen? ⟨b, i, none⟩ = false
  lu : ∀ a, up a < 2 ^ 64
  ld : ∀ a, dn a < 2 ^ 64
section
variable {w w' : World} {b n : Nat} {up dn : Nat → Nat}
theorem LatMem.lt (h : LatMem w b n up dn) : b < w.heap.size := World.block_lt_of_cell? _ _ h.c0
theorem LatMem.heap (h : LatMem w b n up dn) (hh : w'.heap = w.heap) : LatMem w' b n up dn := by
  have e : ∀ a, w'.cell? a = w.cell? a := fun a => by simp [World.cell?, hh]
  have e2 : ∀ a, w'.frozen? a = w.frozen? a := fun a => by simp [World.frozen?, hh]
  exact ⟨by rw [e]; exact h.c0, fun a ha => by rw [e]; exact h.cu a ha, fun a ha => by rw [e]; exact h.cd a ha, fun i => by rw [e2]; exact h.fz i, h.lu, h.ld⟩
theorem LatMem.below (h : LatMem w b n up dn) (hb : Below w.heap.size w w') : LatMem w' b n up dn := by
  have hl := h.lt
  have e : ∀ i, w'.cell? ⟨b, i, none⟩ = w.cell? ⟨b, i, none⟩ := fun i => hb.cell (p := ⟨b, i, none⟩) hl
  exact ⟨by rw [e]; exact h.c0, fun a ha => by rw [e]; exact h.cu a ha, fun a ha => by rw [e]; exact h.cd a ha, fun i => by
    have := h.fz i
    simp only [World.frozen?] at this ⊢
    rw [hb.block b hl]
    exact this, h.lu, h.ld⟩
end

theorem len_any {b n : Nat} {up dn : Nat → Nat} (w : World) (h : LatMem w b n up dn) : Calls Tryz.prog 59 #[.pointer (some ⟨b, 0, none⟩)] w fun e w' => e = .returned (.int .i64 n) ∧ w' = w := by
  have h0 := h.c0
  clear h
  go_enter Tryz.func59, Tryz.ntmps59
  go_wp2
  go_ret
  exact ⟨rfl, rfl⟩
theorem len_nil (w : World) : Calls Tryz.prog 59 #[.pointer none] w fun e w' => e = .returned (.int .i64 0) ∧ w' = w := by
  go_enter Tryz.func59, Tryz.ntmps59
  go_wp2
  go_ret
  exact ⟨rfl, rfl⟩
def hasS (n : Int) (a b : Int) : Bool := decide (0 ≤ a ∧ a < n ∧ 0 ≤ b ∧ b < n)
theorem has_core (p : Value) (n : Int) (x y : Int) (w : World) (hl : ∀ w1, w1 = w → Calls Tryz.prog 59 #[p] w1 fun e w' => e = .returned (.int .i64 n) ∧ w' = w1) :
    Calls Tryz.prog 53 #[p, .int .i64 x, .int .i64 y] w fun e w' => e = .returned (.bool (hasS n x y)) ∧ w' = w := by
  have HT := Lib.hid (show hasS n x y = (decide (0 ≤ x) && decide (x < n) && decide (0 ≤ y) && decide (y < n)) from by simp [hasS, Bool.and_assoc])
  by_cases h1 : 0 ≤ x <;> by_cases h2 : x < n <;> by_cases h3 : 0 ≤ y <;> by_cases h4 : y < n
  all_goals
    go_enter Tryz.func53, Tryz.ntmps53
    go_wp2_with fail
    refine (hl _ rfl).mono ?_
    rintro e w1 ⟨rfl, rfl⟩
    go_wp2
    all_goals (go_ret; exact ⟨ret_bool (by rw [HT.out]; simp [*]), rfl⟩)
theorem has_any {b n : Nat} {up dn : Nat → Nat} (x y : Int) (w : World) (h : LatMem w b n up dn) :
    Calls Tryz.prog 53 #[.pointer (some ⟨b, 0, none⟩), .int .i64 x, .int .i64 y] w fun e w' => e = .returned (.bool (hasS n x y)) ∧ w' = w :=
  has_core _ _ _ _ _ fun w1 e => by subst e; exact len_any _ h
theorem has_nil (x y : Int) (w : World) :
    Calls Tryz.prog 53 #[.pointer none, .int .i64 x, .int .i64 y] w fun e w' => e = .returned (.bool (hasS 0 x y)) ∧ w' = w :=
  has_core _ _ _ _ _ fun w1 _ => len_nil w1

theorem all_shift {n : Nat} (h1 : 1 ≤ n) (h64 : n ≤ 64) : (18446744073709551615 : Int) / 2 ^ (64 - n) = ((2 ^ n - 1 : Nat) : Int) := by
  rw [show ((2 : Int) ^ (64 - n)) = ((2 ^ (64 - n) : Nat) : Int) from by simp]
  have h : (2 : Nat) ^ 64 = 2 ^ (64 - n) * 2 ^ n := by rw [← Nat.pow_add]; congr 1; omega
  have h2 := Nat.two_pow_pos (64 - n)
  have h3 := Nat.two_pow_pos n
  generalize 2 ^ (64 - n) = p at *
  generalize 2 ^ n = q at *
  have e : 18446744073709551615 / p = q - 1 := by
    have h4 : 18446744073709551615 = p * (q - 1) + (p - 1) := by
      have : p * (q - 1) + p = p * q := by
        obtain ⟨r, rfl⟩ : ∃ r, q = r + 1 := ⟨q - 1, by omega⟩
        rw [Nat.add_sub_cancel, Nat.mul_add, Nat.mul_one]
      omega
    rw [h4, Nat.mul_add_div h2, Nat.div_eq_of_lt (by omega)]
    rfl
  rw [← e]
  rfl
theorem all_any {b n : Nat} {up dn : Nat → Nat} (w : World) (h : LatMem w b n up dn) (h1 : 1 ≤ n) (h64 : n ≤ 64) :
    Calls Tryz.prog 61 #[.pointer (some ⟨b, 0, none⟩)] w fun e w' => e = .returned (.int .u64 ((2 ^ n - 1 : Nat) : Int)) ∧ w' = w := by
  have h0 := h.c0
  have HS := Lib.hid (all_shift h1 h64)
  clear h
  go_enter Tryz.func61, Tryz.ntmps61
  go_wp2
  go_ret
  exact ⟨congrArg (fun z => Ending.returned (.int .u64 z)) HS.out, rfl⟩

/-- The level whose own set it is; -1. -/
def whoseL (f : Nat → Nat) (s : Nat) : Int :=
  atI ((List.range 64).find? fun x => s.testBit x && f x == s)
def WhoseRel (f : Nat → Nat) (s : Nat) (w : World) (i : Value) (wr : World) : Prop :=
  ∃ r k : Nat, i = .int .u64 r ∧ r < 2 ^ 64 ∧ (∀ j, r.testBit j = (s.testBit j && decide (k ≤ j))) ∧ (∀ x, x < k → (s.testBit x && f x == s) = false) ∧ wr = w
set_option maxHeartbeats 1000000 in
theorem whose_any (b off : Nat) (f : Nat → Nat) (s : Nat) (w : World) (hT : TabIs w) (hc : ∀ a, a < 64 → w.cell? ⟨b, off + a, none⟩ = some (.int .u64 (f a))) (hf : ∀ a, f a < 2 ^ 64) (hs : s < 2 ^ 64) :
    Calls Tryz.prog 60 #[.pointer (some ⟨b, off, none⟩), .int .u64 s] w fun e w' => e = .returned (.int .i64 (whoseL f s)) ∧ w' = w := by
  go_enter Tryz.func60, Tryz.ntmps60
  go_wp2_with fail
  go_loopw [5] (fun i wr => WhoseRel f s w i wr) (fun i _ => (intOf i).toNat)
  case atStart => exact ⟨s, 0, rfl, hs, fun j => by simp, fun x hx => absurd hx (Nat.not_lt_zero _), rfl⟩
  case round =>
    obtain ⟨r, k, rfl, hr, hb, hn, rfl⟩ := hrel
    by_cases h0 : r = 0
    · have HF := Lib.hid (show whoseL f s = -1 from by
        unfold whoseL
        rw [find_none]
        · rfl
        intro y hy
        by_cases hk : y < k
        · exact hn y hk
        · have := hb y
          rw [h0] at this
          simp only [Nat.zero_testBit, show k ≤ y from by omega, decide_true, Bool.and_true] at this
          rw [← this]; rfl)
      subst h0
      clear hb hn
      go_wp2
      go_ret
      exact ⟨ret_int HF.out.symm, rfl⟩
    · obtain ⟨c1, c2, c3, c4⟩ := ctz_spec h0 hr
      have ct := tz_any r h0 hr _ hT
      have hcell := hc _ c1
      have hsub := u64_sub1 r h0 hr
      have hand := bits_and_u64_nat r (r - 1) hr (by omega)
      generalize Lib.ctz 64 r = z at *
      have HB := Lib.hid hb
      have HN := Lib.hid hn
      have HC3 := Lib.hid c3
      have HC4 := Lib.hid c4
      have hsb : s.testBit z = true := by
        have := hb z
        rw [c2] at this
        simp at this
        exact this.1
      have hkz : k ≤ z := by
        have := hb z
        rw [c2] at this
        simp at this
        exact this.2
      have hbelow : ∀ x, x < z → (s.testBit x && f x == s) = false := fun x hx => by
        by_cases hk : x < k
        · exact hn x hk
        · have h1 := hb x
          rw [c3 x hx] at h1
          simp only [show k ≤ x from by omega, decide_true, Bool.and_true] at h1
          rw [← h1]; rfl
      have HBL := Lib.hid hbelow
      have hr0 : ((r : Int) != 0) = true := by simp; omega
      clear hb hn c3 c4 hbelow
      by_cases he : f z = s
      · have HF := Lib.hid (show whoseL f s = z from by
          unfold whoseL
          rw [find_first c1 (by simp [hsb, he]) HBL.out]; rfl)
        have heq : (((f z : Nat) : Int) == (s : Int)) = true := by simp; omega
        clear he
        go_wp2_with fail
        refine ct.mono ?_
        rintro e w1 ⟨rfl, rfl⟩
        go_wp2
        go_ret
        exact ⟨ret_int HF.out.symm, rfl⟩
      · have heq : (((f z : Nat) : Int) == (s : Int)) = false := by simp; omega
        have HE := Lib.hid he
        clear he
        go_wp2_with fail
        refine ct.mono ?_
        rintro e w1 ⟨rfl, rfl⟩
        go_wp2_with (simp only [hsub, hand])
        go_roundw
        case rel =>
          refine ⟨r &&& (r - 1), z + 1, rfl, and_lt64 hr, fun j => ?_, fun x hx => ?_, rfl⟩
          · rw [HC4.out, HB.out]
            by_cases h1 : j < z
            · have h2 := HC3.out j h1
              rw [HB.out] at h2
              rw [h2, decide_eq_false (show ¬ z + 1 ≤ j from by omega)]
              simp
            · by_cases h2 : j = z
              · subst h2; simp
              · rw [decide_eq_true (show k ≤ j from by omega), decide_eq_true (show z + 1 ≤ j from by omega), decide_eq_true h2]; simp
          · by_cases h1 : x = z
            · subst h1
              simp only [Bool.and_eq_false_iff]
              right
              simpa using HE.out
            · exact HBL.out x (by omega)
        case measure =>
          have := @Nat.and_le_right r (r - 1)
          simp [intOf]
          omega

end Go.Proofs.YtkcmhdkhdjmjeaaGreatDoor

namespace Go.Proofs.YtkcmhdkhdjmjeaaGreatDoor
open Go.RowKit
set_option linter.unusedVariables false
set_option linter.unusedSimpArgs false

/-- The set of what is above a. -/
def upF (n : Nat) (R : Rel) (a : Nat) : Nat := if a < n then bitsOf (R a) n else 0
theorem upF_lt {n : Nat} (hn : n ≤ 64) (R : Rel) (a : Nat) : upF n R a < 2 ^ 64 := by
  unfold upF
  split
  · exact Nat.lt_of_lt_of_le (bitsOf_lt _ _) (Nat.pow_le_pow_right (by decide) hn)
  · decide
theorem testBit_upF {n : Nat} {R : Rel} {a : Nat} (ha : a < n) (i : Nat) : (upF n R a).testBit i = (decide (i < n) && R a i) := by
  rw [upF, if_pos ha, testBit_bitsOf]
theorem find_less {n m : Nat} {p : Nat → Bool} (h : n ≤ m) (hp : ∀ x, n ≤ x → x < m → p x = false) : (List.range m).find? p = (List.range n).find? p := by
  rcases find_range (n := n) (p := p) with ⟨x, hx, hn, hpx⟩ | ⟨hx, hall⟩
  · rw [hx]
    have := List.find?_range_eq_some.1 hx
    exact find_first (by omega) hpx fun y hy => by simpa using this.2.2 y hy
  · rw [hx]
    exact find_none fun y hy => by
      by_cases h1 : y < n
      · exact hall y h1
      · exact hp y (by omega) hy
theorem whose_join {n : Nat} {R : Rel} (h64 : n ≤ 64) (ht : ∀ a b m, a < n → b < n → m < n → R a m = true → R m b = true → R a b = true) (hr : ∀ a, a < n → R a a = true) {a b : Nat} (ha : a < n) (hb : b < n) :
    whoseL (upF n R) (upF n R a &&& upF n R b) = joinR n R a b := by
  unfold whoseL joinR
  rw [find_less h64]
  · refine congrArg atI (find_congr ?_)
    intro x hx
    have hx' := List.mem_range.1 hx
    rw [Nat.testBit_and, testBit_upF ha, testBit_upF hb, decide_eq_true hx', Bool.true_and, Bool.true_and]
    by_cases h1 : (R a x && R b x) = true
    · rw [h1, Bool.true_and, Bool.true_and]
      simp only [Bool.and_eq_true] at h1
      apply Bool.eq_iff_iff.2
      simp only [beq_iff_eq, List.all_eq_true, List.mem_range, Bool.or_eq_true, Bool.not_eq_true']
      constructor
      · intro e y hy
        have h2 := congrArg (fun z => z.testBit y) e
        simp only [Nat.testBit_and, testBit_upF ha, testBit_upF hb, testBit_upF hx', decide_eq_true hy, Bool.true_and] at h2
        rw [h2]
        cases (R a y && R b y) <;> simp
      · intro h
        apply Nat.eq_of_testBit_eq
        intro y
        rw [Nat.testBit_and, testBit_upF ha, testBit_upF hb, testBit_upF hx']
        by_cases hy : y < n
        · rw [decide_eq_true hy, Bool.true_and, Bool.true_and, Bool.true_and]
          apply Bool.eq_iff_iff.2
          rw [Bool.and_eq_true]
          constructor
          · intro h3
            exact ⟨ht a y x ha hy hx' h1.1 h3, ht b y x hb hy hx' h1.2 h3⟩
          · intro h3
            rcases h y hy with h4 | h4
            · rw [h3.1, h3.2] at h4; cases h4
            · exact h4
        · rw [decide_eq_false hy]; simp
    · rw [Bool.not_eq_true] at h1
      rw [h1]; simp
  · intro x h1 h2
    rw [Nat.testBit_and, testBit_upF ha, decide_eq_false (show ¬ x < n from by omega)]
    simp
theorem whose_bot {n : Nat} {R : Rel} (h64 : n ≤ 64) : whoseL (upF n R) (2 ^ n - 1) = botR n R := by
  unfold whoseL botR topR
  rw [find_less h64]
  · refine congrArg atI (find_congr ?_)
    intro x hx
    have hx' := List.mem_range.1 hx
    rw [Nat.testBit_two_pow_sub_one, decide_eq_true hx', Bool.true_and]
    apply Bool.eq_iff_iff.2
    simp only [beq_iff_eq, List.all_eq_true, List.mem_range, flipR]
    constructor
    · intro e y hy
      have h2 := congrArg (fun z => z.testBit y) e
      simp only [testBit_upF hx', decide_eq_true hy, Bool.true_and, Nat.testBit_two_pow_sub_one] at h2
      exact h2
    · intro h
      apply Nat.eq_of_testBit_eq
      intro y
      rw [testBit_upF hx', Nat.testBit_two_pow_sub_one]
      by_cases hy : y < n
      · rw [h y hy, Bool.and_true]
      · rw [decide_eq_false hy]; rfl
  · intro x h1 h2
    rw [Nat.testBit_two_pow_sub_one, decide_eq_false (show ¬ x < n from by omega)]
    rfl

/-- The lattice in block b is the order R of n levels. -/
structure LatIs (w : World) (b n : Nat) (R : Rel) : Prop where
  mem : LatMem w b n (upF n R) (upF n (flipR R))
  pos : 1 ≤ n
  most : n ≤ 64
  refl : ∀ a, a < n → R a a = true
  trans : ∀ a b m, a < n → b < n → m < n → R a m = true → R m b = true → R a b = true
theorem LatIs.below {w w' : World} {b n : Nat} {R : Rel} (h : LatIs w b n R) (hb : Below w.heap.size w w') : LatIs w' b n R := ⟨h.mem.below hb, h.pos, h.most, h.refl, h.trans⟩
theorem LatIs.heap {w w' : World} {b n : Nat} {R : Rel} (h : LatIs w b n R) (hh : w'.heap = w.heap) : LatIs w' b n R := ⟨h.mem.heap hh, h.pos, h.most, h.refl, h.trans⟩
theorem flip_trans {n : Nat} {R : Rel} (ht : ∀ a b m, a < n → b < n → m < n → R a m = true → R m b = true → R a b = true) : ∀ a b m, a < n → b < n → m < n → flipR R a m = true → flipR R m b = true → flipR R a b = true :=
  fun a b m ha hb hm h1 h2 => ht b a m hb ha hm h2 h1

theorem leq_in {b n : Nat} {R : Rel} (x y : Nat) (hx : x < n) (hy : y < n) (w : World) (h : LatIs w b n R) :
    Calls Tryz.prog 29 #[.pointer (some ⟨b, 0, none⟩), .int .i64 x, .int .i64 y] w fun e w' => e = .returned (.bool (R x y)) ∧ w' = w := by
  have ch := has_any x y w h.mem
  rw [show hasS (n : Int) x y = true from by simp [hasS]; omega] at ch
  have hm := h.most
  have hcell := h.mem.cu x (by omega)
  have co := fun w1 => holds_any (upF n R x) y (upF_lt hm R x) (by omega) w1
  rw [testBit_upF hx, decide_eq_true hy, Bool.true_and] at co
  clear h
  go_enter Tryz.func29, Tryz.ntmps29
  go_wp2_with fail
  refine ch.mono ?_
  rintro e w1 ⟨rfl, rfl⟩
  go_wp2_with fail
  refine (co _).mono ?_
  rintro e w1 ⟨rfl, rfl⟩
  go_wp2
  go_ret
  exact ⟨rfl, rfl⟩
theorem leq_core (p : Value) (n x y : Int) (w : World) (ch : Calls Tryz.prog 53 #[p, .int .i64 x, .int .i64 y] w fun e w' => e = .returned (.bool (hasS n x y)) ∧ w' = w) (h : hasS n x y = false) :
    Calls Tryz.prog 29 #[p, .int .i64 x, .int .i64 y] w fun e w' => e = .returned (.bool false) ∧ w' = w := by
  rw [h] at ch
  go_enter Tryz.func29, Tryz.ntmps29
  go_wp2_with fail
  refine ch.mono ?_
  rintro e w1 ⟨rfl, rfl⟩
  go_wp2
  go_ret
  exact ⟨rfl, rfl⟩
theorem join_core (p : Value) (n x y : Int) (w : World) (ch : Calls Tryz.prog 53 #[p, .int .i64 x, .int .i64 y] w fun e w' => e = .returned (.bool (hasS n x y)) ∧ w' = w) (h : hasS n x y = false) :
    Calls Tryz.prog 27 #[p, .int .i64 x, .int .i64 y] w fun e w' => e = .returned (.int .i64 (-1)) ∧ w' = w := by
  rw [h] at ch
  go_enter Tryz.func27, Tryz.ntmps27
  go_wp2_with fail
  refine ch.mono ?_
  rintro e w1 ⟨rfl, rfl⟩
  go_wp2
  go_ret
  exact ⟨rfl, rfl⟩
theorem meet_core (p : Value) (n x y : Int) (w : World) (ch : Calls Tryz.prog 53 #[p, .int .i64 x, .int .i64 y] w fun e w' => e = .returned (.bool (hasS n x y)) ∧ w' = w) (h : hasS n x y = false) :
    Calls Tryz.prog 90 #[p, .int .i64 x, .int .i64 y] w fun e w' => e = .returned (.int .i64 (-1)) ∧ w' = w := by
  rw [h] at ch
  go_enter Tryz.func90, Tryz.ntmps90
  go_wp2_with fail
  refine ch.mono ?_
  rintro e w1 ⟨rfl, rfl⟩
  go_wp2
  go_ret
  exact ⟨rfl, rfl⟩

set_option maxHeartbeats 1000000 in
theorem join_in {b n : Nat} {R : Rel} (x y : Nat) (hx : x < n) (hy : y < n) (w : World) (hT : TabIs w) (h : LatIs w b n R) :
    Calls Tryz.prog 27 #[.pointer (some ⟨b, 0, none⟩), .int .i64 x, .int .i64 y] w fun e w' => e = .returned (.int .i64 (joinR n R x y)) ∧ ∃ m, w' = w.drewN m := by
  have ch := has_any x y w h.mem
  rw [show hasS (n : Int) x y = true from by simp [hasS]; omega] at ch
  have hm := h.most
  have hcx := h.mem.cu x (by omega)
  have hcy := h.mem.cu y (by omega)
  have cw := fun (m : Nat) => whose_any b 1 (upF n R) (upF n R x &&& upF n R y) (w.drewN m) (hT.heap rfl) (fun a ha => (h.mem.heap (w' := w.drewN m) rfl).cu a ha) h.mem.lu (and_lt64 (upF_lt hm R x))
  rw [whose_join hm h.trans h.refl hx hy] at cw
  have hand := bits_and_u64_nat (upF n R x) (upF n R y) (upF_lt hm R x) (upF_lt hm R y)
  have HC := Lib.hid cw
  clear h cw hT
  generalize upF n R x = s1 at *
  generalize upF n R y = s2 at *
  go_enter Tryz.func27, Tryz.ntmps27
  go_wp2_with fail
  refine ch.mono ?_
  rintro e w1 ⟨rfl, rfl⟩
  go_wp2_with fail
  go_quiet ((go_at_call 60; (try rw [hand]); exact Calls.quiet_of_same (HC.out _)))
  go_wp2
  go_ret
  exact ⟨rfl, _, rfl⟩

set_option maxHeartbeats 1000000 in
theorem meet_in {b n : Nat} {R : Rel} (x y : Nat) (hx : x < n) (hy : y < n) (w : World) (hT : TabIs w) (h : LatIs w b n R) :
    Calls Tryz.prog 90 #[.pointer (some ⟨b, 0, none⟩), .int .i64 x, .int .i64 y] w fun e w' => e = .returned (.int .i64 (meetR n R x y)) ∧ ∃ m, w' = w.drewN m := by
  have ch := has_any x y w h.mem
  rw [show hasS (n : Int) x y = true from by simp [hasS]; omega] at ch
  have hm := h.most
  have hcx := h.mem.cd x (by omega)
  have hcy := h.mem.cd y (by omega)
  have cw := fun (m : Nat) => whose_any b 65 (upF n (flipR R)) (upF n (flipR R) x &&& upF n (flipR R) y) (w.drewN m) (hT.heap rfl) (fun a ha => (h.mem.heap (w' := w.drewN m) rfl).cd a ha) h.mem.ld (and_lt64 (upF_lt hm (flipR R) x))
  rw [show whoseL (upF n (flipR R)) (upF n (flipR R) x &&& upF n (flipR R) y) = meetR n R x y from whose_join hm (flip_trans h.trans) h.refl hx hy] at cw
  have hand := bits_and_u64_nat (upF n (flipR R) x) (upF n (flipR R) y) (upF_lt hm (flipR R) x) (upF_lt hm (flipR R) y)
  have HC := Lib.hid cw
  clear h cw hT
  generalize upF n (flipR R) x = s1 at *
  generalize upF n (flipR R) y = s2 at *
  go_enter Tryz.func90, Tryz.ntmps90
  go_wp2_with fail
  refine ch.mono ?_
  rintro e w1 ⟨rfl, rfl⟩
  go_wp2_with fail
  go_quiet ((go_at_call 60; (try rw [hand]); exact Calls.quiet_of_same (HC.out _)))
  go_wp2
  go_ret
  exact ⟨rfl, _, rfl⟩


set_option maxHeartbeats 1000000 in
theorem bot_any {b n : Nat} {R : Rel} (w : World) (hT : TabIs w) (h : LatIs w b n R) :
    Calls Tryz.prog 26 #[.pointer (some ⟨b, 0, none⟩)] w fun e w' => e = .returned (.int .i64 (botR n R)) ∧ ∃ m, w' = w.drewN m := by
  have cl := len_any w h.mem
  have hm := h.most
  have hp := h.pos
  have hpw : 2 ^ n - 1 < 2 ^ 64 := by have := Nat.pow_le_pow_right (show 0 < 2 by decide) hm; have := Nat.two_pow_pos n; omega
  have ca := fun (m : Nat) => all_any (w.drewN m) (h.mem.heap (w' := w.drewN m) rfl) hp hm
  have cw := fun (m : Nat) => whose_any b 1 (upF n R) (2 ^ n - 1) (w.drewN m) (hT.heap rfl) (fun a ha => (h.mem.heap (w' := w.drewN m) rfl).cu a ha) h.mem.lu hpw
  rw [whose_bot hm] at cw
  have HC := Lib.hid cw
  have HA := Lib.hid ca
  clear h cw hT ca
  generalize 2 ^ n - 1 = s1 at *
  go_enter Tryz.func26, Tryz.ntmps26
  go_wp2_with fail
  refine cl.mono ?_
  rintro e w1 ⟨rfl, rfl⟩
  go_wp2_with fail
  go_quiet (first | (go_at_call 61; exact Calls.quiet_of_same (HA.out _)) | (go_at_call 60; exact Calls.quiet_of_same (HC.out _)))
  go_wp2
  go_ret
  exact ⟨rfl, _, rfl⟩
set_option maxHeartbeats 1000000 in
theorem top_any {b n : Nat} {R : Rel} (w : World) (hT : TabIs w) (h : LatIs w b n R) :
    Calls Tryz.prog 62 #[.pointer (some ⟨b, 0, none⟩)] w fun e w' => e = .returned (.int .i64 (topR n R)) ∧ ∃ m, w' = w.drewN m := by
  have cl := len_any w h.mem
  have hm := h.most
  have hp := h.pos
  have hpw : 2 ^ n - 1 < 2 ^ 64 := by have := Nat.pow_le_pow_right (show 0 < 2 by decide) hm; have := Nat.two_pow_pos n; omega
  have ca := fun (m : Nat) => all_any (w.drewN m) (h.mem.heap (w' := w.drewN m) rfl) hp hm
  have cw := fun (m : Nat) => whose_any b 65 (upF n (flipR R)) (2 ^ n - 1) (w.drewN m) (hT.heap rfl) (fun a ha => (h.mem.heap (w' := w.drewN m) rfl).cd a ha) h.mem.ld hpw
  rw [show whoseL (upF n (flipR R)) (2 ^ n - 1) = topR n R from whose_bot hm] at cw
  have HC := Lib.hid cw
  have HA := Lib.hid ca
  clear h cw hT ca
  generalize 2 ^ n - 1 = s1 at *
  go_enter Tryz.func62, Tryz.ntmps62
  go_wp2_with fail
  refine cl.mono ?_
  rintro e w1 ⟨rfl, rfl⟩
  go_wp2_with fail
  go_quiet (first | (go_at_call 61; exact Calls.quiet_of_same (HA.out _)) | (go_at_call 60; exact Calls.quiet_of_same (HC.out _)))
  go_wp2
  go_ret
  exact ⟨rfl, _, rfl⟩

/-! The same for whatever indices. -/
def leqI (n : Nat) (R : Rel) (x y : Int) : Bool := hasS n x y && R x.toNat y.toNat
def joinI (n : Nat) (R : Rel) (x y : Int) : Int := if hasS n x y then joinR n R x.toNat y.toNat else -1
def meetI (n : Nat) (R : Rel) (x y : Int) : Int := if hasS n x y then meetR n R x.toNat y.toNat else -1
theorem hasS_true {n x y : Int} (h : hasS n x y = true) : ∃ a c : Nat, x = a ∧ y = c ∧ (a : Int) < n ∧ (c : Int) < n := by
  simp only [hasS, decide_eq_true_eq] at h
  exact ⟨x.toNat, y.toNat, by omega, by omega, by omega, by omega⟩
theorem drewN_zero (w : World) : w = w.drewN 0 := rfl
theorem leq_any {b n : Nat} {R : Rel} (x y : Int) (w : World) (h : LatIs w b n R) :
    Calls Tryz.prog 29 #[.pointer (some ⟨b, 0, none⟩), .int .i64 x, .int .i64 y] w fun e w' => e = .returned (.bool (leqI n R x y)) ∧ w' = w := by
  cases hh : hasS n x y with
  | true =>
    obtain ⟨a, c, rfl, rfl, ha, hc⟩ := hasS_true hh
    rw [show leqI n R a c = R a c from by simp [leqI, hh]]
    exact leq_in a c (by omega) (by omega) w h
  | false =>
    rw [show leqI n R x y = false from by simp [leqI, hh]]
    exact leq_core _ _ _ _ w (has_any x y w h.mem) hh
theorem latJoin_any {b n : Nat} {R : Rel} (x y : Int) (w : World) (hT : TabIs w) (h : LatIs w b n R) :
    Calls Tryz.prog 27 #[.pointer (some ⟨b, 0, none⟩), .int .i64 x, .int .i64 y] w fun e w' => e = .returned (.int .i64 (joinI n R x y)) ∧ ∃ m, w' = w.drewN m := by
  cases hh : hasS n x y with
  | true =>
    obtain ⟨a, c, rfl, rfl, ha, hc⟩ := hasS_true hh
    rw [show joinI n R a c = joinR n R a c from by simp [joinI, hh]]
    exact join_in a c (by omega) (by omega) w hT h
  | false =>
    rw [show joinI n R x y = -1 from by simp [joinI, hh]]
    exact (join_core _ _ _ _ w (has_any x y w h.mem) hh).mono fun e w' ⟨h1, h2⟩ => ⟨h1, 0, h2⟩
theorem meet_any {b n : Nat} {R : Rel} (x y : Int) (w : World) (hT : TabIs w) (h : LatIs w b n R) :
    Calls Tryz.prog 90 #[.pointer (some ⟨b, 0, none⟩), .int .i64 x, .int .i64 y] w fun e w' => e = .returned (.int .i64 (meetI n R x y)) ∧ ∃ m, w' = w.drewN m := by
  cases hh : hasS n x y with
  | true =>
    obtain ⟨a, c, rfl, rfl, ha, hc⟩ := hasS_true hh
    rw [show meetI n R a c = meetR n R a c from by simp [meetI, hh]]
    exact meet_in a c (by omega) (by omega) w hT h
  | false =>
    rw [show meetI n R x y = -1 from by simp [meetI, hh]]
    exact (meet_core _ _ _ _ w (has_any x y w h.mem) hh).mono fun e w' ⟨h1, h2⟩ => ⟨h1, 0, h2⟩

end Go.Proofs.YtkcmhdkhdjmjeaaGreatDoor
