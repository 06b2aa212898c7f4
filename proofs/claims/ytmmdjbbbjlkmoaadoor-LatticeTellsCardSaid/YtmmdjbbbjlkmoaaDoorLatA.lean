/-
  Package lattice: the small calls: one, holds, Len, has, all; the library's TrailingZeros64; whose.
-/
import Derived.Test.YtmmdjbbbjlkmoaaDoorLatP
namespace Go.Proofs.YtmmdjbbbjlkmoaaDoor
open Go.RowKit
set_option linter.unusedVariables false
set_option linter.unusedSimpArgs false

/-- The library's table in its variable. -/
def TabIs (w : World) : Prop := ∀ j, j < 64 → w.cell? ⟨0, j, none⟩ = some (.int .u8 (Lib.deBruijn64tab.getD j 0))
theorem TabIs.lt {w : World} (h : TabIs w) : 0 < w.heap.size := World.block_lt_of_cell? _ _ (h 0 (by omega))
theorem TabIs.below {w w' : World} (h : TabIs w) (hb : Below w.heap.size w w') : TabIs w' := fun j hj =>
  (hb.cell (p := ⟨0, j, none⟩) h.lt).trans (h j hj)
theorem TabIs.heap {w w' : World} (h : TabIs w) (hh : w'.heap = w.heap) : TabIs w' := fun j hj => by
  have := h j hj
  simpa [World.cell?, hh] using this

theorem tz_core (x k idx : Nat) (w : World) (hx0 : ((x : Int) == 0) = false)
    (key : IntKind.u64.wrap (bits BinOp.and IntKind.u64 (x : Int) (IntKind.u64.wrap (-(x : Int))) * 285870213051353865) / 288230376151711744 = (idx : Int))
    (hi : idx < 64) (hk : k < 64) (hcell : w.cell? ⟨0, idx, none⟩ = some (.int .u8 k)) :
    Calls Tryd.prog 27 #[.int .u64 x] w fun e w' => e = .returned (.int .i64 k) ∧ w' = w := by
  go_enter Tryd.func27, Tryd.ntmps27
  go_wp2_with (simp only [key])
  go_ret
  exact ⟨rfl, rfl⟩
theorem tz_key (x a : Nat) (hx : x < 18446744073709551616) (hx0 : x ≠ 0) (hlow : x &&& (18446744073709551616 - x) = a) :
    IntKind.u64.wrap (bits BinOp.and IntKind.u64 (x : Int) (IntKind.u64.wrap (-(x : Int))) * 285870213051353865) / 288230376151711744 = ((a * 285870213051353865 % 18446744073709551616 / 288230376151711744 : Nat) : Int) := by
  have e1 : IntKind.u64.wrap (-(x : Int)) = ((18446744073709551616 - x : Nat) : Int) := by rw [IntKind.wrap_u64]; omega
  rw [e1, bits_and_u64_nat x _ hx (by omega), hlow, IntKind.wrap_u64]
  omega
theorem tz_any (x : Nat) (hx0 : x ≠ 0) (hx : x < 2 ^ 64) (w : World) (hT : TabIs w) :
    Calls Tryd.prog 27 #[.int .u64 x] w fun e w' => e = .returned (.int .i64 (Lib.ctz 64 x)) ∧ w' = w := by
  obtain ⟨hlow, hk⟩ := Lib.lowest_bit 64 x hx0 hx
  obtain ⟨hi, htab⟩ := Lib.deBruijn64_at _ hk
  have hcell := hT _ hi
  rw [htab] at hcell
  exact tz_core x _ _ w (by simp; omega) (tz_key x _ hx hx0 hlow) hi hk hcell

theorem one_any (k : Nat) (hk : k < 64) (w : World) : Calls Tryd.prog 26 #[.int .i64 k] w fun e w' => e = .returned (.int .u64 ((2 ^ k : Nat) : Int)) ∧ w' = w := by
  have HW := Lib.hid (wrap_pow hk)
  go_enter Tryd.func26, Tryd.ntmps26
  go_wp2
  go_ret
  exact ⟨congrArg (fun z => Ending.returned (.int .u64 z)) HW.out, rfl⟩
theorem and_pow_zero (s k : Nat) : (((s &&& 2 ^ k : Nat) : Int) != 0) = s.testBit k := by
  cases h : s.testBit k with
  | true =>
    have h2 : (s &&& 2 ^ k).testBit k = true := by rw [Nat.testBit_and, h]; simp
    simp only [bne_iff_ne, ne_eq]
    intro e
    rw [show s &&& 2 ^ k = 0 from by omega] at h2
    simp at h2
  | false =>
    have h2 : s &&& 2 ^ k = 0 := by
      apply Nat.eq_of_testBit_eq
      intro i
      rw [Nat.testBit_and, Nat.testBit_two_pow]
      by_cases e : k = i
      · subst e; simp [h]
      · simp [e]
    rw [h2]; rfl
theorem holds_any (s k : Nat) (hs : s < 2 ^ 64) (hk : k < 64) (w : World) : Calls Tryd.prog 23 #[.int .u64 s, .int .i64 k] w fun e w' => e = .returned (.bool (s.testBit k)) ∧ w' = w := by
  have co := fun w1 => one_any k hk w1
  have hand := bits_and_u64_nat s (2 ^ k) hs (pow_lt64 hk)
  have HZ := Lib.hid (and_pow_zero s k)
  generalize 2 ^ k = p at *
  go_enter Tryd.func23, Tryd.ntmps23
  go_wp2_with fail
  refine (co _).mono ?_
  rintro e w1 ⟨rfl, rfl⟩
  go_wp2_with (simp only [hand])
  go_ret
  exact ⟨ret_bool HZ.out, rfl⟩

/-- The lattice in block b: how many levels, what is above each, what is below. -/
structure LatMem (w : World) (b n : Nat) (up dn : Nat → Nat) : Prop where
  c0 : w.cell? ⟨b, 0, none⟩ = some (.int .i64 n)
  cu : ∀ a, a < 64 → w.cell? ⟨b, 1 + a, none⟩ = some (.int .u64 (up a))
  cd : ∀ a, a < 64 → w.cell? ⟨b, 65 + a, none⟩ = some (.int .u64 (dn a))
  fz : ∀ i, w.frozen? ⟨b, i, none⟩ = false
  lu : ∀ a, up a < 2 ^ 64
  ld : ∀ a, dn a < 2 ^ 64
section
variable {w w' : World} {b n : Nat} {up dn : Nat → Nat}
theorem LatMem.lt (h : LatMem w b n up dn) : b < w.heap.size := World.block_lt_of_cell? _ _ h.c0
theorem LatMem.heap (h : LatMem w b n up dn) (hh : w'.heap = w.heap) : LatMem w' b n up dn := by
  have e : ∀ a, w'.cell? a = w.cell? a := fun a => by simp [World.cell?, hh]
  have e2 : ∀ a, w'.frozen? a = w.frozen? a := fun a => by simp [World.frozen?, hh]
  exact ⟨by rw [e]; exact h.c0, fun a ha => by rw [e]; exact h.cu a ha, fun a ha => by rw [e]; exact h.cd a ha, fun i => by rw [e2]; exact h.fz i, h.lu, h.ld⟩
theorem LatMem.below (h : LatMem w b n up dn) (hb : Below w.heap.size w w') : LatMem w' b n up dn := by
  have hl := h.lt
  have e : ∀ i, w'.cell? ⟨b, i, none⟩ = w.cell? ⟨b, i, none⟩ := fun i => hb.cell (p := ⟨b, i, none⟩) hl
  exact ⟨by rw [e]; exact h.c0, fun a ha => by rw [e]; exact h.cu a ha, fun a ha => by rw [e]; exact h.cd a ha, fun i => by
    have := h.fz i
    simp only [World.frozen?] at this ⊢
    rw [hb.block b hl]
    exact this, h.lu, h.ld⟩
end

theorem len_any {b n : Nat} {up dn : Nat → Nat} (w : World) (h : LatMem w b n up dn) : Calls Tryd.prog 12 #[.pointer (some ⟨b, 0, none⟩)] w fun e w' => e = .returned (.int .i64 n) ∧ w' = w := by
  have h0 := h.c0
  clear h
  go_enter Tryd.func12, Tryd.ntmps12
  go_wp2
  go_ret
  exact ⟨rfl, rfl⟩
theorem len_nil (w : World) : Calls Tryd.prog 12 #[.pointer none] w fun e w' => e = .returned (.int .i64 0) ∧ w' = w := by
  go_enter Tryd.func12, Tryd.ntmps12
  go_wp2
  go_ret
  exact ⟨rfl, rfl⟩
def hasS (n : Int) (a b : Int) : Bool := decide (0 ≤ a ∧ a < n ∧ 0 ≤ b ∧ b < n)
theorem has_core (p : Value) (n : Int) (x y : Int) (w : World) (hl : ∀ w1, w1 = w → Calls Tryd.prog 12 #[p] w1 fun e w' => e = .returned (.int .i64 n) ∧ w' = w1) :
    Calls Tryd.prog 19 #[p, .int .i64 x, .int .i64 y] w fun e w' => e = .returned (.bool (hasS n x y)) ∧ w' = w := by
  have HT := Lib.hid (show hasS n x y = (decide (0 ≤ x) && decide (x < n) && decide (0 ≤ y) && decide (y < n)) from by simp [hasS, Bool.and_assoc])
  by_cases h1 : 0 ≤ x <;> by_cases h2 : x < n <;> by_cases h3 : 0 ≤ y <;> by_cases h4 : y < n
  all_goals
    go_enter Tryd.func19, Tryd.ntmps19
    go_wp2_with fail
    refine (hl _ rfl).mono ?_
    rintro e w1 ⟨rfl, rfl⟩
    go_wp2
    all_goals (go_ret; exact ⟨ret_bool (by rw [HT.out]; simp [*]), rfl⟩)
theorem has_any {b n : Nat} {up dn : Nat → Nat} (x y : Int) (w : World) (h : LatMem w b n up dn) :
    Calls Tryd.prog 19 #[.pointer (some ⟨b, 0, none⟩), .int .i64 x, .int .i64 y] w fun e w' => e = .returned (.bool (hasS n x y)) ∧ w' = w :=
  has_core _ _ _ _ _ fun w1 e => by subst e; exact len_any _ h
theorem has_nil (x y : Int) (w : World) :
    Calls Tryd.prog 19 #[.pointer none, .int .i64 x, .int .i64 y] w fun e w' => e = .returned (.bool (hasS 0 x y)) ∧ w' = w :=
  has_core _ _ _ _ _ fun w1 _ => len_nil w1

theorem all_shift {n : Nat} (h1 : 1 ≤ n) (h64 : n ≤ 64) : (18446744073709551615 : Int) / 2 ^ (64 - n) = ((2 ^ n - 1 : Nat) : Int) := by
  rw [show ((2 : Int) ^ (64 - n)) = ((2 ^ (64 - n) : Nat) : Int) from by simp]
  have h : (2 : Nat) ^ 64 = 2 ^ (64 - n) * 2 ^ n := by rw [← Nat.pow_add]; congr 1; omega
  have h2 := Nat.two_pow_pos (64 - n)
  have h3 := Nat.two_pow_pos n
  generalize 2 ^ (64 - n) = p at *
  generalize 2 ^ n = q at *
  have e : 18446744073709551615 / p = q - 1 := by
    have h4 : 18446744073709551615 = p * (q - 1) + (p - 1) := by
      have : p * (q - 1) + p = p * q := by
        obtain ⟨r, rfl⟩ : ∃ r, q = r + 1 := ⟨q - 1, by omega⟩
        rw [Nat.add_sub_cancel, Nat.mul_add, Nat.mul_one]
      omega
    rw [h4, Nat.mul_add_div h2, Nat.div_eq_of_lt (by omega)]
    rfl
  rw [← e]
  rfl
theorem all_any {b n : Nat} {up dn : Nat → Nat} (w : World) (h : LatMem w b n up dn) (h1 : 1 ≤ n) (h64 : n ≤ 64) :
    Calls Tryd.prog 25 #[.pointer (some ⟨b, 0, none⟩)] w fun e w' => e = .returned (.int .u64 ((2 ^ n - 1 : Nat) : Int)) ∧ w' = w := by
  have h0 := h.c0
  have HS := Lib.hid (all_shift h1 h64)
  clear h
  go_enter Tryd.func25, Tryd.ntmps25
  go_wp2
  go_ret
  exact ⟨congrArg (fun z => Ending.returned (.int .u64 z)) HS.out, rfl⟩

/-- The level whose own set it is; -1. -/
def whoseL (f : Nat → Nat) (s : Nat) : Int :=
  atI ((List.range 64).find? fun x => s.testBit x && f x == s)
def WhoseRel (f : Nat → Nat) (s : Nat) (w : World) (i : Value) (wr : World) : Prop :=
  ∃ r k : Nat, i = .int .u64 r ∧ r < 2 ^ 64 ∧ (∀ j, r.testBit j = (s.testBit j && decide (k ≤ j))) ∧ (∀ x, x < k → (s.testBit x && f x == s) = false) ∧ wr = w
set_option maxHeartbeats 1000000 in
theorem whose_any (b off : Nat) (f : Nat → Nat) (s : Nat) (w : World) (hT : TabIs w) (hc : ∀ a, a < 64 → w.cell? ⟨b, off + a, none⟩ = some (.int .u64 (f a))) (hf : ∀ a, f a < 2 ^ 64) (hs : s < 2 ^ 64) :
    Calls Tryd.prog 24 #[.pointer (some ⟨b, off, none⟩), .int .u64 s] w fun e w' => e = .returned (.int .i64 (whoseL f s)) ∧ w' = w := by
  go_enter Tryd.func24, Tryd.ntmps24
  go_wp2_with fail
  go_loopw [5] (fun i wr => WhoseRel f s w i wr) (fun i _ => (intOf i).toNat)
  case atStart => exact ⟨s, 0, rfl, hs, fun j => by simp, fun x hx => absurd hx (Nat.not_lt_zero _), rfl⟩
  case round =>
    obtain ⟨r, k, rfl, hr, hb, hn, rfl⟩ := hrel
    by_cases h0 : r = 0
    · have HF := Lib.hid (show whoseL f s = -1 from by
        unfold whoseL
        rw [find_none]
        · rfl
        intro y hy
        by_cases hk : y < k
        · exact hn y hk
        · have := hb y
          rw [h0] at this
          simp only [Nat.zero_testBit, show k ≤ y from by omega, decide_true, Bool.and_true] at this
          rw [← this]; rfl)
      subst h0
      clear hb hn
      go_wp2
      go_ret
      exact ⟨ret_int HF.out.symm, rfl⟩
    · obtain ⟨c1, c2, c3, c4⟩ := ctz_spec h0 hr
      have ct := tz_any r h0 hr _ hT
      have hcell := hc _ c1
      have hsub := u64_sub1 r h0 hr
      have hand := bits_and_u64_nat r (r - 1) hr (by omega)
      generalize Lib.ctz 64 r = z at *
      have HB := Lib.hid hb
      have HN := Lib.hid hn
      have HC3 := Lib.hid c3
      have HC4 := Lib.hid c4
      have hsb : s.testBit z = true := by
        have := hb z
        rw [c2] at this
        simp at this
        exact this.1
      have hkz : k ≤ z := by
        have := hb z
        rw [c2] at this
        simp at this
        exact this.2
      have hbelow : ∀ x, x < z → (s.testBit x && f x == s) = false := fun x hx => by
        by_cases hk : x < k
        · exact hn x hk
        · have h1 := hb x
          rw [c3 x hx] at h1
          simp only [show k ≤ x from by omega, decide_true, Bool.and_true] at h1
          rw [← h1]; rfl
      have HBL := Lib.hid hbelow
      have hr0 : ((r : Int) != 0) = true := by simp; omega
      clear hb hn c3 c4 hbelow
      by_cases he : f z = s
      · have HF := Lib.hid (show whoseL f s = z from by
          unfold whoseL
          rw [find_first c1 (by simp [hsb, he]) HBL.out]; rfl)
        have heq : (((f z : Nat) : Int) == (s : Int)) = true := by simp; omega
        clear he
        go_wp2_with fail
        refine ct.mono ?_
        rintro e w1 ⟨rfl, rfl⟩
        go_wp2
        go_ret
        exact ⟨ret_int HF.out.symm, rfl⟩
      · have heq : (((f z : Nat) : Int) == (s : Int)) = false := by simp; omega
        have HE := Lib.hid he
        clear he
        go_wp2_with fail
        refine ct.mono ?_
        rintro e w1 ⟨rfl, rfl⟩
        go_wp2_with (simp only [hsub, hand])
        go_roundw
        case rel =>
          refine ⟨r &&& (r - 1), z + 1, rfl, and_lt64 hr, fun j => ?_, fun x hx => ?_, rfl⟩
          · rw [HC4.out, HB.out]
            by_cases h1 : j < z
            · have h2 := HC3.out j h1
              rw [HB.out] at h2
              rw [h2, decide_eq_false (show ¬ z + 1 ≤ j from by omega)]
              simp
            · by_cases h2 : j = z
              · subst h2; simp
              · rw [decide_eq_true (show k ≤ j from by omega), decide_eq_true (show z + 1 ≤ j from by omega), decide_eq_true h2]; simp
          · by_cases h1 : x = z
            · subst h1
              simp only [Bool.and_eq_false_iff]
              right
              simpa using HE.out
            · exact HBL.out x (by omega)
        case measure =>
          have := @Nat.and_le_right r (r - 1)
          simp [intOf]
          omega

end Go.Proofs.YtmmdjbbbjlkmoaaDoor
