/-
  Package lattice: Leq, Join, Meet, Top, Bottom.
-/
import Derived.Test.YtmmdjbbbjlkmoaaDoorLatA
namespace Go.Proofs.YtmmdjbbbjlkmoaaDoor
open Go.RowKit
set_option linter.unusedVariables false
set_option linter.unusedSimpArgs false

/-- The set of what is above a. -/
def upF (n : Nat) (R : Rel) (a : Nat) : Nat := if a < n then bitsOf (R a) n else 0
theorem upF_lt {n : Nat} (hn : n ≤ 64) (R : Rel) (a : Nat) : upF n R a < 2 ^ 64 := by
  unfold upF
  split
  · exact Nat.lt_of_lt_of_le (bitsOf_lt _ _) (Nat.pow_le_pow_right (by decide) hn)
  · decide
theorem testBit_upF {n : Nat} {R : Rel} {a : Nat} (ha : a < n) (i : Nat) : (upF n R a).testBit i = (decide (i < n) && R a i) := by
  rw [upF, if_pos ha, testBit_bitsOf]
theorem find_less {n m : Nat} {p : Nat → Bool} (h : n ≤ m) (hp : ∀ x, n ≤ x → x < m → p x = false) : (List.range m).find? p = (List.range n).find? p := by
  rcases find_range (n := n) (p := p) with ⟨x, hx, hn, hpx⟩ | ⟨hx, hall⟩
  · rw [hx]
    have := List.find?_range_eq_some.1 hx
    exact find_first (by omega) hpx fun y hy => by simpa using this.2.2 y hy
  · rw [hx]
    exact find_none fun y hy => by
      by_cases h1 : y < n
      · exact hall y h1
      · exact hp y (by omega) hy
theorem whose_join {n : Nat} {R : Rel} (h64 : n ≤ 64) (ht : ∀ a b m, a < n → b < n → m < n → R a m = true → R m b = true → R a b = true) (hr : ∀ a, a < n → R a a = true) {a b : Nat} (ha : a < n) (hb : b < n) :
    whoseL (upF n R) (upF n R a &&& upF n R b) = joinR n R a b := by
  unfold whoseL joinR
  rw [find_less h64]
  · refine congrArg atI (find_congr ?_)
    intro x hx
    have hx' := List.mem_range.1 hx
    rw [Nat.testBit_and, testBit_upF ha, testBit_upF hb, decide_eq_true hx', Bool.true_and, Bool.true_and]
    by_cases h1 : (R a x && R b x) = true
    · rw [h1, Bool.true_and, Bool.true_and]
      simp only [Bool.and_eq_true] at h1
      apply Bool.eq_iff_iff.2
      simp only [beq_iff_eq, List.all_eq_true, List.mem_range, Bool.or_eq_true, Bool.not_eq_true']
      constructor
      · intro e y hy
        have h2 := congrArg (fun z => z.testBit y) e
        simp only [Nat.testBit_and, testBit_upF ha, testBit_upF hb, testBit_upF hx', decide_eq_true hy, Bool.true_and] at h2
        rw [h2]
        cases (R a y && R b y) <;> simp
      · intro h
        apply Nat.eq_of_testBit_eq
        intro y
        rw [Nat.testBit_and, testBit_upF ha, testBit_upF hb, testBit_upF hx']
        by_cases hy : y < n
        · rw [decide_eq_true hy, Bool.true_and, Bool.true_and, Bool.true_and]
          apply Bool.eq_iff_iff.2
          rw [Bool.and_eq_true]
          constructor
          · intro h3
            exact ⟨ht a y x ha hy hx' h1.1 h3, ht b y x hb hy hx' h1.2 h3⟩
          · intro h3
            rcases h y hy with h4 | h4
            · rw [h3.1, h3.2] at h4; cases h4
            · exact h4
        · rw [decide_eq_false hy]; simp
    · rw [Bool.not_eq_true] at h1
      rw [h1]; simp
  · intro x h1 h2
    rw [Nat.testBit_and, testBit_upF ha, decide_eq_false (show ¬ x < n from by omega)]
    simp
theorem whose_bot {n : Nat} {R : Rel} (h64 : n ≤ 64) : whoseL (upF n R) (2 ^ n - 1) = botR n R := by
  unfold whoseL botR topR
  rw [find_less h64]
  · refine congrArg atI (find_congr ?_)
    intro x hx
    have hx' := List.mem_range.1 hx
    rw [Nat.testBit_two_pow_sub_one, decide_eq_true hx', Bool.true_and]
    apply Bool.eq_iff_iff.2
    simp only [beq_iff_eq, List.all_eq_true, List.mem_range, flipR]
    constructor
    · intro e y hy
      have h2 := congrArg (fun z => z.testBit y) e
      simp only [testBit_upF hx', decide_eq_true hy, Bool.true_and, Nat.testBit_two_pow_sub_one] at h2
      exact h2
    · intro h
      apply Nat.eq_of_testBit_eq
      intro y
      rw [testBit_upF hx', Nat.testBit_two_pow_sub_one]
      by_cases hy : y < n
      · rw [h y hy, Bool.and_true]
      · rw [decide_eq_false hy]; rfl
  · intro x h1 h2
    rw [Nat.testBit_two_pow_sub_one, decide_eq_false (show ¬ x < n from by omega)]
    rfl

/-- The lattice in block b is the order R of n levels. -/
structure LatIs (w : World) (b n : Nat) (R : Rel) : Prop where
  mem : LatMem w b n (upF n R) (upF n (flipR R))
  pos : 1 ≤ n
  most : n ≤ 64
  refl : ∀ a, a < n → R a a = true
  trans : ∀ a b m, a < n → b < n → m < n → R a m = true → R m b = true → R a b = true
theorem LatIs.below {w w' : World} {b n : Nat} {R : Rel} (h : LatIs w b n R) (hb : Below w.heap.size w w') : LatIs w' b n R := ⟨h.mem.below hb, h.pos, h.most, h.refl, h.trans⟩
theorem LatIs.heap {w w' : World} {b n : Nat} {R : Rel} (h : LatIs w b n R) (hh : w'.heap = w.heap) : LatIs w' b n R := ⟨h.mem.heap hh, h.pos, h.most, h.refl, h.trans⟩
theorem flip_trans {n : Nat} {R : Rel} (ht : ∀ a b m, a < n → b < n → m < n → R a m = true → R m b = true → R a b = true) : ∀ a b m, a < n → b < n → m < n → flipR R a m = true → flipR R m b = true → flipR R a b = true :=
  fun a b m ha hb hm h1 h2 => ht b a m hb ha hm h2 h1

theorem leq_in {b n : Nat} {R : Rel} (x y : Nat) (hx : x < n) (hy : y < n) (w : World) (h : LatIs w b n R) :
    Calls Tryd.prog 13 #[.pointer (some ⟨b, 0, none⟩), .int .i64 x, .int .i64 y] w fun e w' => e = .returned (.bool (R x y)) ∧ w' = w := by
  have ch := has_any x y w h.mem
  rw [show hasS (n : Int) x y = true from by simp [hasS]; omega] at ch
  have hm := h.most
  have hcell := h.mem.cu x (by omega)
  have co := fun w1 => holds_any (upF n R x) y (upF_lt hm R x) (by omega) w1
  rw [testBit_upF hx, decide_eq_true hy, Bool.true_and] at co
  clear h
  go_enter Tryd.func13, Tryd.ntmps13
  go_wp2_with fail
  refine ch.mono ?_
  rintro e w1 ⟨rfl, rfl⟩
  go_wp2_with fail
  refine (co _).mono ?_
  rintro e w1 ⟨rfl, rfl⟩
  go_wp2
  go_ret
  exact ⟨rfl, rfl⟩
theorem leq_core (p : Value) (n x y : Int) (w : World) (ch : Calls Tryd.prog 19 #[p, .int .i64 x, .int .i64 y] w fun e w' => e = .returned (.bool (hasS n x y)) ∧ w' = w) (h : hasS n x y = false) :
    Calls Tryd.prog 13 #[p, .int .i64 x, .int .i64 y] w fun e w' => e = .returned (.bool false) ∧ w' = w := by
  rw [h] at ch
  go_enter Tryd.func13, Tryd.ntmps13
  go_wp2_with fail
  refine ch.mono ?_
  rintro e w1 ⟨rfl, rfl⟩
  go_wp2
  go_ret
  exact ⟨rfl, rfl⟩
theorem join_core (p : Value) (n x y : Int) (w : World) (ch : Calls Tryd.prog 19 #[p, .int .i64 x, .int .i64 y] w fun e w' => e = .returned (.bool (hasS n x y)) ∧ w' = w) (h : hasS n x y = false) :
    Calls Tryd.prog 14 #[p, .int .i64 x, .int .i64 y] w fun e w' => e = .returned (.int .i64 (-1)) ∧ w' = w := by
  rw [h] at ch
  go_enter Tryd.func14, Tryd.ntmps14
  go_wp2_with fail
  refine ch.mono ?_
  rintro e w1 ⟨rfl, rfl⟩
  go_wp2
  go_ret
  exact ⟨rfl, rfl⟩
theorem meet_core (p : Value) (n x y : Int) (w : World) (ch : Calls Tryd.prog 19 #[p, .int .i64 x, .int .i64 y] w fun e w' => e = .returned (.bool (hasS n x y)) ∧ w' = w) (h : hasS n x y = false) :
    Calls Tryd.prog 15 #[p, .int .i64 x, .int .i64 y] w fun e w' => e = .returned (.int .i64 (-1)) ∧ w' = w := by
  rw [h] at ch
  go_enter Tryd.func15, Tryd.ntmps15
  go_wp2_with fail
  refine ch.mono ?_
  rintro e w1 ⟨rfl, rfl⟩
  go_wp2
  go_ret
  exact ⟨rfl, rfl⟩

set_option maxHeartbeats 1000000 in
theorem join_in {b n : Nat} {R : Rel} (x y : Nat) (hx : x < n) (hy : y < n) (w : World) (hT : TabIs w) (h : LatIs w b n R) :
    Calls Tryd.prog 14 #[.pointer (some ⟨b, 0, none⟩), .int .i64 x, .int .i64 y] w fun e w' => e = .returned (.int .i64 (joinR n R x y)) ∧ ∃ m, w' = w.drewN m := by
  have ch := has_any x y w h.mem
  rw [show hasS (n : Int) x y = true from by simp [hasS]; omega] at ch
  have hm := h.most
  have hcx := h.mem.cu x (by omega)
  have hcy := h.mem.cu y (by omega)
  have cw := fun (m : Nat) => whose_any b 1 (upF n R) (upF n R x &&& upF n R y) (w.drewN m) (hT.heap rfl) (fun a ha => (h.mem.heap (w' := w.drewN m) rfl).cu a ha) h.mem.lu (and_lt64 (upF_lt hm R x))
  rw [whose_join hm h.trans h.refl hx hy] at cw
  have hand := bits_and_u64_nat (upF n R x) (upF n R y) (upF_lt hm R x) (upF_lt hm R y)
  have HC := Lib.hid cw
  clear h cw hT
  generalize upF n R x = s1 at *
  generalize upF n R y = s2 at *
  go_enter Tryd.func14, Tryd.ntmps14
  go_wp2_with fail
  refine ch.mono ?_
  rintro e w1 ⟨rfl, rfl⟩
  go_wp2_with fail
  go_quiet ((go_at_call 24; (try rw [hand]); exact Calls.quiet_of_same (HC.out _)))
  go_wp2
  go_ret
  exact ⟨rfl, _, rfl⟩

set_option maxHeartbeats 1000000 in
theorem meet_in {b n : Nat} {R : Rel} (x y : Nat) (hx : x < n) (hy : y < n) (w : World) (hT : TabIs w) (h : LatIs w b n R) :
    Calls Tryd.prog 15 #[.pointer (some ⟨b, 0, none⟩), .int .i64 x, .int .i64 y] w fun e w' => e = .returned (.int .i64 (meetR n R x y)) ∧ ∃ m, w' = w.drewN m := by
  have ch := has_any x y w h.mem
  rw [show hasS (n : Int) x y = true from by simp [hasS]; omega] at ch
  have hm := h.most
  have hcx := h.mem.cd x (by omega)
  have hcy := h.mem.cd y (by omega)
  have cw := fun (m : Nat) => whose_any b 65 (upF n (flipR R)) (upF n (flipR R) x &&& upF n (flipR R) y) (w.drewN m) (hT.heap rfl) (fun a ha => (h.mem.heap (w' := w.drewN m) rfl).cd a ha) h.mem.ld (and_lt64 (upF_lt hm (flipR R) x))
  rw [show whoseL (upF n (flipR R)) (upF n (flipR R) x &&& upF n (flipR R) y) = meetR n R x y from whose_join hm (flip_trans h.trans) h.refl hx hy] at cw
  have hand := bits_and_u64_nat (upF n (flipR R) x) (upF n (flipR R) y) (upF_lt hm (flipR R) x) (upF_lt hm (flipR R) y)
  have HC := Lib.hid cw
  clear h cw hT
  generalize upF n (flipR R) x = s1 at *
  generalize upF n (flipR R) y = s2 at *
  go_enter Tryd.func15, Tryd.ntmps15
  go_wp2_with fail
  refine ch.mono ?_
  rintro e w1 ⟨rfl, rfl⟩
  go_wp2_with fail
  go_quiet ((go_at_call 24; (try rw [hand]); exact Calls.quiet_of_same (HC.out _)))
  go_wp2
  go_ret
  exact ⟨rfl, _, rfl⟩


set_option maxHeartbeats 1000000 in
theorem bot_any {b n : Nat} {R : Rel} (w : World) (hT : TabIs w) (h : LatIs w b n R) :
    Calls Tryd.prog 17 #[.pointer (some ⟨b, 0, none⟩)] w fun e w' => e = .returned (.int .i64 (botR n R)) ∧ ∃ m, w' = w.drewN m := by
  have cl := len_any w h.mem
  have hm := h.most
  have hp := h.pos
  have hpw : 2 ^ n - 1 < 2 ^ 64 := by have := Nat.pow_le_pow_right (show 0 < 2 by decide) hm; have := Nat.two_pow_pos n; omega
  have ca := fun (m : Nat) => all_any (w.drewN m) (h.mem.heap (w' := w.drewN m) rfl) hp hm
  have cw := fun (m : Nat) => whose_any b 1 (upF n R) (2 ^ n - 1) (w.drewN m) (hT.heap rfl) (fun a ha => (h.mem.heap (w' := w.drewN m) rfl).cu a ha) h.mem.lu hpw
  rw [whose_bot hm] at cw
  have HC := Lib.hid cw
  have HA := Lib.hid ca
  clear h cw hT ca
  generalize 2 ^ n - 1 = s1 at *
  go_enter Tryd.func17, Tryd.ntmps17
  go_wp2_with fail
  refine cl.mono ?_
  rintro e w1 ⟨rfl, rfl⟩
  go_wp2_with fail
  go_quiet (first | (go_at_call 25; exact Calls.quiet_of_same (HA.out _)) | (go_at_call 24; exact Calls.quiet_of_same (HC.out _)))
  go_wp2
  go_ret
  exact ⟨rfl, _, rfl⟩
set_option maxHeartbeats 1000000 in
theorem top_any {b n : Nat} {R : Rel} (w : World) (hT : TabIs w) (h : LatIs w b n R) :
    Calls Tryd.prog 16 #[.pointer (some ⟨b, 0, none⟩)] w fun e w' => e = .returned (.int .i64 (topR n R)) ∧ ∃ m, w' = w.drewN m := by
  have cl := len_any w h.mem
  have hm := h.most
  have hp := h.pos
  have hpw : 2 ^ n - 1 < 2 ^ 64 := by have := Nat.pow_le_pow_right (show 0 < 2 by decide) hm; have := Nat.two_pow_pos n; omega
  have ca := fun (m : Nat) => all_any (w.drewN m) (h.mem.heap (w' := w.drewN m) rfl) hp hm
  have cw := fun (m : Nat) => whose_any b 65 (upF n (flipR R)) (2 ^ n - 1) (w.drewN m) (hT.heap rfl) (fun a ha => (h.mem.heap (w' := w.drewN m) rfl).cd a ha) h.mem.ld hpw
  rw [show whoseL (upF n (flipR R)) (2 ^ n - 1) = topR n R from whose_bot hm] at cw
  have HC := Lib.hid cw
  have HA := Lib.hid ca
  clear h cw hT ca
  generalize 2 ^ n - 1 = s1 at *
  go_enter Tryd.func16, Tryd.ntmps16
  go_wp2_with fail
  refine cl.mono ?_
  rintro e w1 ⟨rfl, rfl⟩
  go_wp2_with fail
  go_quiet (first | (go_at_call 25; exact Calls.quiet_of_same (HA.out _)) | (go_at_call 24; exact Calls.quiet_of_same (HC.out _)))
  go_wp2
  go_ret
  exact ⟨rfl, _, rfl⟩

/-! The same for whatever indices. -/
def leqI (n : Nat) (R : Rel) (x y : Int) : Bool := hasS n x y && R x.toNat y.toNat
def joinI (n : Nat) (R : Rel) (x y : Int) : Int := if hasS n x y then joinR n R x.toNat y.toNat else -1
def meetI (n : Nat) (R : Rel) (x y : Int) : Int := if hasS n x y then meetR n R x.toNat y.toNat else -1
theorem hasS_true {n x y : Int} (h : hasS n x y = true) : ∃ a c : Nat, x = a ∧ y = c ∧ (a : Int) < n ∧ (c : Int) < n := by
  simp only [hasS, decide_eq_true_eq] at h
  exact ⟨x.toNat, y.toNat, by omega, by omega, by omega, by omega⟩
theorem drewN_zero (w : World) : w = w.drewN 0 := rfl
theorem leq_any {b n : Nat} {R : Rel} (x y : Int) (w : World) (h : LatIs w b n R) :
    Calls Tryd.prog 13 #[.pointer (some ⟨b, 0, none⟩), .int .i64 x, .int .i64 y] w fun e w' => e = .returned (.bool (leqI n R x y)) ∧ w' = w := by
  cases hh : hasS n x y with
  | true =>
    obtain ⟨a, c, rfl, rfl, ha, hc⟩ := hasS_true hh
    rw [show leqI n R a c = R a c from by simp [leqI, hh]]
    exact leq_in a c (by omega) (by omega) w h
  | false =>
    rw [show leqI n R x y = false from by simp [leqI, hh]]
    exact leq_core _ _ _ _ w (has_any x y w h.mem) hh
theorem join_any {b n : Nat} {R : Rel} (x y : Int) (w : World) (hT : TabIs w) (h : LatIs w b n R) :
    Calls Tryd.prog 14 #[.pointer (some ⟨b, 0, none⟩), .int .i64 x, .int .i64 y] w fun e w' => e = .returned (.int .i64 (joinI n R x y)) ∧ ∃ m, w' = w.drewN m := by
  cases hh : hasS n x y with
  | true =>
    obtain ⟨a, c, rfl, rfl, ha, hc⟩ := hasS_true hh
    rw [show joinI n R a c = joinR n R a c from by simp [joinI, hh]]
    exact join_in a c (by omega) (by omega) w hT h
  | false =>
    rw [show joinI n R x y = -1 from by simp [joinI, hh]]
    exact (join_core _ _ _ _ w (has_any x y w h.mem) hh).mono fun e w' ⟨h1, h2⟩ => ⟨h1, 0, h2⟩
theorem meet_any {b n : Nat} {R : Rel} (x y : Int) (w : World) (hT : TabIs w) (h : LatIs w b n R) :
    Calls Tryd.prog 15 #[.pointer (some ⟨b, 0, none⟩), .int .i64 x, .int .i64 y] w fun e w' => e = .returned (.int .i64 (meetI n R x y)) ∧ ∃ m, w' = w.drewN m := by
  cases hh : hasS n x y with
  | true =>
    obtain ⟨a, c, rfl, rfl, ha, hc⟩ := hasS_true hh
    rw [show meetI n R a c = meetR n R a c from by simp [meetI, hh]]
    exact meet_in a c (by omega) (by omega) w hT h
  | false =>
    rw [show meetI n R x y = -1 from by simp [meetI, hh]]
    exact (meet_core _ _ _ _ w (has_any x y w h.mem) hh).mono fun e w' ⟨h1, h2⟩ => ⟨h1, 0, h2⟩

end Go.Proofs.YtmmdjbbbjlkmoaaDoor
